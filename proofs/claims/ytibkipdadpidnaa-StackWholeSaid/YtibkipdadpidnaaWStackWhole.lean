/- Whatever bytes, deeds and deed come in, StackWhole returns true, and they read afterwards as before. No condition. Here: the walk of the law's text. -/
import Derived.Test.YtibkipdadpidnaaSR
import Derived.Deep.CutRange
import Derived.Deep.RegionHeld3
set_option linter.unusedVariables false
set_option linter.unusedSimpArgs false
namespace Go.Proofs.Ytibkipdadpidnaa
open Go.RowKit
open Pat (Pt AllB undoP nth)
set_option maxRecDepth 100000 in
set_option maxHeartbeats 4000000 in
theorem StackWhole.walk (a1 : Option Addr) (len1 cap1 : Nat) (bs : List Int) (a2 : Option Addr) (len2 cap2 : Nat) (ds : List Dd) (x : Dd) (W : World) (hb : IsBytes W a1 len1 cap1 bs) (hd : IsDeeds W a2 len2 cap2 ds) (hx : x.ok W W.heap.size) :
    Calls Try.prog 6 #[.slice a1 len1 cap1, .slice a2 len2 cap2, x.v] W fun e W' => e = .returned (.bool true) ∧ Below W.heap.size W W' := by
  obtain ⟨rfl, b2, b3, b4⟩ := hb
  obtain ⟨rfl, d2, d3, d4⟩ := hd
  have hbA := Pat.below_alloc1 W (.cells x.cells 48)
  have HP := Lib.hid (play_any a1 cap1 bs a2 cap2 ds _ ((b4.below hbA).more hbA.size) d2 d3 (d4.up hbA))
  have hrow : (W.alloc (.cells x.cells 48)).heap[W.heap.size]? = some (.cells x.cells 48 (0, 0)) := heap_alloc_new W _
  clear b2 b3 b4 d2 d3 d4
  obtain ⟨W1, hW1⟩ : ∃ W1, W1 = W.alloc (.cells x.cells 48) := ⟨_, rfl⟩
  rw [← hW1] at hbA HP hrow
  have hblt : W.heap.size < W1.heap.size := (Array.getElem?_eq_some_iff.1 hrow).1
  have HX : Hid (∀ V, Below W1.heap.size W1 V → V.cell? ⟨W.heap.size, 1, none⟩ = some (.int .i64 x.n) ∧ V.cell? ⟨W.heap.size, 2, none⟩ = some (.int .i64 x.m) ∧ V.cell? ⟨W.heap.size, 6, none⟩ = some (.slice x.A x.l.length x.c)) := fun V h =>
    ⟨(h.cell (p := ⟨W.heap.size, 1, none⟩) hblt).trans (cell_of_row W1 W.heap.size 1 _ _ (0, 0) hrow), (h.cell (p := ⟨W.heap.size, 2, none⟩) hblt).trans (cell_of_row W1 W.heap.size 2 _ _ (0, 0) hrow), (h.cell (p := ⟨W.heap.size, 6, none⟩) hblt).trans (cell_of_row W1 W.heap.size 6 _ _ (0, 0) hrow)⟩
  have HE : Hid (∀ V, Below W1.heap.size W1 V → Below W.heap.size W V) := fun V h => hbA.trans (h.mono hbA.size)
  have HI : Hid (∀ V, Below W1.heap.size W1 V → Ints V V.heap.size x.A (fewI x.l)) := fun V h => ((hx.i.take 40).below (HE.out V h)).more (HE.out V h).size
  have HFw := Lib.hid (fun V => few_any x.A x.l x.c V hx.c hx.m)
  have Hmw : Hid (∀ y ∈ fewI x.l, WfI y) := fun y hy => hx.f y (fewI_mem hy)
  have hfl := fewI_len x.l
  have HW1 := Lib.hid hW1
  clear hbA hrow hW1 hblt hx
  obtain ⟨xk, xn, xm, ⟨pb, po, ps⟩, xA, xl, xc⟩ := x
  unfold Dd.cells at HW1
  simp only at HX HI HFw Hmw hfl HW1
  go_enter Try.func6, Try.ntmps6
  unfold Dd.v Dd.cells
  go_wp2_with fail
  rw [← HW1.out]
  refine HP.out.mono ?_
  rintro e w1 ⟨g, r, s, rfl, hT, hO, hB⟩
  have HO := Lib.hid hO
  have hLs := hO.len
  have HN : Hid (∀ V V', Two W1.heap.size V g r s s ∧ Below W1.heap.size W1 V → Below V.heap.size V V' → Two W1.heap.size V' g r s s ∧ Below W1.heap.size W1 V') := fun V V' h k => ⟨h.1.fresh k, h.2.trans (k.mono h.1.lo)⟩
  have HBy : Hid (∀ V, Two W1.heap.size V g r s s → Calls Try.prog 17 #[.pointer (some ⟨g, 0, none⟩)] V fun e w' => ∃ d c', e = .returned (.slice (some ⟨d, 0, none⟩) 32 c') ∧ BtB w' g r d (allB s) ∧ Below V.heap.size V w') := fun V t =>
    (q_bytes t hO (by omega)).mono fun e w' ⟨d, c', e1, e2, e3, e4, e5⟩ => ⟨d, c', e1, GivesB.btb t e2 e3 (withL_len hO.r t.len), e5⟩
  have HBg : Hid (∀ V, Two W1.heap.size V g r s s → Calls Try.prog 17 #[.pointer (some ⟨g, 0, none⟩)] V (GivesB V (allB s))) := fun V t => q_bytes t hO (by omega)
  have HBs : Hid (∀ V, Two W1.heap.size V g r s s → Calls Try.prog 22 #[.pointer (some ⟨g, 0, none⟩)] V (GivesB V s.f)) := fun V t => q_base t
  have HWl : Hid (∀ V, Two W1.heap.size V g r s s → Calls Try.prog 21 #[.pointer (some ⟨g, 0, none⟩)] V (GivesI V (nums s.l))) := fun V t => q_waiting t hO (by omega)
  have HWt : Hid (∀ V, Two W1.heap.size V g r s s → Calls Try.prog 21 #[.pointer (some ⟨g, 0, none⟩)] V fun e w' => ∃ A c, e = .returned (.slice A (nums s.l).length c) ∧ Below V.heap.size V w') := fun V t => (q_waiting t hO (by omega)).mono fun e w' ⟨A, c, e1, e2, e3⟩ => ⟨A, c, e1, e3⟩
  have hnl : (nums s.l).length ≤ 30 := by rw [length_nums]; exact hO.len
  have HRA : Hid (∀ V A3 c3, Two W1.heap.size V g r s s → Ints V V.heap.size A3 (nums s.l) → Calls Try.prog 14 #[.pointer (some ⟨g, 0, none⟩), .slice A3 (nums s.l).length c3] V fun e w' => ∃ A c, e = .returned (.tuple #[.slice A 32 c, .int .i64 0]) ∧ Pat.Bts w' w'.heap.size A (allB s) ∧ Below V.heap.size V w') := fun V A3 c3 t hI => by
    refine (q_roll t hO (by omega) A3 c3 (nums s.l) (by omega) (fun y hy => ?_) hI).mono fun e w' ⟨A, n, c, e1, e2, e3, e4⟩ => ?_
    · obtain ⟨z, hz, rfl⟩ := List.mem_map.1 hy
      exact hO.wf (by omega) z hz
    · have hr : rollF s (nums s.l) = allB s := by unfold rollF; rw [if_pos (may_all _), only_all]
      rw [hr] at e2 e3
      rw [may_all, e2, show (allB s).length = 32 from withL_len hO.r t.len] at e1
      exact ⟨A, c, e1, e3, e4⟩
  have HRN : Hid (∀ V, Two W1.heap.size V g r s s → Calls Try.prog 14 #[.pointer (some ⟨g, 0, none⟩), .slice none 0 0] V fun e w' => ∃ A c, e = .returned (.tuple #[.slice A 32 c, .int .i64 0]) ∧ Pat.Bts w' w'.heap.size A s.f ∧ Below V.heap.size V w') := fun V t => by
    refine (q_roll t hO (by omega) none 0 [] (by simp) (fun y hy => by cases hy) Ints.nil).mono fun e w' ⟨A, n, c, e1, e2, e3, e4⟩ => ?_
    have hr : rollF s [] = s.f := by unfold rollF; rw [if_pos (may_nil _), only_nil]
    rw [hr] at e2 e3
    rw [may_nil, e2, t.len] at e1
    exact ⟨A, c, e1, e3, e4⟩
  have Hlen : Hid (32 = (allB s).length) := (withL_len hO.r hT.len).symm
  have Hlf : Hid (32 = s.f.length) := hT.len.symm
  have H1 := Lib.hid (And.intro hT hB)
  have TX : Hid (∀ (W : World) (A : Option Addr) (l : List Int) c, 32 = l.length → Pat.Bts W W.heap.size A l → (convert 22 9 (.slice A 32 c)).run Try.prog W = .ok (.string (strOfNums l)) W) := fun W A l c h1 h2 => h2.text c 32 h1
  have HSq : Hid (∀ V, Two W1.heap.size V g r s s → Calls Try.prog 23 #[.pointer (some ⟨g, 0, none⟩), .int .i64 xn, .int .i64 xm] V fun e w' => e = .returned (.int .i64 (sqE s.l xn xm)) ∧ Two W1.heap.size w' g r (squash0 s xn xm) s ∧ KG g r V w') := fun V t => q_squash t hO (by omega) xn xm
  have hO2 : Ok 30 (squash0 s xn xm) := hO.squash xn xm
  have HWq : Hid (∀ V, Two W1.heap.size V g r (squash0 s xn xm) s → Calls Try.prog 21 #[.pointer (some ⟨g, 0, none⟩)] V fun e w' => ∃ A c, e = .returned (.slice A (squash0 s xn xm).l.length c) ∧ Below V.heap.size V w') := fun V t =>
    (q_waiting t hO2 (by omega)).mono fun e w' ⟨A, c, e1, e2, e3⟩ => ⟨A, c, by rw [length_nums] at e1; exact e1, e3⟩
  have HSe : Hid (∀ V, Two W1.heap.size V g r (squash0 s xn xm) s → Below W1.heap.size W1 V → Calls Try.prog 24 #[.pointer (some ⟨g, 0, none⟩), .slice xA (fewI xl).length xc] V fun e w' => e = .returned (.int .i64 (mayE (squash0 s xn xm).l (fewI xl))) ∧ Two W1.heap.size w' g r (settle0 (squash0 s xn xm) (fewI xl)) s ∧ KG g r V w') := fun V t h => q_settle t hO2 (by omega) xA xc (fewI xl) (by omega) Hmw.out (HI.out V h)
  have HBe : Hid (∀ V, Two W1.heap.size V g r (settle0 (squash0 s xn xm) (fewI xl)) s → Calls Try.prog 17 #[.pointer (some ⟨g, 0, none⟩)] V (GivesB V (allB s))) := fun V t => by
    have h := q_bytes t (hO2.settle (fewI xl)) (by omega)
    rw [settle_bytes hO2 (by unfold squash0; split <;> exact hT.len), squash_bytes hO hT.len] at h
    exact h
  have hsq : Hid (sqE s.l xn xm = 0 → (squash0 s xn xm).l.length + 1 = s.l.length) := fun e => squash_less hO e
  have hln2 : Hid ((nums s.l).length = s.l.length) := length_nums s.l
  clear hT hO hB HP HW1 hO2 Hmw
  generalize squash0 s xn xm = s2 at *
  generalize settle0 s2 (fewI xl) = s3 at *
  generalize mayE s2.l (fewI xl) = ee at *
  generalize (fewI xl).length = fl at *
  generalize sqE s.l xn xm = q at *
  go_wp2_with (first
    | (go_at_call 12; refine (live_any _).mono ?_; rintro e w2 ⟨rfl, hb2⟩; have H2 := Lib.hid (HN.out _ _ H1.out hb2); clear hb2)
    | (go_at_call 21; (with_reducible refine (HWl.out _ H2.out.1).mono ?_); rintro e w3 ⟨A3, c3, rfl, r3, hb3⟩; have H3 := Lib.hid (HN.out _ _ H2.out hb3); have R3 := Lib.hid r3.ints; clear hb3 r3)
    | (go_at_call 14; (with_reducible refine (HRA.out _ _ _ H3.out.1 R3.out).mono ?_); rintro e w4 ⟨A4, c4, rfl, t4, hb4⟩; have H4 := Lib.hid (HN.out _ _ H3.out hb4); have T4 := Lib.hid t4; clear hb4 t4)
    | (go_at_call 14; (with_reducible refine (HRN.out _ H4.out.1).mono ?_); rintro e w5 ⟨A5, c5, rfl, t5, hb5⟩; have H5 := Lib.hid (HN.out _ _ H4.out hb5); have T5 := Lib.hid t5; have T45 := Lib.hid ((T4.out.below hb5).more hb5.size); clear hb5 t5))
  have BD : Hid (Below w5.heap.size w5 w5.drew) := (Below.refl _ _).drew
  have HT4 : Hid (∀ V, Below w5.heap.size w5 V → (convert 22 9 (.slice A4 32 c4)).run Try.prog V = .ok (.string (strOfNums (allB s))) V) := fun V h => TX.out V _ _ c4 Hlen.out ((T45.out.below h).more h.size)
  have HT5 : Hid (∀ V, Below w5.heap.size w5 V → (convert 22 9 (.slice A5 32 c5)).run Try.prog V = .ok (.string (strOfNums s.f)) V) := fun V h => TX.out V _ _ c5 Hlf.out ((T5.out.below h).more h.size)
  have y5 := HT4.out _ BD.out
  clear T4 T5 T45 R3 H1 H2 H3 H4 HRA HRN HWl
  go_cut [62] from 41 to 61 (fun c wx => c = .bool false ∧ Hid (Two W1.heap.size wx g r s s ∧ Below W1.heap.size W1 wx))
  case first =>
    clear HSq HWq HSe HBe hsq HFw HX HI HBy HWt HO hln2
    generalize allB s = f1 at *
    generalize s.f = f2 at *
    refine wp_region_held_drew (S := (fun V => (convert 22 9 (.slice A4 32 c4)).run Try.prog V = .ok (.string (strOfNums f1)) V ∧ (convert 22 9 (.slice A5 32 c5)).run Try.prog V = .ok (.string (strOfNums f2)) V)) (by kernel_rfl) ?_ (fun hHeld => ?_)
    · exact ⟨HT4.out _ BD.out, HT5.out _ BD.out⟩
    clear y5
    refine wpAnyH_take (i := 0) (oi := { dst := some 41, op := Op.move (Operand.tmp 11), type := 32, pos := "law.go:144", after := #[], guard := none }) (v := .int .i64 0) rfl (by kernel_rfl) (by kernel_rfl) (by kernel_rfl) (fun _ _ _ h => h) (Or.inl ⟨by rfl, fun w hSw => ?_⟩) (by assumption) ?_
    · (try dsimp only at hSw)
      go_simp
    try simp only [Act.put, List.setIfInBounds_toArray, List.set_cons_zero, List.set_cons_succ]
    refine wpAnyH_take (i := 1) (oi := { dst := some 42, op := Op.binOp BinOp.neq 32 (Operand.tmp 41) (Operand.const (Value.int IntKind.i64 0)) 32, type := 4, pos := "law.go:144", after := #[{ on := 0, ground := Ground.data }], guard := none }) (v := .bool false) rfl (by kernel_rfl) (by kernel_rfl) (by kernel_rfl) (fun _ _ _ h => h) (Or.inl ⟨by rfl, fun w hSw => ?_⟩) (by assumption) ?_
    · (try dsimp only at hSw)
      go_simp
    try simp only [Act.put, List.setIfInBounds_toArray, List.set_cons_zero, List.set_cons_succ]
    refine wpAnyH_take (i := 2) (oi := { dst := some 43, op := Op.move (Operand.tmp 42), type := 4, pos := "law.go:144", after := #[{ on := 1, ground := Ground.data }], guard := none }) (v := .bool false) rfl (by kernel_rfl) (by kernel_rfl) (by kernel_rfl) (fun _ _ _ h => h) (Or.inl ⟨by rfl, fun w hSw => ?_⟩) (by assumption) ?_
    · (try dsimp only at hSw)
      go_simp
    try simp only [Act.put, List.setIfInBounds_toArray, List.set_cons_zero, List.set_cons_succ]
    refine wpAnyH_take (i := 3) (oi := { dst := some 44, op := Op.move (Operand.tmp 13), type := 32, pos := "law.go:144", after := #[{ on := 2, ground := Ground.guard }], guard := some (2, false) }) (v := .int .i64 0) rfl (by kernel_rfl) (by kernel_rfl) (by kernel_rfl) (fun _ _ _ h => h) (Or.inl ⟨by rfl, fun w hSw => ?_⟩) (by assumption) ?_
    · (try dsimp only at hSw)
      go_simp
    try simp only [Act.put, List.setIfInBounds_toArray, List.set_cons_zero, List.set_cons_succ]
    refine wpAnyH_take (i := 4) (oi := { dst := some 45, op := Op.binOp BinOp.neq 32 (Operand.tmp 44) (Operand.const (Value.int IntKind.i64 0)) 32, type := 4, pos := "law.go:144", after := #[{ on := 3, ground := Ground.data }, { on := 2, ground := Ground.guard }], guard := some (2, false) }) (v := .bool false) rfl (by kernel_rfl) (by kernel_rfl) (by kernel_rfl) (fun _ _ _ h => h) (Or.inl ⟨by rfl, fun w hSw => ?_⟩) (by assumption) ?_
    · (try dsimp only at hSw)
      go_simp
    try simp only [Act.put, List.setIfInBounds_toArray, List.set_cons_zero, List.set_cons_succ]
    refine wpAnyH_take (i := 5) (oi := { dst := some 46, op := Op.pick (Operand.tmp 43) (Operand.const (Value.bool true)) (Operand.tmp 45), type := 4, pos := "law.go:144", after := #[{ on := 2, ground := Ground.data }, { on := 4, ground := Ground.data }], guard := none }) (v := .bool false) rfl (by kernel_rfl) (by kernel_rfl) (by kernel_rfl) (fun _ _ _ h => h) (Or.inl ⟨by rfl, fun w hSw => ?_⟩) (by assumption) ?_
    · (try dsimp only at hSw)
      go_simp
    try simp only [Act.put, List.setIfInBounds_toArray, List.set_cons_zero, List.set_cons_succ]
    refine wpAnyH_take (i := 6) (oi := { dst := some 47, op := Op.move (Operand.tmp 46), type := 4, pos := "law.go:144", after := #[{ on := 5, ground := Ground.data }, { on := 2, ground := Ground.chain }], guard := none }) (v := .bool false) rfl (by kernel_rfl) (by kernel_rfl) (by kernel_rfl) (fun _ _ _ h => h) (Or.inl ⟨by rfl, fun w hSw => ?_⟩) (by assumption) ?_
    · (try dsimp only at hSw)
      go_simp
    try simp only [Act.put, List.setIfInBounds_toArray, List.set_cons_zero, List.set_cons_succ]
    refine wpAnyH_take (i := 7) (oi := { dst := some 48, op := Op.move (Operand.tmp 10), type := 22, pos := "law.go:144", after := #[{ on := 6, ground := Ground.guard }], guard := some (6, false) }) (v := .slice A4 32 c4) rfl (by kernel_rfl) (by kernel_rfl) (by kernel_rfl) (fun _ _ _ h => h) (Or.inl ⟨by rfl, fun w hSw => ?_⟩) (by assumption) ?_
    · (try dsimp only at hSw)
      go_simp
    try simp only [Act.put, List.setIfInBounds_toArray, List.set_cons_zero, List.set_cons_succ]
    refine wpAnyH_take (i := 8) (oi := { dst := some 49, op := Op.convert 22 9 (Operand.tmp 48), type := 9, pos := "law.go:144", after := #[{ on := 7, ground := Ground.data }, { on := 6, ground := Ground.guard }], guard := some (6, false) }) (v := .string (strOfNums f1)) rfl (by kernel_rfl) (by kernel_rfl) (by kernel_rfl) (fun _ _ _ h => h) (Or.inl ⟨by rfl, fun w hSw => ?_⟩) (by assumption) ?_
    · (try dsimp only at hSw)
      go_simp
    try simp only [Act.put, List.setIfInBounds_toArray, List.set_cons_zero, List.set_cons_succ]
    refine wpAnyH_take (i := 9) (oi := { dst := some 50, op := Op.move (Operand.tmp 7), type := 24, pos := "law.go:144", after := #[{ on := 6, ground := Ground.guard }], guard := some (6, false) }) (v := .pointer (some ⟨g, 0, none⟩)) rfl (by kernel_rfl) (by kernel_rfl) (by kernel_rfl) (fun _ _ _ h => h) (Or.inl ⟨by rfl, fun w hSw => ?_⟩) (by assumption) ?_
    · (try dsimp only at hSw)
      go_simp
    try simp only [Act.put, List.setIfInBounds_toArray, List.set_cons_zero, List.set_cons_succ]
    refine wpAnyH_ready (rs := [10]) (by kernel_rfl) (by simp) ?_
    refine AllReadyH.cons (o := { dst := some 51, op := Op.call { callee := Callee.value (Operand.func 17), args := #[Operand.tmp 50], argTypes := #[24] }, type := 22, pos := "law.go:144", after := #[{ on := 9, ground := Ground.data }, { on := 6, ground := Ground.chain }, { on := 6, ground := Ground.guard }], guard := some (6, false) }) rfl (fun K hK => ?_) AllReadyH.nil
    go_simp
    (go_at_call 17; (with_reducible refine (HBg.out _ (HN.out _ _ H5.out BD.out).1).mono ?_); rintro e w6 ⟨d6, c6, rfl, _, t6, _, b6⟩)
    have B6 := Lib.hid (Below.trans BD.out (Below.mono b6 BD.out.size))
    have y6 := TX.out w6 _ _ c6 Hlen.out t6
    clear t6 b6
    refine hK.out _ _ ?_ (fun hHeld => ?_)
    · exact ⟨HT4.out _ B6.out, HT5.out _ B6.out⟩
    clear hK K
    try simp only [Act.put, List.setIfInBounds_toArray, List.set_cons_zero, List.set_cons_succ]
    refine wpAnyH_ready (rs := [11]) (by kernel_rfl) (by simp) ?_
    refine AllReadyH.cons (o := { dst := some 52, op := Op.convert 22 9 (Operand.tmp 51), type := 9, pos := "law.go:144", after := #[{ on := 10, ground := Ground.data }, { on := 6, ground := Ground.guard }], guard := some (6, false) }) rfl (fun K hK => ?_) AllReadyH.nil
    go_simp
    refine hK.out _ _ ?_ (fun hHeld => ?_)
    · exact ⟨HT4.out _ B6.out, HT5.out _ B6.out⟩
    clear hK K
    try simp only [Act.put, List.setIfInBounds_toArray, List.set_cons_zero, List.set_cons_succ]
    refine wpAnyH_take (i := 12) (oi := { dst := some 53, op := Op.binOp BinOp.neq 9 (Operand.tmp 49) (Operand.tmp 52) 9, type := 4, pos := "law.go:144", after := #[{ on := 8, ground := Ground.data }, { on := 11, ground := Ground.data }, { on := 6, ground := Ground.guard }], guard := some (6, false) }) (v := .bool false) rfl (by kernel_rfl) (by kernel_rfl) (by kernel_rfl) (fun _ _ _ h => h) (Or.inl ⟨by rfl, fun w hSw => ?_⟩) (by assumption) ?_
    · (try dsimp only at hSw)
      go_simp
    try simp only [Act.put, List.setIfInBounds_toArray, List.set_cons_zero, List.set_cons_succ]
    refine wpAnyH_take (i := 13) (oi := { dst := some 54, op := Op.pick (Operand.tmp 47) (Operand.const (Value.bool true)) (Operand.tmp 53), type := 4, pos := "law.go:144", after := #[{ on := 6, ground := Ground.data }, { on := 12, ground := Ground.data }], guard := none }) (v := .bool false) rfl (by kernel_rfl) (by kernel_rfl) (by kernel_rfl) (fun _ _ _ h => h) (Or.inl ⟨by rfl, fun w hSw => ?_⟩) (by assumption) ?_
    · (try dsimp only at hSw)
      go_simp
    try simp only [Act.put, List.setIfInBounds_toArray, List.set_cons_zero, List.set_cons_succ]
    refine wpAnyH_take (i := 14) (oi := { dst := some 55, op := Op.move (Operand.tmp 54), type := 4, pos := "law.go:144", after := #[{ on := 13, ground := Ground.data }, { on := 10, ground := Ground.chain }], guard := none }) (v := .bool false) rfl (by kernel_rfl) (by kernel_rfl) (by kernel_rfl) (fun _ _ _ h => h) (Or.inl ⟨by rfl, fun w hSw => ?_⟩) (by assumption) ?_
    · (try dsimp only at hSw)
      go_simp
    try simp only [Act.put, List.setIfInBounds_toArray, List.set_cons_zero, List.set_cons_succ]
    refine wpAnyH_take (i := 15) (oi := { dst := some 56, op := Op.move (Operand.tmp 12), type := 22, pos := "law.go:144", after := #[{ on := 14, ground := Ground.guard }], guard := some (14, false) }) (v := .slice A5 32 c5) rfl (by kernel_rfl) (by kernel_rfl) (by kernel_rfl) (fun _ _ _ h => h) (Or.inl ⟨by rfl, fun w hSw => ?_⟩) (by assumption) ?_
    · (try dsimp only at hSw)
      go_simp
    try simp only [Act.put, List.setIfInBounds_toArray, List.set_cons_zero, List.set_cons_succ]
    refine wpAnyH_take (i := 16) (oi := { dst := some 57, op := Op.convert 22 9 (Operand.tmp 56), type := 9, pos := "law.go:144", after := #[{ on := 15, ground := Ground.data }, { on := 14, ground := Ground.guard }], guard := some (14, false) }) (v := .string (strOfNums f2)) rfl (by kernel_rfl) (by kernel_rfl) (by kernel_rfl) (fun _ _ _ h => h) (Or.inl ⟨by rfl, fun w hSw => ?_⟩) (by assumption) ?_
    · (try dsimp only at hSw)
      go_simp
    try simp only [Act.put, List.setIfInBounds_toArray, List.set_cons_zero, List.set_cons_succ]
    refine wpAnyH_take (i := 17) (oi := { dst := some 58, op := Op.move (Operand.tmp 7), type := 24, pos := "law.go:144", after := #[{ on := 14, ground := Ground.guard }], guard := some (14, false) }) (v := .pointer (some ⟨g, 0, none⟩)) rfl (by kernel_rfl) (by kernel_rfl) (by kernel_rfl) (fun _ _ _ h => h) (Or.inl ⟨by rfl, fun w hSw => ?_⟩) (by assumption) ?_
    · (try dsimp only at hSw)
      go_simp
    try simp only [Act.put, List.setIfInBounds_toArray, List.set_cons_zero, List.set_cons_succ]
    refine wpAnyH_ready (rs := [18]) (by kernel_rfl) (by simp) ?_
    refine AllReadyH.cons (o := { dst := some 59, op := Op.call { callee := Callee.value (Operand.func 22), args := #[Operand.tmp 58], argTypes := #[24] }, type := 22, pos := "law.go:144", after := #[{ on := 17, ground := Ground.data }, { on := 14, ground := Ground.chain }, { on := 14, ground := Ground.guard }], guard := some (14, false) }) rfl (fun K hK => ?_) AllReadyH.nil
    go_simp
    (go_at_call 22; (with_reducible refine (HBs.out _ (HN.out _ _ H5.out B6.out).1).mono ?_); rintro e w7 ⟨d7, c7, rfl, _, t7, _, b7⟩)
    have B7 := Lib.hid (Below.trans B6.out (Below.mono b7 B6.out.size))
    have y7 := TX.out w7 _ _ c7 Hlf.out t7
    clear t7 b7
    refine hK.out _ _ ?_ (fun hHeld => ?_)
    · exact ⟨HT4.out _ B7.out, HT5.out _ B7.out⟩
    clear hK K
    try simp only [Act.put, List.setIfInBounds_toArray, List.set_cons_zero, List.set_cons_succ]
    refine wpAnyH_ready (rs := [19]) (by kernel_rfl) (by simp) ?_
    refine AllReadyH.cons (o := { dst := some 60, op := Op.convert 22 9 (Operand.tmp 59), type := 9, pos := "law.go:144", after := #[{ on := 18, ground := Ground.data }, { on := 14, ground := Ground.guard }], guard := some (14, false) }) rfl (fun K hK => ?_) AllReadyH.nil
    go_simp
    refine hK.out _ _ ?_ (fun hHeld => ?_)
    · exact ⟨HT4.out _ B7.out, HT5.out _ B7.out⟩
    clear hK K
    try simp only [Act.put, List.setIfInBounds_toArray, List.set_cons_zero, List.set_cons_succ]
    refine wpAnyH_take (i := 20) (oi := { dst := some 61, op := Op.binOp BinOp.neq 9 (Operand.tmp 57) (Operand.tmp 60) 9, type := 4, pos := "law.go:144", after := #[{ on := 16, ground := Ground.data }, { on := 19, ground := Ground.data }, { on := 14, ground := Ground.guard }], guard := some (14, false) }) (v := .bool false) rfl (by kernel_rfl) (by kernel_rfl) (by kernel_rfl) (fun _ _ _ h => h) (Or.inl ⟨by rfl, fun w hSw => ?_⟩) (by assumption) ?_
    · (try dsimp only at hSw)
      go_simp
    try simp only [Act.put, List.setIfInBounds_toArray, List.set_cons_zero, List.set_cons_succ]
    refine wpAnyH_take (i := 21) (oi := { dst := some 62, op := Op.pick (Operand.tmp 55) (Operand.const (Value.bool true)) (Operand.tmp 61), type := 4, pos := "law.go:144", after := #[{ on := 14, ground := Ground.data }, { on := 20, ground := Ground.data }], guard := none }) (v := .bool false) rfl (by kernel_rfl) (by kernel_rfl) (by kernel_rfl) (fun _ _ _ h => h) (Or.inl ⟨by rfl, fun w hSw => ?_⟩) (by assumption) ?_
    · (try dsimp only at hSw)
      go_simp
    try simp only [Act.put, List.setIfInBounds_toArray, List.set_cons_zero, List.set_cons_succ]
    refine wpAnyH_done (by kernel_rfl) ?_ _
    go_wp2_with fail
    go_meet
    exact ⟨by simp, HN.out _ _ H5.out B7.out⟩
  case rest =>
    obtain ⟨rfl, h6⟩ := hcut
    rename World => wc
    have H6 := Lib.hid h6.out
    clear y5 HT4 HT5 BD H5 h6 HBs
    by_cases hq : q = 0
    · have hl2 := hsq.out hq
      subst hq
      have hnn : (nums s.l).length = s2.l.length + 1 := by rw [hln2.out, hl2]
      rw [hnn] at HWt hnl
      clear hsq hl2 hnn
      generalize s2.l.length = l2 at *
      have hne : ((l2 : Int) != ((l2 + 1 : Nat) : Int) - 1) = false := by simp
      have hne2 : ((l2 : Int) != (l2 : Int) + 1 - 1) = false := by simp
      go_wp2_with (first
        | (go_at_call 17; (with_reducible refine (HBy.out _ H6.out.1).mono ?_); rintro e w8 ⟨d8, c8, rfl, t8, hb8⟩; have H8 := Lib.hid (HN.out _ _ H6.out hb8); have T8 := Lib.hid t8; clear hb8 t8)
        | (go_at_call 21; (with_reducible refine (HWt.out _ H8.out.1).mono ?_); rintro e w9 ⟨A9, c9, rfl, hb9⟩; have H9 := Lib.hid (HN.out _ _ H8.out hb9); have T9 := Lib.hid (T8.out.kg (KG.fresh hb9)); have x9 := HX.out w9 H9.out.2; clear hb9)
        | (go_at_call 23; (with_reducible refine (HSq.out _ H9.out.1).mono ?_); rintro e w10 ⟨rfl, t10, k10⟩; have H10 := Lib.hid (And.intro t10 (H9.out.2.trans (H9.out.1.below k10))); have T10 := Lib.hid (T9.out.kg k10); clear t10 k10)
        | (go_at_call 21; (with_reducible refine (HWq.out _ H10.out.1).mono ?_); rintro e w11 ⟨A11, c11, rfl, hb11⟩; have H11 := Lib.hid (show Two W1.heap.size w11 g r s2 s ∧ Below W1.heap.size W1 w11 from ⟨H10.out.1.fresh hb11, H10.out.2.trans (hb11.mono H10.out.1.lo)⟩); have T11 := Lib.hid (T10.out.kg (KG.fresh hb11)); have x11 := HX.out w11 H11.out.2; clear hb11)
        | (go_at_call 15; (with_reducible refine (HFw.out _).mono ?_); rintro e w12 ⟨rfl, rfl⟩)
        | (go_at_call 24; (with_reducible refine (HSe.out _ H11.out.1 H11.out.2).mono ?_); rintro e w13 ⟨rfl, t13, k13⟩; have H13 := Lib.hid (And.intro t13 (H11.out.2.trans (H11.out.1.below k13))); have T13 := Lib.hid (T11.out.kg k13); clear t13 k13))
      have BD : Hid (Below w13.heap.size w13 w13.drew) := (Below.refl _ _).drew
      have HTx : Hid (∀ V, Below w13.heap.size w13 V → (convert 22 9 (.slice (some ⟨d8, 0, none⟩) 32 c8)).run Try.prog V = .ok (.string (strOfNums (allB s))) V) := fun V h => TX.out V _ _ c8 Hlen.out ((T13.out.b.below h).more h.size)
      have HBz := Lib.hid (HBe.out _ (H13.out.1.fresh BD.out))
      have HBw := Lib.hid H13.out.2
      have y13 := HTx.out _ BD.out
      clear x9 x11 T8 T9 T10 T11 T13 H6 H8 H9 H10 H11 H13 HSq HSe HWt HWq HBe HBy HN HBg HO HI
      generalize allB s = f1 at *
      go_wp2_with fail
      go_region_law (go_simp; first
          | (go_at_call 17; (with_reducible refine HBz.out.mono ?_); rintro e w14 ⟨d14, c14, rfl, _, t14, _, b14⟩; have B14 := Lib.hid (Below.trans BD.out (Below.mono b14 BD.out.size)); have y14 := TX.out w14 _ _ c14 Hlen.out t14; have z14 := HTx.out w14 B14.out; clear t14 b14)
          | fail)
      all_goals
        go_wp2
        go_ret
        exact ⟨rfl, HE.out _ (Below.trans HBw.out (Below.mono B14.out HBw.out.size))⟩
    · have hqb : (q == 0) = false := by simp [hq]
      clear hsq
      go_wp2_with (first
        | (go_at_call 17; (with_reducible refine (HBy.out _ H6.out.1).mono ?_); rintro e w8 ⟨d8, c8, rfl, t8, hb8⟩; have H8 := Lib.hid (HN.out _ _ H6.out hb8); have T8 := Lib.hid t8; clear hb8 t8)
        | (go_at_call 21; (with_reducible refine (HWt.out _ H8.out.1).mono ?_); rintro e w9 ⟨A9, c9, rfl, hb9⟩; have H9 := Lib.hid (HN.out _ _ H8.out hb9); have T9 := Lib.hid (T8.out.kg (KG.fresh hb9)); have x9 := HX.out w9 H9.out.2; clear hb9)
        | (go_at_call 23; (with_reducible refine (HSq.out _ H9.out.1).mono ?_); rintro e w10 ⟨rfl, t10, k10⟩; have H10 := Lib.hid (And.intro t10 (H9.out.2.trans (H9.out.1.below k10))); have T10 := Lib.hid (T9.out.kg k10); have x10 := HX.out w10 H10.out.2; clear t10 k10)
        | (go_at_call 15; (with_reducible refine (HFw.out _).mono ?_); rintro e w12 ⟨rfl, rfl⟩)
        | (go_at_call 24; (with_reducible refine (HSe.out _ H10.out.1 H10.out.2).mono ?_); rintro e w13 ⟨rfl, t13, k13⟩; have H13 := Lib.hid (And.intro t13 (H10.out.2.trans (H10.out.1.below k13))); have T13 := Lib.hid (T10.out.kg k13); clear t13 k13))
      have BD : Hid (Below w13.heap.size w13 w13.drew) := (Below.refl _ _).drew
      have HTx : Hid (∀ V, Below w13.heap.size w13 V → (convert 22 9 (.slice (some ⟨d8, 0, none⟩) 32 c8)).run Try.prog V = .ok (.string (strOfNums (allB s))) V) := fun V h => TX.out V _ _ c8 Hlen.out ((T13.out.b.below h).more h.size)
      have HBz := Lib.hid (HBe.out _ (H13.out.1.fresh BD.out))
      have HBw := Lib.hid H13.out.2
      have y13 := HTx.out _ BD.out
      clear x9 x10 T8 T9 T10 T13 H6 H8 H9 H10 H13 HSq HSe HWt HWq HBe HBy HN HBg HO HI
      generalize allB s = f1 at *
      go_wp2_with fail
      go_region_law (go_simp; first
          | (go_at_call 17; (with_reducible refine HBz.out.mono ?_); rintro e w14 ⟨d14, c14, rfl, _, t14, _, b14⟩; have B14 := Lib.hid (Below.trans BD.out (Below.mono b14 BD.out.size)); have y14 := TX.out w14 _ _ c14 Hlen.out t14; have z14 := HTx.out w14 B14.out; clear t14 b14)
          | fail)
      all_goals
        go_wp2
        go_ret
        exact ⟨rfl, HE.out _ (Below.trans HBw.out (Below.mono B14.out HBw.out.size))⟩
end Go.Proofs.Ytibkipdadpidnaa
