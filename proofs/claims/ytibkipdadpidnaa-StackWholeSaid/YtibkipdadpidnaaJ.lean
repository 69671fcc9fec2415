/- The document's Push. -/
import Derived.Test.YtibkipdadpidnaaI
import Derived.Test.YtibkipdadpidnaaW
set_option linter.unusedVariables false
set_option linter.unusedSimpArgs false
namespace Go.Proofs.Ytibkipdadpidnaa
open Go.RowKit
open Pat (Pt AllB undoP nth)
/-- the cells of a whole row as a source -/
theorem row_src {B size : Nat} {E : TypeId} {w : World} {A : Option Addr} {n c : Nat} {xs : List Value} (h : w.ownsRow B E size (.slice A n c) n xs) : (∀ ad, A = some ad → ∀ j u, xs[j]? = some u → w.cell? (ad.add j) = some u) ∧ (A = none → n = 0) := by
  rcases h.2 with ⟨q, h0⟩ | ⟨k, cap, cur, q, _⟩
  · obtain ⟨rfl, _, _⟩ := Value.slice.inj q
    exact ⟨fun ad e => (by cases e), fun _ => h0⟩
  · obtain ⟨rfl, _, _⟩ := Value.slice.inj q
    refine ⟨fun ad e j u hu => ?_, fun e => by cases e⟩
    cases e
    have hlt := (List.getElem?_eq_some_iff.1 hu).1
    rw [h.1] at hlt
    rw [Addr.add_lit, Nat.zero_add, h.cellAt j hlt]
    exact hu
def pushS (s : Sk) (p : Pt) : Sk := ⟨s.f, s.l ++ [⟨s.k, p⟩], s.k + 1⟩
section
variable (B r : Nat) (bA A : Option Addr) (bc c : Nat) (s : Sk) (p : Pt) (w : World)
set_option maxRecDepth 100000 in
set_option maxHeartbeats 1000000 in
theorem rpush_no (hC : RefAt B w r bA bc A c s) (hp : p.ok) (hr0 : p.right = false) : Calls Try.prog 59 #[.pointer (some ⟨r, 0, none⟩), p.v] w fun e w' => e = .returned (.tuple #[.int .i64 0, .int .i64 3]) ∧ RW B w r s w' := by
  have HF : Hid (∀ w', Below w.heap.size w w' → RW B w r s w') := fun w' h => hC.rw h
  have HR := Lib.hid (fun W => Pat.refright_any p W hp)
  have HB : Hid (Below w.heap.size w (w.alloc (.cells p.cs.toArray 38))) := Pat.below_alloc1 w _
  rw [hr0] at HR
  clear hC hp hr0
  obtain ⟨pb, po, ps⟩ := p
  unfold Pat.Pt.v at *
  simp only [Pat.Pt.cs] at *
  go_enter Try.func59, Try.ntmps59
  go_wp2_with (go_at_call 79; refine (HR.out _).mono ?_; rintro e w1 ⟨rfl, hb1⟩; have B1 := Lib.hid (HF.out w1 (Below.trans HB.out (Below.mono hb1 HB.out.size))); clear hb1)
  go_ret2
  exact ⟨rfl, B1.out⟩
set_option maxRecDepth 100000 in
set_option maxHeartbeats 4000000 in
theorem rpush_yes (hC : RefAt B w r bA bc A c s) (hl : s.l.length ≤ 190) (hk0 : 0 ≤ s.k) (hk1 : s.k < 100000000) (hr0 : p.right = true) : Calls Try.prog 59 #[.pointer (some ⟨r, 0, none⟩), p.v] w fun e w' => e = .returned (.tuple #[.int .i64 s.k, .int .i64 0]) ∧ RW B w r (pushS s p) w' := by
  have HR := Lib.hid (fun W => Pat.refright_any p W (Pat.ok_of hr0))
  rw [hr0] at HR
  have HB : Hid (Below w.heap.size w (w.alloc (.cells p.cs.toArray 38))) := Pat.below_alloc1 w _
  have HX : Hid (∀ w1, Below (w.alloc (.cells p.cs.toArray 38)).heap.size (w.alloc (.cells p.cs.toArray 38)) w1 → Pat.Boxed w1 w.heap.size p) := fun w1 h => (Pat.boxed1 w p).below h (by simp)
  have HC := Lib.hid hC
  have HF : Hid (∀ w1 w', Below w.heap.size w w1 → RW B w1 r (pushS s p) w' → RW B w r (pushS s p) w') := fun w1 w' h h2 => ⟨h2.1, (Kept.fresh (S := fun b => b = r) h).trans h2.2 (fun b e => .inl e)⟩
  obtain ⟨f, l, k⟩ := s
  simp only at hl hk0 hk1 ⊢
  obtain ⟨i0, hi0, hz0, hz1, hz2⟩ := info_parts infoO
  have hl2 : ¬ ((200 : Int) ≤ (l.length : Int)) := by omega
  have hwk : IntKind.i64.wrap (k + 1) = k + 1 := IntWalk.i64_in _ (by omega)
  have hwk2 : IntKind.i64.wrap (k + 1 - 1) = k := by rw [IntWalk.i64_in _ (by omega)]; omega
  clear hC hr0
  obtain ⟨pb, po, ps⟩ := p
  unfold Pat.Pt.v at *
  simp only [Pat.Pt.cs] at *
  go_enter Try.func59, Try.ntmps59
  go_wp2_with (go_at_call 79; refine (HR.out _).mono ?_; rintro e w1 ⟨rfl, hb1⟩; have B1 := Lib.hid (Below.trans HB.out (Below.mono hb1 HB.out.size)); have X1 := Lib.hid (HX.out w1 hb1); have C1 := Lib.hid (HC.out.fresh B1.out); have c1 := C1.out.hcells.2.1; have l1 := C1.out.glt; clear hb1)
  have B0 : Hid (Below w1.heap.size w1 w1.drew) := (Below.refl _ _).drew
  have HKeep : Hid (∀ V, Below w1.heap.size w1 V → V.cell? ⟨r, 1, none⟩ = some (.slice A l.length c) ∧ V.cell? ⟨r, 2, none⟩ = some (.int .i64 k) ∧ V.cell? ⟨w.heap.size, 0, none⟩ = some (.int .i64 pb) ∧ V.cell? ⟨w.heap.size, 1, none⟩ = some (.int .i64 po) ∧ V.cell? ⟨w.heap.size, 2, none⟩ = some (.string ps)) := fun V hV => ⟨(C1.out.fresh hV).hcells.2.1, (C1.out.fresh hV).hcells.2.2, (X1.out.below hV (Pat.BlkIs.lt X1.out)).cells⟩
  have Hsrc : Hid (∀ V, Below w1.heap.size w1 V → ∀ ad, A = some ad → ∀ j u, (flatO l)[j]? = some u → V.cell? (ad.add j) = some u) := fun V hV => (row_src (C1.out.fresh hV).row).1
  have Hnil : Hid (A = none → l.length = 0) := (row_src C1.out.row).2
  have Hfl := Lib.hid (length_flatO l)
  have Hone := Lib.hid (flatO_one l)
  have HNew : Hid (∀ V, Below w1.heap.size w1 V → Below w1.heap.size w1 (V.alloc (.cells #[] 97)) ∧ (V.alloc (.cells #[] 97)).ownsRow w1.heap.size 97 4 (.slice (some ⟨V.heap.size, 0, none⟩) 0 0) 0 [] ∧ V.heap.size < (V.alloc (.cells #[] 97)).heap.size) := fun V hV =>
    ⟨hV.alloc hV.size _, World.ownsRow_made V #[] 0 hV.size (by simp) (by simp), by simp⟩
  have HOne : Hid (∀ V, Below w1.heap.size w1 V → Below w1.heap.size w1 (V.alloc (.cells #[.int .i64 k, .int .i64 pb, .int .i64 po, .string ps] 97)) ∧ (V.alloc (.cells #[.int .i64 k, .int .i64 pb, .int .i64 po, .string ps] 97)).heap[V.heap.size]? = some (.cells #[.int .i64 k, .int .i64 pb, .int .i64 po, .string ps] 97 (0, 0)) ∧ V.heap.size < (V.alloc (.cells #[.int .i64 k, .int .i64 pb, .int .i64 po, .string ps] 97)).heap.size) := fun V hV =>
    ⟨hV.alloc hV.size _, heap_alloc_new V _, by simp⟩
  have HBs : Hid (∀ (V : World) b, V.heap[b]? = some (.cells #[.int .i64 k, .int .i64 pb, .int .i64 po, .string ps] 97 (0, 0)) → ∀ ad, some (⟨b, 0, none⟩ : Addr) = some ad → ∀ j u, [Value.int .i64 k, .int .i64 pb, .int .i64 po, .string ps][j]? = some u → V.cell? (ad.add j) = some u) := fun V b h ad e j u hu => by cases e; exact World.news_of_block h j u hu
  have HoneB : Hid (∀ u ∈ [Value.int .i64 k, .int .i64 pb, .int .i64 po, .string ps], u.oneCell' = true) := by intro u hu; simp at hu; rcases hu with rfl | rfl | rfl | rfl <;> rfl
  have HGr : Hid (∀ V V' A1 n c1 (row : Option Nat), Below w1.heap.size w1 V → (∀ b, row = some b → w1.heap.size ≤ b) → V.grownBy V' row → V'.ownsRow w1.heap.size 97 4 (.slice A1 n c1) n (([] : List Value) ++ flatO l) → Below w1.heap.size w1 V' ∧ V'.ownsRow w1.heap.size 97 4 (.slice A1 n c1) n (flatO l)) := fun V V' A1 n c1 row hV hrow hg ho => ⟨hV.grown hg hV.size hrow, ho⟩
  have HFin : Hid (∀ V V' A2 c2 (row : Option Nat), Below w1.heap.size w1 V → (∀ b, row = some b → w1.heap.size ≤ b) → V.grownBy V' row → V'.ownsRow w1.heap.size 97 4 (.slice A2 (l.length + 1) c2) (l.length + 1) (flatO l ++ [Value.int .i64 k, .int .i64 pb, .int .i64 po, .string ps]) →
      Below w1.heap.size w1 V' ∧ V'.cell? ⟨r, 1, none⟩ = some (.slice A l.length c) ∧ V'.frozen? ⟨r, 1, none⟩ = false ∧ r < V'.heap.size ∧ (V'.setCell ⟨r, 1, none⟩ (.slice A2 (l.length + 1) c2)).cell? ⟨r, 2, none⟩ = some (.int .i64 k) ∧ (V'.setCell ⟨r, 1, none⟩ (.slice A2 (l.length + 1) c2)).frozen? ⟨r, 2, none⟩ = false ∧ r < (V'.setCell ⟨r, 1, none⟩ (.slice A2 (l.length + 1) c2)).heap.size ∧ ((V'.setCell ⟨r, 1, none⟩ (.slice A2 (l.length + 1) c2)).setCell ⟨r, 2, none⟩ (.int .i64 (k + 1))).cell? ⟨r, 2, none⟩ = some (.int .i64 (k + 1)) ∧ RW B w r (pushS ⟨f, l, k⟩ ⟨pb, po, ps⟩) ((V'.setCell ⟨r, 1, none⟩ (.slice A2 (l.length + 1) c2)).setCell ⟨r, 2, none⟩ (.int .i64 (k + 1)))) := fun V V' A2 c2 row hV hrow hg ho => by
    have hb := hV.grown hg hV.size hrow
    have h4 := C1.out.fresh hb
    have hN := new_row (l2 := l ++ [⟨k, ⟨pb, po, ps⟩⟩]) C1.out hb (by rw [flatO_append]; exact ho) (by simp)
    have hM := new_next (k := k + 1) hN.1
    exact ⟨hb, h4.hcells.2.1, h4.free 1, h4.glt, hN.1.hcells.2.2, hN.1.free 2, hN.1.glt, hM.1.hcells.2.2, HF.out w1 _ B1.out ⟨⟨_, _, _, _, hM.1⟩, hN.2.trans hM.2 (fun b e => .inl e)⟩⟩
  have X := Lib.hid (HKeep.out _ B0.out)
  clear HC HF HX C1 X1 HR HB B1
  generalize flatO l = fl at *
  generalize hg0 : w.heap.size = g at *
  clear hg0
  refine beginZ (fun V => V.cell? ⟨r, 1, none⟩ = some (.slice A l.length c) ∧ V.cell? ⟨r, 2, none⟩ = some (.int .i64 k) ∧ V.cell? ⟨g, 0, none⟩ = some (.int .i64 pb) ∧ V.cell? ⟨g, 1, none⟩ = some (.int .i64 po) ∧ V.cell? ⟨g, 2, none⟩ = some (.string ps)) 17 (by kernel_rfl) (X.out) (fun hHeld => ?_)
  generalize w1.drew = w0 at *
  refine takeZ 0 [16, 15, 0] (some 20) (v := ?_) rfl rfl (by kernel_rfl) (by kernel_rfl) (by kernel_rfl) (by kernel_rfl) (by kernel_rfl) (fun _ _ _ h => h) (by rfl) ?_ (by assumption) ?_
  rotate_left
  · (intro w hSw; (try dsimp only at hSw); go_simp; try with_reducible rfl)
  simp only [Act.put, List.setIfInBounds_toArray, List.set_cons_zero, List.set_cons_succ]
  refine takeZ 2 [14, 6, 5, 4, 3, 2] (some 22) (v := ?_) rfl rfl (by kernel_rfl) (by kernel_rfl) (by kernel_rfl) (by kernel_rfl) (by kernel_rfl) (fun _ _ _ h => h) (by rfl) ?_ (by assumption) ?_
  rotate_left
  · (intro w hSw; (try dsimp only at hSw); go_simp; try with_reducible rfl)
  simp only [Act.put, List.setIfInBounds_toArray, List.set_cons_zero, List.set_cons_succ]
  refine takeZ 3 [14, 6, 5, 4, 3] (some 23) (v := ?_) rfl rfl (by kernel_rfl) (by kernel_rfl) (by kernel_rfl) (by kernel_rfl) (by kernel_rfl) (fun _ _ _ h => h) (by rfl) ?_ (by assumption) ?_
  rotate_left
  · (intro w hSw; (try dsimp only at hSw); go_simp; try with_reducible rfl)
  simp only [Act.put, List.setIfInBounds_toArray, List.set_cons_zero, List.set_cons_succ]
  refine takeZ 4 [14, 6, 5, 4] (some 24) (v := ?_) rfl rfl (by kernel_rfl) (by kernel_rfl) (by kernel_rfl) (by kernel_rfl) (by kernel_rfl) (fun _ _ _ h => h) (by rfl) ?_ (by assumption) ?_
  rotate_left
  · (intro w hSw; (try dsimp only at hSw); go_simp; try with_reducible rfl)
  simp only [Act.put, List.setIfInBounds_toArray, List.set_cons_zero, List.set_cons_succ]
  refine takeZ 5 [14, 6, 5] (some 25) (v := ?_) rfl rfl (by kernel_rfl) (by kernel_rfl) (by kernel_rfl) (by kernel_rfl) (by kernel_rfl) (fun _ _ _ h => h) (by rfl) ?_ (by assumption) ?_
  rotate_left
  · (intro w hSw; (try dsimp only at hSw); go_simp; try with_reducible rfl)
  simp only [Act.put, List.setIfInBounds_toArray, List.set_cons_zero, List.set_cons_succ]
  refine takeZ 7 [14, 13, 12, 10, 9, 8, 7] (some 27) (v := ?_) rfl rfl (by kernel_rfl) (by kernel_rfl) (by kernel_rfl) (by kernel_rfl) (by kernel_rfl) (fun _ _ _ h => h) (by rfl) ?_ (by assumption) ?_
  rotate_left
  · (intro w hSw; (try dsimp only at hSw); go_simp; try with_reducible rfl)
  simp only [Act.put, List.setIfInBounds_toArray, List.set_cons_zero, List.set_cons_succ]
  refine takeZ 8 [14, 13, 12, 10, 9, 8] (some 28) (v := ?_) rfl rfl (by kernel_rfl) (by kernel_rfl) (by kernel_rfl) (by kernel_rfl) (by kernel_rfl) (fun _ _ _ h => h) (by rfl) ?_ (by assumption) ?_
  rotate_left
  · (intro w hSw; (try dsimp only at hSw); go_simp; try with_reducible rfl)
  simp only [Act.put, List.setIfInBounds_toArray, List.set_cons_zero, List.set_cons_succ]
  refine takeZ 9 [14, 13, 12, 10, 9] (some 29) (v := ?_) rfl rfl (by kernel_rfl) (by kernel_rfl) (by kernel_rfl) (by kernel_rfl) (by kernel_rfl) (fun _ _ _ h => h) (by rfl) ?_ (by assumption) ?_
  rotate_left
  · (intro w hSw; (try dsimp only at hSw); go_simp; try with_reducible rfl)
  simp only [Act.put, List.setIfInBounds_toArray, List.set_cons_zero, List.set_cons_succ]
  refine takeZ 10 [14, 13, 12, 10] (some 30) (v := ?_) rfl rfl (by kernel_rfl) (by kernel_rfl) (by kernel_rfl) (by kernel_rfl) (by kernel_rfl) (fun _ _ _ h => h) (by rfl) ?_ (by assumption) ?_
  rotate_left
  · (intro w hSw; (try dsimp only at hSw); go_simp; try with_reducible rfl)
  simp only [Act.put, List.setIfInBounds_toArray, List.set_cons_zero, List.set_cons_succ]
  refine takeZ 11 [14, 13, 12, 11] (some 31) (v := ?_) rfl rfl (by kernel_rfl) (by kernel_rfl) (by kernel_rfl) (by kernel_rfl) (by kernel_rfl) (fun _ _ _ h => h) (by rfl) ?_ (by assumption) ?_
  rotate_left
  · (intro w hSw; (try dsimp only at hSw); go_simp; try with_reducible rfl)
  simp only [Act.put, List.setIfInBounds_toArray, List.set_cons_zero, List.set_cons_succ]
  refine takeZ 12 [14, 13, 12] (some 32) (v := ?_) rfl rfl (by kernel_rfl) (by kernel_rfl) (by kernel_rfl) (by kernel_rfl) (by kernel_rfl) (fun _ _ _ h => h) (by rfl) ?_ (by assumption) ?_
  rotate_left
  · (intro w hSw; (try dsimp only at hSw); go_simp; try with_reducible rfl)
  simp only [Act.put, List.setIfInBounds_toArray, List.set_cons_zero, List.set_cons_succ]
  refine readyZ (rs := [1, 13]) (by kernel_rfl) (by simp) ?_
  refine AllZ.cons rfl (fun K hK => ?_) (AllZ.cons rfl (fun K hK => ?_) AllZ.nil)
  · go_simp
    obtain ⟨hb1, ho1, hl1⟩ := HNew.out w0 B0.out
    generalize hW1 : w0.alloc (.cells #[] 97) = W1 at *
    clear hW1
    have HB1 := Lib.hid hb1
    have HO1 := Lib.hid ho1
    have HL1 := Lib.hid hl1
    clear hb1 ho1 hl1
    refine hK _ _ (fun _ => HKeep.out _ HB1.out) (fun hHeld => ?_)
    clear hK K
    try simp only [Act.put, List.setIfInBounds_toArray, List.set_cons_zero, List.set_cons_succ]
    replace hHeld := hHeld (by decide)
    refine readyZ (rs := [6, 13]) (by kernel_rfl) (by simp) ?_
    refine AllZ.cons rfl (fun K hK => ?_) (AllZ.cons rfl (fun K hK => ?_) AllZ.nil)
    · refine step_append_src rfl (.tmp 21) (.tmp 25) 93 rfl w1.heap.size 97 i0 zeroO 4 40 Try.underlying93 hi0 hz0 hz1 hz2 rfl (by decide) (.slice (some ⟨w0.heap.size, 0, none⟩) 0 0) 0 [] rfl HO1.out A l.length c fl rfl Hfl.out (Hsrc.out _ HB1.out) Hnil.out Hone.out (by unfold maxLen; omega) (by omega) HB1.out.size l.length (by omega) ?_
      intro A3 c3 w3 ho3 hg3 hor3
      obtain ⟨hb3, ho3b⟩ := HGr.out _ _ _ _ _ _ HB1.out (fun b e => (HO1.out.lt b e).1) hg3 ho3
      have HB3 := Lib.hid hb3
      have HO3 := Lib.hid ho3b
      clear ho3 hg3 hor3 hb3 ho3b
      refine hK _ _ (fun _ => HKeep.out _ HB3.out) (fun hHeld => ?_)
      clear hK K
      try simp only [Act.put, List.setIfInBounds_toArray, List.set_cons_zero, List.set_cons_succ]
      replace hHeld := hHeld (by decide)
      refine readyZ (rs := [13]) (by kernel_rfl) (by simp) ?_
      refine AllZ.cons rfl (fun K hK => ?_) AllZ.nil
      go_simp
      obtain ⟨hb5, ht5, hl5⟩ := HOne.out w3 HB3.out
      have HB5 := Lib.hid hb5
      have HT5 := Lib.hid ht5
      have HO5 := Lib.hid (HO3.out.alloc (.cells #[.int .i64 k, .int .i64 pb, .int .i64 po, .string ps] 97))
      clear hb5 ht5 hl5
      refine hK _ _ (fun _ => HKeep.out _ HB5.out) (fun hHeld => ?_)
      clear hK K
      try simp only [Act.put, List.setIfInBounds_toArray, List.set_cons_zero, List.set_cons_succ]
      replace hHeld := hHeld (by decide)
      refine readyZ (rs := [14]) (by kernel_rfl) (by simp) ?_
      refine AllZ.cons rfl (fun K hK => ?_) AllZ.nil
      refine step_append_src rfl (.tmp 26) (.tmp 33) 93 rfl w1.heap.size 97 i0 zeroO 4 40 Try.underlying93 hi0 hz0 hz1 hz2 rfl (by decide) (.slice A3 l.length c3) l.length fl rfl HO5.out (some ⟨w3.heap.size, 0, none⟩) 1 1 [Value.int .i64 k, .int .i64 pb, .int .i64 po, .string ps] rfl rfl (HBs.out _ _ HT5.out) (fun e => by cases e) HoneB.out (by unfold maxLen; omega) (by omega) HB5.out.size (l.length + 1) rfl ?_
      intro A4 c4 w4 ho4 hg4 hor4
      have HO4 := Lib.hid ho4
      have HG4 := Lib.hid hg4
      clear ho4 hg4 hor4
      refine hK _ _ (fun _ => HKeep.out _ (HB5.out.grown HG4.out HB5.out.size (fun b e => (HO5.out.lt b e).1))) (fun hHeld => ?_)
      clear hK K
      try simp only [Act.put, List.setIfInBounds_toArray, List.set_cons_zero, List.set_cons_succ]
      replace hHeld := hHeld (by decide)
      refine takeZ 15 [16, 15] (some 35) (v := ?_) rfl rfl (by kernel_rfl) (by kernel_rfl) (by kernel_rfl) (by kernel_rfl) (by kernel_rfl) (fun _ _ _ h => h) (by rfl) ?_ (by assumption) ?_
      rotate_left
      · (intro w hSw; (try dsimp only at hSw); go_simp; try with_reducible rfl)
      simp only [Act.put, List.setIfInBounds_toArray, List.set_cons_zero, List.set_cons_succ]
      refine takeZ 16 [16] (some 36) (v := ?_) rfl rfl (by kernel_rfl) (by kernel_rfl) (by kernel_rfl) (by kernel_rfl) (by kernel_rfl) (fun _ _ _ h => h) (by rfl) ?_ (by assumption) ?_
      rotate_left
      · (intro w hSw; (try dsimp only at hSw); go_simp; try with_reducible rfl)
      simp only [Act.put, List.setIfInBounds_toArray, List.set_cons_zero, List.set_cons_succ]
      refine readyZ (rs := [17]) (by kernel_rfl) (by simp) ?_
      refine AllZ.cons rfl (fun K hK => ?_) AllZ.nil
      have HZ := Lib.hid (HFin.out (w3.alloc (.cells #[.int .i64 k, .int .i64 pb, .int .i64 po, .string ps] 97)) w4 A4 c4 (Value.slice A3 l.length c3).ownBlock HB5.out (fun b e => (World.ownsRow.lt HO5.out b e).1) HG4.out HO4.out)
      have d0 := HZ.out.2.1
      have f0 := HZ.out.2.2.1
      have l0 := HZ.out.2.2.2.1
      go_simp
      refine hK _ _ (fun e => absurd rfl e) (fun hHeld => ?_)
      clear hK K
      try simp only [Act.put, List.setIfInBounds_toArray, List.set_cons_zero, List.set_cons_succ]
      refine doneZ (by kernel_rfl) ?_ _
      have d1 := HZ.out.2.2.2.2.1
      have f1 := HZ.out.2.2.2.2.2.1
      have l1 := HZ.out.2.2.2.2.2.2.1
      have d2 := HZ.out.2.2.2.2.2.2.2.1
      have HE := Lib.hid HZ.out.2.2.2.2.2.2.2.2
      clear HZ d0 f0 l0
      generalize w4.setCell ⟨r, 1, none⟩ (.slice A4 (l.length + 1) c4) = W at *
      go_wp2
      go_ret2
      exact ⟨rfl, HE.out⟩
    · go_simp
      obtain ⟨hb2, ht2, hl2⟩ := HOne.out W1 HB1.out
      have HB2 := Lib.hid hb2
      have HT2 := Lib.hid ht2
      have HO2 := Lib.hid (HO1.out.alloc (.cells #[.int .i64 k, .int .i64 pb, .int .i64 po, .string ps] 97))
      have HL2 := Lib.hid hl2
      have HN2 := Lib.hid (Nat.ne_of_gt HL1.out)
      clear hb2 ht2 hl2
      refine hK _ _ (fun _ => HKeep.out _ HB2.out) (fun hHeld => ?_)
      clear hK K
      try simp only [Act.put, List.setIfInBounds_toArray, List.set_cons_zero, List.set_cons_succ]
      replace hHeld := hHeld (by decide)
      refine readyZ (rs := [6]) (by kernel_rfl) (by simp) ?_
      refine AllZ.cons rfl (fun K hK => ?_) AllZ.nil
      refine step_append_src rfl (.tmp 21) (.tmp 25) 93 rfl w1.heap.size 97 i0 zeroO 4 40 Try.underlying93 hi0 hz0 hz1 hz2 rfl (by decide) (.slice (some ⟨w0.heap.size, 0, none⟩) 0 0) 0 [] rfl HO2.out A l.length c fl rfl Hfl.out (Hsrc.out _ HB2.out) Hnil.out Hone.out (by unfold maxLen; omega) (by omega) HB2.out.size l.length (by omega) ?_
      intro A3 c3 w3 ho3 hg3 hor3
      obtain ⟨hb3, ho3b⟩ := HGr.out _ _ _ _ _ _ HB2.out (fun b e => (HO2.out.lt b e).1) hg3 ho3
      have HB3 := Lib.hid hb3
      have HO3 := Lib.hid ho3b
      have HT3 := Lib.hid ((hg3.block _ HL2.out (fun e => HN2.out (Option.some.inj e))).trans HT2.out)
      clear ho3 hg3 hor3 hb3 ho3b
      refine hK _ _ (fun _ => HKeep.out _ HB3.out) (fun hHeld => ?_)
      clear hK K
      try simp only [Act.put, List.setIfInBounds_toArray, List.set_cons_zero, List.set_cons_succ]
      replace hHeld := hHeld (by decide)
      refine readyZ (rs := [14]) (by kernel_rfl) (by simp) ?_
      refine AllZ.cons rfl (fun K hK => ?_) AllZ.nil
      refine step_append_src rfl (.tmp 26) (.tmp 33) 93 rfl w1.heap.size 97 i0 zeroO 4 40 Try.underlying93 hi0 hz0 hz1 hz2 rfl (by decide) (.slice A3 l.length c3) l.length fl rfl HO3.out (some ⟨W1.heap.size, 0, none⟩) 1 1 [Value.int .i64 k, .int .i64 pb, .int .i64 po, .string ps] rfl rfl (HBs.out _ _ HT3.out) (fun e => by cases e) HoneB.out (by unfold maxLen; omega) (by omega) HB3.out.size (l.length + 1) rfl ?_
      intro A4 c4 w4 ho4 hg4 hor4
      have HO4 := Lib.hid ho4
      have HG4 := Lib.hid hg4
      clear ho4 hg4 hor4
      refine hK _ _ (fun _ => HKeep.out _ (HB3.out.grown HG4.out HB3.out.size (fun b e => (HO3.out.lt b e).1))) (fun hHeld => ?_)
      clear hK K
      try simp only [Act.put, List.setIfInBounds_toArray, List.set_cons_zero, List.set_cons_succ]
      replace hHeld := hHeld (by decide)
      refine takeZ 15 [16, 15] (some 35) (v := ?_) rfl rfl (by kernel_rfl) (by kernel_rfl) (by kernel_rfl) (by kernel_rfl) (by kernel_rfl) (fun _ _ _ h => h) (by rfl) ?_ (by assumption) ?_
      rotate_left
      · (intro w hSw; (try dsimp only at hSw); go_simp; try with_reducible rfl)
      simp only [Act.put, List.setIfInBounds_toArray, List.set_cons_zero, List.set_cons_succ]
      refine takeZ 16 [16] (some 36) (v := ?_) rfl rfl (by kernel_rfl) (by kernel_rfl) (by kernel_rfl) (by kernel_rfl) (by kernel_rfl) (fun _ _ _ h => h) (by rfl) ?_ (by assumption) ?_
      rotate_left
      · (intro w hSw; (try dsimp only at hSw); go_simp; try with_reducible rfl)
      simp only [Act.put, List.setIfInBounds_toArray, List.set_cons_zero, List.set_cons_succ]
      refine readyZ (rs := [17]) (by kernel_rfl) (by simp) ?_
      refine AllZ.cons rfl (fun K hK => ?_) AllZ.nil
      have HZ := Lib.hid (HFin.out w3 w4 A4 c4 (Value.slice A3 l.length c3).ownBlock HB3.out (fun b e => (World.ownsRow.lt HO3.out b e).1) HG4.out HO4.out)
      have d0 := HZ.out.2.1
      have f0 := HZ.out.2.2.1
      have l0 := HZ.out.2.2.2.1
      go_simp
      refine hK _ _ (fun e => absurd rfl e) (fun hHeld => ?_)
      clear hK K
      try simp only [Act.put, List.setIfInBounds_toArray, List.set_cons_zero, List.set_cons_succ]
      refine doneZ (by kernel_rfl) ?_ _
      have d1 := HZ.out.2.2.2.2.1
      have f1 := HZ.out.2.2.2.2.2.1
      have l1 := HZ.out.2.2.2.2.2.2.1
      have d2 := HZ.out.2.2.2.2.2.2.2.1
      have HE := Lib.hid HZ.out.2.2.2.2.2.2.2.2
      clear HZ d0 f0 l0
      generalize w4.setCell ⟨r, 1, none⟩ (.slice A4 (l.length + 1) c4) = W at *
      go_wp2
      go_ret2
      exact ⟨rfl, HE.out⟩
  · go_simp
    obtain ⟨hb1, ht1, hl1⟩ := HOne.out w0 B0.out
    generalize hW1 : w0.alloc (.cells #[.int .i64 k, .int .i64 pb, .int .i64 po, .string ps] 97) = W1 at *
    clear hW1
    have HB1 := Lib.hid hb1
    have HT1 := Lib.hid ht1
    have HL1 := Lib.hid hl1
    clear hb1 ht1 hl1
    refine hK _ _ (fun _ => HKeep.out _ HB1.out) (fun hHeld => ?_)
    clear hK K
    try simp only [Act.put, List.setIfInBounds_toArray, List.set_cons_zero, List.set_cons_succ]
    replace hHeld := hHeld (by decide)
    refine readyZ (rs := [1]) (by kernel_rfl) (by simp) ?_
    refine AllZ.cons rfl (fun K hK => ?_) AllZ.nil
    go_simp
    obtain ⟨hb2, ho2, hl2⟩ := HNew.out W1 HB1.out
    have HB2 := Lib.hid hb2
    have HO2 := Lib.hid ho2
    have HT2 := Lib.hid ((heap_alloc_old W1 (.cells #[] 97) HL1.out).trans HT1.out)
    have HL2 := Lib.hid (Nat.lt_trans HL1.out hl2)
    have HN2 := Lib.hid (Nat.ne_of_lt HL1.out)
    clear hb2 ho2 hl2
    refine hK _ _ (fun _ => HKeep.out _ HB2.out) (fun hHeld => ?_)
    clear hK K
    try simp only [Act.put, List.setIfInBounds_toArray, List.set_cons_zero, List.set_cons_succ]
    replace hHeld := hHeld (by decide)
    refine readyZ (rs := [6]) (by kernel_rfl) (by simp) ?_
    refine AllZ.cons rfl (fun K hK => ?_) AllZ.nil
    refine step_append_src rfl (.tmp 21) (.tmp 25) 93 rfl w1.heap.size 97 i0 zeroO 4 40 Try.underlying93 hi0 hz0 hz1 hz2 rfl (by decide) (.slice (some ⟨W1.heap.size, 0, none⟩) 0 0) 0 [] rfl HO2.out A l.length c fl rfl Hfl.out (Hsrc.out _ HB2.out) Hnil.out Hone.out (by unfold maxLen; omega) (by omega) HB2.out.size l.length (by omega) ?_
    intro A3 c3 w3 ho3 hg3 hor3
    obtain ⟨hb3, ho3b⟩ := HGr.out _ _ _ _ _ _ HB2.out (fun b e => (HO2.out.lt b e).1) hg3 ho3
    have HB3 := Lib.hid hb3
    have HO3 := Lib.hid ho3b
    have HT3 := Lib.hid ((hg3.block _ HL2.out (fun e => HN2.out (Option.some.inj e))).trans HT2.out)
    clear ho3 hg3 hor3 hb3 ho3b
    refine hK _ _ (fun _ => HKeep.out _ HB3.out) (fun hHeld => ?_)
    clear hK K
    try simp only [Act.put, List.setIfInBounds_toArray, List.set_cons_zero, List.set_cons_succ]
    replace hHeld := hHeld (by decide)
    refine readyZ (rs := [14]) (by kernel_rfl) (by simp) ?_
    refine AllZ.cons rfl (fun K hK => ?_) AllZ.nil
    refine step_append_src rfl (.tmp 26) (.tmp 33) 93 rfl w1.heap.size 97 i0 zeroO 4 40 Try.underlying93 hi0 hz0 hz1 hz2 rfl (by decide) (.slice A3 l.length c3) l.length fl rfl HO3.out (some ⟨w0.heap.size, 0, none⟩) 1 1 [Value.int .i64 k, .int .i64 pb, .int .i64 po, .string ps] rfl rfl (HBs.out _ _ HT3.out) (fun e => by cases e) HoneB.out (by unfold maxLen; omega) (by omega) HB3.out.size (l.length + 1) rfl ?_
    intro A4 c4 w4 ho4 hg4 hor4
    have HO4 := Lib.hid ho4
    have HG4 := Lib.hid hg4
    clear ho4 hg4 hor4
    refine hK _ _ (fun _ => HKeep.out _ (HB3.out.grown HG4.out HB3.out.size (fun b e => (HO3.out.lt b e).1))) (fun hHeld => ?_)
    clear hK K
    try simp only [Act.put, List.setIfInBounds_toArray, List.set_cons_zero, List.set_cons_succ]
    replace hHeld := hHeld (by decide)
    refine takeZ 15 [16, 15] (some 35) (v := ?_) rfl rfl (by kernel_rfl) (by kernel_rfl) (by kernel_rfl) (by kernel_rfl) (by kernel_rfl) (fun _ _ _ h => h) (by rfl) ?_ (by assumption) ?_
    rotate_left
    · (intro w hSw; (try dsimp only at hSw); go_simp; try with_reducible rfl)
    simp only [Act.put, List.setIfInBounds_toArray, List.set_cons_zero, List.set_cons_succ]
    refine takeZ 16 [16] (some 36) (v := ?_) rfl rfl (by kernel_rfl) (by kernel_rfl) (by kernel_rfl) (by kernel_rfl) (by kernel_rfl) (fun _ _ _ h => h) (by rfl) ?_ (by assumption) ?_
    rotate_left
    · (intro w hSw; (try dsimp only at hSw); go_simp; try with_reducible rfl)
    simp only [Act.put, List.setIfInBounds_toArray, List.set_cons_zero, List.set_cons_succ]
    refine readyZ (rs := [17]) (by kernel_rfl) (by simp) ?_
    refine AllZ.cons rfl (fun K hK => ?_) AllZ.nil
    have HZ := Lib.hid (HFin.out w3 w4 A4 c4 (Value.slice A3 l.length c3).ownBlock HB3.out (fun b e => (World.ownsRow.lt HO3.out b e).1) HG4.out HO4.out)
    have d0 := HZ.out.2.1
    have f0 := HZ.out.2.2.1
    have l0 := HZ.out.2.2.2.1
    go_simp
    refine hK _ _ (fun e => absurd rfl e) (fun hHeld => ?_)
    clear hK K
    try simp only [Act.put, List.setIfInBounds_toArray, List.set_cons_zero, List.set_cons_succ]
    refine doneZ (by kernel_rfl) ?_ _
    have d1 := HZ.out.2.2.2.2.1
    have f1 := HZ.out.2.2.2.2.2.1
    have l1 := HZ.out.2.2.2.2.2.2.1
    have d2 := HZ.out.2.2.2.2.2.2.2.1
    have HE := Lib.hid HZ.out.2.2.2.2.2.2.2.2
    clear HZ d0 f0 l0
    generalize w4.setCell ⟨r, 1, none⟩ (.slice A4 (l.length + 1) c4) = W at *
    go_wp2
    go_ret2
    exact ⟨rfl, HE.out⟩
end
end Go.Proofs.Ytibkipdadpidnaa
