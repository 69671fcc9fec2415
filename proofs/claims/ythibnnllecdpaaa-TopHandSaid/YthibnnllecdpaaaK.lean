/- Use of a cache. -/
import Derived.Test.YthibnnllecdpaaaJ
namespace Go.Proofs.Ythibnnllecdpaaa
open Go.RowKit

theorem fresh_one (x : Int) : ∀ u ∈ (fresh x).cs, u.oneCell' = true := by
  intro u hu
  simp [H.cs, fresh] at hu
  rcases hu with rfl | rfl | rfl | rfl <;> rfl
/-- a block of one new element, laid ahead of an append -/
theorem app_one {B g : Nat} {v : Value} {m : Int} {l : List H} {w W1 : World} (hW : Below w.heap.size w W1) (hC : CacheAt 69 66 B w g v m l) (hB : B ≤ w.heap.size) (x : Int) {n N : Nat} (hn : l.length = n) (hN : W1.heap.size = N) :
    (W1.alloc (.cells #[.int .i64 x, .int .i64 0, .bool false, .bool true] 66)).ownsRow B 66 4 v n (flat l) ∧
    (∀ j u, (fresh x).cs[j]? = some u → (W1.alloc (.cells #[.int .i64 x, .int .i64 0, .bool false, .bool true] 66)).cell? ((⟨N, 0, none⟩ : Addr).add j) = some u) ∧
    B ≤ (W1.alloc (.cells #[.int .i64 x, .int .i64 0, .bool false, .bool true] 66)).heap.size := by
  subst hn hN
  refine ⟨(hC.fresh hW).row.alloc _, fun j u hj => ?_, by have := hW.size; simp; omega⟩
  refine World.news_of_block (heap_alloc_new W1 _) j u ?_
  exact hj
theorem app_end {B g g2 cap2 : Nat} {v : Value} {m : Int} {l : List H} {x : Int} {w W1 w2 : World} (hC : CacheAt 69 66 B w g v m l) (hW : Below w.heap.size w W1)
    (ho : w2.ownsRow B 66 4 (.slice (some ⟨g2, 0, none⟩) (l.length + 1) cap2) (l.length + 1) (flat l ++ (fresh x).cs))
    (hgr : (W1.alloc (.cells #[.int .i64 x, .int .i64 0, .bool false, .bool true] 66)).grownBy w2 v.ownBlock) (hor : v.ownBlock = some g2 ∨ g2 = (W1.alloc (.cells #[.int .i64 x, .int .i64 0, .bool false, .bool true] 66)).heap.size) :
    w2.heap[g]? = some (.cells #[.int .i64 m, v] 69 (0, 0)) ∧ w2.cell? ⟨g, 1, none⟩ = some v ∧ w2.frozen? ⟨g, 1, none⟩ = false ∧
    Went 69 66 B w g v m (l ++ [fresh x]) (w2.setCell ⟨g, 1, none⟩ (.slice (some ⟨g2, 0, none⟩) (l.length + 1) cap2)) := by
  have hC1 := hC.fresh hW
  have hz := hW.size
  have hg1 := hC1.glt
  have hh : w2.heap[g]? = some (.cells #[.int .i64 m, v] 69 (0, 0)) := by
    rw [hgr.block g (by simp; omega) (fun e => hC1.apart e.symm), heap_alloc_old W1 _ hg1]
    exact hC1.head
  have hl : (l ++ [fresh x]).length = l.length + 1 := by simp
  have hf : flat (l ++ [fresh x]) = flat l ++ (fresh x).cs := by rw [flat_append]; simp [flat]
  obtain ⟨r, kp⟩ := CacheAt.laid (E := 66) (B := B) (v' := .slice (some ⟨g2, 0, none⟩) (l.length + 1) cap2) (l' := l ++ [fresh x]) hh (by rw [hl, hf]; exact ho) (by decide) hC.lo
  refine ⟨hh, cell_of_row w2 g 1 _ 69 (0, 0) hh, frozen_of_row w2 g 1 _ 69 hh, _, r, ?_, fun k e => ?_⟩
  · have k1 : Kept w W1 (At g v) := Kept.fresh hW
    have k2 : Kept W1 (W1.alloc (.cells #[.int .i64 x, .int .i64 0, .bool false, .bool true] 66)) (At g v) := Kept.fresh ((Below.refl _ _).alloc (Nat.le_refl _) _)
    have k3 : Kept (W1.alloc (.cells #[.int .i64 x, .int .i64 0, .bool false, .bool true] 66)) w2 (At g v) := Kept.grown hgr (fun k e => .inl (.inr e))
    exact ((k1.trans k2 (fun _ q => .inl q)).trans k3 (fun _ q => .inl q)).trans kp (fun k e => .inl (.inl e))
  · have e' : g2 = k := by simpa [Value.ownBlock] using e
    subst e'
    rcases hor with h | h
    · exact .inl h
    · right; rw [h]; simp; omega
theorem del_end {B g b q : Nat} {v v5 : Value} {m : Int} {t t' : List H} {w3 w4 : World} (hC : CacheAt 69 66 B w3 g v m t) (hv : v.ownBlock = some b) (hgb : g ≠ b) (hr : w4.ownsRow B 66 4 v5 q (flat t')) (hq : t'.length = q) (hgr : w3.grownBy w4 (some b)) :
    w4.cell? ⟨g, 1, none⟩ = some v ∧ w4.frozen? ⟨g, 1, none⟩ = false ∧ CacheAt 69 66 B (w4.setCell ⟨g, 1, none⟩ v5) g v5 m t' ∧ Kept w3 (w4.setCell ⟨g, 1, none⟩ v5) (At g v) := by
  have hh : w4.heap[g]? = some (.cells #[.int .i64 m, v] 69 (0, 0)) := by
    rw [hgr.block g hC.glt (by simpa using hgb)]; exact hC.head
  obtain ⟨r, kp⟩ := CacheAt.laid (E := 66) (B := B) (v' := v5) (l' := t') hh (by rw [hq]; exact hr) (by decide) hC.lo
  refine ⟨cell_of_row w4 g 1 _ 69 (0, 0) hh, frozen_of_row w4 g 1 _ 69 hh, r, ?_⟩
  exact (Kept.grown hgr (S := At g v) (fun k e => .inl (.inr (by rw [hv, ← e])))).trans kp (fun k e => .inl (.inl e))
section
variable (B g M : Nat) (v : Value) (l : List H) (x : Int) (w : World)
set_option maxRecDepth 100000 in
theorem use_range (hx : x < 0 ∨ 96 ≤ x) : Calls Try.prog 14 #[.pointer (some ⟨g, 0, none⟩), .int .i64 x] w fun e w' => e = .returned (.tuple #[.int .i64 (-1), .int .i64 2]) ∧ w = w' := by
  by_cases h : x < 0
  · go_enter Try.func14, Try.ntmps14
    go_wp2
    go_ret2
    exact ⟨rfl, rfl⟩
  · have h2 : 96 ≤ x := by omega
    go_enter Try.func14, Try.ntmps14
    go_wp2
    go_ret2
    exact ⟨rfl, rfl⟩
set_option maxRecDepth 100000 in
theorem use_has (hC : CacheAt 69 66 B w g v M l) (hl : l.length ≤ 1000) (hx : ¬ (x < 0 ∨ 96 ≤ x)) (hh : has l x = true) :
    Calls Try.prog 14 #[.pointer (some ⟨g, 0, none⟩), .int .i64 x] w fun e w' => e = .returned (.tuple #[.int .i64 (-1), .int .i64 0]) ∧ Went 69 66 B w g v M (modH l (idx l x) H.on) w' := by
  have HF := Lib.hid (find_any B g v M l x w hC hl)
  rw [idxI_yes hh] at HF
  have HC := Lib.hid hC
  have hs := hC.slot
  have hg := hC.glt
  have hk := has_lt hh
  obtain ⟨b, cap, rfl, h1, h2, hb, hBb, c0, c1, c2, c3, cf⟩ := row_at hC.row hk
  have x0 : ¬ x < 0 := by omega
  have x1 : ¬ 96 ≤ x := by omega
  have hgb : g ≠ b := fun e => hC.apart (by rw [e]; rfl)
  clear hC hh hx
  generalize idx l x = k at *
  have hk0 : (0 : Int) ≤ (k : Int) := by omega
  have hki : (k : Int) < (l.length : Int) := by omega
  have Hfin : Hid (∀ w1, Below w.heap.size w w1 → Went 69 66 B w g (.slice (some ⟨b, 0, none⟩) l.length cap) M (modH l k H.on) (w1.setCell ⟨b, k * 4 + 3, none⟩ (.bool true))) := fun w1 hb1 => by
    obtain ⟨r, kp⟩ := (HC.out.fresh hb1).stored rfl hk H.on 3 (.bool true) (fun _ => rfl) (by omega)
    exact .same r ((Kept.fresh hb1).trans kp (fun _ q => .inl q))
  go_enter Try.func14, Try.ntmps14
  go_wp2_with (refine HF.out.mono ?_; rintro e w1 ⟨rfl, hb1⟩; obtain ⟨hcl, hfr⟩ := bcell hb1; have HB1 := Lib.hid hb1; clear hb1)
  go_ret2
  exact ⟨rfl, Hfin.out _ HB1.out⟩
set_option maxRecDepth 100000 in
set_option maxHeartbeats 1000000 in
theorem use_room (hC : CacheAt 69 66 B w g v M l) (hl : l.length ≤ 1000) (hx : ¬ (x < 0 ∨ 96 ≤ x)) (hh : has l x = false) (hlm : l.length < M) (hB : B ≤ w.heap.size) :
    Calls Try.prog 14 #[.pointer (some ⟨g, 0, none⟩), .int .i64 x] w fun e w' => e = .returned (.tuple #[.int .i64 (-1), .int .i64 0]) ∧ Went 69 66 B w g v M (l ++ [fresh x]) w' := by
  have HF := Lib.hid (find_any B g v M l x w hC hl)
  rw [idxI_no hh] at HF
  have HC := Lib.hid hC
  have hs := hC.slot
  have hm := hC.most
  have hg := hC.glt
  obtain ⟨i0, hi0, hz0, hz1, hz2⟩ := info_parts info66
  obtain ⟨A, cap, rfl, h1, h2⟩ := hC.form
  have x0 : ¬ x < 0 := by omega
  have x1 : ¬ 96 ≤ x := by omega
  have hne : ((l.length : Int) == (M : Int)) = false := by simp; omega
  have hne2 : (l.length == M) = false := by simp; omega
  clear hC hh hx
  go_enter Try.func14, Try.ntmps14
  go_wp2_with (refine HF.out.mono ?_; rintro e w1 ⟨rfl, hb1⟩; obtain ⟨hcl, hfr⟩ := bcell hb1; have hz := hb1.size; have HB1 := Lib.hid hb1; clear hb1)
  go_quiet (fail)
  have hW : Below w.heap.size w (w1.drewN nq) := ⟨HB1.out.os, HB1.out.tape, HB1.out.output, HB1.out.size, HB1.out.block⟩
  generalize w1.drewN nq = W1 at hW ⊢
  have hs1 := (HC.out.fresh hW).slot
  have hf1 := (HC.out.fresh hW).free 1
  have hg1 := (HC.out.fresh hW).glt
  have hz1' := hW.size
  have Happ := Lib.hid (app_one (v := .slice A l.length cap) hW HC.out hB x rfl rfl)
  clear hcl hfr hs hm
  go_wp2_with (at_builtin; refine wpList_append_lies _ rfl (.tmp 65) (.tmp 68) 67 rfl B 66 i0 zeroH 4 24 Try.underlying67 hi0 hz0 hz1 hz2 rfl (by decide) (.slice A l.length cap) l.length (flat l) rfl Happ.out.1 ⟨W1.heap.size, 0, none⟩ 1 1 (fresh x).cs rfl rfl Happ.out.2.1 (fresh_one x) (by omega) (by unfold maxLen; omega) (by omega) Happ.out.2.2 _ rfl ?_; intro g2 cap2 w2 ho2 hgr2 hor2 hlt2; have hq := app_end HC.out hW ho2 hgr2 hor2; obtain ⟨hh2, hs2, hf2, HE2⟩ := hq; have HE := Lib.hid HE2; clear ho2 hgr2 hor2 hlt2 hh2 HE2)
  go_ret2
  exact ⟨rfl, HE.out⟩
set_option maxRecDepth 100000 in
set_option maxHeartbeats 1000000 in
theorem use_full (hC : CacheAt 69 66 B w g v M l) (hl : l.length ≤ 1000) (hx : ¬ (x < 0 ∨ 96 ≤ x)) (hh : has l x = false) (hlm : l.length = M) (hno : l.any H.can = false) :
    Calls Try.prog 14 #[.pointer (some ⟨g, 0, none⟩), .int .i64 x] w fun e w' => e = .returned (.tuple #[.int .i64 (-1), .int .i64 11]) ∧ Went 69 66 B w g v M l w' := by
  have HF := Lib.hid (find_any B g v M l x w hC hl)
  rw [idxI_no hh] at HF
  have HC := Lib.hid hC
  have hs := hC.slot
  have hm := hC.most
  have hg := hC.glt
  obtain ⟨A, cap, rfl, h1, h2⟩ := hC.form
  have x0 : ¬ x < 0 := by omega
  have x1 : ¬ 96 ≤ x := by omega
  have HS : Hid (∀ W, Below w.heap.size w W → Calls Try.prog 36 #[.slice A l.length cap, .func (.func 37) #[] #[]] W fun e w' => e = .returned (.bool false) ∧ Below W.heap.size W w') := fun W hW => by
    have := some_any B _ l W (HC.out.fresh hW).row hl
    rwa [hno] at this
  clear hC hh hx hno
  subst hlm
  go_enter Try.func14, Try.ntmps14
  go_wp2_with (refine HF.out.mono ?_; rintro e w1 ⟨rfl, hb1⟩; obtain ⟨hcl, hfr⟩ := bcell hb1; have hz := hb1.size; have HB1 := Lib.hid hb1; clear hb1)
  go_quiet (fail)
  have hW : Below w.heap.size w (w1.drewN nq) := ⟨HB1.out.os, HB1.out.tape, HB1.out.output, HB1.out.size, HB1.out.block⟩
  generalize w1.drewN nq = W1 at hW ⊢
  have hs1 := (HC.out.fresh hW).slot
  have HW := Lib.hid hW
  clear hcl hfr hs hm hW
  go_wp2_with (refine (HS.out _ HW.out).mono ?_; rintro e w2 ⟨rfl, hb2⟩; have HB2 := Lib.hid hb2; clear hb2)
  go_ret2
  exact ⟨rfl, Went.fresh HC.out (HW.out.trans (HB2.out.mono HW.out.size))⟩
set_option maxRecDepth 100000 in
set_option maxHeartbeats 2000000 in
theorem use_turn (hC : CacheAt 69 66 B w g v M l) (hl : l.length ≤ 1000) (hx : ¬ (x < 0 ∨ 96 ≤ x)) (hh : has l x = false) (hlm : l.length = M) (hyes : l.any H.can = true) (hB : B ≤ w.heap.size) :
    Calls Try.prog 14 #[.pointer (some ⟨g, 0, none⟩), .int .i64 x] w fun e w' => e = .returned (.tuple #[.int .i64 (nthH (turned l) 0).b, .int .i64 0]) ∧ Went 69 66 B w g v M ((turned l).drop 1 ++ [fresh x]) w' := by
  have HF := Lib.hid (find_any B g v M l x w hC hl)
  rw [idxI_no hh] at HF
  have HC := Lib.hid hC
  have hs := hC.slot
  have hm := hC.most
  have hg := hC.glt
  obtain ⟨i0, hi0, hz0, hz1, hz2⟩ := info_parts info66
  have hpos := any_pos hyes
  obtain ⟨b, cap, rfl, h1, h2, hb, hBb, _⟩ := row_at hC.row hpos
  have hgb : g ≠ b := fun e => hC.apart (by rw [e]; rfl)
  have x0 : ¬ x < 0 := by omega
  have x1 : ¬ 96 ≤ x := by omega
  obtain ⟨q, hq⟩ : ∃ q, l.length = q + 1 := ⟨l.length - 1, by omega⟩
  have HS : Hid (∀ W, Below w.heap.size w W → Calls Try.prog 36 #[.slice (some ⟨b, 0, none⟩) l.length cap, .func (.func 37) #[] #[]] W fun e w' => e = .returned (.bool true) ∧ Below W.heap.size W w') := fun W hW => by
    have := some_any B _ l W (HC.out.fresh hW).row hl
    rwa [hyes] at this
  have HT : Hid (∀ W, Below w.heap.size w W → Calls Try.prog 39 #[.pointer (some ⟨g, 0, none⟩), .func (.func 40) #[] #[]] W fun e w' => e = .returned (.tuple #[]) ∧ CacheAt 69 66 B w' g (.slice (some ⟨b, 0, none⟩) l.length cap) M (turned l) ∧ Kept W w' (At g (.slice (some ⟨b, 0, none⟩) l.length cap))) := fun W hW => by
    have := turn_any B g b cap q M l W (by rw [← hq]; exact HC.out.fresh hW) hq.symm hyes (by omega) (by have := hW.size; omega)
    rwa [← hq] at this
  have hlt : (turned l).length = l.length := length_turned l
  have HD : Hid (∀ W, CacheAt 69 66 B W g (.slice (some ⟨b, 0, none⟩) l.length cap) M (turned l) → Calls Try.prog 41 #[.slice (some ⟨b, 0, none⟩) l.length cap, .int .i64 0, .int .i64 1] W fun e w' => e = .returned (.slice (some ⟨b, 0, none⟩) q cap) ∧
      w'.ownsRow B 66 4 (.slice (some ⟨b, 0, none⟩) q cap) q (flat ((turned l).drop 1)) ∧ W.grownBy w' (some b)) := fun W hW => by
    have h0 := hW.row
    rw [hlt] at h0
    have := delete_any B b cap l.length 0 1 q 0 1 (turned l) W h0 hlt.symm hpos hl rfl hq rfl rfl
    rwa [List.eraseIdx_zero, ← List.drop_one] at this
  have hdl : ((turned l).drop 1).length = q := by rw [List.length_drop, hlt]; omega
  have Hdl := Lib.hid hdl
  have Hlt := Lib.hid hlt
  have hq1 : q + 1 ≤ 1000 := by omega
  have heq : ((l.length : Int) == (M : Int)) = true := by simp [hlm]
  clear hC hh hx hyes hq hdl hlt
  subst hlm
  go_enter Try.func14, Try.ntmps14
  go_wp2_with (refine HF.out.mono ?_; rintro e w1 ⟨rfl, hb1⟩; obtain ⟨hcl, hfr⟩ := bcell hb1; have hz := hb1.size; have HB1 := Lib.hid hb1; clear hb1)
  go_quiet (fail)
  have hW : Below w.heap.size w (w1.drewN nq) := ⟨HB1.out.os, HB1.out.tape, HB1.out.output, HB1.out.size, HB1.out.block⟩
  generalize w1.drewN nq = W1 at hW ⊢
  have hs1 := (HC.out.fresh hW).slot
  have HW := Lib.hid hW
  clear hcl hfr hs hm hW heq
  go_wp2_with (first
    | (go_at_call 36; refine (HS.out _ HW.out).mono ?_; rintro e w2 ⟨rfl, hb2⟩; have HW2 := Lib.hid (HW.out.trans (hb2.mono HW.out.size)); clear hb2)
    | (go_at_call 39; refine (HT.out _ HW2.out).mono ?_; rintro e w3 ⟨rfl, hC3, hK3⟩; have hs3 := hC3.slot; obtain ⟨c0, _⟩ := row_at0 (show w3.ownsRow B 66 4 (.slice (some ⟨b, 0, none⟩) l.length cap) l.length (flat (turned l)) from by have := hC3.row; rwa [Hlt.out] at this) Hlt.out.symm hpos; have HC3 := Lib.hid hC3; have HK3 := Lib.hid ((Kept.fresh HW2.out : Kept w w2 (At g (.slice (some ⟨b, 0, none⟩) l.length cap))).trans hK3 (fun _ q => .inl q)); clear hC3 hK3)
    | (go_at_call 41; refine (HD.out _ HC3.out).mono ?_; rintro e w4 ⟨rfl, hr4, hgr4⟩; obtain ⟨hs4, hf4, hC5, hK5⟩ := del_end HC3.out rfl hgb hr4 Hdl.out hgr4; have hg5 := hC5.glt; have HC5 := Lib.hid hC5; have HK5 := Lib.hid (HK3.out.trans hK5 (fun _ q => .inl q)); have Happ := Lib.hid (app_one (Below.refl _ _) hC5 (Nat.le_trans hB HK5.out.size) x Hdl.out (N := w4.heap.size) (by simp)); clear hr4 hgr4 hC5 hK5)
    | (at_builtin; refine wpList_append_lies _ rfl (.tmp 65) (.tmp 68) 67 rfl B 66 i0 zeroH 4 24 Try.underlying67 hi0 hz0 hz1 hz2 rfl (by decide) (.slice (some ⟨b, 0, none⟩) q cap) q (flat ((turned l).drop 1)) rfl Happ.out.1 ⟨w4.heap.size, 0, none⟩ 1 1 (fresh x).cs rfl rfl Happ.out.2.1 (fresh_one x) (by omega) (by unfold maxLen; omega) (by omega) Happ.out.2.2 _ rfl ?_; intro g2 cap2 w6 ho6 hgr6 hor6 hlt6; have hq := app_end HC5.out (Below.refl _ _) (by rw [Hdl.out]; exact ho6) hgr6 hor6; rw [Hdl.out] at hq; obtain ⟨_, hs6, hf6, HE6⟩ := hq; have HE := Lib.hid HE6; clear ho6 hgr6 hor6 hlt6 HE6))
  go_ret2
  refine ⟨rfl, ?_⟩
  obtain ⟨v', r1, r2, r3⟩ := HE.out
  refine ⟨v', r1, HK5.out.trans r2 (fun k q => .inl q), fun k e => ?_⟩
  rcases r3 k e with h | h
  · exact .inl h
  · exact .inr (Nat.le_trans HK5.out.size h)
/-- Use, whatever is asked -/
theorem use_any (hC : CacheAt 69 66 B w g v M l) (hl : l.length ≤ M) (hM : M ≤ 96) (hB : B ≤ w.heap.size) :
    Calls Try.prog 14 #[.pointer (some ⟨g, 0, none⟩), .int .i64 x] w fun e w' => e = .returned (.tuple #[.int .i64 (useG M l x), .int .i64 (useE M l x)]) ∧ Went 69 66 B w g v M (useL M l x) w' := by
  by_cases hx : x < 0 ∨ 96 ≤ x
  · refine (use_range g x w hx).mono ?_
    rintro e w' ⟨rfl, rfl⟩
    exact ⟨by simp [useG, useE, hx], by simp only [useL, hx, if_true]; exact .same hC (Kept.refl _ _)⟩
  · cases hh : has l x with
    | true =>
      refine (use_has B g M v l x w hC (by omega) hx hh).mono ?_
      rintro e w' ⟨rfl, h⟩
      exact ⟨by simp [useG, useE, hx, hh], by simp only [useL, hx, hh, if_true, if_false]; exact h⟩
    | false =>
      by_cases hlm : l.length < M
      · refine (use_room B g M v l x w hC (by omega) hx hh hlm hB).mono ?_
        rintro e w' ⟨rfl, h⟩
        exact ⟨by simp [useG, useE, hx, hh, hlm], by simp only [useL, hx, hh, hlm, if_true, if_false, Bool.false_eq_true]; exact h⟩
      · have hlm' : l.length = M := by omega
        cases hc : l.any H.can with
        | true =>
          refine (use_turn B g M v l x w hC (by omega) hx hh hlm' hc hB).mono ?_
          rintro e w' ⟨rfl, h⟩
          exact ⟨by simp [useG, useE, hx, hh, hlm, hc], by simp only [useL, hx, hh, hlm, hc, if_true, if_false, Bool.false_eq_true]; exact h⟩
        | false =>
          refine (use_full B g M v l x w hC (by omega) hx hh hlm' hc).mono ?_
          rintro e w' ⟨rfl, h⟩
          exact ⟨by simp [useG, useE, hx, hh, hlm, hc], by simp only [useL, hx, hh, hlm, hc, if_false, Bool.false_eq_true]; exact h⟩
end
end Go.Proofs.Ythibnnllecdpaaa
