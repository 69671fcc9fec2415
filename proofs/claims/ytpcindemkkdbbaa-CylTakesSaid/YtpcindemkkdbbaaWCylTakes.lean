/- CylTakes: the walk of the law's text. -/
import Derived.Test.YtpcindemkkdbbaaCG
import Derived.Test.YtpcindemkkdbbaaCH
import Derived.Test.YtpcindemkkdbbaaRI
import Derived.Test.YtpcindemkkdbbaaGW
import Derived.Test.YtpcindemkkdbbaaOQ
import Derived.Deep.RegionHeld3
import Derived.Deep.Cut
import Derived.Deep.CutRange
namespace Go.Proofs.Ytpcindemkkdbbaa.cylTakes
set_option linter.unusedVariables false
set_option linter.unusedSimpArgs false
open Go.RowKit

theorem set2_heap {W : World} {g : Nat} {t : TypeId} {x0 x1 v0 v1 : Value} (h : W.heap[g]? = some (.cells #[x0, x1] t (0, 0))) : ((W.setCell ⟨g, 0, none⟩ v0).setCell ⟨g, 1, none⟩ v1).heap[g]? = some (.cells #[v0, v1] t (0, 0)) := by
  have h0 := set_heap h (o := 0) v0
  simp only [List.setIfInBounds_toArray, List.set_cons_succ, List.set_cons_zero] at h0
  have h1 := set_heap h0 (o := 1) v1
  simp only [List.setIfInBounds_toArray, List.set_cons_succ, List.set_cons_zero] at h1
  exact h1
theorem set2_kept {W : World} {g : Nat} {v0 v1 : Value} : Kept W ((W.setCell ⟨g, 0, none⟩ v0).setCell ⟨g, 1, none⟩ v1) (fun b => b = g) := ((Kept.refl W (fun b => b = g)).set (.inl rfl)).set (.inl rfl)
theorem nil_small : SmallL [] := ⟨by simp, fun j hj => by simp at hj⟩
theorem set_small {l : List Cy} (h : SmallL l) (g : Nat) {x : Cy} (hx : SmallC x) : SmallL (l.set g x) := by
  refine ⟨by rw [List.length_set]; exact h.1, fun j hj => ?_⟩
  rw [List.length_set] at hj
  by_cases hg : g < l.length
  · rw [cyN_set hg]
    split
    · exact hx
    · exact h.2 j hj
  · rw [List.set_eq_of_length_le (by omega)]; exact h.2 j hj
theorem takeL_small {l : List Cy} (h : SmallL l) (a b : Int) : SmallL (takeL l a b).l := by
  unfold takeL
  split
  · rename_i hW
    split
    · unfold takeG
      split
      · rename_i g b' he
        by_cases hg : g < l.length
        · refine set_small h g ⟨?_, (h.2 g hg).2⟩
          have hR := ((wholeL_iff l).1 hW).ok g hg
          have := rise_len hR.us (by have := hR.bl.1; omega)
          have := hR.bl.2
          show (withI (cyN l g).us _).length ≤ 1000
          rw [length_withI]; omega
        · show SmallL (l.set g _)
          rw [List.set_eq_of_length_le (by omega)]; exact h
      · exact nil_small
    · exact nil_small
  · exact nil_small
theorem giveL_small {l : List Cy} (h : SmallL l) (a b : Int) : SmallL (giveL l a b).l := by
  unfold giveL
  split
  · split
    · split
      · by_cases hg : a.toNat < l.length
        · refine set_small h _ ⟨?_, (h.2 _ hg).2⟩
          have := withoutI_len (cyN l a.toNat).us b
          have := (h.2 _ hg).1
          show (withoutI (cyN l a.toNat).us b).length ≤ 1000
          omega
        · show SmallL (l.set _ _)
          rw [List.set_eq_of_length_le (by omega)]; exact h
      · exact nil_small
    · exact nil_small
  · exact nil_small
theorem two {W : World} {g : Nat} {t : TypeId} {x0 x1 : Value} (h : W.heap[g]? = some (.cells #[x0, x1] t (0, 0))) : W.cell? ⟨g, 0, none⟩ = some x0 ∧ W.cell? ⟨g, 1, none⟩ = some x1 := by
  refine ⟨?_, ?_⟩ <;> rw [cellAt_of h] <;> rfl
set_option maxRecDepth 100000 in
set_option maxHeartbeats 8000000 in
theorem walk (A : Option Addr) (n c : Nat) (l : List Cy) (x y : Int) (w : World) (hl : l.length = n ∧ (n ≤ c ∧ c ≤ maxLen) ∧ CylsIn w A l) :
    Calls Try.prog 4 #[.slice A n c, .agg #[.int .i64 x, .int .i64 y]] w fun e w' => e = .returned (.bool true) ∧ Below w.heap.size w w' := by
  obtain ⟨hln, hcc, hlI⟩ := hl
  have HFew : Hid (∀ W, Below w.heap.size w W → Calls Try.prog 25 #[.slice A n c] W (SetSays W (fewC l))) := fun W hB => few_any A c n l hln.symm W hcc (hlI.next hB)
  have HTa : Hid (∀ W A' c', Cyls W W.heap.size A' (fewC l) → Calls Try.prog 26 #[.slice A' (fewC l).length c', .agg #[.int .i64 x, .int .i64 y]] W fun e w' => ∃ A c, e = .returned (.tuple #[.slice A (takeL (fewC l) x y).l.length c, .agg #[.int .i64 (takeL (fewC l) x y).g, .int .i64 (takeL (fewC l) x y).b], .int .i64 (takeL (fewC l) x y).e]) ∧ Cyls w' w'.heap.size A (takeL (fewC l) x y).l ∧ Below W.heap.size W w') := fun W A' c' h => (take_any A' c' _ (fewC l) x y rfl W (fewC_small l) h).mono fun e w' ⟨A, c, he, hg, hB⟩ => ⟨A, c, he, hg.cyls, hB⟩
  have HTr : Hid (∀ W A' c', Cyls W W.heap.size A' (fewC l) → Calls Try.prog 27 #[.slice A' (fewC l).length c', .agg #[.int .i64 x, .int .i64 y]] W fun e w' => ∃ A c, e = .returned (.tuple #[.slice A (takeL (fewC l) x y).l.length c, .agg #[.int .i64 (takeL (fewC l) x y).g, .int .i64 (takeL (fewC l) x y).b], .int .i64 (takeL (fewC l) x y).e]) ∧ (∀ w2, Kept w' w2 (fun b => b < W.heap.size) → Cyls w2 w2.heap.size A (takeL (fewC l) x y).l) ∧ Below W.heap.size W w') := fun W A' c' h => reftake_any A' c' _ (fewC l) x y rfl W (fewC_small l) h
  have HGa : Hid (∀ W A' c', Cyls W W.heap.size A' (fewC l) → Calls Try.prog 28 #[.slice A' (fewC l).length c', .agg #[.int .i64 x, .int .i64 y]] W fun e w' => ∃ A c, e = .returned (.tuple #[.slice A (giveL (fewC l) x y).l.length c, .int .i64 (giveL (fewC l) x y).e]) ∧ Cyls w' w'.heap.size A (giveL (fewC l) x y).l ∧ Below W.heap.size W w') := fun W A' c' h => (give_any A' c' _ (fewC l) x y rfl W (fewC_small l) h).mono fun e w' ⟨A, c, he, hg, hB⟩ => ⟨A, c, he, hg.cyls, hB⟩
  have HGr : Hid (∀ W A' c', Cyls W W.heap.size A' (fewC l) → Calls Try.prog 29 #[.slice A' (fewC l).length c', .agg #[.int .i64 x, .int .i64 y]] W fun e w' => ∃ A c, e = .returned (.tuple #[.slice A (giveL (fewC l) x y).l.length c, .int .i64 (giveL (fewC l) x y).e]) ∧ Cyls w' w'.heap.size A (giveL (fewC l) x y).l ∧ Below W.heap.size W w') := fun W A' c' h => refgive_any A' c' _ (fewC l) x y rfl W (fewC_small l) h
  have HWh : Hid (∀ W A' c', Cyls W W.heap.size A' (fewC l) → Calls Try.prog 31 #[.slice A' (fewC l).length c'] W fun e w' => e = .returned (.bool (wholeL (fewC l))) ∧ Below W.heap.size W w') := fun W A' c' h => whole_any A' c' _ (fewC l) rfl W (fewC_small l) h
  have HWr : Hid (∀ W A' c', Cyls W W.heap.size A' (fewC l) → Calls Try.prog 32 #[.slice A' (fewC l).length c'] W fun e w' => e = .returned (.bool (wholeL (fewC l))) ∧ Below W.heap.size W w') := fun W A' c' h => refwhole_any A' c' _ (fewC l) rfl W (fewC_small l) h
  have HLv : Hid (∀ W, Calls Try.prog 21 #[] W fun e w' => e = .returned (.bool true) ∧ Below W.heap.size W w') := fun W => live_any W
  have sm : ∀ q : List Cy, SmallL q → ∀ W A' c' B' d', Cyls W W.heap.size A' q → Cyls W W.heap.size B' q → Calls Try.prog 30 #[.slice A' q.length c', .slice B' q.length d'] W fun e w' => e = .returned (.bool true) ∧ Below W.heap.size W w' := fun q hq W A' c' B' d' h1 h2 => by
    have := sameall_any A' c' _ q B' d' _ q rfl rfl W hq hq h1 h2
    rw [sameL_iff.2 rfl] at this; exact this
  have HSl := Lib.hid (sm (fewC l) (fewC_small l))
  have HSt := Lib.hid (sm (takeL (fewC l) x y).l (takeL_small (fewC_small l) x y))
  have HSg := Lib.hid (sm (giveL (fewC l) x y).l (giveL_small (fewC_small l) x y))
  generalize giveL (fewC l) x y = G at HGa HGr HSg
  generalize takeL (fewC l) x y = T at HTa HTr HSt
  obtain ⟨L, hL⟩ : ∃ L, L = fewC l := ⟨_, rfl⟩
  rw [← hL] at HFew HTa HTr HGa HGr HWh HWr HSl
  generalize wholeL L = wl at HWh HWr
  obtain ⟨tl, tg, tb, te⟩ := T
  obtain ⟨gl, _, _, ge⟩ := G
  simp only at HTa HTr HGa HGr HSt HSg
  obtain ⟨Q, hQ⟩ : ∃ Q : Ending → World → Prop, Q = fun e w' => e = .returned (.bool true) ∧ Below w.heap.size w w' := ⟨_, rfl⟩
  have HQ : Hid (∀ w', Below w.heap.size w w' → Q (.returned (.bool true)) w') := by unfold Hid; rw [hQ]; exact fun w' h => ⟨rfl, h⟩
  rw [← hQ]
  clear hQ hL hln hcc hlI sm
  go_enter Try.func4, Try.ntmps4
  go_wp2_with fail
  refine (HFew.out _ ((Below.refl _ w).alloc (Nat.le_refl _) _)).mono ?_
  rintro e w1 ⟨A1, c1, rfl, hC1, hB1⟩
  have h01 := (hB1.block w.heap.size (by simp)).trans (Go.heap_alloc_new w (.cells #[.int .i64 x, .int .i64 y] 41))
  have HB1 : Hid (Below w.heap.size w w1) := ((Below.refl _ w).alloc (Nat.le_refl _) _).trans (hB1.mono (by simp))
  have hz1 : w.heap.size < w1.heap.size := lt_heap h01
  obtain ⟨e0, e1⟩ := two h01
  clear hB1
  go_wp2_with fail
  refine (HTa.out _ _ _ hC1).mono ?_
  rintro e w2 ⟨A6, c6, rfl, hC6, hB2⟩
  have h02 := (hB2.block w.heap.size hz1).trans h01
  have hC2 := hC1.next hB2
  have HB2 : Hid (Below w.heap.size w w2) := HB1.out.trans (hB2.mono HB1.out.size)
  have hz2 : w.heap.size < w2.heap.size := lt_heap h02
  have HN2 : Hid (Below w2.heap.size w2 (w2.alloc (.cells #[.int .i64 tg, .int .i64 tb] 41))) := (Below.refl _ w2).alloc (Nat.le_refl _) _
  have H03 : Hid ((w2.alloc (.cells #[.int .i64 tg, .int .i64 tb] 41)).heap[w.heap.size]? = some (.cells #[.int .i64 x, .int .i64 y] 41 (0, 0))) := (HN2.out.block _ hz2).trans h02
  have H73 : Hid ((w2.alloc (.cells #[.int .i64 tg, .int .i64 tb] 41)).heap[w2.heap.size]? = some (.cells #[.int .i64 tg, .int .i64 tb] 41 (0, 0))) := Go.heap_alloc_new w2 _
  have HC3 := Lib.hid (hC2.next HN2.out)
  have HD3 := Lib.hid (hC6.next HN2.out)
  have HB3 : Hid (Below w.heap.size w (w2.alloc (.cells #[.int .i64 tg, .int .i64 tb] 41))) := HB2.out.trans (HN2.out.mono HB2.out.size)
  clear hC1 hC2 hC6 hB2 h01 h02 e0 e1
  go_upto_region 3 with fail
  generalize w2.alloc (.cells #[.int .i64 tg, .int .i64 tb] 41) = w3 at H03 H73 HC3 HD3 HB3 ⊢
  have hz3 : w.heap.size < w3.heap.size := lt_heap H03.out
  have HD1 : Hid (∀ o, ((w3.alloc o).drew).heap[w.heap.size]? = some (.cells #[.int .i64 x, .int .i64 y] 41 (0, 0))) := fun o => (Below.heap_alloc w3 o _ hz3).trans H03.out
  have X3 : Hid (w3.cell? ⟨w.heap.size, 0, none⟩ = some (.int .i64 x) ∧ w3.cell? ⟨w.heap.size, 1, none⟩ = some (.int .i64 y)) := two H03.out
  have HF3 : Hid (∀ W, Below w3.heap.size w3 W → Calls Try.prog 25 #[.slice A n c] W fun e w' => ∃ A c, e = .returned (.slice A L.length c) ∧ Cyls w' w'.heap.size A L ∧ Below w3.heap.size w3 w' ∧ Below W.heap.size W w') := fun W hW => (HFew.out W (HB3.out.trans (hW.mono HB3.out.size))).mono fun e w' ⟨A, c, he, h1, hB⟩ => ⟨A, c, he, h1, hW.trans (hB.mono hW.size), hB⟩
  go_cut [9, 10, 11] from 25 (fun s9 s10 s11 wx => ∃ (A9 : Option Addr) (c9 g10 : Nat), s9 = .slice A9 tl.length c9 ∧ s10 = .pointer (some ⟨g10, 0, none⟩) ∧ s11 = .int .i64 te ∧ wx.heap[g10]? = some (.cells #[.int .i64 tg, .int .i64 tb] 41 (0, 0)) ∧ Cyls wx wx.heap.size A9 tl ∧ Below w3.heap.size w3 wx)
  case first =>
    go_region_held3 (fun W => W.cell? ⟨w.heap.size, 0, none⟩ = some (.int .i64 x) ∧ W.cell? ⟨w.heap.size, 1, none⟩ = some (.int .i64 y)) (first | exact X3.out | (with_reducible exact two (HD1.out _)) | (with_reducible exact two H4.out) | (with_reducible exact two ((Below.heap_alloc w4 _ _ hz4).trans H4.out)) | (with_reducible exact two H5.out) | (with_reducible exact two ((Below.heap_alloc w5 _ _ hz5).trans H5.out)) | (with_reducible exact two ((set_other (by omega) _).trans ((set_other (by omega) _).trans H5.out))) | go_keep)
      (first | (go_at_call 25; (with_reducible refine (HF3.out _ (Below.refl _ w3).drew).mono ?_); rintro e w4 ⟨A4, c4, rfl, hC4, hB34, hB4⟩; have H4 := Lib.hid ((hB34.block w.heap.size hz3).trans H03.out); have hz4 : w.heap.size < w4.heap.size := lt_heap H4.out; have HB34 := Lib.hid hB34; have HC4 := Lib.hid hC4; clear hC4 hB34 hB4) | (go_at_call 25; (with_reducible refine (HF3.out _ ((Below.refl _ w3).alloc (Nat.le_refl _) _).drew).mono ?_); rintro e w4 ⟨A4, c4, rfl, hC4, hB34, hB4⟩; have H4 := Lib.hid ((hB34.block w.heap.size hz3).trans H03.out); have hz4 : w.heap.size < w4.heap.size := lt_heap H4.out; have HB34 := Lib.hid hB34; have HC4 := Lib.hid hC4; have hsz1 : ((w3.alloc (.cells #[.int .i64 0, .int .i64 0] 41)).drew).heap.size = w3.heap.size + 1 := (by show (w3.alloc _).heap.size = _; simp); have K1 : Hid (w4.heap[w3.heap.size]? = some (.cells #[.int .i64 0, .int .i64 0] 41)) := (hB4.block w3.heap.size (by rw [hsz1]; omega)).trans (Go.heap_alloc_new w3 _); have lk := lt_heap K1.out; clear hC4 hB34 hB4) | (go_at_call 27; (with_reducible refine (HTr.out w4 A4 c4 HC4.out).mono ?_); rintro e w5 ⟨A9, c9, rfl, hC9, hB5⟩; have hB5w : Below w3.heap.size w3 w5 := HB34.out.trans (hB5.mono HB34.out.size); (first | (have y1 : w5.heap[w3.heap.size]? = some (.cells #[.int .i64 0, .int .i64 0] 41) := (hB5.block _ lk).trans K1.out; have k0 := cellAt_of y1 0; have k1 := cellAt_of y1 1; simp only [List.getElem?_toArray, List.getElem?_cons_zero, List.getElem?_cons_succ] at k0 k1; have f0 := frozen_of_row w5 _ 0 _ 41 y1; have f1 := frozen_of_row w5 _ 1 _ 41 y1; have Y1 := Lib.hid y1; have ly1 := lt_heap y1; clear y1) | skip); have HB5 := Lib.hid hB5w; have H5 := Lib.hid ((hB5w.block w.heap.size hz3).trans H03.out); have hz5 : w.heap.size < w5.heap.size := lt_heap H5.out; have HC9 := Lib.hid hC9; clear hC9 hB5 hB5w) | (go_at_call 27; (with_reducible refine (HTr.out (w4.alloc _) A4 c4 (HC4.out.next ((Below.refl _ w4).alloc (Nat.le_refl _) _))).mono ?_); rintro e w5 ⟨A9, c9, rfl, hC9, hB5⟩; have hB5w : Below w3.heap.size w3 w5 := (HB34.out.alloc HB34.out.size _).trans (hB5.mono (by have := HB34.out.size; simp; omega)); have y1 : w5.heap[w4.heap.size]? = some (.cells #[.int .i64 0, .int .i64 0] 41) := (hB5.block w4.heap.size (by simp)).trans (Go.heap_alloc_new w4 _); have k0 := cellAt_of y1 0; have k1 := cellAt_of y1 1; simp only [List.getElem?_toArray, List.getElem?_cons_zero, List.getElem?_cons_succ] at k0 k1; have f0 := frozen_of_row w5 _ 0 _ 41 y1; have f1 := frozen_of_row w5 _ 1 _ 41 y1; have Y1 := Lib.hid y1; have ly1 := lt_heap y1; have hsa : (w4.alloc (.cells #[.int .i64 0, .int .i64 0] 41)).heap.size = w4.heap.size + 1 := (by simp); have hz34 := HB34.out.size; clear y1; have HB5 := Lib.hid hB5w; have H5 := Lib.hid ((hB5w.block w.heap.size hz3).trans H03.out); have hz5 : w.heap.size < w5.heap.size := lt_heap H5.out; have HC9 := Lib.hid hC9; clear hC9 hB5 hB5w))
    · go_wp2_with fail
      go_meet
      exact ⟨A9, c9, _, rfl, rfl, rfl, Go.heap_alloc_new w5 _, HC9.out _ (Kept.fresh ((Below.refl _ w5).alloc (Nat.le_refl _) _)), HB5.out.alloc HB5.out.size _⟩
    · go_wp2_with fail
      go_meet
      exact ⟨A9, c9, _, rfl, rfl, rfl, set2_heap Y1.out, HC9.out _ (set2_kept.more (fun b q => .inl (by have q' : b = w4.heap.size := q; show b < (w4.alloc _).heap.size; rw [World.size_alloc]; omega))), HB5.out.trans (set2_kept.below (fun b q => by have q' : b = w4.heap.size := q; have := HB34.out.size; omega) HB5.out.size)⟩
    · go_wp2_with fail
      go_meet
      exact ⟨A9, c9, _, rfl, rfl, rfl, set2_heap Y1.out, HC9.out _ (set2_kept.more (fun b q => .inl (by have q' : b = w3.heap.size := q; show b < w4.heap.size; omega))), HB5.out.trans (set2_kept.below (fun b q => by have q' : b = w3.heap.size := q; omega) HB5.out.size)⟩
  case rest =>
    obtain ⟨A9, c9, g10, rfl, rfl, rfl, h10, hC9, hB⟩ := hcut
    have h0c := (hB.block _ hz3).trans H03.out
    have h7c := (hB.block w2.heap.size (lt_heap H73.out)).trans H73.out
    obtain ⟨e0, e1⟩ := two h0c
    have HC := Lib.hid (HC3.out.next hB)
    have HD := Lib.hid (HD3.out.next hB)
    have HE := Lib.hid hC9
    have HBc : Hid (Below w.heap.size w wc) := HB3.out.trans (hB.mono HB3.out.size)
    have H0 := Lib.hid h0c
    have H7 := Lib.hid h7c
    have H10 := Lib.hid h10
    clear hB hC9 h0c h7c h10 HF3 X3 H03 H73 HC3 HD3 HB3
    go_wp2_with fail
    refine (HGa.out _ _ _ HC.out).mono ?_
    rintro e w6 ⟨A12, c12, rfl, hC12, hB6⟩
    have H06 := Lib.hid ((hB6.block _ (lt_heap H0.out)).trans H0.out)
    have H76 := Lib.hid ((hB6.block _ (lt_heap H7.out)).trans H7.out)
    have H106 := Lib.hid ((hB6.block _ (lt_heap H10.out)).trans H10.out)
    have HC6 := Lib.hid (HC.out.next hB6)
    have HD6 := Lib.hid (HD.out.next hB6)
    have HE6 := Lib.hid (HE.out.next hB6)
    have HG6 := Lib.hid hC12
    have HB6 : Hid (Below w.heap.size w w6) := HBc.out.trans (hB6.mono HBc.out.size)
    have hz6 : w.heap.size < w6.heap.size := lt_heap H06.out
    have X6 : Hid (w6.cell? ⟨w.heap.size, 0, none⟩ = some (.int .i64 x) ∧ w6.cell? ⟨w.heap.size, 1, none⟩ = some (.int .i64 y)) := two H06.out
    clear hC12 hB6 e0 e1 HC HD HE H0 H7 H10
    go_wp2_with fail
    go_region_held3 (fun W => W.cell? ⟨w.heap.size, 0, none⟩ = some (.int .i64 x) ∧ W.cell? ⟨w.heap.size, 1, none⟩ = some (.int .i64 y)) (first | exact X6.out | (with_reducible exact two H07.out) | (with_reducible exact two H08.out) | go_keep)
      (first | (go_at_call 25; (with_reducible refine (HFew.out _ HB6.out.drew).mono ?_); rintro e w7 ⟨A13, c13, rfl, hC13, hB7⟩; have hB67 : Below w6.heap.size w6 w7 := ⟨hB7.os, hB7.tape, hB7.output, hB7.size, hB7.block⟩; have H07 := Lib.hid ((hB67.block _ hz6).trans H06.out); have HB67 := Lib.hid hB67; have HF7 := Lib.hid hC13; clear hC13 hB7 hB67) | (go_at_call 29; (with_reducible refine (HGr.out _ _ _ HF7.out).mono ?_); rintro e w8 ⟨A14, c14, rfl, hC14, hB8⟩; have hB68 : Below w6.heap.size w6 w8 := HB67.out.trans (hB8.mono HB67.out.size); have H08 := Lib.hid ((hB68.block _ hz6).trans H06.out); have HB68 := Lib.hid hB68; have HI8 := Lib.hid hC14; clear hC14 hB8 hB68))
    all_goals
      have H78 := Lib.hid ((HB68.out.block _ (lt_heap H76.out)).trans H76.out)
      have H108 := Lib.hid ((HB68.out.block _ (lt_heap H106.out)).trans H106.out)
      have HC8 := Lib.hid (HC6.out.next HB68.out)
      have HD8 := Lib.hid (HD6.out.next HB68.out)
      have HE8 := Lib.hid (HE6.out.next HB68.out)
      have HG8 := Lib.hid (HG6.out.next HB68.out)
      have HB8 : Hid (Below w.heap.size w w8) := HB6.out.trans (HB68.out.mono HB6.out.size)
      clear H76 H106 HC6 HD6 HE6 HG6 HF7 X6 H06 H07
      go_wp2_with fail
      refine (HLv.out _).mono ?_
      rintro e w9 ⟨rfl, hB9⟩
      have HZ9 := Lib.hid hB9
      clear hB9
      go_wp2_with fail
      refine (HSt.out _ _ _ _ _ (HD8.out.next HZ9.out) (HE8.out.next HZ9.out)).mono ?_
      rintro e w10 ⟨rfl, hB10⟩
      have HZ10 := Lib.hid (HZ9.out.trans (hB10.mono HZ9.out.size))
      obtain ⟨k0, k1⟩ := two ((HZ10.out.block _ (lt_heap H78.out)).trans H78.out)
      obtain ⟨k2, k3⟩ := two ((HZ10.out.block _ (lt_heap H108.out)).trans H108.out)
      clear hB10
      go_wp2_with fail
      refine (HSg.out _ _ _ _ _ (HG8.out.next HZ10.out) (HI8.out.next HZ10.out)).mono ?_
      rintro e w11 ⟨rfl, hB11⟩
      have HZ11 := Lib.hid (HZ10.out.trans (hB11.mono HZ10.out.size))
      clear hB11 k0 k1 k2 k3
      go_wp2_with fail
      refine (HFew.out _ (HB8.out.trans (HZ11.out.mono HB8.out.size))).mono ?_
      rintro e w12 ⟨A15, c15, rfl, hC15, hB12⟩
      have HZ12 := Lib.hid (HZ11.out.trans (hB12.mono HZ11.out.size))
      have HJ := Lib.hid hC15
      clear hB12 hC15
      go_wp2_with fail
      refine (HSl.out _ _ _ _ _ (HC8.out.next HZ12.out) HJ.out).mono ?_
      rintro e w13 ⟨rfl, hB13⟩
      have HZ13 := Lib.hid (HZ12.out.trans (hB13.mono HZ12.out.size))
      clear hB13
      go_wp2_with fail
      refine (HWh.out _ _ _ (HC8.out.next HZ13.out)).mono ?_
      rintro e w14 ⟨rfl, hB14⟩
      have HZ14 := Lib.hid (HZ13.out.trans (hB14.mono HZ13.out.size))
      clear hB14
      go_wp2_with fail
      refine (HFew.out _ (HB8.out.trans (HZ14.out.mono HB8.out.size))).mono ?_
      rintro e w15 ⟨A16, c16, rfl, hC16, hB15⟩
      have HZ15 := Lib.hid (HZ14.out.trans (hB15.mono HZ14.out.size))
      have HK := Lib.hid hC16
      clear hB15 hC16
      go_wp2_with fail
      refine (HWr.out _ _ _ HK.out).mono ?_
      rintro e w16 ⟨rfl, hB16⟩
      have HZ16 := Lib.hid (HZ15.out.trans (hB16.mono HZ15.out.size))
      clear hB16
      go_wp2_with fail
      exact HQ.out _ (HB8.out.trans (HZ16.out.mono HB8.out.size))
end Go.Proofs.Ytpcindemkkdbbaa.cylTakes
