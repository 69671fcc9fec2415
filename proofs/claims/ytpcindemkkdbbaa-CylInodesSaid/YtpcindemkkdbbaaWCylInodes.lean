/- CylInodes: the walk of the law's text. -/
import Derived.Test.YtpcindemkkdbbaaCG
import Derived.Test.YtpcindemkkdbbaaCH
import Derived.Test.YtpcindemkkdbbaaFX
import Derived.Test.YtpcindemkkdbbaaFY
import Derived.Test.YtpcindemkkdbbaaLX
import Derived.Test.YtpcindemkkdbbaaOQ
import Derived.Deep.RegionHeld3
namespace Go.Proofs.Ytpcindemkkdbbaa.cylInodes
set_option linter.unusedVariables false
set_option linter.unusedSimpArgs false
open Go.RowKit

theorem nil_small : SmallL [] := ⟨by simp, fun j hj => by simp at hj⟩
theorem set_small {l : List Cy} (h : SmallL l) (g : Nat) {x : Cy} (hx : SmallC x) : SmallL (l.set g x) := by
  refine ⟨by rw [List.length_set]; exact h.1, fun j hj => ?_⟩
  rw [List.length_set] at hj
  by_cases hg : g < l.length
  · rw [cyN_set hg]
    split
    · exact hx
    · exact h.2 j hj
  · rw [List.set_eq_of_length_le (by omega)]; exact h.2 j hj
theorem inodeG_small {l : List Cy} (hW : Whole l) (h : SmallL l) (g : Nat) : SmallL (inodeG l g).l := by
  unfold inodeG
  split
  · rename_i i e
    show SmallL (l.set g _)
    by_cases hg : g < l.length
    · have hR := hW.ok g hg
      refine set_small h g ⟨(h.2 g hg).1, ?_⟩
      have := rise_len hR.is (by omega)
      show (withI (cyN l g).is _).length ≤ 1000
      rw [length_withI]; omega
    · rw [List.set_eq_of_length_le (by omega)]; exact h
  · exact nil_small
theorem fileL_small {l : List Cy} (h : SmallL l) (g : Int) : SmallL (fileL l g).l := by
  unfold fileL
  split
  · rename_i hW
    split
    · split
      · exact inodeG_small ((wholeL_iff l).1 hW) h _
      · exact nil_small
    · exact nil_small
  · exact nil_small
theorem dirL_small {l : List Cy} (h : SmallL l) : SmallL (dirL l).l := by
  unfold dirL
  split
  · rename_i hW
    split
    · exact nil_small
    · exact inodeG_small ((wholeL_iff l).1 hW) h _
  · exact nil_small
theorem leaveL_small {l : List Cy} (h : SmallL l) (a b : Int) : SmallL (leaveL l a b).l := by
  unfold leaveL
  split
  · split
    · split
      · by_cases hg : a.toNat < l.length
        · refine set_small h _ ⟨(h.2 _ hg).1, ?_⟩
          have := withoutI_len (cyN l a.toNat).is b
          have := (h.2 _ hg).2
          show (withoutI (cyN l a.toNat).is b).length ≤ 1000
          omega
        · show SmallL (l.set _ _)
          rw [List.set_eq_of_length_le (by omega)]; exact h
      · exact nil_small
    · exact nil_small
  · exact nil_small
theorem two {W : World} {g : Nat} {t : TypeId} {x0 x1 : Value} (h : W.heap[g]? = some (.cells #[x0, x1] t (0, 0))) : W.cell? ⟨g, 0, none⟩ = some x0 ∧ W.cell? ⟨g, 1, none⟩ = some x1 := by
  refine ⟨?_, ?_⟩ <;> rw [cellAt_of h] <;> rfl
def AnC (r : An) (W : World) (e : Ending) (w' : World) : Prop := ∃ A c, e = .returned (.tuple #[.slice A r.l.length c, .agg #[.int .i64 r.g, .int .i64 r.b], .int .i64 r.e]) ∧ Cyls w' w'.heap.size A r.l ∧ Below W.heap.size W w'
def AnC2 (r : An) (W : World) (e : Ending) (w' : World) : Prop := ∃ A c, e = .returned (.tuple #[.slice A r.l.length c, .int .i64 r.e]) ∧ Cyls w' w'.heap.size A r.l ∧ Below W.heap.size W w'
theorem AnSays.c {w : World} {r : An} {e : Ending} {w' : World} (h : AnSays w r e w') : AnC r w e w' := by
  obtain ⟨A, c, he, hg, hB⟩ := h
  exact ⟨A, c, he, hg.cyls, hB⟩
theorem RefSays.c {w : World} {r : An} {e : Ending} {w' : World} (h : RefSays w r e w') : AnC r w e w' := by
  obtain ⟨A, c, he, hg, hB⟩ := h
  exact ⟨A, c, he, hg w' (Kept.refl _ _), hB⟩
set_option maxRecDepth 100000 in
set_option maxHeartbeats 8000000 in
theorem walk (A : Option Addr) (n c : Nat) (l : List Cy) (g x y : Int) (w : World) (hl : l.length = n ∧ (n ≤ c ∧ c ≤ maxLen) ∧ CylsIn w A l) (hg : -9223372036854775808 ≤ g ∧ g ≤ 9223372036854775807) :
    Calls Try.prog 5 #[.slice A n c, .int .i64 g, .agg #[.int .i64 x, .int .i64 y]] w fun e w' => e = .returned (.bool true) ∧ Below w.heap.size w w' := by
  obtain ⟨hln, hcc, hlI⟩ := hl
  have HFew : Hid (∀ W, Below w.heap.size w W → Calls Try.prog 25 #[.slice A n c] W (SetSays W (fewC l))) := fun W hB => few_any A c n l hln.symm W hcc (hlI.next hB)
  have HFa : Hid (∀ W A' c', Cyls W W.heap.size A' (fewC l) → Calls Try.prog 33 #[.slice A' (fewC l).length c', .int .i64 g] W (AnC (fileL (fewC l) g) W)) := fun W A' c' h => (file_any A' c' _ (fewC l) g rfl W (fewC_small l) h).mono fun e w' h => AnSays.c h
  have HFr : Hid (∀ W A' c', Cyls W W.heap.size A' (fewC l) → Calls Try.prog 34 #[.slice A' (fewC l).length c', .int .i64 g] W (AnC (fileL (fewC l) g) W)) := fun W A' c' h => (reffile_any A' c' _ (fewC l) g rfl W (fewC_small l) h).mono fun e w' h => RefSays.c h
  have HDa : Hid (∀ W A' c', Cyls W W.heap.size A' (fewC l) → Calls Try.prog 35 #[.slice A' (fewC l).length c'] W (AnC (dirL (fewC l)) W)) := fun W A' c' h => (dir_any A' c' _ (fewC l) rfl W (fewC_small l) h).mono fun e w' h => AnSays.c h
  have HDr : Hid (∀ W A' c', Cyls W W.heap.size A' (fewC l) → Calls Try.prog 36 #[.slice A' (fewC l).length c'] W (AnC (dirL (fewC l)) W)) := fun W A' c' h => (refdir_any A' c' _ (fewC l) rfl W (fewC_small l) h).mono fun e w' h => RefSays.c h
  have HLa : Hid (∀ W A' c', Cyls W W.heap.size A' (fewC l) → Calls Try.prog 37 #[.slice A' (fewC l).length c', .agg #[.int .i64 x, .int .i64 y]] W (AnC2 (leaveL (fewC l) x y) W)) := fun W A' c' h => (leave_any A' c' _ (fewC l) x y rfl W (fewC_small l) h).mono fun e w' ⟨A, c, he, hg, hB⟩ => ⟨A, c, he, hg.cyls, hB⟩
  have HLr : Hid (∀ W A' c', Cyls W W.heap.size A' (fewC l) → Calls Try.prog 38 #[.slice A' (fewC l).length c', .agg #[.int .i64 x, .int .i64 y]] W (AnC2 (leaveL (fewC l) x y) W)) := fun W A' c' h => refleave_any A' c' _ (fewC l) x y rfl W (fewC_small l) h
  have HLv : Hid (∀ W, Calls Try.prog 21 #[] W fun e w' => e = .returned (.bool true) ∧ Below W.heap.size W w') := fun W => live_any W
  have sm : ∀ q : List Cy, SmallL q → ∀ W A' c' B' d', Cyls W W.heap.size A' q → Cyls W W.heap.size B' q → Calls Try.prog 30 #[.slice A' q.length c', .slice B' q.length d'] W fun e w' => e = .returned (.bool true) ∧ Below W.heap.size W w' := fun q hq W A' c' B' d' h1 h2 => by
    have := sameall_any A' c' _ q B' d' _ q rfl rfl W hq hq h1 h2
    rw [sameL_iff.2 rfl] at this; exact this
  have HSl := Lib.hid (sm (fewC l) (fewC_small l))
  have HSf := Lib.hid (sm (fileL (fewC l) g).l (fileL_small (fewC_small l) g))
  have HSd := Lib.hid (sm (dirL (fewC l)).l (dirL_small (fewC_small l)))
  have HSv := Lib.hid (sm (leaveL (fewC l) x y).l (leaveL_small (fewC_small l) x y))
  generalize fileL (fewC l) g = F at HFa HFr HSf
  generalize dirL (fewC l) = D at HDa HDr HSd
  generalize leaveL (fewC l) x y = P at HLa HLr HSv
  obtain ⟨L, hL⟩ : ∃ L, L = fewC l := ⟨_, rfl⟩
  rw [← hL] at HFew HFa HFr HDa HDr HLa HLr HSl
  obtain ⟨fl, fg, fb, fe⟩ := F
  obtain ⟨dl, dg, db, de⟩ := D
  obtain ⟨pl, _, _, pe⟩ := P
  unfold AnC at HFa HFr HDa HDr
  unfold AnC2 at HLa HLr
  simp only at HFa HFr HDa HDr HLa HLr HSf HSd HSv
  obtain ⟨Q, hQ⟩ : ∃ Q : Ending → World → Prop, Q = fun e w' => e = .returned (.bool true) ∧ Below w.heap.size w w' := ⟨_, rfl⟩
  have HQ : Hid (∀ w', Below w.heap.size w w' → Q (.returned (.bool true)) w') := by unfold Hid; rw [hQ]; exact fun w' h => ⟨rfl, h⟩
  rw [← hQ]
  clear hQ hL hln hcc hlI sm
  go_enter Try.func5, Try.ntmps5
  go_wp2_with fail
  refine (HFew.out _ ((Below.refl _ w).alloc (Nat.le_refl _) _)).mono ?_
  rintro e w1 ⟨A1, c1, rfl, hC1, hB1⟩
  have h01 := (hB1.block w.heap.size (by simp)).trans (Go.heap_alloc_new w (.cells #[.int .i64 x, .int .i64 y] 41))
  have HB : Hid (Below w.heap.size w w1) := ((Below.refl _ w).alloc (Nat.le_refl _) _).trans (hB1.mono (by simp))
  have H0 := Lib.hid h01
  have HC := Lib.hid hC1
  clear h01 hC1 hB1
  go_wp2_with fail
  refine (HFa.out w1 _ _ HC.out).mono ?_
  rintro e w2 ⟨A2, cA2, rfl, hCn, hB⟩
  replace HC := Lib.hid (HC.out.next hB)
  replace H0 := Lib.hid ((hB.block _ (lt_heap H0.out)).trans H0.out)
  replace HB := Lib.hid (HB.out.trans (hB.mono HB.out.size))
  have D1 := Lib.hid hCn
  clear hCn hB
  go_upto_region 3 with fail
  have hBa : Below w2.heap.size w2 (w2.alloc (.cells #[.int .i64 fg, .int .i64 fb] 41)) := (Below.refl _ _).alloc (Nat.le_refl _) _
  have Z1 : Hid ((w2.alloc (.cells #[.int .i64 fg, .int .i64 fb] 41)).heap[w2.heap.size]? = some (.cells #[.int .i64 fg, .int .i64 fb] 41 (0, 0))) := Go.heap_alloc_new w2 _
  generalize w2.alloc (.cells #[.int .i64 fg, .int .i64 fb] 41) = w3 at hBa Z1 ⊢
  replace HC := Lib.hid (HC.out.next hBa)
  replace D1 := Lib.hid (D1.out.next hBa)
  replace H0 := Lib.hid ((hBa.block _ (lt_heap H0.out)).trans H0.out)
  replace HB := Lib.hid (HB.out.trans (hBa.mono HB.out.size))
  clear hBa
  go_wp2_with fail
  refine (HFew.out w3 HB.out).mono ?_
  rintro e w4 ⟨AK1, cK1, rfl, hCn, hB⟩
  replace HC := Lib.hid (HC.out.next hB)
  replace D1 := Lib.hid (D1.out.next hB)
  replace H0 := Lib.hid ((hB.block _ (lt_heap H0.out)).trans H0.out)
  replace Z1 := Lib.hid ((hB.block _ (lt_heap Z1.out)).trans Z1.out)
  replace HB := Lib.hid (HB.out.trans (hB.mono HB.out.size))
  have K1 := Lib.hid hCn
  clear hCn hB
  go_wp2_with fail
  refine (HFr.out w4 _ _ K1.out).mono ?_
  rintro e w5 ⟨A5, cA5, rfl, hCn, hB⟩
  replace HC := Lib.hid (HC.out.next hB)
  replace D1 := Lib.hid (D1.out.next hB)
  replace K1 := Lib.hid (K1.out.next hB)
  replace H0 := Lib.hid ((hB.block _ (lt_heap H0.out)).trans H0.out)
  replace Z1 := Lib.hid ((hB.block _ (lt_heap Z1.out)).trans Z1.out)
  replace HB := Lib.hid (HB.out.trans (hB.mono HB.out.size))
  have E1 := Lib.hid hCn
  clear hCn hB K1
  go_upto_region 4 with fail
  have hBa : Below w5.heap.size w5 (w5.alloc (.cells #[.int .i64 fg, .int .i64 fb] 41)) := (Below.refl _ _).alloc (Nat.le_refl _) _
  have Z2 : Hid ((w5.alloc (.cells #[.int .i64 fg, .int .i64 fb] 41)).heap[w5.heap.size]? = some (.cells #[.int .i64 fg, .int .i64 fb] 41 (0, 0))) := Go.heap_alloc_new w5 _
  generalize w5.alloc (.cells #[.int .i64 fg, .int .i64 fb] 41) = w6 at hBa Z2 ⊢
  replace HC := Lib.hid (HC.out.next hBa)
  replace D1 := Lib.hid (D1.out.next hBa)
  replace E1 := Lib.hid (E1.out.next hBa)
  replace H0 := Lib.hid ((hBa.block _ (lt_heap H0.out)).trans H0.out)
  replace Z1 := Lib.hid ((hBa.block _ (lt_heap Z1.out)).trans Z1.out)
  replace HB := Lib.hid (HB.out.trans (hBa.mono HB.out.size))
  clear hBa
  go_wp2_with fail
  refine (HDa.out w6 _ _ HC.out).mono ?_
  rintro e w7 ⟨A7, cA7, rfl, hCn, hB⟩
  replace HC := Lib.hid (HC.out.next hB)
  replace D1 := Lib.hid (D1.out.next hB)
  replace E1 := Lib.hid (E1.out.next hB)
  replace H0 := Lib.hid ((hB.block _ (lt_heap H0.out)).trans H0.out)
  replace Z1 := Lib.hid ((hB.block _ (lt_heap Z1.out)).trans Z1.out)
  replace Z2 := Lib.hid ((hB.block _ (lt_heap Z2.out)).trans Z2.out)
  replace HB := Lib.hid (HB.out.trans (hB.mono HB.out.size))
  have D2 := Lib.hid hCn
  clear hCn hB
  go_upto_region 5 with fail
  have hBa : Below w7.heap.size w7 (w7.alloc (.cells #[.int .i64 dg, .int .i64 db] 41)) := (Below.refl _ _).alloc (Nat.le_refl _) _
  have Z3 : Hid ((w7.alloc (.cells #[.int .i64 dg, .int .i64 db] 41)).heap[w7.heap.size]? = some (.cells #[.int .i64 dg, .int .i64 db] 41 (0, 0))) := Go.heap_alloc_new w7 _
  generalize w7.alloc (.cells #[.int .i64 dg, .int .i64 db] 41) = w8 at hBa Z3 ⊢
  replace HC := Lib.hid (HC.out.next hBa)
  replace D1 := Lib.hid (D1.out.next hBa)
  replace E1 := Lib.hid (E1.out.next hBa)
  replace D2 := Lib.hid (D2.out.next hBa)
  replace H0 := Lib.hid ((hBa.block _ (lt_heap H0.out)).trans H0.out)
  replace Z1 := Lib.hid ((hBa.block _ (lt_heap Z1.out)).trans Z1.out)
  replace Z2 := Lib.hid ((hBa.block _ (lt_heap Z2.out)).trans Z2.out)
  replace HB := Lib.hid (HB.out.trans (hBa.mono HB.out.size))
  clear hBa
  go_wp2_with fail
  refine (HFew.out w8 HB.out).mono ?_
  rintro e w9 ⟨AK2, cK2, rfl, hCn, hB⟩
  replace HC := Lib.hid (HC.out.next hB)
  replace D1 := Lib.hid (D1.out.next hB)
  replace E1 := Lib.hid (E1.out.next hB)
  replace D2 := Lib.hid (D2.out.next hB)
  replace H0 := Lib.hid ((hB.block _ (lt_heap H0.out)).trans H0.out)
  replace Z1 := Lib.hid ((hB.block _ (lt_heap Z1.out)).trans Z1.out)
  replace Z2 := Lib.hid ((hB.block _ (lt_heap Z2.out)).trans Z2.out)
  replace Z3 := Lib.hid ((hB.block _ (lt_heap Z3.out)).trans Z3.out)
  replace HB := Lib.hid (HB.out.trans (hB.mono HB.out.size))
  have K2 := Lib.hid hCn
  clear hCn hB
  go_wp2_with fail
  refine (HDr.out w9 _ _ K2.out).mono ?_
  rintro e w10 ⟨A10, cA10, rfl, hCn, hB⟩
  replace HC := Lib.hid (HC.out.next hB)
  replace D1 := Lib.hid (D1.out.next hB)
  replace E1 := Lib.hid (E1.out.next hB)
  replace D2 := Lib.hid (D2.out.next hB)
  replace K2 := Lib.hid (K2.out.next hB)
  replace H0 := Lib.hid ((hB.block _ (lt_heap H0.out)).trans H0.out)
  replace Z1 := Lib.hid ((hB.block _ (lt_heap Z1.out)).trans Z1.out)
  replace Z2 := Lib.hid ((hB.block _ (lt_heap Z2.out)).trans Z2.out)
  replace Z3 := Lib.hid ((hB.block _ (lt_heap Z3.out)).trans Z3.out)
  replace HB := Lib.hid (HB.out.trans (hB.mono HB.out.size))
  have E2 := Lib.hid hCn
  clear hCn hB K2
  go_upto_region 6 with fail
  have hBa : Below w10.heap.size w10 (w10.alloc (.cells #[.int .i64 dg, .int .i64 db] 41)) := (Below.refl _ _).alloc (Nat.le_refl _) _
  have Z4 : Hid ((w10.alloc (.cells #[.int .i64 dg, .int .i64 db] 41)).heap[w10.heap.size]? = some (.cells #[.int .i64 dg, .int .i64 db] 41 (0, 0))) := Go.heap_alloc_new w10 _
  generalize w10.alloc (.cells #[.int .i64 dg, .int .i64 db] 41) = w11 at hBa Z4 ⊢
  replace HC := Lib.hid (HC.out.next hBa)
  replace D1 := Lib.hid (D1.out.next hBa)
  replace E1 := Lib.hid (E1.out.next hBa)
  replace D2 := Lib.hid (D2.out.next hBa)
  replace E2 := Lib.hid (E2.out.next hBa)
  replace H0 := Lib.hid ((hBa.block _ (lt_heap H0.out)).trans H0.out)
  replace Z1 := Lib.hid ((hBa.block _ (lt_heap Z1.out)).trans Z1.out)
  replace Z2 := Lib.hid ((hBa.block _ (lt_heap Z2.out)).trans Z2.out)
  replace Z3 := Lib.hid ((hBa.block _ (lt_heap Z3.out)).trans Z3.out)
  replace HB := Lib.hid (HB.out.trans (hBa.mono HB.out.size))
  clear hBa
  obtain ⟨e0, e1⟩ := two H0.out
  have hz0 : w.heap.size < w11.heap.size := lt_heap H0.out
  go_wp2_with fail
  refine (HLa.out w11 _ _ HC.out).mono ?_
  rintro e w12 ⟨A12, cA12, rfl, hCn, hB⟩
  replace HC := Lib.hid (HC.out.next hB)
  replace D1 := Lib.hid (D1.out.next hB)
  replace E1 := Lib.hid (E1.out.next hB)
  replace D2 := Lib.hid (D2.out.next hB)
  replace E2 := Lib.hid (E2.out.next hB)
  replace H0 := Lib.hid ((hB.block _ (lt_heap H0.out)).trans H0.out)
  replace Z1 := Lib.hid ((hB.block _ (lt_heap Z1.out)).trans Z1.out)
  replace Z2 := Lib.hid ((hB.block _ (lt_heap Z2.out)).trans Z2.out)
  replace Z3 := Lib.hid ((hB.block _ (lt_heap Z3.out)).trans Z3.out)
  replace Z4 := Lib.hid ((hB.block _ (lt_heap Z4.out)).trans Z4.out)
  replace HB := Lib.hid (HB.out.trans (hB.mono HB.out.size))
  have D3 := Lib.hid hCn
  clear hCn hB
  clear e0 e1 hz0
  have hz12 : w.heap.size < w12.heap.size := lt_heap H0.out
  have X12 : Hid (w12.cell? ⟨w.heap.size, 0, none⟩ = some (.int .i64 x) ∧ w12.cell? ⟨w.heap.size, 1, none⟩ = some (.int .i64 y)) := two H0.out
  go_wp2_with fail
  go_region_held3 (fun W => W.cell? ⟨w.heap.size, 0, none⟩ = some (.int .i64 x) ∧ W.cell? ⟨w.heap.size, 1, none⟩ = some (.int .i64 y)) (first | exact X12.out | (with_reducible exact two H07.out) | (with_reducible exact two H08.out) | go_keep)
    (first | (go_at_call 25; (with_reducible refine (HFew.out _ HB.out.drew).mono ?_); rintro e w13 ⟨A13, c13, rfl, hC13, hB7⟩; have hB67 : Below w12.heap.size w12 w13 := ⟨hB7.os, hB7.tape, hB7.output, hB7.size, hB7.block⟩; have H07 := Lib.hid ((hB67.block _ hz12).trans H0.out); have HB67 := Lib.hid hB67; have HF7 := Lib.hid hC13; clear hC13 hB7 hB67) | (go_at_call 38; (with_reducible refine (HLr.out _ _ _ HF7.out).mono ?_); rintro e w14 ⟨A14, c14, rfl, hC14, hB8⟩; have hB68 : Below w12.heap.size w12 w14 := HB67.out.trans (hB8.mono HB67.out.size); have H08 := Lib.hid ((hB68.block _ hz12).trans H0.out); have HB68 := Lib.hid hB68; have E3 := Lib.hid hC14; clear hC14 hB8 hB68))
  all_goals
    have hB := HB68.out
    clear H07 H08 HF7 X12
    replace HC := Lib.hid (HC.out.next hB)
    replace D1 := Lib.hid (D1.out.next hB)
    replace E1 := Lib.hid (E1.out.next hB)
    replace D2 := Lib.hid (D2.out.next hB)
    replace E2 := Lib.hid (E2.out.next hB)
    replace D3 := Lib.hid (D3.out.next hB)
    replace H0 := Lib.hid ((hB.block _ (lt_heap H0.out)).trans H0.out)
    replace Z1 := Lib.hid ((hB.block _ (lt_heap Z1.out)).trans Z1.out)
    replace Z2 := Lib.hid ((hB.block _ (lt_heap Z2.out)).trans Z2.out)
    replace Z3 := Lib.hid ((hB.block _ (lt_heap Z3.out)).trans Z3.out)
    replace Z4 := Lib.hid ((hB.block _ (lt_heap Z4.out)).trans Z4.out)
    replace HB := Lib.hid (HB.out.trans (hB.mono HB.out.size))
    clear hB
    go_wp2_with fail
    refine (HLv.out _).mono ?_
    rintro e w15 ⟨rfl, hB⟩
    replace HC := Lib.hid (HC.out.next hB)
    replace D1 := Lib.hid (D1.out.next hB)
    replace E1 := Lib.hid (E1.out.next hB)
    replace D2 := Lib.hid (D2.out.next hB)
    replace E2 := Lib.hid (E2.out.next hB)
    replace D3 := Lib.hid (D3.out.next hB)
    replace E3 := Lib.hid (E3.out.next hB)
    replace H0 := Lib.hid ((hB.block _ (lt_heap H0.out)).trans H0.out)
    replace Z1 := Lib.hid ((hB.block _ (lt_heap Z1.out)).trans Z1.out)
    replace Z2 := Lib.hid ((hB.block _ (lt_heap Z2.out)).trans Z2.out)
    replace Z3 := Lib.hid ((hB.block _ (lt_heap Z3.out)).trans Z3.out)
    replace Z4 := Lib.hid ((hB.block _ (lt_heap Z4.out)).trans Z4.out)
    replace HB := Lib.hid (HB.out.trans (hB.mono HB.out.size))
    clear hB
    go_wp2_with fail
    refine (HSf.out _ _ _ _ _ D1.out E1.out).mono ?_
    rintro e w16 ⟨rfl, hB⟩
    replace HC := Lib.hid (HC.out.next hB)
    replace D1 := Lib.hid (D1.out.next hB)
    replace E1 := Lib.hid (E1.out.next hB)
    replace D2 := Lib.hid (D2.out.next hB)
    replace E2 := Lib.hid (E2.out.next hB)
    replace D3 := Lib.hid (D3.out.next hB)
    replace E3 := Lib.hid (E3.out.next hB)
    replace H0 := Lib.hid ((hB.block _ (lt_heap H0.out)).trans H0.out)
    replace Z1 := Lib.hid ((hB.block _ (lt_heap Z1.out)).trans Z1.out)
    replace Z2 := Lib.hid ((hB.block _ (lt_heap Z2.out)).trans Z2.out)
    replace Z3 := Lib.hid ((hB.block _ (lt_heap Z3.out)).trans Z3.out)
    replace Z4 := Lib.hid ((hB.block _ (lt_heap Z4.out)).trans Z4.out)
    replace HB := Lib.hid (HB.out.trans (hB.mono HB.out.size))
    clear hB
    obtain ⟨k0, k1⟩ := two Z1.out
    obtain ⟨k2, k3⟩ := two Z2.out
    have hz1 := lt_heap Z1.out
    have hz2 := lt_heap Z2.out
    go_wp2_with fail
    refine (HSd.out _ _ _ _ _ D2.out E2.out).mono ?_
    rintro e w17 ⟨rfl, hB⟩
    replace HC := Lib.hid (HC.out.next hB)
    replace D1 := Lib.hid (D1.out.next hB)
    replace E1 := Lib.hid (E1.out.next hB)
    replace D2 := Lib.hid (D2.out.next hB)
    replace E2 := Lib.hid (E2.out.next hB)
    replace D3 := Lib.hid (D3.out.next hB)
    replace E3 := Lib.hid (E3.out.next hB)
    replace H0 := Lib.hid ((hB.block _ (lt_heap H0.out)).trans H0.out)
    replace Z1 := Lib.hid ((hB.block _ (lt_heap Z1.out)).trans Z1.out)
    replace Z2 := Lib.hid ((hB.block _ (lt_heap Z2.out)).trans Z2.out)
    replace Z3 := Lib.hid ((hB.block _ (lt_heap Z3.out)).trans Z3.out)
    replace Z4 := Lib.hid ((hB.block _ (lt_heap Z4.out)).trans Z4.out)
    replace HB := Lib.hid (HB.out.trans (hB.mono HB.out.size))
    clear hB
    clear k0 k1 k2 k3 hz1 hz2
    obtain ⟨k0, k1⟩ := two Z3.out
    obtain ⟨k2, k3⟩ := two Z4.out
    have hz1 := lt_heap Z3.out
    have hz2 := lt_heap Z4.out
    go_wp2_with fail
    refine (HSv.out _ _ _ _ _ D3.out E3.out).mono ?_
    rintro e w18 ⟨rfl, hB⟩
    replace HC := Lib.hid (HC.out.next hB)
    replace D1 := Lib.hid (D1.out.next hB)
    replace E1 := Lib.hid (E1.out.next hB)
    replace D2 := Lib.hid (D2.out.next hB)
    replace E2 := Lib.hid (E2.out.next hB)
    replace D3 := Lib.hid (D3.out.next hB)
    replace E3 := Lib.hid (E3.out.next hB)
    replace H0 := Lib.hid ((hB.block _ (lt_heap H0.out)).trans H0.out)
    replace Z1 := Lib.hid ((hB.block _ (lt_heap Z1.out)).trans Z1.out)
    replace Z2 := Lib.hid ((hB.block _ (lt_heap Z2.out)).trans Z2.out)
    replace Z3 := Lib.hid ((hB.block _ (lt_heap Z3.out)).trans Z3.out)
    replace Z4 := Lib.hid ((hB.block _ (lt_heap Z4.out)).trans Z4.out)
    replace HB := Lib.hid (HB.out.trans (hB.mono HB.out.size))
    clear hB
    clear k0 k1 k2 k3 hz1 hz2
    go_wp2_with fail
    refine (HFew.out w18 HB.out).mono ?_
    rintro e w19 ⟨AK4, cK4, rfl, hCn, hB⟩
    replace HC := Lib.hid (HC.out.next hB)
    replace D1 := Lib.hid (D1.out.next hB)
    replace E1 := Lib.hid (E1.out.next hB)
    replace D2 := Lib.hid (D2.out.next hB)
    replace E2 := Lib.hid (E2.out.next hB)
    replace D3 := Lib.hid (D3.out.next hB)
    replace E3 := Lib.hid (E3.out.next hB)
    replace H0 := Lib.hid ((hB.block _ (lt_heap H0.out)).trans H0.out)
    replace Z1 := Lib.hid ((hB.block _ (lt_heap Z1.out)).trans Z1.out)
    replace Z2 := Lib.hid ((hB.block _ (lt_heap Z2.out)).trans Z2.out)
    replace Z3 := Lib.hid ((hB.block _ (lt_heap Z3.out)).trans Z3.out)
    replace Z4 := Lib.hid ((hB.block _ (lt_heap Z4.out)).trans Z4.out)
    replace HB := Lib.hid (HB.out.trans (hB.mono HB.out.size))
    have K4 := Lib.hid hCn
    clear hCn hB
    go_wp2_with fail
    refine (HSl.out _ _ _ _ _ HC.out K4.out).mono ?_
    rintro e w20 ⟨rfl, hB⟩
    replace HC := Lib.hid (HC.out.next hB)
    replace D1 := Lib.hid (D1.out.next hB)
    replace E1 := Lib.hid (E1.out.next hB)
    replace D2 := Lib.hid (D2.out.next hB)
    replace E2 := Lib.hid (E2.out.next hB)
    replace D3 := Lib.hid (D3.out.next hB)
    replace E3 := Lib.hid (E3.out.next hB)
    replace K4 := Lib.hid (K4.out.next hB)
    replace H0 := Lib.hid ((hB.block _ (lt_heap H0.out)).trans H0.out)
    replace Z1 := Lib.hid ((hB.block _ (lt_heap Z1.out)).trans Z1.out)
    replace Z2 := Lib.hid ((hB.block _ (lt_heap Z2.out)).trans Z2.out)
    replace Z3 := Lib.hid ((hB.block _ (lt_heap Z3.out)).trans Z3.out)
    replace Z4 := Lib.hid ((hB.block _ (lt_heap Z4.out)).trans Z4.out)
    replace HB := Lib.hid (HB.out.trans (hB.mono HB.out.size))
    clear hB
    go_wp2_with fail
    exact HQ.out _ HB.out
end Go.Proofs.Ytpcindemkkdbbaa.cylInodes
