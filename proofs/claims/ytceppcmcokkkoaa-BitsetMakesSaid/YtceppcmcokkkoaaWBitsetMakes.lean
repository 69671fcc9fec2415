/- BitsetMakes is true of every size, numbers and two bytes, and leaves its arguments as they are. Conditions: none. Here: the walk of the law's text. -/
import Derived.Test.YtceppcmcokkkoaaZ
import Derived.WalkKit
import Derived.OpenShut
import Derived.Deep.RegionHeld3
namespace Go.Proofs.Ytceppcmcokkkoaa.bitsetMakes
open Go.RowKit
set_option maxRecDepth 100000 in
set_option maxHeartbeats 1000000 in
theorem walk (size : Int) (al : Option Addr) (lenl capl : Nat) (zl : List Int) (aa : Option Addr) (lena capa : Nat) (za : List Int) (ab : Option Addr) (lenb capb : Nat) (zb : List Int) (w : World) (wl : IsRow .i64 w al lenl capl zl) (wa : IsRow .u8 w aa lena capa za) (wb : IsRow .u8 w ab lenb capb zb) :
    Calls Try.prog 11 #[.int .i64 size, .slice al lenl capl, .agg #[.slice aa lena capa, .slice ab lenb capb]] w fun e w' => e = .returned (.bool true) ∧ Below w.heap.size w w' := by
  obtain ⟨i1, i2, i3, i4, i5⟩ := wl.ints
  obtain ⟨p1, p2, p3, p4⟩ := wa.bts
  obtain ⟨q1, q2, q3, q4⟩ := wb.bts
  obtain ⟨l, hl0⟩ : ∃ l, l = (zl.take lenl).take 100 := ⟨_, rfl⟩
  have hll : l.length = min 100 lenl := by rw [hl0, List.length_take, i4]
  have hI : Ints w w.heap.size al l := by rw [hl0]; exact i3.take 100
  have hin : inI l := by rw [hl0]; exact fun x hx => i5 x (List.mem_of_mem_take hx)
  obtain ⟨la, hla⟩ : ∃ la, la = (za.take lena).take 80 := ⟨_, rfl⟩
  obtain ⟨lb, hlb⟩ : ∃ lb, lb = (zb.take lenb).take 80 := ⟨_, rfl⟩
  have hba : Bts w w.heap.size aa la := by rw [hla]; exact p3.take 80
  have hbb : Bts w w.heap.size ab lb := by rw [hlb]; exact q3.take 80
  have hna : min lena 80 = la.length := by rw [hla, List.length_take, p4, Nat.min_comm]
  have hnb : min lenb 80 = lb.length := by rw [hlb, List.length_take, q4, Nat.min_comm]
  have hla1 : la.length ≤ 1000 := by omega
  have hlb1 : lb.length ≤ 1000 := by omega
  have hl1 : l.length ≤ 100000 := by omega
  have Hna := Lib.hid hna
  have Hnb := Lib.hid hnb
  have hnI : (natsI (notIn lb (ones la))).length ≤ 100000 := by
    have h1 := length_notIn lb (ones la)
    have h2 := length_onesTo la la.length
    rw [length_natsI]
    unfold ones at h1 ⊢
    omega
  have HnI := Lib.hid hnI
  unfold maxLen at i2
  have hB0 : Below w.heap.size w (w.alloc (.cells #[.slice aa lena capa, .slice ab lenb capb] 57)) := (Below.refl _ w).alloc (Nat.le_refl _) _
  have hor : (100 < lenl ∧ l.length = 100) ∨ (lenl ≤ 100 ∧ l.length = lenl) := by omega
  clear i3 i4 i5 p3 p4 q3 q4 hl0 hll hla hlb hna hnb wl wa wb hnI
  rcases hor with ⟨hor, hle⟩ | ⟨hor, hle⟩
  all_goals
    first
      | (have hg : (100 : Int) < (lenl : Int) := by omega)
      | (have hg : ¬ (100 : Int) < (lenl : Int) := by omega)
    have Hle := Lib.hid hle
    clear hle
    go_enter Try.func11, Try.ntmps11
    go_wp2_with fail
    refine (make_all _ _ _ _ l _ (by have := Hle.out; omega) ((hI.below hB0).more (by simp)) hl1 hin).mono ?_
    rintro e w1 ⟨hB1, A1, c1, rfl, hb1⟩
    have hB01 : Below w.heap.size w w1 := hB0.trans (hB1.mono (by simp))
    go_wp2_with fail
    refine (refmake_all _ _ _ _ l _ (by have := Hle.out; omega) ((hI.below hB01).more hB01.size) hl1 hin).mono ?_
    rintro e w2 ⟨hB2, A2, c2, rfl, hb2⟩
    have hB02 : Below w.heap.size w w2 := hB01.trans (hB2.mono hB01.size)
    have hb12 := hb1.below hB2
    have hblk : BlkIs (w.alloc (.cells #[.slice aa lena capa, .slice ab lenb capb] 57)) w.heap.size 57 [.slice aa lena capa, .slice ab lenb capb] := heap_alloc_new w _
    have hc0 : w2.cell? ⟨w.heap.size, 0, none⟩ = some (.slice aa lena capa) := by
      rw [hB2.cell (p := ⟨w.heap.size, 0, none⟩) (by have := hB1.size; simp at this; simp; omega), hB1.cell (p := ⟨w.heap.size, 0, none⟩) (by simp), hblk.cell]
      rfl
    have hc1 : w2.cell? ⟨w.heap.size, 1, none⟩ = some (.slice ab lenb capb) := by
      rw [hB2.cell (p := ⟨w.heap.size, 1, none⟩) (by have := hB1.size; simp at this; simp; omega), hB1.cell (p := ⟨w.heap.size, 1, none⟩) (by simp), hblk.cell]
      rfl
    have hlt2 : w.heap.size < w2.heap.size := by have := hB1.size; have := hB2.size; simp at *; omega
    have hba2 := hba.below hB02
    have hbb2 := hbb.below hB02
    obtain ⟨X, hX⟩ : ∃ X : World → Prop, X = fun w' => w'.cell? ⟨w.heap.size, 0, none⟩ = some (.slice aa lena capa) ∧ w'.cell? ⟨w.heap.size, 1, none⟩ = some (.slice ab lenb capb) ∧ (convert 43 9 (.slice A1 (mkOut size l).1.length c1)).run Try.prog w' = .ok (.string (strOfNums (mkOut size l).1)) w' ∧ (convert 43 9 (.slice A2 (mkOut size l).1.length c2)).run Try.prog w' = .ok (.string (strOfNums (mkOut size l).1)) w' := ⟨_, rfl⟩
    have HX := Lib.hid hX
    have x2 : X w2.drew := by
      rw [hX]
      exact ⟨hc0, hc1, (show Bts w2.drew _ _ _ from hb12).text c1, (show Bts w2.drew _ _ _ from hb2).text c2⟩
    have Wb : Hid (∀ w3, Below w2.heap.size w2 w3 → Below w.heap.size w w3 ∧ X w3 ∧ Bts w3 w3.heap.size aa la ∧ Bts w3 w3.heap.size ab lb) := by
      intro w3 h3
      have hs3 := h3.size
      refine ⟨hB02.trans (h3.mono hB02.size), ?_, (hba2.below (h3.mono hB02.size)).more (by omega), (hbb2.below (h3.mono hB02.size)).more (by omega)⟩
      rw [hX]
      exact ⟨(h3.cell (p := ⟨w.heap.size, 0, none⟩) hlt2).trans hc0, (h3.cell (p := ⟨w.heap.size, 1, none⟩) hlt2).trans hc1, (hb12.below (h3.mono hB2.size)).text c1, (hb2.below h3).text c2⟩
    have X2 := Lib.hid x2
    clear hb1 hB1 hB0 hblk hb12 hb2 hB2 hB01 hB02 hba2 hbb2 x2 hc0 hc1 HX
    go_wp2
    subst X
    go_region_held3 (fun w' => w'.cell? ⟨w.heap.size, 0, none⟩ = some (.slice aa lena capa) ∧ w'.cell? ⟨w.heap.size, 1, none⟩ = some (.slice ab lenb capb) ∧ (convert 43 9 (.slice A1 (mkOut size l).1.length c1)).run Try.prog w' = .ok (.string (strOfNums (mkOut size l).1)) w' ∧ (convert 43 9 (.slice A2 (mkOut size l).1.length c2)).run Try.prog w' = .ok (.string (strOfNums (mkOut size l).1)) w')
      (first | exact X2.out | exact X3.out | exact X4.out | exact X5.out | exact X6.out)
      (first
        | (go_at_call 33; refine (live_any _).mono ?_; rintro e w3 ⟨rfl, hB3⟩; have hB23 : Below w2.heap.size w2 w3 := ⟨hB3.os, hB3.tape, hB3.output, hB3.size, hB3.block⟩; obtain ⟨l1, l2, l5, l6⟩ := Wb.out w3 hB23; have X3 := Lib.hid l2; clear l2)
        | (go_at_call 30; refine (few_any _ _ _ _ (by assumption) (by assumption)).mono ?_; rintro e w' ⟨rfl, rfl⟩)
        | (go_at_call 46; refine (without_n _ _ _ _ la _ _ lb _ Hna.out Hnb.out hla1 hlb1 l5 l6).mono ?_; rintro e w4 ⟨A4, c4, rfl, hB4, hi4⟩; have hB24 : Below w2.heap.size w2 w4 := hB23.trans (hB4.mono hB23.size); obtain ⟨m1, m2, m5, m6⟩ := Wb.out w4 hB24; have X4 := Lib.hid m2; clear m2)
        | (go_at_call 47; refine (refwithout_n _ _ _ _ la _ _ lb _ Hna.out Hnb.out hla1 hlb1 m5 m6).mono ?_; rintro e w5 ⟨A5, c5, rfl, hB5, hi5⟩; have hB25 : Below w2.heap.size w2 w5 := hB24.trans (hB5.mono hB24.size); obtain ⟨n1, n2, n5, n6⟩ := Wb.out w5 hB25; have X5 := Lib.hid n2; clear n2; have hi45 := hi4.below hB5)
        | (go_at_call 26; refine (same_n _ _ _ _ _ _ (natsI (notIn lb (ones la))) _ _ _ rfl rfl hi45 hi5 HnI.out).mono ?_; rintro e w6 ⟨rfl, hq6⟩; have hB26 : Below w2.heap.size w2 w6 := hq6.below hB25; obtain ⟨o1, o2, o5, o6⟩ := Wb.out w6 hB26; have X6 := Lib.hid o2; clear o2))
    all_goals go_wp2
    all_goals go_ret
    all_goals exact ⟨rfl, o1⟩

end Go.Proofs.Ytceppcmcokkkoaa.bitsetMakes
