/- Contracts of Groups and Expand. -/
import Derived.Test.YtkfjkhacchbkeaaN
namespace Go.Proofs.Ytkfjkhacchbkeaa
set_option linter.unusedVariables false
set_option linter.unusedSimpArgs false
open Go.RowKit

/-- the deps of items, as numbers -/
def depsN (l : List It) : List (List Nat) := l.map fun x => x.d.map Int.toNat
theorem length_depsN (l : List It) : (depsN l).length = l.length := by simp [depsN]
theorem right_out {l : List It} (h : rightL l = true) : depsI l = rowsI (depsN l) ∧ OkD (depsN l) ∧ l.length ≤ 64 := by
  unfold rightL at h
  simp only [Bool.and_eq_true, decide_eq_true_eq] at h
  obtain ⟨D, hD, hOk⟩ := okB_out h.2
  have e : depsN l = D := by
    have h1 : depsN l = (depsI l).map fun r => r.map Int.toNat := by simp [depsN, depsI, Function.comp_def]
    rw [h1, hD]
    simp [rowsI, natsI, Function.comp_def]
  rw [e]
  exact ⟨hD, hOk, h.1.1⟩
def groupsL (l : List It) : List (List Nat) := if rightL l = true then (gatherG (blkOf l) (depsN l) l.length).1 else []
theorem groups_inv {l : List It} (h : rightL l = true) : Inv (blkOf l) (depsN l) l.length (gatherG (blkOf l) (depsN l) l.length) :=
  inv_gather (right_out h).2.1.right _ (by rw [length_depsN]; exact Nat.le_refl _)
theorem groupsL_len (l : List It) : (groupsL l).length ≤ 64 ∧ (groupsL l).length ≤ l.length := by
  unfold groupsL
  by_cases h : rightL l = true
  · rw [if_pos h]; have := (groups_inv h).few; have := (right_out h).2.2; omega
  · rw [if_neg h]; simp
theorem groupsL_row {l : List It} {g m : Nat} (hm : m ∈ rowN (groupsL l) g) : m < l.length ∧ m < 64 := by
  have hg := mem_row_lt hm
  unfold groupsL at hm hg
  by_cases h : rightL l = true
  · rw [if_pos h] at hm hg
    have := (((groups_inv h).mem g m hg).1 hm).1
    have := (right_out h).2.2; omega
  · rw [if_neg h] at hm; simp [rowN] at hm
theorem groupsL_rowlen (l : List It) (g : Nat) : (rowN (groupsL l) g).length ≤ 64 := by
  refine nodup_lt ?_ (fun m hm => (groupsL_row hm).2)
  unfold groupsL
  by_cases h : rightL l = true
  · rw [if_pos h]; exact (groups_inv h).rise g
  · rw [if_neg h]; simp [rowN]

set_option maxRecDepth 100000 in
set_option maxHeartbeats 4000000 in
theorem groups_any (A : Option Addr) (c n : Nat) (l : List It) (hn : n = l.length) (w : World) (hl : l.length ≤ 1000) (hs : Small l) (hI : Items w w.heap.size A l) :
    Calls Try.prog 18 #[.slice A n c] w (GroupsSays w (groupsL l)) := by
  have hB0 : Below w.heap.size w (w.alloc (.cells #[.slice A n c] 22)) := (Below.refl _ _).alloc (Nat.le_refl _) _
  have hI0 := hI.next hB0
  have hR := mright_any A c n l hn (w.alloc (.cells #[.slice A n c] 22)) hl hs hI0
  have hc0 : (w.alloc (.cells #[.slice A n c] 22)).cell? ⟨w.heap.size, 0, none⟩ = some (.slice A n c) := cell_one_new _ _ _ 0 _ rfl
  have HR := Lib.hid hR
  have HI := Lib.hid hI0
  have HB := Lib.hid hB0
  have Hn := Lib.hid hn
  have Hout := Lib.hid (@right_out l)
  have Hg : Hid (groupsL l = if rightL l = true then (gatherG (blkOf l) (depsN l) l.length).1 else []) := rfl
  have hl' : n ≤ 1000 := by omega
  have Hc0 := Lib.hid hc0
  clear hR hI0 hI hB0 hn hl hc0
  cases hr : rightL l with
  | false =>
    rw [hr] at HR Hg
    have Hg2 : Hid (groupsL l = []) := by unfold Hid; rw [Hg.out]; rfl
    clear hr Hg
    go_enter Try.func18, Try.ntmps18
    go_wp2_with fail
    refine HR.out.mono ?_
    rintro e w1 ⟨rfl, hB1⟩
    have HB1 := Lib.hid (HB.out.trans (hB1.mono (by simp)))
    clear hB1
    go_wp2_with fail
    go_ret
    unfold GroupsSays
    rw [Hg2.out]
    exact ⟨none, 0, rfl, Mat.nil, HB1.out⟩
  | true =>
    obtain ⟨hd, hD, h64⟩ := Hout.out hr
    rw [hr] at HR Hg
    have Hg2 : Hid (groupsL l = (gatherG (blkOf l) (depsN l) l.length).1) := by unfold Hid; rw [Hg.out]; rfl
    have Hd := Lib.hid hd
    have HD := Lib.hid hD
    have hn64 : n ≤ 64 := by rw [Hn.out]; exact h64
    clear hr Hg hd hD h64
    go_enter Try.func18, Try.ntmps18
    go_wp2_with fail
    refine HR.out.mono ?_
    rintro e w1 ⟨rfl, hB1⟩
    have hB1' : Below (w.alloc (.cells #[.slice A n c] 22)).heap.size (w.alloc (.cells #[.slice A n c] 22)) w1 := hB1
    have hc1 : w1.cell? ⟨w.heap.size, 0, none⟩ = some (.slice A n c) := cell_below Hc0.out hB1'
    have HI1 := Lib.hid (HI.out.next hB1')
    have HB1 := Lib.hid (HB.out.trans (hB1'.mono (by simp)))
    clear hB1 hB1' HR
    go_wp2_with fail
    refine (depsOf_any A c n l Hn.out w1 (by rw [← Hn.out]; omega) HI1.out).mono ?_
    rintro e w2 ⟨Ad, cd, rfl, hM2, hB2⟩
    rw [← Hn.out]
    rw [Hd.out] at hM2
    have hc2 := cell_below hc1 hB2
    have hl2 := lt_cell hc2
    have hB3 : Below w2.heap.size w2 ((w2.alloc (.cells #[.slice Ad n cd] 27)).alloc (.cells #[.func (.func 44) #[] #[.pointer (some ⟨w2.heap.size, 0, none⟩)]] 61)) := ((Below.refl _ _).alloc (Nat.le_refl _) _).alloc (by simp) _
    have hctx : GaCtx ((w2.alloc (.cells #[.slice Ad n cd] 27)).alloc (.cells #[.func (.func 44) #[] #[.pointer (some ⟨w2.heap.size, 0, none⟩)]] 61)) n w.heap.size A c l w2.heap.size Ad cd (depsN l) (w2.heap.size + 1) := by
      refine ⟨(HI1.out.next hB2).next hB3, cell_below hc2 hB3, Mat.next hM2 hB3, ?_, ?_⟩
      · have h1 : (w2.alloc (.cells #[.slice Ad n cd] 27)).cell? ⟨w2.heap.size, 0, none⟩ = some (.slice Ad n cd) := cell_one_new _ _ _ 0 _ rfl
        exact cell_below h1 ((Below.refl _ _).alloc (Nat.le_refl _) _)
      · simp
    have Hga := Lib.hid (gather_any n w.heap.size A c l w2.heap.size Ad cd (depsN l) (w2.heap.size + 1) 1 Hn.out (by rw [length_depsN]; exact Hn.out) HD.out hn64 _ hctx)
    have HB3 := Lib.hid ((HB1.out.trans (hB2.mono HB1.out.size)).trans (hB3.mono (HB1.out.trans (hB2.mono HB1.out.size)).size))
    clear hM2 hB2 hctx hB3 hc1
    go_wp2_with (go_at_call 48; refine Hga.out.mono ?_; rintro e w9 ⟨A9, c9, rfl, hM9, hB9⟩; have HM9 := Lib.hid hM9; have HB9 := Lib.hid (HB3.out.trans (hB9.mono HB3.out.size)); clear hM9 hB9)
    go_ret
    unfold GroupsSays
    rw [Hg2.out, ← Hn.out]
    exact ⟨A9, c9, rfl, HM9.out, HB9.out⟩
end Go.Proofs.Ytkfjkhacchbkeaa
