/- Plain words: how many bits are free; what a bit that is set leaves. -/
import Derived.Test.YtceppcmcokkkoaaL
namespace Go.Proofs.Ytceppcmcokkkoaa
open Go.RowKit

def cnt (p : Nat → Bool) (n : Nat) : Nat := ((List.range n).filter p).length
theorem cnt_zero (p : Nat → Bool) : cnt p 0 = 0 := rfl
theorem cnt_succ (p : Nat → Bool) (n : Nat) : cnt p (n + 1) = cnt p n + if p n then 1 else 0 := by
  unfold cnt
  rw [List.range_succ, List.filter_append, List.length_append]
  cases h : p n <;> simp [h]
theorem cnt_le (p : Nat → Bool) (n : Nat) : cnt p n ≤ n := by
  induction n with
  | zero => simp [cnt]
  | succ n ih => rw [cnt_succ]; split <;> omega
theorem cnt_skip {p : Nat → Bool} {n m : Nat} (hnm : n ≤ m) (h : ∀ j, n ≤ j → j < m → p j = false) : cnt p m = cnt p n := by
  obtain ⟨d, rfl⟩ : ∃ d, m = n + d := ⟨m - n, by omega⟩
  induction d with
  | zero => rfl
  | succ d ih =>
    rw [show n + (d + 1) = (n + d) + 1 from by omega, cnt_succ, h (n + d) (by omega) (by omega), ih (by omega) (fun j h1 h2 => h j h1 (by omega))]
    simp
theorem cnt_less {p q : Nat → Bool} {i n : Nat} (hi : i < n) (hp : p i = true) (hq : ∀ j, q j = (p j && decide (j ≠ i))) : cnt q n + 1 = cnt p n := by
  have low : ∀ m, m ≤ i → cnt q m = cnt p m := by
    intro m hm
    induction m with
    | zero => rfl
    | succ m ih =>
      rw [cnt_succ, cnt_succ, ih (by omega), hq m]
      have : decide (m ≠ i) = true := by simp; omega
      rw [this, Bool.and_true]
  obtain ⟨d, rfl⟩ : ∃ d, n = i + 1 + d := ⟨n - i - 1, by omega⟩
  clear hi
  induction d with
  | zero =>
    rw [Nat.add_zero, cnt_succ, cnt_succ, low i (Nat.le_refl _), hq i, hp]
    simp
  | succ d ih =>
    rw [show i + 1 + (d + 1) = (i + 1 + d) + 1 from by omega, cnt_succ, cnt_succ, hq (i + 1 + d)]
    have : decide (i + 1 + d ≠ i) = true := by simp; omega
    rw [this, Bool.and_true]
    omega
theorem cnt_none {p : Nat → Bool} {n : Nat} (h : (List.range n).find? p = none) : cnt p n = 0 := by
  unfold cnt
  rw [List.find?_eq_none] at h
  rw [List.length_eq_zero_iff, List.filter_eq_nil_iff]
  exact h

theorem nth_set (l : List Int) (i j : Nat) (v : Int) : nth (l.set i v) j = if i = j ∧ j < l.length then v else nth l j := by
  unfold nth
  rw [List.getD_eq_getElem?_getD, List.getD_eq_getElem?_getD, List.getElem?_set]
  by_cases h : i = j
  · subst h
    by_cases hl : i < l.length
    · simp [hl]
    · rw [if_pos rfl, if_neg hl, if_neg (by simp [hl]), List.getElem?_eq_none (by omega)]
  · rw [if_neg h, if_neg (by simp [h])]

/-- A BIT THAT IS SET IS THERE, all others are as they were. -/
theorem bitN_setB (l : List Int) (hl : AllB l) (i j : Nat) (on : Bool) (h : i / 8 < l.length) : bitN (setB l i on) j = if j = i then on else bitN l j := by
  have key : ∀ (x : Fin 256) (k j : Fin 8), (bits .or .u8 (x.val : Int) (2 ^ k.val)).toNat.testBit j.val = (if j = k then true else x.val.testBit j.val) ∧ (bits .andNot .u8 (x.val : Int) (2 ^ k.val)).toNat.testBit j.val = (if j = k then false else x.val.testBit j.val) := by decide +kernel
  have hx := hl.nth (i / 8)
  obtain ⟨x, hx'⟩ := Int.eq_ofNat_of_zero_le hx.1
  have k := key ⟨x, by omega⟩ ⟨i % 8, by omega⟩ ⟨j % 8, by omega⟩
  have hm : mk8 (i : Int) = 2 ^ (i % 8) := by unfold mk8; rw [show ((i : Int) % 8).toNat = i % 8 from by omega]
  simp only [Fin.mk.injEq] at k
  unfold bitN setB
  rw [nth_set, hm, hx']
  by_cases hj : i / 8 = j / 8
  · rw [if_pos ⟨hj, by omega⟩]
    by_cases hr : j % 8 = i % 8
    · rw [if_pos (show j = i by omega)]
      rw [if_pos hr, if_pos hr] at k
      cases on
      · rw [if_neg (by simp)]; exact k.2
      · rw [if_pos rfl]; exact k.1
    · rw [if_neg (show ¬ j = i by omega)]
      rw [if_neg hr, if_neg hr] at k
      rw [← hj, hx']
      cases on
      · rw [if_neg (by simp)]; exact k.2
      · rw [if_pos rfl]; exact k.1
  · rw [if_neg (by omega), if_neg (by intro e; subst e; exact hj rfl)]

theorem good_setB (l : List Int) (hl : AllB l) (a z : Int) (i j : Nat) (h : i / 8 < l.length) : good (setB l i true) a z j = (good l a z j && decide (j ≠ i)) := by
  unfold good
  rw [bitN_setB l hl i j true h]
  by_cases e : j = i
  · subst e; simp
  · simp [e]
theorem find_out {p : Nat → Bool} {n i : Nat} (h : (List.range n).find? p = some i) : i < n ∧ p i = true := ⟨List.mem_range.1 (List.mem_of_find?_eq_some h), List.find?_some h⟩
theorem good_out {l : List Int} {a z : Int} {i : Nat} (h : good l a z i = true) : a ≤ (i : Int) ∧ (i : Int) < z ∧ bitN l i = false := by
  unfold good at h
  simp only [Bool.and_eq_true, decide_eq_true_eq, Bool.not_eq_true'] at h
  exact ⟨h.1.1, h.1.2, h.2⟩
end Go.Proofs.Ytceppcmcokkkoaa
