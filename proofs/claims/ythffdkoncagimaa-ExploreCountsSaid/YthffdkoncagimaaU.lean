/- A row of n, and n that stand alone: what the program answers. -/
import Derived.Test.YthffdkoncagimaaT
set_option linter.unusedVariables false
set_option linter.unusedSimpArgs false
namespace Go.Proofs.Ythffdkoncagimaa
open Go.RowKit Go.Shelf
def rowD (n : Nat) : List (List Nat) := (List.range n).map fun i => if i = 0 then [] else [i - 1]
def aloneD (n : Nat) : List (List Nat) := List.replicate n []
theorem rowD_len (n : Nat) : (rowD n).length = n := by simp [rowD]
theorem aloneD_len (n : Nat) : (aloneD n).length = n := by simp [aloneD]
theorem rowD_ok : ∀ n, n < 13 → okDec (rowD n) = true := by decide +kernel
theorem aloneD_ok : ∀ n, n < 13 → okDec (aloneD n) = true := by decide +kernel
theorem rowD_count : ∀ n, n < 13 → countL (needsL (rowD n)) = n + 1 := by decide +kernel
theorem rowD_orders : ∀ n, n < 13 → orders (needsL (rowD n)) = 1 := by decide +kernel
theorem rowD_widest : ∀ n, n < 13 → widest (needsL (rowD n)) = if n = 0 then 0 else 1 := by decide +kernel
theorem aloneD_count : ∀ n, n < 13 → countL (needsL (aloneD n)) = 2 ^ n := by decide +kernel
theorem aloneD_orders {n : Nat} (h : n < 13) : orders (needsL (aloneD n)) = ((fac n : Nat) : Int) := by
  have e : needsL (aloneD n) = List.replicate n 0 := by unfold needsL aloneD; rw [List.map_replicate]; rfl
  rw [e]
  refine orders_alone (by omega) (by simp) fun k => ?_
  unfold nd
  rw [List.getD_eq_getElem?_getD]
  by_cases hk : k < n
  · rw [List.getElem?_eq_getElem (by simpa using hk)]; simp
  · rw [List.getElem?_eq_none (by simp; omega)]; rfl
theorem cnt_le (s : Nat) : ∀ k, cnt s k ≤ k
  | 0 => Nat.le_refl _
  | k + 1 => by unfold cnt; have := cnt_le s k; omega
theorem cnt_more {s n : Nat} (h : s < 2 ^ n) : ∀ j, cnt s (n + j) = cnt s n
  | 0 => rfl
  | j + 1 => by
    show cnt s (n + j) + s / 2 ^ (n + j) % 2 = _
    rw [cnt_more h j, Nat.div_eq_of_lt (Nat.lt_of_lt_of_le h (Nat.pow_le_pow_right (by decide) (by omega)))]
    rfl
theorem cnt_full : ∀ n, n < 13 → cnt (2 ^ n - 1) 14 = n := by decide +kernel
theorem widTo_all {L : List Nat} {m : Nat} : ∀ xs : List Nat, (∀ x ∈ xs, topN L x ≤ m) → widTo L xs ≤ m := fun xs => by
  unfold widTo
  have : ∀ (xs : List Nat) (a : Nat), a ≤ m → (∀ x ∈ xs, topN L x ≤ m) → xs.foldl (fun m s => max m (topN L s)) a ≤ m := by
    intro xs
    induction xs with
    | nil => exact fun a h _ => h
    | cons x xs ih => exact fun a h hx => ih _ (Nat.max_le.2 ⟨h, hx x List.mem_cons_self⟩) (fun y hy => hx y (List.mem_cons_of_mem _ hy))
  exact this xs 0 (Nat.zero_le _)
theorem le_widTo {L : List Nat} {x : Nat} : ∀ xs : List Nat, x ∈ xs → topN L x ≤ widTo L xs := fun xs => by
  unfold widTo
  have mono : ∀ (xs : List Nat) (a : Nat), a ≤ xs.foldl (fun m s => max m (topN L s)) a := by
    intro xs
    induction xs with
    | nil => exact fun a => Nat.le_refl _
    | cons y xs ih => exact fun a => Nat.le_trans (Nat.le_max_left _ _) (ih _)
  have : ∀ (xs : List Nat) (a : Nat), x ∈ xs → topN L x ≤ xs.foldl (fun m s => max m (topN L s)) a := by
    intro xs
    induction xs with
    | nil => exact fun a h => by cases h
    | cons y xs ih =>
      intro a h
      rcases List.mem_cons.1 h with rfl | h
      · exact Nat.le_trans (Nat.le_max_right _ _) (mono _ _)
      · exact ih _ h
  exact this xs 0
theorem aloneD_nd (n k : Nat) : nd (needsL (aloneD n)) k = 0 := by
  have e : needsL (aloneD n) = List.replicate n 0 := by unfold needsL aloneD; rw [List.map_replicate]; rfl
  rw [e]
  unfold nd
  rw [List.getD_eq_getElem?_getD]
  by_cases hk : k < n
  · rw [List.getElem?_eq_getElem (by simpa using hk)]; simp
  · rw [List.getElem?_eq_none (by simp; omega)]; rfl
theorem top_alone {n s : Nat} (hs : s < 2 ^ 14) : topN (needsL (aloneD n)) s = cnt s 14 := by
  have ha : ahead (needsL (aloneD n)) s = 0 := Nat.eq_of_testBit_eq fun i => by
    rw [Nat.zero_testBit]
    refine Bool.eq_false_iff.2 fun h => ?_
    obtain ⟨k, _, _, h3⟩ := (aheadK_bit _ s _ i).1 h
    rw [aloneD_nd] at h3
    simp at h3
  have hd : dif s 0 = s := Nat.eq_of_testBit_eq fun i => by rw [dif_bit s 0 i (by omega) (by decide)]; simp
  unfold topN
  rw [ha, hd, cnt_memb]
  rfl
theorem aloneD_widest {n : Nat} (h : n < 13) : widest (needsL (aloneD n)) = n := by
  have hp := Nat.two_pow_pos n
  have h14 : 2 ^ n ≤ 2 ^ 14 := Nat.pow_le_pow_right (by decide) (by omega)
  have hl : (needsL (aloneD n)).length = n := by rw [length_needsL, aloneD_len]
  unfold widest
  rw [hl]
  refine Nat.le_antisymm (widTo_all _ fun x hx => ?_) ?_
  · have hx1 := (mem_cloTo.1 hx).1
    rw [top_alone (by omega), show 14 = n + (14 - n) by omega, cnt_more hx1]
    exact cnt_le x n
  · have hm : 2 ^ n - 1 ∈ cloTo (needsL (aloneD n)) (2 ^ n) := mem_cloTo.2 ⟨by omega, clo_iff.2 fun k _ _ => by rw [aloneD_nd]; exact subS_iff.2 fun i hi => by simp at hi⟩
    have := le_widTo (L := needsL (aloneD n)) _ hm
    rw [top_alone (by omega), cnt_full n h] at this
    exact this
end Go.Proofs.Ythffdkoncagimaa
