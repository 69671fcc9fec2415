/- Sets as numbers: what must come right ahead, the closed sets in order. -/
import Derived.Test.YthffdkoncagimaaGA
set_option linter.unusedVariables false
set_option linter.unusedSimpArgs false
namespace Go.Proofs.Ythffdkoncagimaa
/-- a row of numbers as a set -/
def needN (r : List Nat) : Nat := r.foldl (fun m d => m ||| 2 ^ d) 0
theorem needN_snoc (r : List Nat) (d : Nat) : needN (r ++ [d]) = needN r ||| 2 ^ d := by simp [needN]
theorem bit_pow (d i : Nat) : (2 ^ d).testBit i = decide (d = i) := Nat.testBit_two_pow
theorem fold_bit (r : List Nat) (m i : Nat) : (r.foldl (fun m d => m ||| 2 ^ d) m).testBit i = (m.testBit i || decide (i ∈ r)) := by
  induction r generalizing m with
  | nil => simp
  | cons d r ih =>
    rw [List.foldl_cons, ih, Nat.testBit_or, bit_pow, Bool.or_assoc]
    congr 1
    by_cases h : d = i
    · subst h; simp
    · have : i ≠ d := fun e => h e.symm
      simp [h, this]
theorem needN_bit (r : List Nat) (i : Nat) : (needN r).testBit i = decide (i ∈ r) := by unfold needN; rw [fold_bit]; simp
def needsL (D : List (List Nat)) : List Nat := D.map needN
theorem length_needsL (D : List (List Nat)) : (needsL D).length = D.length := by simp [needsL]
def nd (L : List Nat) (k : Nat) : Nat := L.getD k 0
theorem nd_lt {L : List Nat} {k : Nat} (h : k < L.length) : nd L k = L[k] := by
  unfold nd; rw [List.getD_eq_getElem?_getD, List.getElem?_eq_getElem h]; rfl
theorem nd_needs {D : List (List Nat)} {k : Nat} (h : k < D.length) : nd (needsL D) k = needN (rowN D k) := by
  rw [nd_lt (by rw [length_needsL]; exact h), rowN_lt h]; simp [needsL]
/-- all that must come right ahead of a member of s, of the first k -/
def aheadK (L : List Nat) (s : Nat) : Nat → Nat
  | 0 => 0
  | k + 1 => if s.testBit k = true then aheadK L s k ||| nd L k else aheadK L s k
def ahead (L : List Nat) (s : Nat) : Nat := aheadK L s L.length
theorem aheadK_bit (L : List Nat) (s k i : Nat) : (aheadK L s k).testBit i = true ↔ ∃ n, n < k ∧ s.testBit n = true ∧ (nd L n).testBit i = true := by
  induction k with
  | zero => simp [aheadK]
  | succ k ih =>
    unfold aheadK
    split
    · rename_i h
      rw [Nat.testBit_or, Bool.or_eq_true, ih]
      constructor
      · rintro (⟨n, h1, h2⟩ | h2)
        · exact ⟨n, by omega, h2⟩
        · exact ⟨k, by omega, h, h2⟩
      · rintro ⟨n, h1, h2, h3⟩
        rcases Nat.lt_or_ge n k with h4 | h4
        · exact .inl ⟨n, h4, h2, h3⟩
        · obtain rfl : n = k := by omega
          exact .inr h3
    · rename_i h
      rw [ih]
      constructor
      · rintro ⟨n, h1, h2⟩; exact ⟨n, by omega, h2⟩
      · rintro ⟨n, h1, h2, h3⟩
        rcases Nat.lt_or_ge n k with h4 | h4
        · exact ⟨n, h4, h2, h3⟩
        · obtain rfl : n = k := by omega
          exact absurd h2 h
/-- all of a are in s -/
def subS (a s : Nat) : Bool := decide (a &&& s = a)
theorem subS_iff {a s : Nat} : subS a s = true ↔ ∀ i, a.testBit i = true → s.testBit i = true := by
  unfold subS
  rw [decide_eq_true_iff]
  constructor
  · intro h i hi
    have : (a &&& s).testBit i = true := by rw [h]; exact hi
    rw [Nat.testBit_and, Bool.and_eq_true] at this
    exact this.2
  · intro h
    refine Nat.eq_of_testBit_eq fun i => ?_
    rw [Nat.testBit_and]
    cases q : a.testBit i with
    | false => rfl
    | true => rw [h i q]; rfl
/-- is a set closed? -/
def clo (L : List Nat) (s : Nat) : Bool := subS (ahead L s) s
theorem clo_iff {L : List Nat} {s : Nat} : clo L s = true ↔ ∀ n, n < L.length → s.testBit n = true → subS (nd L n) s = true := by
  unfold clo ahead
  rw [subS_iff]
  constructor
  · intro h n hn hs
    rw [subS_iff]
    exact fun i hi => h i ((aheadK_bit L s _ i).2 ⟨n, hn, hs, hi⟩)
  · intro h i hi
    obtain ⟨n, h1, h2, h3⟩ := (aheadK_bit L s _ i).1 hi
    exact subS_iff.1 (h n h1 h2) i h3
/-- the closed sets below m -/
def cloTo (L : List Nat) (m : Nat) : List Nat := (List.range m).filter (clo L)
theorem cloTo_succ (L : List Nat) (m : Nat) : cloTo L (m + 1) = cloTo L m ++ (if clo L m = true then [m] else []) := by
  unfold cloTo
  rw [List.range_succ, List.filter_append]
  congr 1
  by_cases h : clo L m = true
  · rw [List.filter_cons_of_pos h, if_pos h]; rfl
  · rw [List.filter_cons_of_neg (by simpa using h), if_neg h]; rfl
theorem cloTo_len (L : List Nat) (m : Nat) : (cloTo L m).length ≤ m := by
  have := List.length_filter_le (clo L) (List.range m)
  rwa [List.length_range] at this
theorem mem_cloTo {L : List Nat} {m s : Nat} : s ∈ cloTo L m ↔ s < m ∧ clo L s = true := by simp [cloTo]
theorem cloTo_pre {L : List Nat} {k m : Nat} (h : k ≤ m) : cloTo L k <+: cloTo L m := by
  induction m with
  | zero => obtain rfl : k = 0 := by omega
            exact List.prefix_rfl
  | succ m ih =>
    rcases Nat.lt_or_ge k (m + 1) with h1 | h1
    · rw [cloTo_succ]; exact (ih (by omega)).trans (List.prefix_append _ _)
    · obtain rfl : k = m + 1 := by omega
      exact List.prefix_rfl
def countL (L : List Nat) : Nat := (cloTo L (2 ^ L.length)).length
/-- a set's members, rising -/
def membTo (s k : Nat) : List Nat := (List.range k).filter (fun n => s.testBit n)
theorem membTo_succ (s k : Nat) : membTo s (k + 1) = membTo s k ++ (if s.testBit k = true then [k] else []) := by
  unfold membTo
  rw [List.range_succ, List.filter_append]
  congr 1
  by_cases h : s.testBit k = true
  · rw [List.filter_cons_of_pos (p := fun n => s.testBit n) h, if_pos h]; rfl
  · rw [List.filter_cons_of_neg (p := fun n => s.testBit n) (by simpa using h), if_neg h]; rfl
def memb (s : Nat) : List Nat := membTo s 14
theorem membTo_len (s k : Nat) : (membTo s k).length ≤ k := by
  have := List.length_filter_le (fun n => s.testBit n) (List.range k)
  rwa [List.length_range] at this
/-- small right deps -/
structure Sm (D : List (List Nat)) : Prop where
  n : D.length ≤ 14
  r : ∀ k, ∀ d ∈ rowN D k, d < k
theorem Sm.need_lt {D : List (List Nat)} (h : Sm D) {k : Nat} (hk : k < D.length) : nd (needsL D) k < 2 ^ D.length := by
  rw [nd_needs hk]
  refine Nat.lt_pow_two_of_testBit _ fun i hi => ?_
  rw [needN_bit]
  refine decide_eq_false fun hm => ?_
  have := h.r k i hm
  omega
end Go.Proofs.Ythffdkoncagimaa
