/- What is taken was free, and is used; given back all is as it was: plain. -/
import Derived.Test.YtpcindemkkdbbaaIP
namespace Go.Proofs.Ytpcindemkkdbbaa
set_option linter.unusedVariables false
set_option linter.unusedSimpArgs false
open Go.RowKit

theorem sumF_congr {f : Cy → Int} {l l' : List Cy} : ∀ k : Nat, (∀ i, i < k → cyN l' i = cyN l i) → sumF f l' k = sumF f l k := by
  intro k
  induction k with
  | zero => intro _; rfl
  | succ k ih => intro h; show sumF f l' k + f (cyN l' k) = sumF f l k + f (cyN l k); rw [ih (fun i hi => h i (by omega)), h k (by omega)]
theorem sumF_set {f : Cy → Int} {l : List Cy} {j : Nat} (hj : j < l.length) (x : Cy) : ∀ k : Nat, sumF f (l.set j x) k = if j < k then sumF f l k + f x - f (cyN l j) else sumF f l k := by
  intro k
  induction k with
  | zero => rfl
  | succ k ih =>
    show sumF f (l.set j x) k + f (cyN (l.set j x) k) = if _ then sumF f l k + f (cyN l k) + f x - f (cyN l j) else sumF f l k + f (cyN l k)
    rw [ih, cyN_set hj]
    by_cases h : j < k
    · rw [if_pos h, if_neg (show ¬ k = j by omega), if_pos (show j < k + 1 by omega)]; omega
    · rw [if_neg h]
      by_cases h2 : k = j
      · subst h2; rw [if_pos rfl, if_pos (show k < k + 1 by omega)]; omega
      · rw [if_neg h2, if_neg (show ¬ j < k + 1 by omega)]
theorem freeB_set {l : List Cy} {j : Nat} {x : Cy} (hj : j < l.length) (hW : Whole l) (hW2 : Whole (l.set j x)) : freeB (l.set j x) = freeB l + x.fb - (cyN l j).fb := by
  unfold freeB
  rw [if_pos ((wholeL_iff _).2 hW), if_pos ((wholeL_iff _).2 hW2), List.length_set, sumF_set hj, if_pos hj]
theorem freeI_set {l : List Cy} {j : Nat} {x : Cy} (hj : j < l.length) (hW : Whole l) (hW2 : Whole (l.set j x)) : freeI (l.set j x) = freeI l + x.fi - (cyN l j).fi := by
  unfold freeI
  rw [if_pos ((wholeL_iff _).2 hW), if_pos ((wholeL_iff _).2 hW2), List.length_set, sumF_set hj, if_pos hj]
theorem sum_zero {f : Cy → Int} {l : List Cy} : ∀ k : Nat, (∀ i, i < k → f (cyN l i) = 0) → sumF f l k = 0 := by
  intro k
  induction k with
  | zero => intro _; rfl
  | succ k ih => intro h; show sumF f l k + f (cyN l k) = 0; rw [ih (fun i hi => h i (by omega)), h k (by omega)]; rfl
theorem sum_pos {f : Cy → Int} {l : List Cy} (h0 : ∀ i, i < l.length → 0 ≤ f (cyN l i)) {j : Nat} (hj : j < l.length) (h : 0 < f (cyN l j)) : 0 < sumF f l l.length := by
  have key : ∀ k, k ≤ l.length → 0 ≤ sumF f l k ∧ (j < k → 0 < sumF f l k) := by
    intro k
    induction k with
    | zero => intro _; exact ⟨Int.le_refl _, fun q => by omega⟩
    | succ k ih =>
      intro hk
      obtain ⟨h1, h2⟩ := ih (by omega)
      have h3 := h0 k (by omega)
      show 0 ≤ sumF f l k + f (cyN l k) ∧ (_ → 0 < sumF f l k + f (cyN l k))
      refine ⟨by omega, fun q => ?_⟩
      by_cases e : j < k
      · have := h2 e; omega
      · obtain rfl : j = k := by omega
        omega
  exact (key l.length (Nat.le_refl _)).2 hj
theorem freeB_pos {l : List Cy} (hW : Whole l) {j : Nat} (hj : j < l.length) (h : 0 < (cyN l j).fb) : 0 < freeB l := by
  unfold freeB; rw [if_pos ((wholeL_iff _).2 hW)]; exact sum_pos (fun i hi => (hW.ok i hi).fb_in.1) hj h
theorem freeI_pos {l : List Cy} (hW : Whole l) {j : Nat} (hj : j < l.length) (h : 0 < (cyN l j).fi) : 0 < freeI l := by
  unfold freeI; rw [if_pos ((wholeL_iff _).2 hW)]; exact sum_pos (fun i hi => (hW.ok i hi).fi_in.1) hj h
/-- what a Take in whole groups answers -/
theorem takeL_whole {l : List Cy} (hW : Whole l) {ng : Nat} {nb : Int} (hg : ng < l.length) (h0 : 0 ≤ nb) (h1 : nb < (cyN l ng).bl) :
    (takeL l ng nb = ⟨[], 0, 0, 4⟩ ∧ freeB l = 0) ∨ ∃ g b : Nat, g < l.length ∧ (b : Int) < (cyN l g).bl ∧ (b : Int) ∉ (cyN l g).us ∧ takeL l ng nb = ⟨l.set g (useC (cyN l g) b), g, b, 0⟩ := by
  unfold takeL
  rw [if_pos ((wholeL_iff _).2 hW), if_pos (isBlk_iff.2 ⟨⟨by omega, by omega⟩, h0, by rw [Int.toNat_natCast]; exact h1⟩), Int.toNat_natCast]
  cases e : takeAt l ng nb.toNat with
  | none =>
    left
    refine ⟨by unfold takeG; rw [e], ?_⟩
    rw [takeAt_eq (by omega), List.findSome?_eq_none_iff] at e
    unfold freeB
    rw [if_pos ((wholeL_iff _).2 hW)]
    refine sum_zero _ fun i hi => ?_
    have h2 := e i (wayT_all hi)
    rw [Option.map_eq_none_iff] at h2
    have h3 := (hW.ok i hi).fb_in.1
    rcases Int.lt_or_eq_of_le h3 with h4 | h4
    · obtain ⟨k, hk⟩ := freeAt_of (hW.ok i hi) h4 (frm l ng nb.toNat i)
      rw [hk] at h2; cases h2
    · exact h4.symm
  | some p =>
    right
    obtain ⟨g, b⟩ := p
    have e2 := e
    rw [takeAt_eq (by omega)] at e
    obtain ⟨g', hg', h2⟩ := List.exists_of_findSome?_eq_some e
    rw [Option.map_eq_some_iff] at h2
    obtain ⟨b', hb', h3⟩ := h2
    have e3 : g' = g := congrArg Prod.fst h3
    have e4 : b' = b := congrArg Prod.snd h3
    subst e3 e4
    have hgl := wayT_lt hg'
    rw [← freeAt_eq, Option.map_eq_some_iff] at hb'
    obtain ⟨q, hq, rfl⟩ := hb'
    have h5 := q.2
    exact ⟨g', q.1, hgl, by omega, freeIn_spec hq, takeG_at e2⟩
theorem give_use {x : Cy} (h : RightC x) {b : Int} (h0 : 0 ≤ b) (h1 : b < x.bl) (hb : b ∉ x.us) : giveC (useC x b) b = { x with ro := (b + 1) % x.bl } := by
  unfold giveC useC
  simp only [without_with h.us h0 h1 hb]
  congr 1
  omega
/-- given back all is as it was, but for where the next one is looked for -/
theorem fresh_give {l : List Cy} (hW : Whole l) {g b : Nat} (hg : g < l.length) (h1 : (b : Int) < (cyN l g).bl) (hb : (b : Int) ∉ (cyN l g).us) :
    Whole (l.set g (useC (cyN l g) b)) ∧ freeB (l.set g (useC (cyN l g) b)) = freeB l - 1 ∧ giveL (l.set g (useC (cyN l g) b)) g b = ⟨l.set g { cyN l g with ro := (b + 1) % (cyN l g).bl }, 0, 0, 0⟩ ∧ giveL l g b = ⟨[], 0, 0, 5⟩ := by
  have hR := hW.ok g hg
  have hW2 : Whole (l.set g (useC (cyN l g) b)) := hW.set hg (right_use hR (by omega) h1 hb) (hW.ix g hg)
  have hc : cyN (l.set g (useC (cyN l g) b)) g = useC (cyN l g) b := by rw [cyN_set hg, if_pos rfl]
  refine ⟨hW2, ?_, ?_, ?_⟩
  · rw [freeB_set hg hW hW2]; show _ + ((cyN l g).fb - 1) - _ = _; omega
  · unfold giveL
    rw [if_pos ((wholeL_iff _).2 hW2), if_pos (isBlk_iff.2 ⟨⟨by omega, by rw [List.length_set]; omega⟩, by omega, by rw [Int.toNat_natCast, hc]; exact h1⟩), Int.toNat_natCast, hc, if_pos (by rw [contains_iff]; exact mem_withI.2 (.inl rfl)), give_use hR (by omega) h1 hb, List.set_set]
  · unfold giveL
    rw [if_pos ((wholeL_iff _).2 hW), if_pos (isBlk_iff.2 ⟨⟨by omega, by omega⟩, by omega, by rw [Int.toNat_natCast]; exact h1⟩), Int.toNat_natCast, if_neg (by rw [contains_iff]; exact hb)]
end Go.Proofs.Ytpcindemkkdbbaa
