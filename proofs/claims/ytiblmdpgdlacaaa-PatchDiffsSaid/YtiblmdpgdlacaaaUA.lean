/- Rows of bytes that differ. -/
import Derived.Test.YtiblmdpgdlacaaaTB
namespace Go.Proofs.Ytiblmdpgdlacaaa
open Go.RowKit

theorem info24' : (Try.prog.info? 24).map (fun i => (i.zero, i.size, i.bytes)) = some (some (.agg #[.int .i64 0, .int .i64 0, .string ⟨#[]⟩]), 3, 32) := by kernel_rfl

/-- the rows of places below k at which d is true: from, to -/
def segs (d : Nat → Bool) : Nat → List (Nat × Nat)
  | 0 => []
  | k + 1 => if d k then (if 0 < k ∧ d (k - 1) = true then (segs d k).dropLast ++ [(((segs d k).getLast?.getD (0, 0)).1, k + 1)] else segs d k ++ [(k, k + 1)]) else segs d k
theorem segs_no {d : Nat → Bool} {k : Nat} (h : d k = false) : segs d (k + 1) = segs d k := by simp [segs, h]
theorem segs_new {d : Nat → Bool} {k : Nat} (h : d k = true) (h2 : k = 0 ∨ d (k - 1) = false) : segs d (k + 1) = segs d k ++ [(k, k + 1)] := by
  have : ¬ (0 < k ∧ d (k - 1) = true) := by
    rintro ⟨h3, h4⟩
    rcases h2 with h2 | h2
    · omega
    · rw [h2] at h4; cases h4
  simp [segs, h, this]
theorem segs_more {d : Nat → Bool} {k : Nat} (h : d k = true) (h1 : 0 < k) (h2 : d (k - 1) = true) : segs d (k + 1) = (segs d k).dropLast ++ [(((segs d k).getLast?.getD (0, 0)).1, k + 1)] := by
  simp [segs, h, h1, h2]
/-- a row that goes from f to j -/
theorem segs_run {d : Nat → Bool} {f : Nat} (h0 : f = 0 ∨ d (f - 1) = false) : ∀ n, (∀ i, f ≤ i → i < f + n → d i = true) → segs d (f + n) = segs d f ++ (if 0 < n then [(f, f + n)] else []) := by
  intro n
  induction n with
  | zero => intro _; simp
  | succ n ih =>
    intro h
    have hn := ih (fun i h1 h2 => h i h1 (by omega))
    by_cases e : n = 0
    · subst e
      rw [show f + (0 + 1) = f + 1 from rfl, segs_new (h f (by omega) (by omega)) h0]
      simp
    · rw [show f + (n + 1) = (f + n) + 1 from rfl, segs_more (h (f + n) (by omega) (by omega)) (by omega) (h (f + n - 1) (by omega) (by omega)), hn, if_pos (by omega)]
      simp
theorem length_segs (d : Nat → Bool) (k : Nat) : (segs d k).length ≤ k := by
  induction k with
  | zero => simp [segs]
  | succ k ih =>
    unfold segs
    split
    · split
      · simp
        omega
      · simp; omega
    · omega
/-- the patches of rows -/
def segP (b : Int) (c : List Int) (x : Nat × Nat) : Pt := cutP b c x.1 x.2
def diffP (b : Int) (c : List Int) (d : Nat → Bool) (k : Nat) : List Pt := (segs d k).map (segP b c)
def ptsV (l : List Pt) : List Value := l.flatMap Pt.cs
theorem length_ptsV (l : List Pt) : (ptsV l).length = l.length * 3 := by
  induction l with
  | nil => rfl
  | cons p l ih =>
    have : ptsV (p :: l) = p.cs ++ ptsV l := rfl
    rw [this, List.length_append, ih, List.length_cons]
    simp [Pt.cs]; omega
theorem ptsV_snoc (l : List Pt) (p : Pt) : ptsV (l ++ [p]) = ptsV l ++ p.cs := by simp [ptsV]
theorem ptsV_one (l : List Pt) : ∀ u ∈ ptsV l, u.oneCell' = true := by
  intro u hu
  obtain ⟨p, _, h⟩ := List.mem_flatMap.1 hu
  simp [Pt.cs] at h
  rcases h with rfl | rfl | rfl <;> rfl
theorem ptsV_at (l : List Pt) (j : Nat) (hj : j < l.length) : (ptsV l)[j * 3]? = some (.int .i64 (pn l j).b) ∧ (ptsV l)[j * 3 + 1]? = some (.int .i64 (pn l j).o) ∧ (ptsV l)[j * 3 + 2]? = some (.string (pn l j).s) := by
  induction l generalizing j with
  | nil => simp at hj
  | cons p l ih =>
    have e : ptsV (p :: l) = p.cs ++ ptsV l := rfl
    rw [e]
    cases j with
    | zero => exact ⟨rfl, rfl, rfl⟩
    | succ j =>
      have hj' : j < l.length := by simpa using hj
      have := ih j hj'
      have ep : pn (p :: l) (j + 1) = pn l j := rfl
      have hc : p.cs.length = 3 := rfl
      rw [ep]
      refine ⟨?_, ?_, ?_⟩
      · rw [List.getElem?_append_right (by rw [hc]; omega), hc, show (j + 1) * 3 - 3 = j * 3 by omega]; exact this.1
      · rw [List.getElem?_append_right (by rw [hc]; omega), hc, show (j + 1) * 3 + 1 - 3 = j * 3 + 1 by omega]; exact this.2.1
      · rw [List.getElem?_append_right (by rw [hc]; omega), hc, show (j + 1) * 3 + 2 - 3 = j * 3 + 2 by omega]; exact this.2.2
/-- a slice that owns patches -/
def OwnP (w : World) (B : Nat) (v : Value) (l : List Pt) : Prop := w.ownsRow B 24 3 v l.length (ptsV l)
theorem OwnP.form {w : World} {B : Nat} {v : Value} {l : List Pt} (h : OwnP w B v l) : ∃ A c, v = .slice A l.length c ∧ l.length ≤ c ∧ c ≤ maxLen ∧ Pats w w.heap.size A l := by
  rcases h.2 with ⟨rfl, hn⟩ | ⟨g, cap, cur, rfl, _, hg, hnc, hcm, _⟩
  · obtain rfl : l = [] := List.eq_nil_of_length_eq_zero hn
    exact ⟨none, 0, rfl, Nat.le_refl _, Nat.zero_le _, Pats.nil⟩
  · refine ⟨some ⟨g, 0, none⟩, cap, rfl, hnc, hcm, fun _ => ⟨g, 0, rfl, (h.lt g rfl).2, fun j hj => ?_⟩⟩
    obtain ⟨a0, a1, a2⟩ := ptsV_at l j hj
    rw [Nat.zero_add, h.cellAt _ (by omega), h.cellAt _ (by omega), h.cellAt _ (by omega)]
    exact ⟨a0, a1, a2⟩
end Go.Proofs.Ytiblmdpgdlacaaa
