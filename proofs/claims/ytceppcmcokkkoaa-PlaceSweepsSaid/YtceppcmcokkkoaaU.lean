/- Plain words: the rows of rising numbers. -/
import Derived.Test.YtceppcmcokkkoaaT
namespace Go.Proofs.Ytceppcmcokkkoaa
open Go.RowKit

structure RowsOk (p : List Nat) (rs : List (Nat × Nat)) : Prop where
  pos : ∀ r ∈ rs, 1 ≤ r.2
  mem : ∀ r ∈ rs, ∀ j, r.1 ≤ j → j < r.1 + r.2 → j ∈ p
  apart : rs.Pairwise (fun r s => r.1 + r.2 < s.1)
  sum : (rs.map (·.2)).sum = p.length
  last : ∀ i, p.getLast? = some i → ∃ q a n, rs = q ++ [(a, n)] ∧ a + n = i + 1

theorem rows_ok (p : List Nat) (hp : p.Pairwise (· < ·)) : RowsOk p (rowsOf p) := by
  induction p using snocInd with
  | h0 => exact ⟨by simp [rowsOf, rowing], by simp [rowsOf, rowing], by simp [rowsOf, rowing], rfl, by simp⟩
  | h1 p i ih =>
    obtain ⟨hp1, _, hp2⟩ := List.pairwise_append.1 hp
    obtain ⟨pos, mem, apart, sum, last⟩ := ih hp1
    have hs : rowsOf (p ++ [i]) = if p.getLast?.map (· + 1) = some i then bump (rowsOf p) else rowsOf p ++ [(i, 1)] := by
      unfold rowsOf
      rw [rowing_snoc, ← rowing_behind]
      rfl
    by_cases hb : p.getLast?.map (· + 1) = some i
    · rw [if_pos hb] at hs
      obtain ⟨t, ht, hti⟩ := Option.map_eq_some_iff.1 hb
      obtain ⟨q, a, n, hq, han⟩ := last t ht
      rw [hq, bump_snoc] at hs
      rw [hq] at pos mem apart sum
      obtain ⟨ap1, _, ap2⟩ := List.pairwise_append.1 apart
      rw [hs]
      refine ⟨?_, ?_, ?_, ?_, ?_⟩
      · intro r hr
        rcases List.mem_append.1 hr with hr | hr
        · exact pos r (List.mem_append_left _ hr)
        · simp only [List.mem_singleton] at hr; subst hr; simp
      · intro r hr j h1 h2
        rcases List.mem_append.1 hr with hr | hr
        · exact List.mem_append_left _ (mem r (List.mem_append_left _ hr) j h1 h2)
        · simp only [List.mem_singleton] at hr; subst hr
          simp only at h1 h2
          by_cases hj : j < a + n
          · exact List.mem_append_left _ (mem (a, n) (by simp) j h1 hj)
          · exact List.mem_append_right _ (by simp; omega)
      · refine List.pairwise_append.2 ⟨ap1, by simp, fun r hr s hs' => ?_⟩
        simp only [List.mem_singleton] at hs'; subst hs'
        exact ap2 r hr (a, n) (by simp)
      · simp at sum ⊢; omega
      · intro j hj
        simp at hj; subst hj
        exact ⟨q, a, n + 1, rfl, by omega⟩
    · rw [if_neg hb] at hs
      rw [hs]
      refine ⟨?_, ?_, ?_, ?_, ?_⟩
      · intro r hr
        rcases List.mem_append.1 hr with hr | hr
        · exact pos r hr
        · simp only [List.mem_singleton] at hr; subst hr; simp
      · intro r hr j h1 h2
        rcases List.mem_append.1 hr with hr | hr
        · exact List.mem_append_left _ (mem r hr j h1 h2)
        · simp only [List.mem_singleton] at hr; subst hr
          exact List.mem_append_right _ (by simp at h1 h2 ⊢; omega)
      · refine List.pairwise_append.2 ⟨apart, by simp, fun r hr s hs' => ?_⟩
        simp only [List.mem_singleton] at hs'; subst hs'
        show r.1 + r.2 < i
        cases hg : p.getLast? with
        | none =>
          have : p = [] := List.getLast?_eq_none_iff.1 hg
          subst this
          simp [rowsOf, rowing] at hr
        | some t =>
          obtain ⟨q, a, n, hq, han⟩ := last t hg
          have hti : t < i := hp2 t (List.mem_of_getLast? hg) i (by simp)
          have hne : t + 1 ≠ i := by
            intro e
            rw [hg] at hb
            exact hb (by simp [e])
          rw [hq] at hr apart
          obtain ⟨_, _, ap2⟩ := List.pairwise_append.1 apart
          rcases List.mem_append.1 hr with hr | hr
          · have := ap2 r hr (a, n) (by simp)
            simp only at this
            omega
          · simp only [List.mem_singleton] at hr; subst hr
            simp only
            omega
      · simp at sum ⊢; omega
      · intro j hj
        simp at hj; subst hj
        exact ⟨rowsOf p, i, 1, rfl, rfl⟩

theorem ones_rising (l : List Int) : (ones l).Pairwise (· < ·) := by
  unfold ones
  rw [onesTo_filter]
  exact List.Pairwise.filter _ List.pairwise_lt_range
theorem mem_ones {l : List Int} {j : Nat} (h : j ∈ ones l) : bitN l j = true ∧ j < 8 * l.length := by
  unfold ones at h
  rw [onesTo_filter] at h
  obtain ⟨h1, h2⟩ := List.mem_filter.1 h
  exact ⟨h2, List.mem_range.1 h1⟩
theorem sum_le_of_mem {l : List Nat} {x : Nat} (h : x ∈ l) : x ≤ l.sum := by
  induction l with
  | nil => cases h
  | cons a l ih =>
    rcases List.mem_cons.1 h with rfl | h
    · simp
    · have := ih h; simp; omega
theorem sum_take_le (l : List Nat) (k : Nat) : (l.take k).sum ≤ l.sum := by
  have h := List.take_append_drop k l
  have : ((l.take k) ++ (l.drop k)).sum = l.sum := by rw [h]
  rw [List.sum_append] at this
  omega
theorem pair_at {rs : List (Nat × Nat)} (h : rs.Pairwise (fun r s => r.1 + r.2 < s.1)) (k : Nat) (hk : k + 1 < rs.length) : rs[k].1 + rs[k].2 < rs[k + 1].1 :=
  List.pairwise_iff_getElem.1 h k (k + 1) (by omega) hk (by omega)
theorem get_sum (A : Option Addr) (c : Nat) (l : List Int) (a k : Nat) (w : World) (B : Nat) (hb : Bts w B A l) (hl : l.length ≤ 1000) (hi : a + k ≤ 8000) (hv : bitN l (a + k) = true) :
    Calls Try.prog 34 #[.slice A l.length c, .int .i64 ((a : Int) + (k : Int))] w fun e w' => e = .returned (.bool true) ∧ Quiet w w' := by
  have h := get_in A c l (a + k) w B true hb hl hi hv
  have e : ((a + k : Nat) : Int) = (a : Int) + (k : Int) := by omega
  rwa [e] at h
end Go.Proofs.Ytceppcmcokkkoaa
