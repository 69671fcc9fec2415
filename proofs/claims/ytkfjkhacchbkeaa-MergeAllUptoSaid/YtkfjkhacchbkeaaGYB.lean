/- Plain words: what was done and what is ready are closed; with more done more is ready. -/
import Derived.Test.YtkfjkhacchbkeaaGYA
namespace Go.Proofs.Ytkfjkhacchbkeaa
set_option linter.unusedVariables false
set_option linter.unusedSimpArgs false
open Go.RowKit

theorem natsI_append (a b : List Nat) : natsI (a ++ b) = natsI a ++ natsI b := by simp [natsI]
theorem ready_out {D : List (List Nat)} (hD : Right D) {l k : List Int} {x : Nat} (h : x ∈ readyL D l k) : x < D.length ∧ (x : Int) ∈ k ∧ markI D.length l x = false ∧ ∀ d ∈ rowN D x, markI D.length l d = true ∨ d ∈ readyL D l k := by
  have h1 := (mem_readyL hD).1 h
  have hx := accD_lt h1
  rw [accD_eq hD l k hx] at h1
  simp only [askM, Bool.and_eq_true, Bool.not_eq_true', List.all_eq_true, Bool.or_eq_true] at h1
  refine ⟨hx, (markI_iff.1 h1.1.1).2, h1.1.2, fun d hd => ?_⟩
  rcases h1.2 d hd with h2 | h2
  · exact .inl h2
  · exact .inr ((mem_readyL hD).2 h2)
theorem ready_in_of {D : List (List Nat)} (hD : Right D) {l k : List Int} {x : Nat} (hx : x < D.length) (hk : (x : Int) ∈ k) (hl : markI D.length l x = false) (h : ∀ d ∈ rowN D x, markI D.length l d = true ∨ d ∈ readyL D l k) : x ∈ readyL D l k := by
  rw [mem_readyL hD, accD_eq hD l k hx]
  simp only [askM, Bool.and_eq_true, Bool.not_eq_true', List.all_eq_true, Bool.or_eq_true]
  refine ⟨⟨markI_iff.2 ⟨hx, hk⟩, hl⟩, fun d hd => ?_⟩
  rcases h d hd with h2 | h2
  · exact .inl h2
  · exact .inr ((mem_readyL hD).1 h2)
/-- WHAT WAS DONE AND WHAT IS READY ARE CLOSED -/
theorem closed_ready {D : List (List Nat)} (hD : Right D) (l k : List Int) : ClosedP D (natsI (closeL D l) ++ natsI (readyL D (natsI (closeL D l)) k)) := by
  have hmem : ∀ n, markI D.length (natsI (closeL D l) ++ natsI (readyL D (natsI (closeL D l)) k)) n = true ↔ n < D.length ∧ (n ∈ closeL D l ∨ n ∈ readyL D (natsI (closeL D l)) k) := fun n => by
    rw [markI_iff, List.mem_append, mem_natsI, mem_natsI]
  refine ⟨fun x hx => ?_, fun n hn d hd => ?_⟩
  · rcases List.mem_append.1 hx with hx | hx
    · obtain ⟨i, hi, rfl⟩ := List.mem_map.1 hx
      have := closeL_lt hi
      unfold isN; simp; omega
    · obtain ⟨i, hi, rfl⟩ := List.mem_map.1 hx
      have := (ready_out hD hi).1
      unfold isN; simp; omega
  · rw [hmem] at hn ⊢
    refine ⟨hD.row_lt n d hd, ?_⟩
    rcases hn.2 with h | h
    · exact .inl ((mem_closeL hD).2 (((mem_closeL hD).1 h).down hd))
    · rcases (ready_out hD h).2.2.2 d hd with h2 | h2
      · exact .inl (markI_nats.1 h2).2
      · exact .inr h2
/-- NOTHING MORE COULD COME -/
theorem not_more {D : List (List Nat)} (hD : Right D) (l k : List Int) {x : Nat} (hx : x < D.length) (hk : (x : Int) ∈ k) (hno : (x : Int) ∉ natsI (closeL D l) ++ natsI (readyL D (natsI (closeL D l)) k)) :
    ¬ ClosedP D (natsI (closeL D l) ++ natsI (readyL D (natsI (closeL D l)) k) ++ [(x : Int)]) := by
  intro h
  apply hno
  refine List.mem_append.2 (.inr (mem_natsI.2 (ready_in_of hD hx hk ?_ fun d hd => ?_)))
  · rw [Bool.eq_false_iff]
    intro hm
    exact hno (List.mem_append.2 (.inl (mem_natsI.2 (markI_nats.1 hm).2)))
  · have hm := h.2 x (markI_iff.2 ⟨hx, by simp⟩) d hd
    have := (markI_iff.1 hm).2
    have hdx := hD.2 x d hd
    rcases List.mem_append.1 this with h1 | h1
    · rcases List.mem_append.1 h1 with h2 | h2
      · exact .inl (markI_nats.2 ⟨by omega, mem_natsI.1 h2⟩)
      · exact .inr (mem_natsI.1 h2)
    · have := List.mem_singleton.1 h1; omega
/-- WITH MORE DONE MORE IS READY -/
theorem ready_more {D : List (List Nat)} (hD : Right D) {l l' k : List Int} (hl : ∀ x, markI D.length l x = true → markI D.length l' x = true) : ∀ x, x ∈ readyL D l k → markI D.length l' x = true ∨ x ∈ readyL D l' k := by
  intro x
  induction x using Nat.strongRecOn with
  | _ x ih =>
    intro h
    obtain ⟨hx, hk, hno, hrow⟩ := ready_out hD h
    cases hm : markI D.length l' x with
    | true => exact .inl rfl
    | false =>
      refine .inr (ready_in_of hD hx hk hm fun d hd => ?_)
      rcases hrow d hd with h1 | h1
      · exact .inl (hl d h1)
      · exact ih d (hD.2 x d hd) h1
theorem filter_len_mono {p q : Nat → Bool} (h : ∀ x, p x = true → q x = true) (l : List Nat) : (l.filter p).length ≤ (l.filter q).length := by
  induction l with
  | nil => simp
  | cons a l ih =>
    simp only [List.filter_cons]
    cases hp : p a with
    | false =>
      simp only [Bool.false_eq_true, if_false]
      split
      · simp; omega
      · exact ih
    | true =>
      rw [h a hp]
      simp only [if_true, List.length_cons]
      omega
theorem close_len {D : List (List Nat)} (hD : Right D) {l l' : List Int} (h : ∀ x ∈ l, x ∈ l') : (closeL D l).length ≤ (closeL D l').length := by
  unfold closeL listM
  refine filter_len_mono (fun x hx => ?_) _
  rw [upM_iff hD.2 (fun _ h => markI_lt h)] at hx ⊢
  exact hx.mono fun y hy => by rw [markI_iff] at hy ⊢; exact ⟨hy.1, h _ hy.2⟩
end Go.Proofs.Ytkfjkhacchbkeaa
