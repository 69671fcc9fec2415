/- Those that stood in a Write, marked. -/
import Derived.Test.YtegacggkdjgdiaaEK
set_option linter.unusedVariables false
set_option linter.unusedSimpArgs false
namespace Go.Proofs.Ytegacggkdjgdiaa
open Go.RowKit

def markL (l s : List Wr) : List Wr := l.map fun x => if hasN s x.num then x.done else x
theorem length_markL (l s : List Wr) : (markL l s).length = l.length := by simp [markL]
theorem markL_nil (l : List Wr) : markL l [] = l := by simp [markL, hasN]
theorem wn_markL {l s : List Wr} {k : Nat} (h : k < l.length) : wn (markL l s) k = if hasN s (wn l k).num then (wn l k).done else wn l k := by
  rw [wn_lt (by rw [length_markL]; exact h), wn_lt h]; simp [markL]
theorem num_done (x : Wr) : x.done.num = x.num := rfl
theorem num_mark {l s : List Wr} {k : Nat} (h : k < l.length) : (wn (markL l s) k).num = (wn l k).num := by
  rw [wn_markL h]; split <;> rfl
theorem numsL_markL (l s : List Wr) : numsL (markL l s) = numsL l := by
  unfold numsL markL
  rw [List.map_map]
  apply List.map_congr_left
  intro x _
  simp only [Function.comp]
  split <;> rfl
theorem asc_iff {l : List Wr} : Asc l ↔ (numsL l).Pairwise (· < ·) := by unfold Asc numsL; rw [List.pairwise_map]
theorem asc_markL {l : List Wr} (s : List Wr) (h : Asc l) : Asc (markL l s) := by rw [asc_iff, numsL_markL, ← asc_iff]; exact h
theorem mem_markL {l s : List Wr} {x : Wr} (h : x ∈ markL l s) : ∃ y ∈ l, x.num = y.num ∧ x.p = y.p ∧ x.ah = y.ah ∧ x.A = y.A ∧ x.c = y.c := by
  obtain ⟨y, hy, rfl⟩ := List.mem_map.1 h
  refine ⟨y, hy, ?_⟩
  split <;> exact ⟨rfl, rfl, rfl, rfl, rfl⟩
theorem hasN_take {s : List Wr} {j : Nat} (h : j < s.length) (n : Int) : hasN (s.take (j + 1)) n = (hasN (s.take j) n || ((wn s j).num == n)) := by
  rw [take_wn h]; simp [hasN]
theorem markL_step {l s : List Wr} (hl : Asc l) (hs : s.Sublist l) {j : Nat} (hj : j < s.length) :
    posN (markL l (s.take j)) (wn s j).num < l.length ∧ setDone (markL l (s.take j)) (posN (markL l (s.take j)) (wn s j).num) = markL l (s.take (j + 1)) := by
  have hm : wn s j ∈ l := hs.subset (wn_mem hj)
  obtain ⟨p, hp, hpe⟩ := List.mem_iff_getElem.1 hm
  rw [← wn_lt hp] at hpe
  have hpos : posN (markL l (s.take j)) (wn s j).num = p := by
    have h := posN_yes (asc_markL (s.take j) hl) (k := p) (by rw [length_markL]; exact hp)
    rw [num_mark hp, hpe] at h
    exact h
  rw [hpos]
  refine ⟨hp, ?_⟩
  unfold setDone
  apply List.ext_getElem
  · rw [List.length_set, length_markL, length_markL]
  · intro q h1 h2
    rw [List.length_set, length_markL] at h1
    rw [List.getElem_set]
    have e2 : (markL l (s.take (j + 1)))[q] = if hasN (s.take (j + 1)) (wn l q).num then (wn l q).done else wn l q := by
      rw [← wn_markL h1, wn_lt (by rw [length_markL]; exact h1)]
    have e1 : (markL l (s.take j))[q]'(by rw [length_markL]; exact h1) = if hasN (s.take j) (wn l q).num then (wn l q).done else wn l q := by
      rw [← wn_markL h1, wn_lt (by rw [length_markL]; exact h1)]
    rw [e2, hasN_take hj]
    by_cases e : p = q
    · subst e
      rw [if_pos rfl, wn_markL hp, hpe]
      simp only [beq_self_eq_true, Bool.or_true, if_true]
      split <;> rfl
    · rw [if_neg e, e1]
      have hne : (wn s j).num ≠ (wn l q).num := by
        rw [← hpe]
        rcases Nat.lt_or_ge p q with h | h
        · have := hl.lt h h1; omega
        · have := hl.lt (show q < p by omega) hp; omega
      have : ((wn s j).num == (wn l q).num) = false := by simpa using hne
      rw [this, Bool.or_false]
theorem markL_sets {l s : List Wr} {k : Nat} {x : Wr} (h : x ∈ setDone l k) (hk : k < l.length) : ∃ y ∈ l, x.num = y.num ∧ x.p = y.p ∧ x.ah = y.ah ∧ x.A = y.A ∧ x.c = y.c := by
  unfold setDone at h
  rcases List.mem_or_eq_of_mem_set h with h | rfl
  · exact ⟨x, h, rfl, rfl, rfl, rfl, rfl⟩
  · exact ⟨wn l k, wn_mem hk, rfl, rfl, rfl, rfl, rfl⟩
theorem AhAt.like {w : World} {x y : Wr} (h : AhAt w y) (h1 : x.ah = y.ah) (h2 : x.A = y.A) (h3 : x.c = y.c) : AhAt w x := by
  unfold AhAt at *
  rw [h1, h2, h3]; exact h
/-- an engine whose row has one more marked -/
theorem EngAt.marked {w : World} {ge gd n cc c ab : Nat} {S : Nat → Bk} {k : Int} {l : List Wr} {A : Option Addr} {Fd : Nat → Prop} (h : EngAt w ge gd n S cc k l A c Fd) (hA : A = some ⟨ab, 0, none⟩) {q : Nat} (hq : q < l.length) :
    EngAt (w.setCell ⟨ab, q * 6 + 5, none⟩ (.bool true)) ge gd n S cc k (setDone l q) A c Fd ∧ Kept w (w.setCell ⟨ab, q * 6 + 5, none⟩ (.bool true)) (fun b => own A = some b) := by
  subst hA
  have hst := h.row.row.stored (q * 6 + 5) (.bool true)
  rw [flatW_set hq] at hst
  have hk : Kept w (w.setCell ⟨ab, q * 6 + 5, none⟩ (.bool true)) (fun b => own (some (⟨ab, 0, none⟩ : Addr)) = some b) := Kept.grown hst.2 (fun k e => .inl e)
  have hl := length_setDone l q
  refine ⟨?_, hk⟩
  refine h.rowed (hk.more (fun b q => .inl (.inl q))) ?_ ⟨by rw [hl]; exact hst.1, fun x hx => ?_⟩ ?_ ?_ ?_ ?_ (by rw [hl]; exact h.few)
  · rw [hl]; exact h.head.keep hk h.row_ge
  · obtain ⟨y, hy, h1, h2, h3, h4, h5⟩ := markL_sets (s := []) hx hq
    exact ((h.row.ah y hy).keep hk h.row.ni).like h3 h4 h5
  · have e : numsL (setDone l q) = numsL l := by
      unfold setDone numsL
      rw [List.map_set]
      apply List.ext_getElem
      · simp
      · intro i h1 h2
        rw [List.getElem_set]
        split
        · next e => subst e; rw [List.getElem_map, num_done, wn_lt hq]
        · rfl
    rw [asc_iff, e, ← asc_iff]; exact h.asc
  · intro x hx
    obtain ⟨y, hy, h1, h2, _⟩ := markL_sets (s := []) hx hq
    rw [h2]; exact h.right y hy
  · intro x hx
    obtain ⟨y, hy, h1, h2, _⟩ := markL_sets (s := []) hx hq
    rw [h2]; exact h.blk y hy
  · intro x hx
    obtain ⟨y, hy, h1, h2, _⟩ := markL_sets (s := []) hx hq
    rw [h1]; exact h.lo y hy
end Go.Proofs.Ytegacggkdjgdiaa
