/- Plain words: to go to all blocks, the nearest one first each time; with repeats, and without. -/
import Derived.Test.YtceppcmcokkkoaaFN
namespace Go.Proofs.Ytceppcmcokkkoaa

theorem bestOf_spec (d : Nat → Nat) (k : Nat) : (∀ j, j < k + 1 → d (bestOf d (k + 1)) ≤ d j) ∧ ∀ j, j < bestOf d (k + 1) → d (bestOf d (k + 1)) < d j := by
  induction k with
  | zero =>
    rw [bestOf_one]
    refine ⟨fun j hj => ?_, fun j hj => by omega⟩
    have e : j = 0 := by omega
    rw [e]
    exact Nat.le_refl _
  | succ k ih =>
    obtain ⟨h1, h2⟩ := ih
    have hlt := bestOf_lt d k
    by_cases h : d (k + 1) < d (bestOf d (k + 1))
    · rw [bestOf_yes d (k + 1) (by omega) h]
      refine ⟨fun j hj => ?_, fun j hj => ?_⟩
      · by_cases e : j = k + 1
        · rw [e]; exact Nat.le_refl _
        · exact Nat.le_trans (Nat.le_of_lt h) (h1 j (by omega))
      · exact Nat.lt_of_lt_of_le h (h1 j (by omega))
    · rw [bestOf_no d (k + 1) (by omega) h]
      refine ⟨fun j hj => ?_, fun j hj => h2 j hj⟩
      by_cases e : j = k + 1
      · rw [e]; omega
      · exact h1 j (by omega)

/-- the k-th block -/
def el (l : List Nat) (k : Nat) : Nat := l.getD k 0
theorem el_lt {l : List Nat} {k : Nat} (h : k < l.length) : el l k = l[k] := by unfold el; simp [List.getD_eq_getElem?_getD, h]
/-- which one is the nearest -/
def idx (n s : Nat) (l : List Nat) : Nat := bestOf (fun j => far s (el l j) n) l.length
/-- the nearest one -/
def val (n s : Nat) (l : List Nat) : Nat := el l (idx n s l)
theorem idx_lt (n s : Nat) {l : List Nat} (h : l ≠ []) : idx n s l < l.length := by
  unfold idx
  have hp : 0 < l.length := List.length_pos_iff.2 h
  obtain ⟨m, hm⟩ : ∃ m, l.length = m + 1 := ⟨l.length - 1, by omega⟩
  rw [hm]
  exact bestOf_lt _ m
theorem val_mem (n s : Nat) {l : List Nat} (h : l ≠ []) : val n s l ∈ l := by
  unfold val
  rw [el_lt (idx_lt n s h)]
  exact List.getElem_mem _
theorem val_le (n s : Nat) {l : List Nat} {y : Nat} (h : y ∈ l) : far s (val n s l) n ≤ far s y n := by
  obtain ⟨j, hj, rfl⟩ := List.mem_iff_getElem.1 h
  obtain ⟨m, hm⟩ : ∃ m, l.length = m + 1 := ⟨l.length - 1, by omega⟩
  have := (bestOf_spec (fun j => far s (el l j) n) m).1 j (by omega)
  rw [← hm] at this
  show far s (el l (idx n s l)) n ≤ _
  rw [← el_lt hj]
  exact this
theorem val_first (n s : Nat) {l : List Nat} {j : Nat} (hl : l ≠ []) (h : j < idx n s l) : far s (val n s l) n < far s (el l j) n := by
  have hp : 0 < l.length := List.length_pos_iff.2 hl
  obtain ⟨m, hm⟩ : ∃ m, l.length = m + 1 := ⟨l.length - 1, by omega⟩
  have := (bestOf_spec (fun j => far s (el l j) n) m).2 j (by rw [← hm]; exact h)
  rw [← hm] at this
  exact this
theorem bestOf_congr {d e : Nat → Nat} (k : Nat) (h : ∀ j, j < k → d j = e j) : bestOf d k = bestOf e k := by
  induction k with
  | zero => rfl
  | succ k ih =>
    have h2 := ih (fun j hj => h j (by omega))
    by_cases h0 : k = 0
    · subst h0; rw [bestOf_one, bestOf_one]
    · have hb : bestOf e k < k := by
        have := bestOf_lt e (k - 1)
        rwa [show k - 1 + 1 = k from by omega] at this
      show (if k = 0 then 0 else if d k < d (bestOf d k) then k else bestOf d k) = (if k = 0 then 0 else if e k < e (bestOf e k) then k else bestOf e k)
      rw [h2, h k (by omega), h _ (show bestOf e k < k + 1 by omega)]
theorem el_app_lt {l : List Nat} {x j : Nat} (h : j < l.length) : el (l ++ [x]) j = el l j := by
  rw [el_lt h, el_lt (by simp; omega)]
  exact List.getElem_append_left h
theorem el_app (l : List Nat) (x : Nat) : el (l ++ [x]) l.length = x := by
  rw [el_lt (by simp)]
  simp
theorem val_snoc (n s : Nat) (l : List Nat) (x : Nat) : val n s (l ++ [x]) = if l = [] then x else if far s x n < far s (val n s l) n then x else val n s l := by
  by_cases h : l = []
  · subst h; rw [if_pos rfl]; simp [val, idx, bestOf, el]
  · rw [if_neg h]
    have hp : 0 < l.length := List.length_pos_iff.2 h
    have hi := idx_lt n s h
    have hc : bestOf (fun j => far s (el (l ++ [x]) j) n) l.length = idx n s l := bestOf_congr _ (fun j hj => by rw [el_app_lt hj])
    have hlen : (l ++ [x]).length = l.length + 1 := by simp
    have hd : far s (el (l ++ [x]) (idx n s l)) n = far s (val n s l) n := by rw [el_app_lt hi]; rfl
    by_cases hlt : far s x n < far s (val n s l) n
    · rw [if_pos hlt]
      have : idx n s (l ++ [x]) = l.length := by
        show bestOf _ (l ++ [x]).length = _
        rw [hlen]
        refine bestOf_yes _ _ (by omega) ?_
        rw [hc]
        show far s (el (l ++ [x]) l.length) n < far s (el (l ++ [x]) (idx n s l)) n
        rw [el_app, hd]
        exact hlt
      show el (l ++ [x]) (idx n s (l ++ [x])) = x
      rw [this, el_app]
    · rw [if_neg hlt]
      have : idx n s (l ++ [x]) = idx n s l := by
        show bestOf _ (l ++ [x]).length = _
        rw [hlen, bestOf_no _ _ (by omega), hc]
        rw [hc]
        show ¬ far s (el (l ++ [x]) l.length) n < far s (el (l ++ [x]) (idx n s l)) n
        rw [el_app, hd]
        exact hlt
      show el (l ++ [x]) (idx n s (l ++ [x])) = el l (idx n s l)
      rw [this, el_app_lt hi]

/-- each where it comes first -/
def dd (l : List Nat) : List Nat := l.foldl (fun acc x => if x ∈ acc then acc else acc ++ [x]) []
theorem dd_snoc (l : List Nat) (x : Nat) : dd (l ++ [x]) = if x ∈ dd l then dd l else dd l ++ [x] := by
  unfold dd
  rw [List.foldl_append]
  rfl
theorem dd_mem (l : List Nat) : ∀ y, y ∈ dd l ↔ y ∈ l := by
  induction l using snocInd with
  | h0 => simp [dd]
  | h1 l x ih =>
    intro y
    rw [dd_snoc]
    split
    · rename_i h
      rw [List.mem_append, ih]
      constructor
      · exact .inl
      · rintro (h1 | h1)
        · exact h1
        · have : y = x := by simpa using h1
          rw [this]
          exact (ih x).1 h
    · simp [ih]
theorem dd_nodup (l : List Nat) : (dd l).Nodup := by
  induction l using snocInd with
  | h0 => simp [dd]
  | h1 l x ih =>
    rw [dd_snoc]
    split
    · exact ih
    · rename_i h
      rw [List.nodup_append]
      exact ⟨ih, by simp, fun a ha b hb => by rintro rfl; simp at hb; subst hb; exact h ha⟩
theorem dd_filter (l : List Nat) (v : Nat) : dd (l.filter (· != v)) = (dd l).filter (· != v) := by
  induction l using snocInd with
  | h0 => rfl
  | h1 l x ih =>
    rw [List.filter_append, dd_snoc]
    by_cases e : x = v
    · subst e
      have : [x].filter (· != x) = [] := by simp
      rw [this, List.append_nil, ih]
      split
      · rfl
      · rw [List.filter_append, this, List.append_nil]
    · have h1 : [x].filter (· != v) = [x] := by simp [e]
      rw [h1, dd_snoc, ih]
      have h2 : x ∈ (dd l).filter (· != v) ↔ x ∈ dd l := by simp [e]
      by_cases h3 : x ∈ dd l
      · rw [if_pos (h2.2 h3), if_pos h3]
      · rw [if_neg (fun h => h3 (h2.1 h)), if_neg h3, List.filter_append, h1]
end Go.Proofs.Ytceppcmcokkkoaa
