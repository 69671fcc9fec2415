/- Plain words on groups: which items are written as one. -/
import Derived.Test.YtkfjkhacchbkeaaD
import Derived.Test.YtkfjkhacchbkeaaGYB
namespace Go.Proofs.Ytkfjkhacchbkeaa
set_option linter.unusedVariables false
set_option linter.unusedSimpArgs false
open Go.RowKit

/-- the last one ahead on the same block -/
def homeT (bl : Nat → Int) (i : Nat) : Nat → Option Nat
  | 0 => none
  | n + 1 => if bl n = bl i then some n else homeT bl i n
def homeN (bl : Nat → Int) (i : Nat) : Option Nat := homeT bl i i
theorem homeT_some {bl : Nat → Int} {i k n : Nat} (h : homeT bl i k = some n) : n < k ∧ bl n = bl i ∧ ∀ m, n < m → m < k → bl m ≠ bl i := by
  induction k with
  | zero => cases h
  | succ k ih =>
    unfold homeT at h
    by_cases e : bl k = bl i
    · rw [if_pos e] at h; injection h with h; subst h; exact ⟨by omega, e, fun m h1 h2 => by omega⟩
    · rw [if_neg e] at h
      obtain ⟨h1, h2, h3⟩ := ih h
      refine ⟨by omega, h2, fun m h4 h5 => ?_⟩
      by_cases e2 : m = k
      · subst e2; exact e
      · exact h3 m h4 (by omega)
theorem homeT_none {bl : Nat → Int} {i k : Nat} (h : homeT bl i k = none) : ∀ m, m < k → bl m ≠ bl i := by
  induction k with
  | zero => intro m hm; omega
  | succ k ih =>
    unfold homeT at h
    by_cases e : bl k = bl i
    · rw [if_pos e] at h; cases h
    · rw [if_neg e] at h
      intro m hm
      by_cases e2 : m = k
      · subst e2; exact e
      · exact ih h m (by omega)
def fitsB (D : List (List Nat)) (i : Nat) (grp : List Nat) : Bool := (rowN D i).all fun d => decide (d ∈ closeL D (natsI grp))
def newS (s : List (List Nat) × List Nat) (k : Nat) : List (List Nat) × List Nat := (s.1 ++ [[k]], s.2 ++ [s.1.length])
def joinS (s : List (List Nat) × List Nat) (k g : Nat) : List (List Nat) × List Nat := (s.1.set g (rowN s.1 g ++ [k]), s.2 ++ [g])
/-- is there a group ahead that it joins? -/
def homeG (bl : Nat → Int) (D : List (List Nat)) (s : List (List Nat) × List Nat) (k : Nat) : Option Nat :=
  match homeN bl k with
  | some n => if fitsB D k (rowN s.1 (el s.2 n)) then some (el s.2 n) else none
  | none => none
def stepS (bl : Nat → Int) (D : List (List Nat)) (s : List (List Nat) × List Nat) (k : Nat) : List (List Nat) × List Nat :=
  match homeG bl D s k with
  | some g => joinS s k g
  | none => newS s k
def gatherG (bl : Nat → Int) (D : List (List Nat)) : Nat → List (List Nat) × List Nat
  | 0 => ([], [])
  | k + 1 => stepS bl D (gatherG bl D k) k

theorem rowN_set (l : List (List Nat)) (g : Nat) (x : List Nat) (j : Nat) (hg : g < l.length) : rowN (l.set g x) j = if j = g then x else rowN l j := by
  unfold rowN
  rw [List.getD_eq_getElem?_getD, List.getD_eq_getElem?_getD, List.getElem?_set]
  by_cases e : g = j
  · subst e; rw [if_pos rfl, if_pos hg, if_pos rfl]; rfl
  · rw [if_neg e, if_neg (fun h => e h.symm)]
theorem rowN_snoc (l : List (List Nat)) (x : List Nat) (j : Nat) : rowN (l ++ [x]) j = if j = l.length then x else rowN l j := by
  unfold rowN
  rw [List.getD_eq_getElem?_getD, List.getD_eq_getElem?_getD, List.getElem?_append]
  by_cases h : j < l.length
  · rw [if_pos h, if_neg (by omega)]
  · rw [if_neg h]
    by_cases e : j = l.length
    · subst e; simp
    · rw [if_neg e, List.getElem?_eq_none (by simp; omega), List.getElem?_eq_none (by omega)]
theorem el_snoc (l : List Nat) (x j : Nat) : el (l ++ [x]) j = if j = l.length then x else el l j := by
  unfold el
  rw [List.getD_eq_getElem?_getD, List.getD_eq_getElem?_getD, List.getElem?_append]
  by_cases h : j < l.length
  · rw [if_pos h, if_neg (by omega)]
  · rw [if_neg h]
    by_cases e : j = l.length
    · subst e; simp
    · rw [if_neg e, List.getElem?_eq_none (by simp; omega), List.getElem?_eq_none (by omega)]

structure Inv (bl : Nat → Int) (D : List (List Nat)) (k : Nat) (s : List (List Nat) × List Nat) : Prop where
  len : s.2.length = k
  lt : ∀ i, i < k → el s.2 i < s.1.length
  mem : ∀ g m, g < s.1.length → (m ∈ rowN s.1 g ↔ m < k ∧ el s.2 m = g)
  rise : ∀ g, (rowN s.1 g).Pairwise (· < ·)
  ne : ∀ g, g < s.1.length → 0 < (rowN s.1 g).length
  heads : ∀ g g', g < g' → g' < s.1.length → el (rowN s.1 g) 0 < el (rowN s.1 g') 0
  same : ∀ i j, i < k → j < k → el s.2 i = el s.2 j → bl i = bl j
  dep : ∀ i, i < k → ∀ d ∈ rowN D i, el s.2 d ≤ el s.2 i
  few : s.1.length ≤ k

variable {bl : Nat → Int} {D : List (List Nat)} {k : Nat} {s : List (List Nat) × List Nat}
theorem Inv.must (hD : Right D) (h : Inv bl D k s) {x y : Nat} (hm : Must D x y) (hy : y < k) : el s.2 x ≤ el s.2 y := by
  induction hm with
  | one h1 => exact h.dep _ hy _ h1
  | more h1 h2 ih => exact Nat.le_trans (h.dep _ (Nat.lt_trans (h2.lt hD).1 hy) _ h1) (ih hy)
theorem Inv.zero (bl : Nat → Int) (D : List (List Nat)) : Inv bl D 0 ([], []) :=
  ⟨rfl, fun i h => by omega, fun g m h => by simp at h, fun g => by simp [rowN], fun g h => by simp at h, fun g g' _ h => by simp at h, fun i j h => by omega, fun i h => by omega, Nat.le_refl _⟩
theorem Inv.new (hD : Right D) (h : Inv bl D k s) : Inv bl D (k + 1) (newS s k) := by
  have hlen := h.len
  refine ⟨by simp [newS, hlen], fun i hi => ?_, fun g m hg => ?_, fun g => ?_, fun g hg => ?_, fun g g' hgg hg => ?_, fun i j hi hj e => ?_, fun i hi d hd => ?_, by have := h.few; simp [newS]; exact this⟩
  · simp only [newS, el_snoc, List.length_append, List.length_singleton, hlen]
    split
    · omega
    · have := h.lt i (by omega); omega
  · simp only [newS, List.length_append, List.length_singleton] at hg
    simp only [newS, el_snoc, rowN_snoc, hlen]
    by_cases eg : g = s.1.length
    · rw [if_pos eg, List.mem_singleton]
      constructor
      · rintro rfl; rw [if_pos rfl]; exact ⟨by omega, eg.symm⟩
      · rintro ⟨h1, h2⟩
        by_cases em : m = k
        · exact em
        · rw [if_neg em] at h2; have := h.lt m (by omega); omega
    · rw [if_neg eg, h.mem g m (by omega)]
      by_cases em : m = k
      · subst em; rw [if_pos rfl]; constructor
        · rintro ⟨h1, _⟩; omega
        · rintro ⟨_, h2⟩; omega
      · rw [if_neg em]; constructor
        · rintro ⟨h1, h2⟩; exact ⟨by omega, h2⟩
        · rintro ⟨h1, h2⟩; exact ⟨by omega, h2⟩
  · simp only [newS, rowN_snoc]
    split
    · exact List.pairwise_singleton _ _
    · exact h.rise g
  · simp only [newS, List.length_append, List.length_singleton] at hg
    simp only [newS, rowN_snoc]
    split
    · simp
    · exact h.ne g (by omega)
  · simp only [newS, List.length_append, List.length_singleton] at hg
    simp only [newS, rowN_snoc]
    rw [if_neg (by omega)]
    by_cases eg : g' = s.1.length
    · rw [if_pos eg]
      have h0 := h.ne g (by omega)
      have hm : el (rowN s.1 g) 0 ∈ rowN s.1 g := by rw [el_lt h0]; exact List.getElem_mem _
      have := ((h.mem g _ (by omega)).1 hm).1
      show _ < k
      exact this
    · rw [if_neg eg]; exact h.heads g g' hgg (by omega)
  · simp only [newS, el_snoc, hlen] at e
    by_cases ei : i = k
    · by_cases ej : j = k
      · rw [ei, ej]
      · rw [if_pos ei, if_neg ej] at e; have := h.lt j (by omega); omega
    · by_cases ej : j = k
      · rw [if_neg ei, if_pos ej] at e; have := h.lt i (by omega); omega
      · rw [if_neg ei, if_neg ej] at e; exact h.same i j (by omega) (by omega) e
  · have hdi := hD.2 i d hd
    simp only [newS, el_snoc, hlen]
    rw [if_neg (by omega)]
    by_cases ei : i = k
    · rw [if_pos ei]; have := h.lt d (by omega); omega
    · rw [if_neg ei]; exact h.dep i (by omega) d hd
theorem Inv.join (hD : Right D) (hk : k < D.length) (h : Inv bl D k s) {n : Nat} (hn : n < k) (hb : bl n = bl k) (hf : fitsB D k (rowN s.1 (el s.2 n)) = true) : Inv bl D (k + 1) (joinS s k (el s.2 n)) := by
  have hlen := h.len
  have hgl := h.lt n hn
  obtain ⟨g0, hg0⟩ : ∃ g0, g0 = el s.2 n := ⟨_, rfl⟩
  rw [← hg0] at hf hgl ⊢
  have hdeps : ∀ d ∈ rowN D k, el s.2 d ≤ g0 := fun d hd => by
    have h1 := List.all_eq_true.1 hf d hd
    simp only [decide_eq_true_eq] at h1
    rcases (mem_closeL hD).1 h1 with h2 | ⟨y, h2, hm⟩
    · have h3 := (markI_nats.1 h2).2
      have := ((h.mem g0 d hgl).1 h3).2; omega
    · have h3 := (h.mem g0 y hgl).1 (markI_nats.1 h2).2
      have := h.must hD hm h3.1; omega
  refine ⟨by simp [joinS, hlen], fun i hi => ?_, fun g m hg => ?_, fun g => ?_, fun g hg => ?_, fun g g' hgg hg => ?_, fun i j hi hj e => ?_, fun i hi d hd => ?_, by have := h.few; simp [joinS]; omega⟩
  · simp only [joinS, el_snoc, List.length_set, hlen]
    split
    · exact hgl
    · exact h.lt i (by omega)
  · simp only [joinS, List.length_set] at hg
    simp only [joinS, el_snoc, rowN_set _ _ _ _ hgl, hlen]
    by_cases eg : g = g0
    · subst eg
      rw [if_pos rfl, List.mem_append, List.mem_singleton, h.mem g m hg]
      by_cases em : m = k
      · rw [if_pos em]; exact ⟨fun _ => ⟨by omega, rfl⟩, fun _ => .inr em⟩
      · rw [if_neg em]; constructor
        · rintro (⟨h1, h2⟩ | h1)
          · exact ⟨by omega, h2⟩
          · exact absurd h1 em
        · rintro ⟨h1, h2⟩; exact .inl ⟨by omega, h2⟩
    · rw [if_neg eg, h.mem g m hg]
      by_cases em : m = k
      · rw [if_pos em]; constructor
        · rintro ⟨h1, _⟩; omega
        · rintro ⟨_, h2⟩; exact absurd h2.symm eg
      · rw [if_neg em]; constructor
        · rintro ⟨h1, h2⟩; exact ⟨by omega, h2⟩
        · rintro ⟨h1, h2⟩; exact ⟨by omega, h2⟩
  · simp only [joinS, rowN_set _ _ _ _ hgl]
    split
    · rename_i e
      subst e
      refine List.pairwise_append.2 ⟨h.rise g, List.pairwise_singleton _ _, fun a ha b hb => ?_⟩
      rw [List.mem_singleton.1 hb]
      exact ((h.mem g a hgl).1 ha).1
    · exact h.rise g
  · simp only [joinS, List.length_set] at hg
    simp only [joinS, rowN_set _ _ _ _ hgl]
    split
    · simp
    · exact h.ne g hg
  · simp only [joinS, List.length_set] at hg
    have hhead : ∀ j, j < s.1.length → el (rowN (joinS s k g0).1 j) 0 = el (rowN s.1 j) 0 := fun j hj => by
      simp only [joinS, rowN_set _ _ _ _ hgl]
      by_cases e : j = g0
      · subst e
        rw [if_pos rfl]
        have h0 := h.ne j hj
        rw [el_snoc, if_neg (by omega)]
      · rw [if_neg e]
    rw [hhead g (by omega), hhead g' hg]
    exact h.heads g g' hgg hg
  · simp only [joinS, el_snoc, hlen] at e
    have hb' := hb
    by_cases ei : i = k
    · by_cases ej : j = k
      · rw [ei, ej]
      · rw [if_pos ei, if_neg ej, hg0] at e
        rw [ei, ← hb]; exact h.same n j hn (by omega) e
    · by_cases ej : j = k
      · rw [if_neg ei, if_pos ej, hg0] at e
        rw [ej, ← hb]; exact h.same i n (by omega) hn e
      · rw [if_neg ei, if_neg ej] at e; exact h.same i j (by omega) (by omega) e
  · have hdi := hD.2 i d hd
    simp only [joinS, el_snoc, hlen]
    rw [if_neg (by omega)]
    by_cases ei : i = k
    · rw [if_pos ei]; subst ei; exact hdeps d hd
    · rw [if_neg ei]; exact h.dep i (by omega) d hd
theorem homeG_some {g : Nat} (h : homeG bl D s k = some g) : ∃ n, homeN bl k = some n ∧ fitsB D k (rowN s.1 (el s.2 n)) = true ∧ g = el s.2 n := by
  unfold homeG at h
  cases e : homeN bl k with
  | none => rw [e] at h; cases h
  | some n =>
    rw [e] at h
    simp only at h
    by_cases f : fitsB D k (rowN s.1 (el s.2 n)) = true
    · rw [if_pos f] at h; injection h with h; exact ⟨n, rfl, f, h.symm⟩
    · rw [if_neg f] at h; cases h
theorem Inv.step (hD : Right D) (hk : k < D.length) (h : Inv bl D k s) : Inv bl D (k + 1) (stepS bl D s k) := by
  unfold stepS
  cases e : homeG bl D s k with
  | none => exact h.new hD
  | some g =>
    obtain ⟨n, hn, hf, rfl⟩ := homeG_some e
    obtain ⟨h1, h2, _⟩ := homeT_some hn
    exact h.join hD hk h1 h2 hf
theorem inv_gather (hD : Right D) (k : Nat) (hk : k ≤ D.length) : Inv bl D k (gatherG bl D k) := by
  induction k with
  | zero => exact Inv.zero bl D
  | succ k ih => exact (ih (by omega)).step hD (by omega)
end Go.Proofs.Ytkfjkhacchbkeaa
