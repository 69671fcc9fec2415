/- Plain words: deps, marks, what must come ahead. No program is imported. -/
import Derived.Laws.Entries
namespace Go.Proofs.Ythffdkoncagimaa

/-- the numbers that must come right ahead of n -/
def rowN (D : List (List Nat)) (n : Nat) : List Nat := D.getD n []
/-- deps are right -/
def Right (D : List (List Nat)) : Prop := D.length ≤ 256 ∧ ∀ n, ∀ d ∈ rowN D n, d < n
/-- x must come ahead of y -/
inductive Must (D : List (List Nat)) : Nat → Nat → Prop where
  | one {x y : Nat} (h : x ∈ rowN D y) : Must D x y
  | more {x z y : Nat} (h : x ∈ rowN D z) (k : Must D z y) : Must D x y
/-- x is marked, or must come ahead of one that is -/
def Ahead (D : List (List Nat)) (m : Nat → Bool) (x : Nat) : Prop := m x = true ∨ ∃ y, m y = true ∧ Must D x y

theorem rowN_nil {D : List (List Nat)} {n : Nat} (h : D.length ≤ n) : rowN D n = [] := by
  unfold rowN; rw [List.getD_eq_getElem?_getD, List.getElem?_eq_none h]; rfl
theorem rowN_lt {D : List (List Nat)} {n : Nat} (h : n < D.length) : rowN D n = D[n] := by
  unfold rowN; rw [List.getD_eq_getElem?_getD, List.getElem?_eq_getElem h]; rfl
theorem mem_row_lt {D : List (List Nat)} {n d : Nat} (h : d ∈ rowN D n) : n < D.length := by
  rcases Nat.lt_or_ge n D.length with h1 | h1
  · exact h1
  · rw [rowN_nil h1] at h; cases h
theorem Must.lt {D : List (List Nat)} (hD : Right D) {x y : Nat} (h : Must D x y) : x < y ∧ y < D.length := by
  induction h with
  | one h => exact ⟨hD.2 _ _ h, mem_row_lt h⟩
  | more h k ih => exact ⟨Nat.lt_trans (hD.2 _ _ h) ih.1, ih.2⟩
theorem Must.trans {D : List (List Nat)} {x y z : Nat} (h : Must D x y) (k : Must D y z) : Must D x z := by
  induction h with
  | one h => exact .more h k
  | more h _ ih => exact .more h (ih k)
/-- the last step -/
theorem Must.last {D : List (List Nat)} {x y : Nat} (h : Must D x y) : ∃ z, z ∈ rowN D y ∧ (x = z ∨ Must D x z) := by
  induction h with
  | one h => exact ⟨_, h, .inl rfl⟩
  | more h k ih =>
    obtain ⟨z, hz, rfl | hk⟩ := ih
    · exact ⟨_, hz, .inr (.one h)⟩
    · exact ⟨_, hz, .inr (.more h hk)⟩

def addAll (c : Nat → Bool) (l : List Nat) : Nat → Bool := fun x => c x || decide (x ∈ l)
theorem addAll_nil (c : Nat → Bool) : addAll c [] = c := by funext x; simp [addAll]
theorem addAll_snoc (c : Nat → Bool) (l : List Nat) (x : Nat) : addAll c (l ++ [x]) = fun y => addAll c l y || y == x := by
  funext y
  simp only [addAll, Bool.or_assoc]
  congr 1
  rw [Bool.eq_iff_iff]; simp
theorem addAll_true {c : Nat → Bool} {l : List Nat} {x : Nat} : addAll c l x = true ↔ c x = true ∨ x ∈ l := by simp [addAll]
/-- the marks behind a walk over some numbers -/
def foldR (D : List (List Nat)) (m : Nat → Bool) (pre : List Nat) : Nat → Bool := pre.foldl (fun c n => addAll c (rowN D n)) m
theorem foldR_snoc (D : List (List Nat)) (m : Nat → Bool) (pre : List Nat) (n : Nat) : foldR D m (pre ++ [n]) = addAll (foldR D m pre) (rowN D n) := by simp [foldR]
/-- the numbers that are gone to, from B - 1 on, the first j of them asked -/
def fallS (D : List (List Nat)) (m : Nat → Bool) (B : Nat) : Nat → List Nat
  | 0 => []
  | j + 1 => if foldR D m (fallS D m B j) (B - 1 - j) then fallS D m B j ++ [B - 1 - j] else fallS D m B j
theorem fallS_hit {D : List (List Nat)} {m : Nat → Bool} {B j : Nat} (h : foldR D m (fallS D m B j) (B - 1 - j) = true) : fallS D m B (j + 1) = fallS D m B j ++ [B - 1 - j] := by simp [fallS, h]
theorem fallS_miss {D : List (List Nat)} {m : Nat → Bool} {B j : Nat} (h : foldR D m (fallS D m B j) (B - 1 - j) = false) : fallS D m B (j + 1) = fallS D m B j := by simp [fallS, h]
theorem length_fallS (D : List (List Nat)) (m : Nat → Bool) (B j : Nat) : (fallS D m B j).length ≤ j := by
  induction j with
  | zero => simp [fallS]
  | succ j ih => simp only [fallS]; split <;> (try rw [List.length_append, List.length_singleton]) <;> omega
def upM (D : List (List Nat)) (m : Nat → Bool) (B : Nat) : Nat → Bool := foldR D m (fallS D m B B)

theorem fall_inv (D : List (List Nat)) (hD : ∀ n, ∀ d ∈ rowN D n, d < n) (m : Nat → Bool) (B j : Nat) (hj : j ≤ B) :
    (∀ x, m x = true → foldR D m (fallS D m B j) x = true) ∧ (∀ x, foldR D m (fallS D m B j) x = true → Ahead D m x) ∧
    (∀ n, B ≤ n + j → n < B → foldR D m (fallS D m B j) n = true → ∀ d ∈ rowN D n, foldR D m (fallS D m B j) d = true) := by
  induction j with
  | zero => exact ⟨fun x h => h, fun x h => .inl h, fun n h1 h2 => by omega⟩
  | succ j ih =>
    obtain ⟨i1, i2, i3⟩ := ih (by omega)
    cases hc : foldR D m (fallS D m B j) (B - 1 - j) with
    | false =>
      rw [fallS_miss hc]
      refine ⟨i1, i2, fun n h1 h2 h3 d hd => ?_⟩
      by_cases e : n = B - 1 - j
      · subst e; rw [hc] at h3; cases h3
      · exact i3 n (by omega) h2 h3 d hd
    | true =>
      rw [fallS_hit hc, foldR_snoc]
      refine ⟨fun x h => addAll_true.2 (.inl (i1 x h)), fun x h => ?_, fun n h1 h2 h3 d hd => ?_⟩
      · rcases addAll_true.1 h with h | h
        · exact i2 x h
        · rcases i2 _ hc with h4 | ⟨y, h4, h5⟩
          · exact .inr ⟨_, h4, .one h⟩
          · exact .inr ⟨y, h4, .more h h5⟩
      · rw [addAll_true] at h3 ⊢
        by_cases e : n = B - 1 - j
        · subst e; exact .inr hd
        · rcases h3 with h3 | h3
          · exact .inl (i3 n (by omega) h2 h3 d hd)
          · have := hD _ _ h3; omega
/-- WHAT IS MARKED BEHIND THE WALK is what was, and what must come ahead of it -/
theorem upM_iff {D : List (List Nat)} (hD : ∀ n, ∀ d ∈ rowN D n, d < n) {m : Nat → Bool} {B : Nat} (hm : ∀ x, m x = true → x < B) (x : Nat) : upM D m B x = true ↔ Ahead D m x := by
  obtain ⟨i1, i2, i3⟩ := fall_inv D hD m B B (Nat.le_refl _)
  refine ⟨i2 x, ?_⟩
  rintro (h | ⟨y, h, hk⟩)
  · exact i1 x h
  · have key : ∀ {x y}, Must D x y → y < B → upM D m B y = true → x < B ∧ upM D m B x = true := by
      intro x y hk
      induction hk with
      | one h => intro hy hu; exact ⟨Nat.lt_trans (hD _ _ h) hy, i3 _ (by omega) hy hu _ h⟩
      | more h _ ih => intro hy hu; obtain ⟨a, b⟩ := ih hy hu; exact ⟨Nat.lt_trans (hD _ _ h) a, i3 _ (by omega) a b _ h⟩
    exact (key hk (hm y h) (i1 y h)).2
/-- so it is the same, whatever it starts from -/
theorem upM_bound {D : List (List Nat)} (hD : ∀ n, ∀ d ∈ rowN D n, d < n) {m : Nat → Bool} {B B' : Nat} (hm : ∀ x, m x = true → x < B) (hm' : ∀ x, m x = true → x < B') : upM D m B = upM D m B' := by
  funext x
  rw [Bool.eq_iff_iff, upM_iff hD hm, upM_iff hD hm']
/-- the numbers that are marked, below B -/
def listM (B : Nat) (c : Nat → Bool) : List Nat := (List.range B).filter c
theorem listM_more {B B' : Nat} {c : Nat → Bool} (h : B ≤ B') (hc : ∀ x, c x = true → x < B) : listM B' c = listM B c := by
  obtain ⟨d, rfl⟩ : ∃ d, B' = B + d := ⟨B' - B, by omega⟩
  unfold listM
  rw [List.range_add, List.filter_append]
  have : ((List.range d).map (B + ·)).filter c = [] := by
    rw [List.filter_eq_nil_iff]
    intro x hx hcx
    obtain ⟨i, _, rfl⟩ := List.mem_map.1 hx
    have := hc _ hcx; omega
  rw [this, List.append_nil]
theorem listM_succ (B : Nat) (c : Nat → Bool) : listM (B + 1) c = listM B c ++ (if c B then [B] else []) := by
  unfold listM
  rw [List.range_succ, List.filter_append]
  cases h : c B <;> simp [h]
theorem length_listM (B : Nat) (c : Nat → Bool) : (listM B c).length ≤ B := by
  have := List.length_filter_le c (List.range B); simpa [listM] using this
theorem mem_listM {B : Nat} {c : Nat → Bool} {x : Nat} : x ∈ listM B c ↔ x < B ∧ c x = true := by simp [listM]
theorem listM_pre {B k : Nat} (hk : k ≤ B) (c : Nat → Bool) : listM k c <+: listM B c := by
  obtain ⟨d, rfl⟩ : ∃ d, B = k + d := ⟨B - k, by omega⟩
  unfold listM
  rw [List.range_add, List.filter_append]
  exact List.prefix_append _ _
theorem listM_rising (B : Nat) (c : Nat → Bool) : (listM B c).Pairwise (· < ·) := List.Pairwise.filter _ List.pairwise_lt_range
/-- the marks of some numbers that may be no numbers of deps -/
def markI (n : Nat) (l : List Int) : Nat → Bool := fun x => decide (x < n) && decide ((x : Int) ∈ l)
theorem markI_nil (n : Nat) : markI n [] = fun _ => false := by funext x; simp [markI]
theorem markI_lt {n : Nat} {l : List Int} {x : Nat} (h : markI n l x = true) : x < n := by simp [markI] at h; exact h.1
theorem markI_hit {n : Nat} {l : List Int} {x : Nat} (h : x < n) : markI n (l ++ [(x : Int)]) = fun y => markI n l y || y == x := by
  funext y
  rw [Bool.eq_iff_iff]
  simp only [markI, Bool.and_eq_true, Bool.or_eq_true, decide_eq_true_eq, List.mem_append, List.mem_singleton, beq_iff_eq]
  constructor
  · rintro ⟨h1, h2 | h2⟩
    · exact .inl ⟨h1, h2⟩
    · exact .inr (by omega)
  · rintro (⟨h1, h2⟩ | rfl)
    · exact ⟨h1, .inl h2⟩
    · exact ⟨h, .inr rfl⟩
theorem markI_miss {n : Nat} {l : List Int} {i : Int} (h : ¬ (0 ≤ i ∧ i < (n : Int))) : markI n (l ++ [i]) = markI n l := by
  funext y
  rw [Bool.eq_iff_iff]
  simp only [markI, Bool.and_eq_true, decide_eq_true_eq, List.mem_append, List.mem_singleton]
  constructor
  · rintro ⟨h1, h2 | h2⟩
    · exact ⟨h1, h2⟩
    · omega
  · rintro ⟨h1, h2⟩
    exact ⟨h1, .inl h2⟩
/-- Close -/
def closeL (D : List (List Nat)) (l : List Int) : List Nat := listM D.length (upM D (markI D.length l) D.length)
end Go.Proofs.Ythffdkoncagimaa
