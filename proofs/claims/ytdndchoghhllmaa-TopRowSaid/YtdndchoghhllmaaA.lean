/- Groups, plain: what each call makes of them. No program is imported. -/
import Derived.Laws.Entries
set_option linter.unusedVariables false
set_option linter.unusedSimpArgs false
namespace Go.Proofs.Ytdndchoghhllmaa

/-- a group: its number, its state (1 Fresh, 2 Engaged, 3 Resting, 4 Released), its patches (rising), what it comes behind itself -/
structure Gp where
  n : Int
  s : Nat
  p : List Int
  a : List Int
/-- groups: those that are there, in the order in which they were made; the next number -/
structure Gs where
  l : List Gp
  k : Int
def isN (n : Int) (g : Gp) : Bool := g.n == n
def nos (l : List Gp) : List Int := l.map (·.n)
theorem length_nos (l : List Gp) : (nos l).length = l.length := by simp [nos]
def hasG (l : List Gp) (n : Int) : Bool := l.any (isN n)
theorem hasG_iff {l : List Gp} {n : Int} : hasG l n = true ↔ n ∈ nos l := by
  unfold hasG nos isN
  simp [List.any_eq_true, List.mem_map]
theorem hasG_no {l : List Gp} {n : Int} : hasG l n = false ↔ n ∉ nos l := by
  rw [← hasG_iff]; simp
/-- the group of a number -/
def ofN (l : List Gp) (n : Int) : Gp := (l.find? (isN n)).getD ⟨0, 0, [], []⟩
def atN (l : List Gp) (n : Int) : Nat := l.findIdx (isN n)
/-- a group laid anew in its place -/
def putN (l : List Gp) (n : Int) (f : Gp → Gp) : List Gp := l.map fun g => if g.n = n then f g else g
/-- rising numbers with one more, each once -/
def withI : List Int → Int → List Int
  | [], n => [n]
  | b :: r, n => if n < b then n :: b :: r else if n = b then b :: r else b :: withI r n
def Rises (l : List Int) : Prop := l.Pairwise (· < ·)
theorem mem_with {l : List Int} {n y : Int} : y ∈ withI l n ↔ y = n ∨ y ∈ l := by
  induction l with
  | nil => simp [withI]
  | cons b r ih =>
    unfold withI
    by_cases h : n < b
    · rw [if_pos h]; simp
    · rw [if_neg h]
      by_cases h2 : n = b
      · rw [if_pos h2, h2]; simp
      · rw [if_neg h2, List.mem_cons, ih, List.mem_cons]
        constructor
        · rintro (h | h | h)
          · exact .inr (.inl h)
          · exact .inl h
          · exact .inr (.inr h)
        · rintro (h | h | h)
          · exact .inr (.inl h)
          · exact .inl h
          · exact .inr (.inr h)
theorem with_rises {l : List Int} (h : Rises l) (n : Int) : Rises (withI l n) := by
  induction l with
  | nil => exact List.pairwise_singleton _ _
  | cons b r ih =>
    obtain ⟨h1, h2⟩ := List.pairwise_cons.1 h
    unfold withI
    by_cases e : n < b
    · rw [if_pos e]
      refine List.pairwise_cons.2 ⟨fun y hy => ?_, h⟩
      rcases List.mem_cons.1 hy with q | q
      · rw [q]; exact e
      · have := h1 y q; omega
    · rw [if_neg e]
      by_cases e2 : n = b
      · rw [if_pos e2]; exact h
      · rw [if_neg e2]
        refine List.pairwise_cons.2 ⟨fun y hy => ?_, ih h2⟩
        rcases mem_with.1 hy with q | q
        · omega
        · exact h1 y q
/-- rising rows of the same numbers are the same -/
theorem rises_same : ∀ {l m : List Int}, Rises l → Rises m → (∀ y, y ∈ l ↔ y ∈ m) → l = m := by
  intro l
  induction l with
  | nil =>
    intro m _ _ h
    cases m with
    | nil => rfl
    | cons b r => exact absurd ((h b).2 (List.mem_cons_self ..)) (by simp)
  | cons a q ih =>
    intro m hl hm h
    cases m with
    | nil => exact absurd ((h a).1 (List.mem_cons_self ..)) (by simp)
    | cons b r =>
      obtain ⟨l1, l2⟩ := List.pairwise_cons.1 hl
      obtain ⟨m1, m2⟩ := List.pairwise_cons.1 hm
      have hab : a = b := by
        rcases List.mem_cons.1 ((h a).1 (List.mem_cons_self ..)) with e | e
        · exact e
        · rcases List.mem_cons.1 ((h b).2 (List.mem_cons_self ..)) with e2 | e2
          · exact e2.symm
          · have := m1 a e
            have := l1 b e2
            omega
      subst hab
      congr 1
      refine ih l2 m2 fun y => ⟨fun hy => ?_, fun hy => ?_⟩
      · rcases List.mem_cons.1 ((h y).1 (List.mem_cons_of_mem _ hy)) with e | e
        · have := l1 y hy; omega
        · exact e
      · rcases List.mem_cons.1 ((h y).2 (List.mem_cons_of_mem _ hy)) with e | e
        · have := m1 y hy; omega
        · exact e
def withL (o : List Int) (l : List Int) : List Int := l.foldl withI o
theorem mem_withL {l : List Int} : ∀ {o : List Int} {y : Int}, y ∈ withL o l ↔ y ∈ o ∨ y ∈ l := by
  induction l with
  | nil => intro o y; simp [withL]
  | cons b r ih =>
    intro o y
    show y ∈ withL (withI o b) r ↔ _
    rw [ih, mem_with, List.mem_cons]
    constructor
    · rintro ((h | h) | h)
      · exact .inr (.inl h)
      · exact .inl h
      · exact .inr (.inr h)
    · rintro (h | h | h)
      · exact .inl (.inr h)
      · exact .inl (.inl h)
      · exact .inr h
theorem withL_rises {l : List Int} : ∀ {o : List Int}, Rises o → Rises (withL o l) := by
  induction l with
  | nil => intro o h; exact h
  | cons b r ih => intro o h; exact ih (with_rises h b)
/-- all that one comes behind -/
inductive Far (l : List Gp) : Int → Int → Prop where
  | one {n m : Int} : m ∈ (ofN l n).a → Far l n m
  | step {n m q : Int} : m ∈ (ofN l n).a → Far l m q → Far l n q
theorem Far.trans {l : List Gp} {n m q : Int} (h : Far l n m) (h2 : Far l m q) : Far l n q := by
  induction h with
  | one h => exact .step h h2
  | step h _ ih => exact .step h (ih h2)
/-- those that all of some come behind, besides -/
def roundL (l : List Gp) (o : List Int) : List Int := o.foldl (fun r n => withL r (ofN l n).a) o
theorem mem_fold {l : List Gp} : ∀ {o r : List Int} {y : Int}, y ∈ o.foldl (fun r n => withL r (ofN l n).a) r ↔ y ∈ r ∨ ∃ n ∈ o, y ∈ (ofN l n).a := by
  intro o
  induction o with
  | nil => intro r y; simp
  | cons b q ih =>
    intro r y
    show y ∈ q.foldl _ (withL r (ofN l b).a) ↔ _
    rw [ih, mem_withL]
    constructor
    · rintro ((h | h) | ⟨n, hn, h⟩)
      · exact .inl h
      · exact .inr ⟨b, List.mem_cons_self .., h⟩
      · exact .inr ⟨n, List.mem_cons_of_mem _ hn, h⟩
    · rintro (h | ⟨n, hn, h⟩)
      · exact .inl (.inl h)
      · rcases List.mem_cons.1 hn with e | e
        · rw [e] at h; exact .inl (.inr h)
        · exact .inr ⟨n, e, h⟩
theorem fold_rises {l : List Gp} : ∀ {o r : List Int}, Rises r → Rises (o.foldl (fun r n => withL r (ofN l n).a) r) := by
  intro o
  induction o with
  | nil => intro r h; exact h
  | cons b q ih => intro r h; exact ih (withL_rises h)
def rounds (l : List Gp) (o : List Int) : Nat → List Int
  | 0 => o
  | k + 1 => roundL l (rounds l o k)
theorem rounds_rises {l : List Gp} {o : List Int} (h : Rises o) (k : Nat) : Rises (rounds l o k) := by
  induction k with
  | zero => exact h
  | succ k ih => exact fold_rises ih
/-- what the document's Ahead answers of a group that is there -/
def aheadR (l : List Gp) (n : Int) : List Int := rounds l (withL [] (ofN l n).a) l.length
theorem aheadR_rises (l : List Gp) (n : Int) : Rises (aheadR l n) := rounds_rises (withL_rises List.Pairwise.nil) _
theorem rounds_far {l : List Gp} {n : Int} (k : Nat) {y : Int} (h : y ∈ rounds l (withL [] (ofN l n).a) k) : Far l n y := by
  induction k generalizing y with
  | zero =>
    rcases mem_withL.1 h with q | q
    · cases q
    · exact .one q
  | succ k ih =>
    rcases mem_fold.1 h with q | ⟨m, hm, q⟩
    · exact ih q
    · exact (ih hm).trans (.one q)
theorem rounds_more {l : List Gp} {o : List Int} (k : Nat) {y : Int} (h : y ∈ rounds l o k) : y ∈ rounds l o (k + 1) := mem_fold.2 (.inl h)
theorem sub_len {m : List Int} : ∀ {l : List Int}, l.Nodup → (∀ y ∈ l, y ∈ m) → l.length ≤ m.length := by
  induction m with
  | nil =>
    intro l _ h
    cases l with
    | nil => exact Nat.le_refl _
    | cons a q => exact absurd (h a (List.mem_cons_self ..)) (by simp)
  | cons b r ih =>
    intro l hl h
    have h1 : (l.filter fun y => !(y == b)).length ≤ r.length := ih (hl.sublist List.filter_sublist) (fun y hy => by
      rw [List.mem_filter] at hy
      rcases List.mem_cons.1 (h y hy.1) with e | e
      · simp [e] at hy
      · exact e)
    have h2 : l.length ≤ (l.filter fun y => !(y == b)).length + 1 := by
      clear h ih h1
      induction l with
      | nil => simp
      | cons a q ih2 =>
        obtain ⟨n1, n2⟩ := List.nodup_cons.1 hl
        rw [List.filter_cons]
        by_cases e : a = b
        · rw [if_neg (by simp [e])]
          have : q.filter (fun y => !(y == b)) = q := by
            rw [List.filter_eq_self]
            intro y hy
            have : y ≠ b := fun z => n1 (by rw [e, ← z]; exact hy)
            simpa using this
          rw [this]; simp
        · rw [if_pos (by simpa using e)]
          simp only [List.length_cons]
          have := ih2 n2
          omega
    simp only [List.length_cons]
    omega
theorem rises_nodup {l : List Int} (h : Rises l) : l.Nodup := h.imp fun h => by omega
/-- a round that adds nothing is the last -/
theorem rounds_shut {l : List Gp} {o : List Int} (ho : Rises o) (hin : ∀ n, ∀ y ∈ (ofN l n).a, y ∈ nos l) (hi : ∀ y ∈ o, y ∈ nos l) (k : Nat) :
    (∀ m ∈ rounds l o k, ∀ y ∈ (ofN l m).a, y ∈ rounds l o k) ∨ k + o.length ≤ (rounds l o k).length := by
  induction k with
  | zero => right; show 0 + o.length ≤ o.length; omega
  | succ k ih =>
    by_cases hs : ∀ m ∈ rounds l o k, ∀ y ∈ (ofN l m).a, y ∈ rounds l o k
    · left
      have e : ∀ y, y ∈ rounds l o (k + 1) → y ∈ rounds l o k := fun y h => by
        rcases mem_fold.1 h with q | ⟨m, hm, q⟩
        · exact q
        · exact hs m hm y q
      exact fun m hm y hy => rounds_more k (hs m (e m hm) y hy)
    · right
      have hk : k + o.length ≤ (rounds l o k).length := by
        rcases ih with h | h
        · exact absurd h hs
        · exact h
      have hex : ∃ y, y ∈ rounds l o (k + 1) ∧ y ∉ rounds l o k := by
        apply Classical.byContradiction
        intro hno
        refine hs fun m hm y hy => ?_
        apply Classical.byContradiction
        intro hy2
        exact hno ⟨y, mem_fold.2 (.inr ⟨m, hm, hy⟩), hy2⟩
      obtain ⟨y, hy1, hy2⟩ := hex
      have : (y :: rounds l o k).length ≤ (rounds l o (k + 1)).length := by
        refine sub_len (List.nodup_cons.2 ⟨hy2, rises_nodup (rounds_rises ho k)⟩) fun z hz => ?_
        rcases List.mem_cons.1 hz with e | e
        · rw [e]; exact hy1
        · exact rounds_more k e
      simp only [List.length_cons] at this
      omega
theorem rounds_in {l : List Gp} {o : List Int} (hin : ∀ n, ∀ y ∈ (ofN l n).a, y ∈ nos l) (hi : ∀ y ∈ o, y ∈ nos l) (k : Nat) : ∀ y ∈ rounds l o k, y ∈ nos l := by
  induction k with
  | zero => exact hi
  | succ k ih =>
    intro y h
    rcases mem_fold.1 h with q | ⟨m, _, q⟩
    · exact ih y q
    · exact hin m y q
/-- as many rounds as there are groups are enough -/
theorem mem_aheadR {l : List Gp} (hin : ∀ n, ∀ y ∈ (ofN l n).a, y ∈ nos l) (n : Int) (y : Int) : y ∈ aheadR l n ↔ Far l n y := by
  have ho : Rises (withL [] (ofN l n).a) := withL_rises List.Pairwise.nil
  have hi : ∀ y ∈ withL [] (ofN l n).a, y ∈ nos l := fun y h => by
    rcases mem_withL.1 h with q | q
    · cases q
    · exact hin n y q
  refine ⟨rounds_far _, fun h => ?_⟩
  have hshut : ∀ m ∈ aheadR l n, ∀ y ∈ (ofN l m).a, y ∈ aheadR l n := by
    rcases rounds_shut ho hin hi l.length with q | q
    · exact q
    · intro m hm y hy
      have h0 : (ofN l n).a ≠ [] := fun e => by
        have hz : withL [] (ofN l n).a = [] := by rw [e]; rfl
        have : ∀ k, rounds l (withL [] (ofN l n).a) k = [] := by
          intro k
          induction k with
          | zero => exact hz
          | succ k ih => show roundL l (rounds l _ k) = []; rw [ih]; rfl
        unfold aheadR at hm
        rw [this] at hm
        cases hm
      have h1 : 0 < (withL [] (ofN l n).a).length := by
        rcases List.exists_mem_of_ne_nil _ h0 with ⟨z, hz⟩
        exact List.length_pos_of_mem (mem_withL.2 (.inr hz))
      have h2 := sub_len (rises_nodup (rounds_rises ho l.length)) (rounds_in hin hi l.length)
      rw [length_nos] at h2
      omega
  have hall : ∀ k, ∀ y, y ∈ withL [] (ofN l n).a → y ∈ rounds l (withL [] (ofN l n).a) k := by
    intro k
    induction k with
    | zero => exact fun y h => h
    | succ k ih => exact fun y h => rounds_more k (ih y h)
  have key : ∀ m q, Far l m q → m ∈ aheadR l n → q ∈ aheadR l n := by
    intro m q hf
    induction hf with
    | one h => exact fun hm => hshut _ hm _ h
    | step h _ ih => exact fun hm => ih (hshut _ hm _ h)
  cases h with
  | one h => exact hall _ _ (mem_withL.2 (.inr h))
  | step h h2 => exact key _ _ h2 (hall _ _ (mem_withL.2 (.inr h)))
end Go.Proofs.Ytdndchoghhllmaa
