/- Cylinder groups as plain data: which are right, what each call makes of them. -/
import Derived.Test.YtpcindemkkdbbaaProg
import Derived.Lib.Hide
import Derived.WalkKit
namespace Go.Proofs.Ytpcindemkkdbbaa
set_option linter.unusedVariables false
set_option linter.unusedSimpArgs false

def nth (l : List Int) (k : Nat) : Int := l.getD k 0
theorem nth_lt {l : List Int} {k : Nat} (h : k < l.length) : nth l k = l[k] := by
  unfold nth; rw [List.getD_eq_getElem?_getD, List.getElem?_eq_getElem h]; rfl
theorem nth_mem {l : List Int} {k : Nat} (h : k < l.length) : nth l k ∈ l := by rw [nth_lt h]; exact List.getElem_mem h
theorem take_nth {l : List Int} {k : Nat} (h : k < l.length) : l.take (k + 1) = l.take k ++ [nth l k] := by
  rw [List.take_succ_eq_append_getElem h, nth_lt h]
theorem nth_take {l : List Int} {n k : Nat} (h : k < n) (h2 : k < l.length) : nth (l.take n) k = nth l k := by
  rw [nth_lt (by rw [List.length_take]; omega), nth_lt h2, List.getElem_take]

/-- a cylinder group: its number, its blocks, how many are free of its blocks and inodes, where the next block is looked for, what is used -/
structure Cy where
  ix : Int
  bl : Int
  fb : Int
  fi : Int
  ro : Int
  us : List Int
  is : List Int
def cy0 : Cy := ⟨0, 0, 0, 0, 0, [], []⟩
def cyN (l : List Cy) (k : Nat) : Cy := l.getD k cy0
theorem cyN_lt {l : List Cy} {k : Nat} (h : k < l.length) : cyN l k = l[k] := by
  unfold cyN; rw [List.getD_eq_getElem?_getD, List.getElem?_eq_getElem h]; rfl
theorem cyN_mem {l : List Cy} {k : Nat} (h : k < l.length) : cyN l k ∈ l := by rw [cyN_lt h]; exact List.getElem_mem h
theorem cyN_take {l : List Cy} {n k : Nat} (h : k < n) (h2 : k < l.length) : cyN (l.take n) k = cyN l k := by
  rw [cyN_lt (by rw [List.length_take]; omega), cyN_lt h2, List.getElem_take]
theorem cyN_set {l : List Cy} {k j : Nat} (h : k < l.length) (c : Cy) : cyN (l.set k c) j = if j = k then c else cyN l j := by
  unfold cyN
  rw [List.getD_eq_getElem?_getD, List.getD_eq_getElem?_getD, List.getElem?_set]
  by_cases e : k = j
  · subst e; simp [h]
  · rw [if_neg e, if_neg (fun q => e q.symm)]
theorem ext_cyN {a b : List Cy} (h : a.length = b.length) (h2 : ∀ k, k < a.length → cyN a k = cyN b k) : a = b :=
  List.ext_getElem h fun k h3 h4 => by rw [← cyN_lt h3, ← cyN_lt h4]; exact h2 k h3

/-- numbers rise, from 0 on and below m -/
def Rise (m : Int) (l : List Int) : Prop := (∀ x ∈ l, 0 ≤ x ∧ x < m) ∧ l.Pairwise (· < ·)
def riseAt (m : Int) (l : List Int) (k : Nat) : Bool := decide (0 ≤ nth l k ∧ nth l k < m ∧ (k = 0 ∨ nth l (k - 1) < nth l k))
def risesTo (m : Int) (l : List Int) (k : Nat) : Bool := (List.range k).all (riseAt m l)
def rises (m : Int) (l : List Int) : Bool := risesTo m l l.length
theorem risesTo_succ (m : Int) (l : List Int) (k : Nat) : risesTo m l (k + 1) = (risesTo m l k && riseAt m l k) := by simp [risesTo, List.range_succ]
theorem rises_stop {m : Int} {l : List Int} {k : Nat} (hk : k < l.length) (h : riseAt m l k = false) : rises m l = false := by
  rw [Bool.eq_false_iff]
  intro ht
  have := List.all_eq_true.1 ht k (List.mem_range.2 hk)
  rw [h] at this; cases this
theorem risesTo_at {m : Int} {l : List Int} {k j : Nat} (h : risesTo m l k = true) (hj : j < k) : riseAt m l j = true := List.all_eq_true.1 h j (List.mem_range.2 hj)
theorem rises_iff (m : Int) (l : List Int) : rises m l = true ↔ Rise m l := by
  unfold rises risesTo
  rw [List.all_eq_true]
  constructor
  · intro h
    have hat : ∀ k, k < l.length → 0 ≤ nth l k ∧ nth l k < m ∧ (k = 0 ∨ nth l (k - 1) < nth l k) := fun k hk => of_decide_eq_true (h k (List.mem_range.2 hk))
    refine ⟨fun x hx => ?_, ?_⟩
    · obtain ⟨k, hk, rfl⟩ := List.getElem_of_mem hx
      have := hat k hk
      rw [nth_lt hk] at this
      exact ⟨this.1, this.2.1⟩
    · rw [List.pairwise_iff_getElem]
      have hlt : ∀ d i, i + d + 1 < l.length → nth l i < nth l (i + d + 1) := by
        intro d
        induction d with
        | zero => intro i hi; have := (hat (i + 1) hi).2.2; rcases this with q | q; omega; simpa using q
        | succ d ih =>
          intro i hi
          have h1 := ih i (by omega)
          have := (hat (i + (d + 1) + 1) hi).2.2
          rcases this with q | q
          · omega
          · have e : i + (d + 1) + 1 - 1 = i + d + 1 := by omega
            rw [e] at q
            omega
      intro i j hi hj hij
      have := hlt (j - i - 1) i (by omega)
      rw [show i + (j - i - 1) + 1 = j by omega, nth_lt hi, nth_lt hj] at this
      exact this
  · rintro ⟨h1, h2⟩ k hk
    have hk := List.mem_range.1 hk
    refine decide_eq_true ⟨(h1 _ (nth_mem hk)).1, (h1 _ (nth_mem hk)).2, ?_⟩
    by_cases h0 : k = 0
    · exact .inl h0
    · right
      rw [nth_lt (by omega : k - 1 < l.length), nth_lt hk]
      exact List.pairwise_iff_getElem.1 h2 (k - 1) k (by omega) hk (by omega)
def amongB (n m : Int) : Bool := decide (0 ≤ n) && decide (n < m)
theorem amongB_iff {n m : Int} : amongB n m = true ↔ 0 ≤ n ∧ n < m := by simp [amongB]
theorem amongB_no {n m : Int} : amongB n m = false ↔ ¬ (0 ≤ n ∧ n < m) := by rw [← amongB_iff]; simp
def rightC (c : Cy) : Bool := amongB c.ix 16 && (decide (1 ≤ c.bl) && (decide (c.bl ≤ 64) && (amongB c.ro c.bl && (rises c.bl c.us && (rises 16 c.is && (decide (c.fb = c.bl - c.us.length) && decide (c.fi = 16 - c.is.length)))))))
structure RightC (c : Cy) : Prop where
  ix : 0 ≤ c.ix ∧ c.ix < 16
  bl : 1 ≤ c.bl ∧ c.bl ≤ 64
  ro : 0 ≤ c.ro ∧ c.ro < c.bl
  us : Rise c.bl c.us
  is : Rise 16 c.is
  fb : c.fb = c.bl - c.us.length
  fi : c.fi = 16 - c.is.length
theorem rightC_iff (c : Cy) : rightC c = true ↔ RightC c := by
  unfold rightC
  simp only [Bool.and_eq_true, decide_eq_true_eq, amongB_iff, rises_iff]
  exact ⟨fun ⟨a, b, b2, d, e, f, g, h⟩ => ⟨a, ⟨b, b2⟩, d, e, f, g, h⟩, fun h => ⟨h.ix, h.bl.1, h.bl.2, h.ro, h.us, h.is, h.fb, h.fi⟩⟩
def wholeTo (l : List Cy) (k : Nat) : Bool := (List.range k).all fun i => decide ((cyN l i).ix = i) && rightC (cyN l i)
def wholeL (l : List Cy) : Bool := decide (1 ≤ l.length) && decide (l.length ≤ 16) && wholeTo l l.length
theorem wholeTo_succ (l : List Cy) (k : Nat) : wholeTo l (k + 1) = (wholeTo l k && (decide ((cyN l k).ix = k) && rightC (cyN l k))) := by simp [wholeTo, List.range_succ]
structure Whole (l : List Cy) : Prop where
  n1 : 1 ≤ l.length
  n2 : l.length ≤ 16
  ix : ∀ i, i < l.length → (cyN l i).ix = i
  ok : ∀ i, i < l.length → RightC (cyN l i)
theorem wholeL_iff (l : List Cy) : wholeL l = true ↔ Whole l := by
  unfold wholeL wholeTo
  simp only [Bool.and_eq_true, decide_eq_true_eq, List.all_eq_true, List.mem_range, rightC_iff]
  exact ⟨fun ⟨⟨a, b⟩, c⟩ => ⟨a, b, fun i h => (c i h).1, fun i h => (c i h).2⟩, fun h => ⟨⟨h.n1, h.n2⟩, fun i k => ⟨h.ix i k, h.ok i k⟩⟩⟩
theorem wholeL_stop {l : List Cy} {k : Nat} (hk : k < l.length) (h : (decide ((cyN l k).ix = k) && rightC (cyN l k)) = false) : wholeL l = false := by
  rw [Bool.eq_false_iff]
  intro ht
  unfold wholeL wholeTo at ht
  simp only [Bool.and_eq_true] at ht
  have := List.all_eq_true.1 ht.2 k (List.mem_range.2 hk)
  rw [h] at this; cases this
theorem wholeL_few {l : List Cy} (h : l.length = 0) : wholeL l = false := by simp [wholeL, h]
theorem wholeL_many {l : List Cy} (h : 16 < l.length) : wholeL l = false := by
  have : ¬ l.length ≤ 16 := by omega
  simp [wholeL, this]

/-- numbers that rise with one more, or without one -/
def posI (l : List Int) (n : Int) : Nat := l.countP (· < n)
def withI (l : List Int) (n : Int) : List Int := l.take (posI l n) ++ n :: l.drop (posI l n)
def withoutI (l : List Int) (n : Int) : List Int := l.filter (· ≠ n)
theorem posI_le (l : List Int) (n : Int) : posI l n ≤ l.length := List.countP_le_length
theorem length_withI (l : List Int) (n : Int) : (withI l n).length = l.length + 1 := by
  have := posI_le l n
  simp [withI]; omega
/-- those below n come first -/
theorem split_pos {l : List Int} (h : l.Pairwise (· < ·)) (n : Int) : (∀ x ∈ l.take (posI l n), x < n) ∧ ∀ x ∈ l.drop (posI l n), n ≤ x := by
  induction l with
  | nil => simp [posI]
  | cons a q ih =>
    rw [List.pairwise_cons] at h
    obtain ⟨h1, h2⟩ := ih h.2
    by_cases e : a < n
    · have ep : posI (a :: q) n = posI q n + 1 := by simp [posI, List.countP_cons, e]
      rw [ep]
      refine ⟨fun x hx => ?_, fun x hx => h2 x (by simpa using hx)⟩
      rw [List.take_succ_cons] at hx
      rcases List.mem_cons.1 hx with rfl | hx
      · exact e
      · exact h1 x hx
    · have ep : posI (a :: q) n = 0 := by
        unfold posI
        rw [List.countP_eq_zero]
        intro x hx
        rcases List.mem_cons.1 hx with rfl | hx
        · simpa using e
        · have := h.1 x hx; simp; omega
      rw [ep]
      refine ⟨fun x hx => by simp at hx, fun x hx => ?_⟩
      rw [List.drop_zero] at hx
      rcases List.mem_cons.1 hx with rfl | hx
      · omega
      · have := h.1 x hx; omega
theorem mem_withI {l : List Int} {n x : Int} : x ∈ withI l n ↔ x = n ∨ x ∈ l := by
  unfold withI
  rw [List.mem_append, List.mem_cons]
  constructor
  · rintro (h | h | h)
    · exact .inr (List.mem_of_mem_take h)
    · exact .inl h
    · exact .inr (List.mem_of_mem_drop h)
  · rintro (h | h)
    · exact .inr (.inl h)
    · rw [← List.take_append_drop (posI l n) l, List.mem_append] at h
      rcases h with h | h
      · exact .inl h
      · exact .inr (.inr h)
theorem Rise.with_ {m : Int} {l : List Int} {n : Int} (h : Rise m l) (h0 : 0 ≤ n) (hm : n < m) (hn : n ∉ l) : Rise m (withI l n) := by
  refine ⟨fun x hx => ?_, ?_⟩
  · rcases mem_withI.1 hx with rfl | hx
    · exact ⟨h0, hm⟩
    · exact h.1 x hx
  · obtain ⟨h1, h2⟩ := split_pos h.2 n
    have hs := h.2
    rw [← List.take_append_drop (posI l n) l, List.pairwise_append] at hs
    unfold withI
    rw [List.pairwise_append, List.pairwise_cons]
    refine ⟨hs.1, ⟨fun x hx => ?_, hs.2.1⟩, fun x hx y hy => ?_⟩
    · have h3 := h2 x hx
      have : x ≠ n := fun e => hn (e ▸ List.mem_of_mem_drop hx)
      omega
    · rcases List.mem_cons.1 hy with rfl | hy
      · exact h1 x hx
      · exact hs.2.2 x hx y hy
theorem mem_withoutI {l : List Int} {n x : Int} : x ∈ withoutI l n ↔ x ≠ n ∧ x ∈ l := by
  unfold withoutI; rw [List.mem_filter]; simp [and_comm]
theorem Rise.without {m : Int} {l : List Int} (h : Rise m l) (n : Int) : Rise m (withoutI l n) :=
  ⟨fun x hx => h.1 x (mem_withoutI.1 hx).2, h.2.filter _⟩
/-- rows that rise are told by what is in them -/
theorem rise_ext {a b : List Int} (ha : a.Pairwise (· < ·)) (hb : b.Pairwise (· < ·)) (h : ∀ x, x ∈ a ↔ x ∈ b) : a = b := by
  induction a generalizing b with
  | nil =>
    cases b with
    | nil => rfl
    | cons y q => exact absurd ((h y).2 (by simp)) (by simp)
  | cons x p ih =>
    cases b with
    | nil => exact absurd ((h x).1 (by simp)) (by simp)
    | cons y q =>
      rw [List.pairwise_cons] at ha hb
      have hxy : x = y := by
        rcases List.mem_cons.1 ((h x).1 (by simp)) with e | e
        · exact e
        · rcases List.mem_cons.1 ((h y).2 (by simp)) with e2 | e2
          · exact e2.symm
          · have := ha.1 y e2; have := hb.1 x e; omega
      subst hxy
      congr 1
      refine ih ha.2 hb.2 fun z => ?_
      have := h z
      rw [List.mem_cons, List.mem_cons] at this
      constructor
      · intro hz
        rcases this.1 (.inr hz) with e | e
        · have := ha.1 z hz; omega
        · exact e
      · intro hz
        rcases this.2 (.inr hz) with e | e
        · have := hb.1 z hz; omega
        · exact e
theorem without_with {m : Int} {l : List Int} {n : Int} (h : Rise m l) (h0 : 0 ≤ n) (hm : n < m) (hn : n ∉ l) : withoutI (withI l n) n = l :=
  rise_ext ((h.with_ h0 hm hn).without n).2 h.2 fun x => by
    rw [mem_withoutI, mem_withI]
    exact ⟨fun ⟨a, b⟩ => b.resolve_left a, fun q => ⟨fun e => hn (e ▸ q), .inr q⟩⟩
theorem length_withoutI {m : Int} {l : List Int} {n : Int} (h : Rise m l) (hn : n ∈ l) : (withoutI l n).length + 1 = l.length := by
  have : withI (withoutI l n) n = l := rise_ext ((h.without n).with_ (h.1 n hn).1 (h.1 n hn).2 (by rw [mem_withoutI]; simp)).2 h.2 fun x => by
    rw [mem_withI, mem_withoutI]
    by_cases e : x = n
    · subst e; simp [hn]
    · simp [e]
  rw [← length_withI, this]
/-- what stands where n would stand -/
theorem at_pos {l : List Int} {n : Int} (h : l.Pairwise (· < ·)) (hn : n ∈ l) : posI l n < l.length ∧ nth l (posI l n) = n := by
  obtain ⟨h1, h2⟩ := split_pos h n
  have hd : n ∈ l.drop (posI l n) := by
    rw [← List.take_append_drop (posI l n) l, List.mem_append] at hn
    rcases hn with q | q
    · have := h1 n q; omega
    · exact q
  have hlt : posI l n < l.length := by
    rcases Nat.lt_or_ge (posI l n) l.length with q | q
    · exact q
    · rw [List.drop_eq_nil_of_le q] at hd; cases hd
  refine ⟨hlt, ?_⟩
  rw [nth_lt hlt]
  have e := List.drop_eq_getElem_cons hlt
  have hp := h.sublist (List.drop_sublist (posI l n) l)
  rw [e] at hd hp
  rw [List.pairwise_cons] at hp
  have h3 := h2 l[posI l n] (List.mem_iff_getElem.2 ⟨0, by rw [List.length_drop]; omega, by simp⟩)
  rcases List.mem_cons.1 hd with q | q
  · exact q.symm
  · have := hp.1 n q; omega
theorem without_pos {l : List Int} {n : Int} (h : l.Pairwise (· < ·)) (hn : n ∈ l) : l.take (posI l n) ++ l.drop (posI l n + 1) = withoutI l n := by
  obtain ⟨hlt, hat⟩ := at_pos h hn
  obtain ⟨h1, h2⟩ := split_pos h n
  rw [nth_lt hlt] at hat
  have e := List.drop_eq_getElem_cons hlt
  have hp := h.sublist (List.drop_sublist (posI l n) l)
  rw [e, hat, List.pairwise_cons] at hp
  have hl : withoutI l n = withoutI (l.take (posI l n) ++ (n :: l.drop (posI l n + 1))) n := by
    conv => lhs; rw [← List.take_append_drop (posI l n) l, e, hat]
  rw [hl]
  unfold withoutI
  rw [List.filter_append, List.filter_cons]
  have e1 : (l.take (posI l n)).filter (fun x => decide (x ≠ n)) = l.take (posI l n) := List.filter_eq_self.2 fun x hx => by have := h1 x hx; simp; omega
  have e2 : (l.drop (posI l n + 1)).filter (fun x => decide (x ≠ n)) = l.drop (posI l n + 1) := List.filter_eq_self.2 fun x hx => by have := hp.1 x hx; simp; omega
  rw [e1, e2]
  simp
end Go.Proofs.Ytpcindemkkdbbaa
