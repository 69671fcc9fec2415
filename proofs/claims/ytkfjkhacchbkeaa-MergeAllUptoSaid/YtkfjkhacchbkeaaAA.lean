/- Plain words on the document's groups: the first item of each one's group. -/
import Derived.Test.YtkfjkhacchbkeaaU
import Derived.Test.YtkfjkhacchbkeaaGYG
namespace Go.Proofs.Ytkfjkhacchbkeaa
set_option linter.unusedVariables false
set_option linter.unusedSimpArgs false
open Go.RowKit

variable {bl : Nat → Int} {D : List (List Nat)}
def foS (s : List (List Nat) × List Nat) (i : Nat) : Nat := el (rowN s.1 (el s.2 i)) 0
def foK (bl : Nat → Int) (D : List (List Nat)) (k i : Nat) : Nat := foS (gatherG bl D k) i
theorem el_app {l : List Nat} {x : Nat} (h : 0 < l.length) : el (l ++ [x]) 0 = el l 0 := by rw [el_snoc, if_neg (by omega)]
theorem foK_step (hD : Right D) {k i : Nat} (hk : k < D.length) (hi : i < k) : foK bl D (k + 1) i = foK bl D k i := by
  have hI := inv_gather (bl := bl) hD k (by omega)
  show foS (stepS bl D (gatherG bl D k) k) i = foS (gatherG bl D k) i
  obtain ⟨s, hs⟩ : ∃ s, s = gatherG bl D k := ⟨_, rfl⟩
  rw [← hs] at hI ⊢
  have hlt := hI.lt i hi
  have hlen := hI.len
  unfold stepS foS
  cases e : homeG bl D s k with
  | none =>
    simp only [newS]
    rw [el_snoc, if_neg (by omega), rowN_snoc, if_neg (by omega)]
  | some g =>
    obtain ⟨n, hn, _, rfl⟩ := homeG_some e
    have hg := hI.lt n (homeT_some hn).1
    simp only [joinS]
    rw [el_snoc, if_neg (by omega), rowN_set _ _ _ _ hg]
    by_cases h : el s.2 i = el s.2 n
    · rw [if_pos h, ← h, el_app (hI.ne _ hlt)]
    · rw [if_neg h]
theorem foK_none (hD : Right D) {k : Nat} (hk : k < D.length) (h : homeG bl D (gatherG bl D k) k = none) : foK bl D (k + 1) k = k := by
  have hlen := (inv_gather (bl := bl) hD k (by omega)).len
  show foS (stepS bl D (gatherG bl D k) k) k = k
  unfold stepS foS
  rw [h]
  simp only [newS]
  rw [el_snoc, if_pos hlen.symm, rowN_snoc, if_pos rfl]
  rfl
theorem foK_some (hD : Right D) {k p : Nat} (hk : k < D.length) (hp : homeN bl k = some p) (h : homeG bl D (gatherG bl D k) k = some (el (gatherG bl D k).2 p)) : foK bl D (k + 1) k = foK bl D k p := by
  have hI := inv_gather (bl := bl) hD k (by omega)
  have hlen := hI.len
  have hg := hI.lt p (homeT_some hp).1
  show foS (stepS bl D (gatherG bl D k) k) k = foS (gatherG bl D k) p
  unfold stepS foS
  rw [h]
  simp only [joinS]
  rw [el_snoc, if_pos hlen.symm, rowN_set _ _ _ _ hg, if_pos rfl, el_app (hI.ne _ hg)]
theorem foK_more (hD : Right D) {i k : Nat} (hik : i < k) : ∀ d, k + d ≤ D.length → foK bl D (k + d) i = foK bl D k i := by
  intro d
  induction d with
  | zero => intro _; rfl
  | succ d ih =>
    intro h
    rw [show k + (d + 1) = (k + d) + 1 by omega, foK_step hD (by omega) (by omega)]
    exact ih (by omega)
theorem foK_inj (hD : Right D) {k a b : Nat} (hk : k ≤ D.length) (ha : a < k) (hb : b < k) : foK bl D k a = foK bl D k b ↔ el (gatherG bl D k).2 a = el (gatherG bl D k).2 b := by
  have hI := inv_gather (bl := bl) hD k hk
  constructor
  · intro h
    rcases Nat.lt_trichotomy (el (gatherG bl D k).2 a) (el (gatherG bl D k).2 b) with h1 | h1 | h1
    · have := hI.heads _ _ h1 (hI.lt b hb); unfold foK foS at h; omega
    · exact h1
    · have := hI.heads _ _ h1 (hI.lt a ha); unfold foK foS at h; omega
  · intro h; unfold foK foS; rw [h]
/-- whether a number of one that would join is among, or ahead of, a group -/
def okN (f : Nat → Nat) (D : List (List Nat)) (g d m : Nat) : Bool := decide (f d = g) || (List.range m).any fun x => decide (f x = g) && befB D (d : Int) (x : Int)
theorem okN_succ (f : Nat → Nat) (D : List (List Nat)) (g d m : Nat) : okN f D g d (m + 1) = (okN f D g d m || (decide (f m = g) && befB D (d : Int) (m : Int))) := by
  simp [okN, List.range_succ, Bool.or_assoc]
def joinT (f : Nat → Nat) (D : List (List Nat)) (g q t : Nat) : Bool := ((rowN D q).take t).all fun d => okN f D g d q
theorem joinT_succ (f : Nat → Nat) (D : List (List Nat)) (g q t : Nat) (h : t < (rowN D q).length) : joinT f D g q (t + 1) = (joinT f D g q t && okN f D g (el (rowN D q) t) q) := by
  unfold joinT
  rw [take_el _ _ h, List.all_append]
  simp
theorem befB_nat (hD : Right D) {a b : Nat} : befB D (a : Int) (b : Int) = true ↔ Must D a b := by
  rw [befB_iff hD]
  constructor
  · rintro ⟨x, y, e1, e2, h⟩
    have h1 : a = x := by omega
    have h2 : b = y := by omega
    rw [h1, h2]; exact h
  · intro h; exact ⟨a, b, rfl, rfl, h⟩
/-- THE DOCUMENT'S WORD ON JOINING IS THE PROGRAM'S -/
theorem joins_fits (hD : Right D) {q p : Nat} (hq : q < D.length) (hp : p < q) : joinT (foK bl D q) D (foK bl D q p) q (rowN D q).length = fitsB D q (rowN (gatherG bl D q).1 (el (gatherG bl D q).2 p)) := by
  have hI := inv_gather (bl := bl) hD q (by omega)
  have hg := hI.lt p hp
  unfold joinT fitsB
  rw [List.take_length]
  have key : ∀ d ∈ rowN D q, okN (foK bl D q) D (foK bl D q p) d q = decide (d ∈ closeL D (natsI (rowN (gatherG bl D q).1 (el (gatherG bl D q).2 p)))) := fun d hd => by
    have hdq := hD.2 q d hd
    rw [Bool.eq_iff_iff, decide_eq_true_eq, mem_closeL hD]
    unfold okN
    simp only [Bool.or_eq_true, decide_eq_true_eq, List.any_eq_true, List.mem_range, Bool.and_eq_true]
    constructor
    · rintro (h | ⟨m, hm, h1, h2⟩)
      · refine .inl (markI_nats.2 ⟨by omega, (hI.mem _ d hg).2 ⟨hdq, (foK_inj hD (by omega) hdq hp).1 h⟩⟩)
      · exact .inr ⟨m, markI_nats.2 ⟨by omega, (hI.mem _ m hg).2 ⟨hm, (foK_inj hD (by omega) hm hp).1 h1⟩⟩, (befB_nat hD).1 h2⟩
    · rintro (h | ⟨y, h1, h2⟩)
      · exact .inl ((foK_inj hD (by omega) hdq hp).2 ((hI.mem _ d hg).1 (markI_nats.1 h).2).2)
      · have h3 := (hI.mem _ y hg).1 (markI_nats.1 h1).2
        exact .inr ⟨y, h3.1, (foK_inj hD (by omega) h3.1 hp).2 h3.2, (befB_nat hD).2 h2⟩
  rw [Bool.eq_iff_iff, List.all_eq_true, List.all_eq_true]
  exact ⟨fun h d hd => by rw [← key d hd]; exact h d hd, fun h d hd => by rw [key d hd]; exact h d hd⟩
/-- the last one on the same block, from below -/
def LastAt (bl : Nat → Int) (q k : Nat) : Option Nat → Prop
  | some p => p < k ∧ bl p = bl q ∧ ∀ m, p < m → m < k → bl m ≠ bl q
  | none => ∀ m, m < k → bl m ≠ bl q
theorem LastAt.home {q : Nat} {o : Option Nat} (h : LastAt bl q q o) : homeN bl q = o := by
  unfold homeN
  cases e : homeT bl q q with
  | none =>
    cases o with
    | none => rfl
    | some p => exact absurd h.2.1 (homeT_none e p h.1)
  | some n =>
    obtain ⟨h1, h2, h3⟩ := homeT_some e
    cases o with
    | none => exact absurd h2 (h n h1)
    | some p =>
      obtain ⟨g1, g2, g3⟩ := h
      rcases Nat.lt_trichotomy n p with hh | hh | hh
      · exact absurd g2 (h3 p hh g1)
      · rw [hh]
      · exact absurd h2 (g3 n hh h1)
def numV (n : Nat) (m : Nat → Nat) : List Value := (List.range n).map fun i => .int .i64 ((m i : Nat) : Int)
theorem numV_at {n i : Nat} (m : Nat → Nat) (h : i < n) : (numV n m)[i]? = some (.int .i64 ((m i : Nat) : Int)) := by simp [numV, h]
theorem numV_set (n : Nat) (m : Nat → Nat) (x y : Nat) : (numV n m).set x (.int .i64 ((y : Nat) : Int)) = numV n fun z => if z = x then y else m z := by
  apply List.ext_getElem
  · simp [numV]
  · intro i h1 h2
    rw [List.getElem_set]
    by_cases e : x = i
    · subst e; simp [numV]
    · rw [if_neg e]
      have : ¬ i = x := fun h => e h.symm
      simp [numV, this]
theorem numV_zero (n : Nat) : ofV n [] = numV n (fun _ => 0) := by
  apply List.ext_getElem
  · simp [ofV, numV]
  · intro i h1 h2; simp [ofV, numV]
/-- of items that are right -/
def foL (l : List It) (i : Nat) : Nat := foK (blkOf l) (depsN l) l.length i
theorem foL_at {l : List It} (hr : rightL l = true) {i k : Nat} (hi : i < k) (hk : k ≤ l.length) : foK (blkOf l) (depsN l) k i = foL l i := by
  have hD := (right_out hr).2.1.right
  have hl := length_depsN l
  obtain ⟨d, hd⟩ : ∃ d, l.length = k + d := ⟨l.length - k, by omega⟩
  unfold foL
  rw [hd]
  exact (foK_more hD hi d (by omega)).symm
end Go.Proofs.Ytkfjkhacchbkeaa
