/- The most that can stand side by side: over all sets, as over the closed ones. -/
import Derived.Test.YthffdkoncagimaaU
import Derived.Test.YthffdkoncagimaaO
set_option linter.unusedVariables false
set_option linter.unusedSimpArgs false
namespace Go.Proofs.Ythffdkoncagimaa
open Go.RowKit Go.Shelf
/-- none of a row comes ahead of another, each against those that stand before it: of the first i, as it is written -/
def rowAp (D : List (List Nat)) (l : List Nat) (i j : Nat) : Bool := (List.range j).all fun k => !befB D (el l k) (el l i)
def apTo (D : List (List Nat)) (l : List Nat) (j : Nat) : Bool := (List.range j).all fun i => rowAp D l i i
theorem rowAp_succ (D : List (List Nat)) (l : List Nat) (i j : Nat) : rowAp D l i (j + 1) = (rowAp D l i j && !befB D (el l j) (el l i)) := by
  unfold rowAp; rw [List.range_succ, List.all_append]; simp
theorem apTo_succ (D : List (List Nat)) (l : List Nat) (j : Nat) : apTo D l (j + 1) = (apTo D l j && rowAp D l j j) := by
  unfold apTo; rw [List.range_succ, List.all_append]; simp
def bestTo (D : List (List Nat)) : Nat → Nat
  | 0 => 0
  | s + 1 => if bestTo D s < (memb s).length ∧ apTo D (memb s) (memb s).length = true then (memb s).length else bestTo D s
theorem bestTo_le (D : List (List Nat)) (m : Nat) : ∀ n, (∀ s, s < n → apTo D (memb s) (memb s).length = true → (memb s).length ≤ m) → bestTo D n ≤ m
  | 0, _ => Nat.zero_le _
  | n + 1, h => by
    unfold bestTo
    split
    · rename_i q; exact h n (Nat.lt_succ_self _) q.2
    · exact bestTo_le D m n fun s hs => h s (by omega)
theorem le_bestTo (D : List (List Nat)) {s : Nat} (ha : apTo D (memb s) (memb s).length = true) : ∀ n, s < n → (memb s).length ≤ bestTo D n
  | 0, h => by omega
  | n + 1, h => by
    unfold bestTo
    rcases Nat.lt_or_ge s n with q | q
    · have := le_bestTo D ha n q
      split
      · rename_i r; omega
      · exact this
    · obtain rfl : s = n := by omega
      split
      · exact Nat.le_refl _
      · rename_i r
        rcases Nat.lt_or_ge (bestTo D s) (memb s).length with q' | q'
        · exact absurd ⟨q', ha⟩ r
        · exact q'
theorem bestTo_14 (D : List (List Nat)) (n : Nat) : bestTo D n ≤ 14 := bestTo_le D 14 n fun s _ _ => membTo_len s 14
theorem befB_must {D : List (List Nat)} (hD : Right D) {a b : Nat} : befB D (a : Int) (b : Int) = true ↔ Must D a b := by
  rw [befB_iff hD]
  exact ⟨fun ⟨x, y, h1, h2, h⟩ => by obtain rfl : a = x := by omega
                                     obtain rfl : b = y := by omega
                                     exact h, fun h => ⟨a, b, rfl, rfl, h⟩⟩
theorem el_in {l : List Nat} {k : Nat} (h : k < l.length) : el l k ∈ l := by rw [el_lt h]; exact List.getElem_mem _
theorem mem_el {l : List Nat} {x : Nat} (h : x ∈ l) : ∃ k, k < l.length ∧ el l k = x := by
  obtain ⟨k, hk, rfl⟩ := List.getElem_of_mem h
  exact ⟨k, hk, by rw [el_lt hk]⟩
theorem memb_rises (s : Nat) : (memb s).Pairwise (· < ·) := (List.pairwise_lt_range).filter _
theorem el_less {s i k : Nat} (hi : i < (memb s).length) (h : k < i) : el (memb s) k < el (memb s) i := by
  rw [el_lt hi, el_lt (by omega)]
  exact List.pairwise_iff_getElem.1 (memb_rises s) _ _ _ _ h
/-- none of a set comes ahead of another -/
def Apart (D : List (List Nat)) (s : Nat) : Prop := ∀ a b, a < 14 → b < 14 → s.testBit a = true → s.testBit b = true → ¬ Must D a b
theorem apTo_iff {D : List (List Nat)} (hD : Right D) (s : Nat) : apTo D (memb s) (memb s).length = true ↔ Apart D s := by
  unfold apTo rowAp
  simp only [List.all_eq_true, List.mem_range, Bool.not_eq_true']
  constructor
  · intro h a b ha hb h1 h2 hm
    obtain ⟨i, hi, rfl⟩ := mem_el (mem_memb.2 ⟨hb, h2⟩)
    obtain ⟨k, hk, rfl⟩ := mem_el (mem_memb.2 ⟨ha, h1⟩)
    have hlt := (hm.lt hD).1
    have hki : k < i := by
      rcases Nat.lt_trichotomy k i with q | q | q
      · exact q
      · subst q; omega
      · have := el_less hk q; omega
    have := h i hi k hki
    rw [(befB_must hD).2 hm] at this
    cases this
  · intro h i hi k hk
    have m1 := mem_memb.1 (el_in (l := memb s) (k := k) (by omega))
    have m2 := mem_memb.1 (el_in hi)
    exact Bool.eq_false_iff.2 fun q => h _ _ m1.1 m2.1 m1.2 m2.2 ((befB_must hD).1 q)
theorem cnt_mono {a b : Nat} (h : ∀ i, a.testBit i = true → b.testBit i = true) : ∀ k, cnt a k ≤ cnt b k
  | 0 => Nat.le_refl _
  | k + 1 => by
    unfold cnt
    have := cnt_mono h k
    have hk := h k
    simp only [Nat.testBit_eq_decide_div_mod_eq, decide_eq_true_eq] at hk
    omega
theorem memb_mono {a b : Nat} (h : ∀ i, a.testBit i = true → b.testBit i = true) : (memb a).length ≤ (memb b).length := by
  have := cnt_mono h 14
  rw [cnt_memb, cnt_memb] at this
  exact this
theorem ahead_bit {D : List (List Nat)} {s i : Nat} : (ahead (needsL D) s).testBit i = true ↔ ∃ k, k < D.length ∧ s.testBit k = true ∧ i ∈ rowN D k := by
  unfold ahead
  rw [aheadK_bit, length_needsL]
  constructor
  · rintro ⟨k, h1, h2, h3⟩
    rw [nd_needs h1, needN_bit, decide_eq_true_iff] at h3
    exact ⟨k, h1, h2, h3⟩
  · rintro ⟨k, h1, h2, h3⟩
    exact ⟨k, h1, h2, by rw [nd_needs h1, needN_bit, decide_eq_true_iff]; exact h3⟩
theorem clo_need {D : List (List Nat)} {s : Nat} : clo (needsL D) s = true ↔ ∀ k, k < D.length → s.testBit k = true → ∀ d ∈ rowN D k, s.testBit d = true := by
  rw [clo_iff, length_needsL]
  constructor
  · intro h k hk hs d hd
    exact subS_iff.1 (h k hk hs) d (by rw [nd_needs hk, needN_bit, decide_eq_true_iff]; exact hd)
  · intro h k hk hs
    exact subS_iff.2 fun i hi => h k hk hs i (by rwa [nd_needs hk, needN_bit, decide_eq_true_iff] at hi)
theorem clo_must {D : List (List Nat)} (hD : Right D) {s a b : Nat} (hs : clo (needsL D) s = true) (h : Must D a b) (hb : s.testBit b = true) : s.testBit a = true := by
  induction h with
  | one h => exact clo_need.1 hs _ ((Must.one h).lt hD).2 hb _ h
  | more h k ih => exact clo_need.1 hs _ (Nat.lt_trans (k.lt hD).1 (k.lt hD).2) (ih hb) _ h
theorem must_first {D : List (List Nat)} {x y : Nat} (h : Must D x y) : ∃ z, x ∈ rowN D z ∧ (z = y ∨ Must D z y) := by
  cases h with
  | one h => exact ⟨y, h, .inl rfl⟩
  | more h k => exact ⟨_, h, .inr k⟩
theorem ahead_small {D : List (List Nat)} (hS : Sm D) (s : Nat) : ahead (needsL D) s < 2 ^ 63 := by
  refine Nat.lt_of_lt_of_le (Nat.lt_pow_two_of_testBit (n := 14) _ fun i hi => ?_) (Nat.pow_le_pow_right (by decide) (by decide))
  refine Bool.eq_false_iff.2 fun h => ?_
  obtain ⟨k, h1, _, h3⟩ := ahead_bit.1 h
  have := hS.r k i h3
  have := hS.n
  omega
theorem best_widest {D : List (List Nat)} (hS : Sm D) (hD : Right D) : bestTo D (2 ^ D.length) = widest (needsL D) := by
  have hn := hS.n
  have h14 : 2 ^ D.length ≤ 2 ^ 14 := Nat.pow_le_pow_right (by decide) hn
  refine Nat.le_antisymm (bestTo_le D _ _ fun t ht ha => ?_) ?_
  · have hA := (apTo_iff hD t).1 ha
    obtain ⟨s, hs⟩ : ∃ s : Nat, ∀ i, s.testBit i = true ↔ i < D.length ∧ (t.testBit i = true ∨ ∃ k, t.testBit k = true ∧ Must D i k) := by
      have := Classical.propDecidable
      refine ⟨needN ((List.range D.length).filter fun i => decide (t.testBit i = true ∨ ∃ k, t.testBit k = true ∧ Must D i k)), fun i => ?_⟩
      simp only [needN_bit, decide_eq_true_eq, List.mem_filter, List.mem_range]
    have hslt : s < 2 ^ D.length := Nat.lt_pow_two_of_testBit _ fun i hi => Bool.eq_false_iff.2 fun q => by have := ((hs i).1 q).1; omega
    have hsc : clo (needsL D) s = true := clo_need.2 fun k hk hsk d hd => by
      have hm : Must D d k := .one hd
      refine (hs d).2 ⟨by have := hm.lt hD; omega, .inr ?_⟩
      rcases ((hs k).1 hsk).2 with q | ⟨y, q1, q2⟩
      · exact ⟨k, q, hm⟩
      · exact ⟨y, q1, hm.trans q2⟩
    have hin : s ∈ cloTo (needsL D) (2 ^ D.length) := mem_cloTo.2 ⟨hslt, hsc⟩
    have hle := le_widTo (L := needsL D) _ hin
    unfold widest
    rw [length_needsL]
    refine Nat.le_trans (memb_mono fun i hi => ?_) hle
    have hil : i < D.length := bit_small ht hi
    rw [dif_bit s _ i (Nat.lt_of_lt_of_le hslt (Nat.pow_le_pow_right (by decide) (by omega))) (ahead_small hS s), (hs i).2 ⟨hil, .inl hi⟩, Bool.true_and, Bool.not_eq_true']
    refine Bool.eq_false_iff.2 fun q => ?_
    obtain ⟨k, hk, hsk, hd⟩ := ahead_bit.1 q
    rcases ((hs k).1 hsk).2 with r | ⟨y, q1, q2⟩
    · exact hA i k (by omega) (by omega) hi r (.one hd)
    · exact hA i y (by omega) (by have := bit_small ht q1; omega) hi q1 (.more hd q2)
  · unfold widest
    rw [length_needsL]
    refine widTo_all _ fun x hx => ?_
    obtain ⟨hx1, hx2⟩ := mem_cloTo.1 hx
    have hb : ∀ i, (dif x (ahead (needsL D) x)).testBit i = (x.testBit i && !(ahead (needsL D) x).testBit i) := fun i =>
      dif_bit x _ i (Nat.lt_of_lt_of_le hx1 (Nat.pow_le_pow_right (by decide) (by omega))) (ahead_small hS x)
    refine le_bestTo D ?_ _ (Nat.lt_pow_two_of_testBit _ fun i hi => ?_)
    · rw [apTo_iff hD]
      intro a b ha hb' h1 h2 hm
      rw [hb, Bool.and_eq_true, Bool.not_eq_true'] at h1 h2
      obtain ⟨z, hz, hzz⟩ := must_first hm
      have hzx : x.testBit z = true := by
        rcases hzz with rfl | hzz
        · exact h2.1
        · exact clo_must hD hx2 hzz h2.1
      have := ahead_bit.2 ⟨z, ((Must.one hz).lt hD).2, hzx, hz⟩
      rw [h1.2] at this
      cases this
    · rw [hb]
      exact Bool.eq_false_iff.2 fun q => by
        rw [Bool.and_eq_true] at q
        have := bit_small hx1 q.1
        omega
end Go.Proofs.Ythffdkoncagimaa
