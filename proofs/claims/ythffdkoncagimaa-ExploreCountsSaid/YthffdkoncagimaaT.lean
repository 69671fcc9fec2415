/- n numbers that stand alone can come in n! orders. -/
import Derived.Test.YthffdkoncagimaaL
set_option linter.unusedVariables false
set_option linter.unusedSimpArgs false
namespace Go.Proofs.Ythffdkoncagimaa
open Go.RowKit Go.Shelf
def fac : Nat → Nat
  | 0 => 1
  | n + 1 => (n + 1) * fac n
/-- how many of the first n members of t were added up behind s's first k -/
def hadN (t s k : Nat) : Nat → Nat
  | 0 => 0
  | n + 1 => hadN t s k n + (if t.testBit n = true ∧ (t - 2 ^ n < s ∨ (t - 2 ^ n = s ∧ n < k)) then 1 else 0)
/-- how many members -/
def card (t : Nat) : Nat → Nat
  | 0 => 0
  | n + 1 => card t n + (if t.testBit n = true then 1 else 0)
theorem hadN_le (t s k : Nat) : ∀ n, hadN t s k n ≤ card t n
  | 0 => Nat.le_refl _
  | n + 1 => by
    unfold hadN card
    have := hadN_le t s k n
    split <;> split <;> first | omega | (rename_i h1 h2; exact absurd h1.1 h2)
theorem two_le {t n : Nat} (h : t.testBit n = true) : 2 ^ n ≤ t := by
  rcases Nat.lt_or_ge t (2 ^ n) with q | q
  · rw [Nat.testBit_lt_two_pow q] at h; cases h
  · exact q
/-- behind all below t all members of t were -/
theorem hadN_all (t k : Nat) : ∀ n, hadN t t k n = card t n
  | 0 => rfl
  | n + 1 => by
    unfold hadN card
    rw [hadN_all t k n]
    by_cases h : t.testBit n = true
    · have h1 := two_le h
      have h2 := Nat.two_pow_pos n
      rw [if_pos ⟨h, .inl (by omega)⟩, if_pos h]
    · rw [if_neg (fun q => h q.1), if_neg h]
theorem hadN_zero (t : Nat) : ∀ n, hadN t 0 0 n = 0
  | 0 => rfl
  | n + 1 => by
    unfold hadN
    rw [hadN_zero t n, if_neg (fun q => by rcases q.2 with h | ⟨_, h⟩ <;> omega)]
/-- the next set -/
theorem hadN_next (t s N : Nat) : ∀ n, n ≤ N → hadN t s N n = hadN t (s + 1) 0 n
  | 0, _ => rfl
  | n + 1, h => by
    unfold hadN
    rw [hadN_next t s N n (by omega)]
    congr 1
    by_cases q : t.testBit n = true ∧ t - 2 ^ n ≤ s
    · rw [if_pos ⟨q.1, by rcases Nat.lt_or_ge (t - 2 ^ n) s with r | r
                          · exact .inl r
                          · exact .inr ⟨by omega, by omega⟩⟩, if_pos ⟨q.1, .inl (by omega)⟩]
    · rw [if_neg (fun r => q ⟨r.1, by omega⟩), if_neg (fun r => q ⟨r.1, by omega⟩)]
theorem bit_sub {t n : Nat} (h : t.testBit n = true) : (t - 2 ^ n).testBit n = false := by
  have e : t = (t - 2 ^ n) + 2 ^ n := by have := two_le h; omega
  have h2 := Nat.testBit_two_pow_add_eq (t - 2 ^ n) n
  rw [Nat.add_comm, ← e, h] at h2
  simpa using h2.symm
/-- one more member of s: only t = s + 2^k gets one -/
theorem hadN_step (t s k : Nat) : ∀ n, hadN t s (k + 1) n = hadN t s k n + (if k < n ∧ s.testBit k = false ∧ t = s + 2 ^ k then 1 else 0)
  | 0 => by simp [hadN]
  | n + 1 => by
    unfold hadN
    rw [hadN_step t s k n]
    by_cases hk : n = k
    · subst hk
      have h0 : ¬ (n < n ∧ s.testBit n = false ∧ t = s + 2 ^ n) := fun q => Nat.lt_irrefl _ q.1
      rw [if_neg h0]
      by_cases hq : s.testBit n = false ∧ t = s + 2 ^ n
      · have hb : t.testBit n = true := by rw [hq.2, Nat.add_comm, Nat.testBit_two_pow_add_eq, hq.1]; rfl
        have hs : t - 2 ^ n = s := by rw [hq.2]; omega
        rw [if_pos ⟨hb, .inr ⟨hs, by omega⟩⟩, if_neg (fun r => by rcases r.2 with h | ⟨_, h⟩ <;> omega), if_pos ⟨by omega, hq⟩]
      · have : (t.testBit n = true ∧ (t - 2 ^ n < s ∨ (t - 2 ^ n = s ∧ n < n + 1))) ↔ (t.testBit n = true ∧ (t - 2 ^ n < s ∨ (t - 2 ^ n = s ∧ n < n))) := by
          constructor
          · rintro ⟨h1, h2 | ⟨h2, _⟩⟩
            · exact ⟨h1, .inl h2⟩
            · exact absurd ⟨by rw [← h2]; exact bit_sub h1, by have := two_le h1; omega⟩ hq
          · rintro ⟨h1, h2 | ⟨h2, h3⟩⟩
            · exact ⟨h1, .inl h2⟩
            · omega
        rw [if_neg (c := n < n + 1 ∧ s.testBit n = false ∧ t = s + 2 ^ n) (fun r => hq r.2)]
        simp only [this]
        omega
    · have e1 : (k < n + 1 ∧ s.testBit k = false ∧ t = s + 2 ^ k) ↔ (k < n ∧ s.testBit k = false ∧ t = s + 2 ^ k) := ⟨fun r => ⟨by omega, r.2⟩, fun r => ⟨by omega, r.2⟩⟩
      have e2 : (t.testBit n = true ∧ (t - 2 ^ n < s ∨ (t - 2 ^ n = s ∧ n < k + 1))) ↔ (t.testBit n = true ∧ (t - 2 ^ n < s ∨ (t - 2 ^ n = s ∧ n < k))) :=
        ⟨fun r => ⟨r.1, r.2.imp id fun h => ⟨h.1, by omega⟩⟩, fun r => ⟨r.1, r.2.imp id fun h => ⟨h.1, by omega⟩⟩⟩
      simp only [e1, e2]
      omega
theorem or_add_all : ((List.range 12).all fun k => (List.range 64).all fun a => (List.range 64).all fun b => (64 * a + b).testBit k || ((64 * a + b) ||| 2 ^ k == 64 * a + b + 2 ^ k)) = true := by kernel_rfl
theorem or_add {s k : Nat} (hs : s < 4096) (hk : k < 12) (h : s.testBit k = false) : s ||| 2 ^ k = s + 2 ^ k := by
  have := or_add_all
  rw [List.all_eq_true] at this
  have := this k (List.mem_range.2 hk)
  rw [List.all_eq_true] at this
  have := this (s / 64) (List.mem_range.2 (by omega))
  rw [List.all_eq_true] at this
  have := this (s % 64) (List.mem_range.2 (by omega))
  rw [Nat.div_add_mod, h] at this
  simpa using this
theorem card_or {s k : Nat} (h : s.testBit k = false) : ∀ n, card (s ||| 2 ^ k) n = card s n + (if k < n then 1 else 0)
  | 0 => by simp [card]
  | n + 1 => by
    unfold card
    rw [card_or h n, Nat.testBit_or, Nat.testBit_two_pow]
    by_cases hk : k = n
    · subst hk
      rw [h]; simp
    · have e1 : (k < n + 1) ↔ (k < n) := by omega
      simp only [hk, e1, decide_false, Bool.or_false]
      omega
theorem card_le (t : Nat) : ∀ n, card t n ≤ n
  | 0 => Nat.le_refl _
  | n + 1 => by unfold card; have := card_le t n; split <;> omega
theorem card_zero {t : Nat} : ∀ n, t < 2 ^ n → card t n = 0 → t = 0
  | 0, h, _ => by simpa using h
  | n + 1, h, e => by
    unfold card at e
    have hb : ¬ t.testBit n = true := fun q => by rw [if_pos q] at e; omega
    rw [if_neg hb] at e
    refine card_zero n ?_ (by omega)
    refine Nat.lt_pow_two_of_testBit _ fun i hi => ?_
    rcases Nat.lt_or_ge n i with q | q
    · exact Nat.testBit_lt_two_pow (Nat.lt_of_lt_of_le h (Nat.pow_le_pow_right (by decide) q))
    · obtain rfl : i = n := by omega
      simpa using hb
def valN (t s k n : Nat) : Nat := if t = 0 then 1 else hadN t s k n * fac (card t n - 1)
theorem fac_le : ∀ c, c < 12 → fac c ≤ 39916800 := by decide +kernel
theorem nth_set {l : List Int} {i j : Nat} {v : Int} (hi : i < l.length) : nth (l.set i v) j = if i = j then v else nth l j := by
  unfold nth
  rw [List.getD_eq_getElem?_getD, List.getD_eq_getElem?_getD, List.getElem?_set]
  split
  · rfl
  · rfl
theorem fac_card {s n : Nat} (hs : s < 2 ^ n) (k : Nat) : valN s s k n = fac (card s n) := by
  unfold valN
  by_cases h : s = 0
  · subst h
    rw [if_pos rfl]
    have : ∀ n, card 0 n = 0 := fun n => by
      induction n with
      | zero => rfl
      | succ n ih => unfold card; rw [ih]; simp
    rw [this]; rfl
  · rw [if_neg h, hadN_all]
    have : card s n ≠ 0 := fun e => h (card_zero n hs e)
    obtain ⟨c, hc⟩ : ∃ c, card s n = c + 1 := ⟨card s n - 1, by omega⟩
    rw [hc]; rfl
theorem ordK_alone {n : Nat} (hn : n ≤ 12) {L : List Nat} (h0 : ∀ k, nd L k = 0) {s : Nat} (hs : s < 2 ^ n) {O : List Int} (hOl : O.length = 2 ^ n) (h : ∀ t, t < 2 ^ n → nth O t = ((valN t s 0 n : Nat) : Int)) :
    ∀ k, k ≤ n → ∀ t, t < 2 ^ n → nth (ordK L s O k) t = ((valN t s k n : Nat) : Int)
  | 0, _ => h
  | k + 1, hk => fun t ht => by
    have ih := ordK_alone hn h0 hs hOl h k (by omega)
    have hpl : (ordK L s O k).length = 2 ^ n := by rw [length_ordK, hOl]
    have h4 : 2 ^ n ≤ 4096 := Nat.pow_le_pow_right (n := 2) (by decide) hn
    show nth (ordN L s k (ordK L s O k)) t = _
    unfold ordN
    have hsub : subS (nd L k) s = true := by rw [h0]; exact subS_iff.2 fun i hi => by simp at hi
    cases hb : s.testBit k with
    | true =>
      rw [if_neg (fun q => by cases q.1), ih t ht]
      have e1 : hadN t s (k + 1) n = hadN t s k n := by
        rw [hadN_step, if_neg (c := k < n ∧ s.testBit k = false ∧ t = s + 2 ^ k) (fun q => by rw [hb] at q; cases q.2.1)]; rfl
      unfold valN
      rw [e1]
    | false =>
      rw [if_pos ⟨rfl, hsub⟩]
      have e := or_add (by omega) (by omega) hb
      have ht0 : s ||| 2 ^ k < 2 ^ n := Nat.or_lt_two_pow hs (Nat.pow_lt_pow_right (by decide) (by omega))
      have hp2 := Nat.two_pow_pos k
      rw [nth_set (by rw [hpl]; exact ht0)]
      by_cases hq : s ||| 2 ^ k = t
      · rw [if_pos hq, hq, ih t ht, ih s hs, fac_card hs]
        have hc : card t n = card s n + 1 := by rw [← hq, card_or hb, if_pos (by omega)]
        have hst := hadN_step t s k n
        rw [if_pos ⟨by omega, hb, by rw [← hq]; exact e⟩] at hst
        have hle := hadN_le t s (k + 1) n
        have hcl := card_le t n
        have ht0' : t ≠ 0 := by omega
        unfold valN
        rw [if_neg ht0', if_neg ht0', hst, hc, Nat.add_sub_cancel]
        have hfc := fac_le (card s n) (by omega)
        have hm : hadN t s k n * fac (card s n) ≤ 12 * 39916800 := Nat.mul_le_mul (by omega) hfc
        rw [Nat.add_mul, Nat.one_mul]
        generalize hadN t s k n * fac (card s n) = x at *
        generalize fac (card s n) = y at *
        unfold wrap64
        omega
      · rw [if_neg hq, ih t ht]
        have e1 : hadN t s (k + 1) n = hadN t s k n := by
          rw [hadN_step, if_neg (c := k < n ∧ s.testBit k = false ∧ t = s + 2 ^ k) (fun r => hq (by rw [e]; exact r.2.2.symm))]; rfl
        unfold valN
        rw [e1]
theorem ordL_alone {n : Nat} (hn : n ≤ 12) {L : List Nat} (hL : L.length = n) (h0 : ∀ k, nd L k = 0) : ∀ m, m ≤ 2 ^ n → ∀ t, t < 2 ^ n → nth (ordL L (cloTo L m) (ord0 (2 ^ n))) t = ((valN t m 0 n : Nat) : Int)
  | 0, _ => fun t ht => by
    show nth (ord0 (2 ^ n)) t = _
    unfold ord0
    rw [nth_set (by rw [List.length_replicate]; exact Nat.two_pow_pos n)]
    unfold valN
    by_cases h : t = 0
    · rw [if_pos h.symm, if_pos h]; rfl
    · have h9 : nth (List.replicate (2 ^ n) (0 : Int)) t = 0 := by rw [nth_lt (by simpa using ht)]; simp
      rw [if_neg (fun q => h q.symm), if_neg h, hadN_zero, Nat.zero_mul, h9]
      rfl
  | m + 1, hm => fun t ht => by
    have hc : clo L m = true := clo_iff.2 fun k _ _ => by rw [h0]; exact subS_iff.2 fun i hi => by simp at hi
    rw [cloTo_succ, if_pos hc, ordL_snoc, hL]
    have := ordK_alone hn h0 (s := m) (by omega) (by rw [length_ordL]; simp [ord0]) (ordL_alone hn hL h0 m (by omega)) n (Nat.le_refl _) t ht
    rw [this]
    unfold valN
    rw [hadN_next t m n n (Nat.le_refl _)]
theorem card_full : ∀ n, n ≤ 12 → card (2 ^ n - 1) n = n := by decide +kernel
theorem orders_alone {n : Nat} (hn : n ≤ 12) {L : List Nat} (hL : L.length = n) (h0 : ∀ k, nd L k = 0) : orders L = ((fac n : Nat) : Int) := by
  have hp := Nat.two_pow_pos n
  unfold orders
  rw [hL, ordL_alone hn hL h0 _ (Nat.le_refl _) _ (by omega)]
  have e := fac_card (s := 2 ^ n - 1) (n := n) (by omega) n
  rw [card_full n hn] at e
  rw [← e]
  unfold valN
  rw [hadN_next _ _ n n (Nat.le_refl _), show 2 ^ n - 1 + 1 = 2 ^ n by omega]
end Go.Proofs.Ythffdkoncagimaa
