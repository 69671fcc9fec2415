/- Plain words: MAKE OF LIST IS THE BYTES. -/
import Derived.Test.YtceppcmcokkkoaaV
namespace Go.Proofs.Ytceppcmcokkkoaa
open Go.RowKit

theorem byte_eq (x y : Int) (hx : 0 ≤ x ∧ x ≤ 255) (hy : 0 ≤ y ∧ y ≤ 255) (h : ∀ k, k < 8 → x.toNat.testBit k = y.toNat.testBit k) : x = y := by
  have e : x.toNat = y.toNat := by
    apply Nat.eq_of_testBit_eq
    intro k
    by_cases hk : k < 8
    · exact h k hk
    · have h2 : (256 : Nat) ≤ 2 ^ k := by
        have : (2 : Nat) ^ 8 ≤ 2 ^ k := Nat.pow_le_pow_right (by decide) (by omega)
        omega
      rw [Nat.testBit_lt_two_pow (show x.toNat < 2 ^ k by omega), Nat.testBit_lt_two_pow (show y.toNat < 2 ^ k by omega)]
  omega
theorem bytes_eq (a b : List Int) (ha : AllB a) (hb : AllB b) (hl : a.length = b.length) (h : ∀ j, j < 8 * a.length → bitN a j = bitN b j) : a = b := by
  apply List.ext_getElem hl
  intro i h1 h2
  have := byte_eq (nth a i) (nth b i) (ha.nth i) (hb.nth i) (fun k hk => by
    have := h (8 * i + k) (by omega)
    unfold bitN at this
    rwa [show (8 * i + k) / 8 = i from by omega, show (8 * i + k) % 8 = k from by omega] at this)
  rwa [nth_lt h1, nth_lt h2] at this
theorem bitN_zero (n j : Nat) : bitN (List.replicate n 0) j = false := by
  unfold bitN nth
  rw [List.getD_eq_getElem?_getD, List.getElem?_replicate]
  split <;> simp
theorem bitN_accB (n : Nat) (L : List Int) (h : ∀ x ∈ L, hasB n x = true) (j : Nat) : bitN (accB n L) j = decide ((j : Int) ∈ L) := by
  induction L using snocInd with
  | h0 => simp [accB, bitN_zero]
  | h1 L x ih =>
    have hx := hasB_out (h x (by simp))
    rw [accB_snoc, bitN_setB _ (accB_all _ _) _ _ _ (by rw [length_accB]; omega), ih (fun y hy => h y (List.mem_append_left _ hy))]
    by_cases e : j = x.toNat
    · rw [if_pos e]
      have : (j : Int) = x := by omega
      simp [this]
    · rw [if_neg e]
      have : ¬ (j : Int) = x := by omega
      simp [this]
theorem ones_has (l : List Int) : ∀ x ∈ natsI (ones l), hasB l.length x = true := by
  intro x hx
  obtain ⟨i, hi, rfl⟩ := List.mem_map.1 hx
  have := mem_ones hi
  unfold hasB
  simp
  omega
theorem mem_natsI {p : List Nat} {j : Nat} : (j : Int) ∈ natsI p ↔ j ∈ p := by
  constructor
  · intro h
    obtain ⟨i, hi, e⟩ := List.mem_map.1 h
    have : i = j := by omega
    rw [← this]; exact hi
  · intro h
    exact List.mem_map.2 ⟨j, h, rfl⟩
theorem ones_mem {l : List Int} {j : Nat} (h1 : bitN l j = true) (h2 : j < 8 * l.length) : j ∈ ones l := by
  unfold ones
  rw [onesTo_filter]
  exact List.mem_filter.2 ⟨List.mem_range.2 h2, h1⟩
/-- MAKE OF LIST IS THE BYTES -/
theorem make_list (l : List Int) (hl : AllB l) : accB l.length (natsI (ones l)) = l := by
  refine bytes_eq _ _ (accB_all _ _) hl (length_accB _ _) fun j hj => ?_
  rw [length_accB] at hj
  rw [bitN_accB _ _ (ones_has l)]
  cases hb : bitN l j with
  | true => simp [mem_natsI, ones_mem hb hj]
  | false =>
    simp only [decide_eq_false_iff_not, mem_natsI]
    intro h
    rw [(mem_ones h).1] at hb
    cases hb
theorem natsI_in (l : List Int) (hl : l.length ≤ 1000) : inI (natsI (ones l)) := by
  intro x hx
  obtain ⟨i, hi, rfl⟩ := List.mem_map.1 hx
  have := (mem_ones hi).2
  omega
theorem has_nth {l : List Int} {n : Nat} (h : ∀ x ∈ l, hasB n x = true) : ¬ ∃ k, k < l.length ∧ hasB n (nth l k) = false := by
  rintro ⟨k, hk, hf⟩
  rw [nth_lt hk, h _ (List.getElem_mem hk)] at hf
  cases hf

theorem list_at (A : Option Addr) (c n : Nat) (xs : List Int) (w : World) (hn : xs.length = n) (hxs : xs.length ≤ 1000) (hL : Bts w w.heap.size A xs) :
    Calls Try.prog 38 #[.slice A n c] w fun e W' => ∃ A' c', e = .returned (.slice A' (ones xs).length c') ∧ Below w.heap.size w W' ∧ Ints W' W'.heap.size A' (natsI (ones xs)) := by
  subst hn
  refine (list_any A c xs w hxs hL).mono ?_
  rintro e W' ⟨v, rfl, hr, hB⟩
  rw [natsV_intsV] at hr
  obtain ⟨A', c', rfl, _, _, hi⟩ := own_ints hr
  exact ⟨A', c', by rw [length_natsI], hB, hi⟩
theorem make_at (A : Option Addr) (c n m : Nat) (N : Int) (hN : N = (n : Int)) (l : List Int) (w : World) (hm : m = l.length) (hn : n ≤ 64) (hI : Ints w w.heap.size A l) (hl : l.length ≤ 100000) (hw : inI l) :
    Calls Try.prog 44 #[.int .i64 N, .slice A m c] w (MakeSays w n l) := by
  subst hN
  exact make_any A c n m l w hm hn hI hl hw
/-- 'few' of what came in, in whatever world -/
theorem few_row2 {w : World} {a : Option Addr} {len cap : Nat} {zs : List Int} (h : IsRow .u8 w a len cap zs) :
    ∃ l, l.length ≤ 80 ∧ l.length ≤ cap ∧ cap ≤ maxLen ∧ Bts w w.heap.size a l ∧ ∀ W, Calls Try.prog 30 #[.slice a len cap] W fun e w' => e = .returned (.slice a l.length cap) ∧ W = w' := by
  obtain ⟨h1, h2, h3, h4⟩ := h.bts
  have hl : ((zs.take len).take 80).length = min len 80 := by rw [List.length_take, h4, Nat.min_comm]
  refine ⟨(zs.take len).take 80, by omega, by omega, h2, h3.take 80, fun W => ?_⟩
  rw [hl]
  exact few_any a len cap W h1 h2
theorem bitI_nat (l : List Int) (k : Nat) : bitI l (k : Int) = bitN l k := by simp [bitI]
/-- A BIT THAT IS SET IS THERE, all others are as they were: of numbers that may be no bit's. -/
theorem bitI_setB (l : List Int) (hl : AllB l) (i : Nat) (j : Int) (on : Bool) (h : i / 8 < l.length) : bitI (setB l i on) j = if j = i then on else bitI l j := by
  by_cases hj : 0 ≤ j
  · obtain ⟨j, rfl⟩ := Int.eq_ofNat_of_zero_le hj
    rw [bitI_nat, bitI_nat, bitN_setB l hl i j on h]
    by_cases e : j = i
    · rw [if_pos e, if_pos (by omega)]
    · rw [if_neg e, if_neg (by omega)]
  · have h1 : ∀ b, bitI b j = false := fun b => by unfold bitI; simp; omega
    rw [h1, h1, if_neg (by omega)]
end Go.Proofs.Ytceppcmcokkkoaa
