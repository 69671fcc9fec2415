/- Sets as words: has, within, with. -/
import Derived.Test.YthffdkoncagimaaA
import Derived.Test.YthffdkoncagimaaGC
import Derived.Laws.Bits64b
import Derived.Laws.BitsLemmas
set_option linter.unusedVariables false
set_option linter.unusedSimpArgs false
namespace Go.Proofs.Ythffdkoncagimaa
open Go.RowKit
theorem wraps_u64 (n : Int) (h₀ : 0 ≤ n) (h₁ : n < 2 ^ 63) : IntKind.u64.wrap n = n := by rw [IntKind.wrap_u64]; omega
theorem wraps_i64 (n : Int) (h₀ : 0 ≤ n) (h₁ : n < 2 ^ 63) : IntKind.i64.wrap n = n := by rw [IntKind.wrap_i64]; omega
theorem u_and (a b : Nat) (ha : a < 2 ^ 63) (hb : b < 2 ^ 63) : bits .and .u64 (a : Int) (b : Int) = ((a &&& b : Nat) : Int) := (bits_nat .u64 63 (by decide) wraps_u64 a b ha hb).1
theorem u_or (a b : Nat) (ha : a < 2 ^ 63) (hb : b < 2 ^ 63) : bits .or .u64 (a : Int) (b : Int) = ((a ||| b : Nat) : Int) := (bits_nat .u64 63 (by decide) wraps_u64 a b ha hb).2
theorem i_and (a b : Nat) (ha : a < 2 ^ 63) (hb : b < 2 ^ 63) : bits .and .i64 (a : Int) (b : Int) = ((a &&& b : Nat) : Int) := (bits_nat .i64 63 (by decide) wraps_i64 a b ha hb).1
theorem i_or (a b : Nat) (ha : a < 2 ^ 63) (hb : b < 2 ^ 63) : bits .or .i64 (a : Int) (b : Int) = ((a ||| b : Nat) : Int) := (bits_nat .i64 63 (by decide) wraps_i64 a b ha hb).2
/-- a &^ b -/
def dif (a b : Nat) : Nat := (BitVec.ofNat 64 a &&& ~~~ BitVec.ofNat 64 b).toNat
theorem dif_bit (a b i : Nat) (ha : a < 2 ^ 63) (hb : b < 2 ^ 63) : (dif a b).testBit i = (a.testBit i && !b.testBit i) := by
  unfold dif
  rw [← BitVec.getLsbD, BitVec.getLsbD_and, BitVec.getLsbD_not, BitVec.getLsbD_ofNat, BitVec.getLsbD_ofNat]
  by_cases h : i < 64
  · simp [h]
  · have : a.testBit i = false := Nat.testBit_lt_two_pow (Nat.lt_of_lt_of_le ha (Nat.pow_le_pow_right (by decide) (by omega)))
    simp [h, this]
theorem dif_le (a b : Nat) (ha : a < 2 ^ 63) (hb : b < 2 ^ 63) : dif a b < 2 ^ 63 := Nat.lt_pow_two_of_testBit _ fun i hi => by
  rw [dif_bit a b i ha hb, Nat.testBit_lt_two_pow (Nat.lt_of_lt_of_le ha (Nat.pow_le_pow_right (by decide) hi))]; rfl
theorem u_dif (a b : Nat) (ha : a < 2 ^ 63) (hb : b < 2 ^ 63) : bits .andNot .u64 (a : Int) (b : Int) = ((dif a b : Nat) : Int) := by
  have h := dif_le a b ha hb
  unfold dif at h ⊢
  unfold bits
  simp only [BitVec.ofInt_natCast]
  exact wraps_u64 _ (Int.natCast_nonneg _) (by exact_mod_cast h)
theorem dif_zero (a b : Nat) (ha : a < 2 ^ 63) (hb : b < 2 ^ 63) : (dif a b = 0) = (subS a b = true) := by
  rw [subS_iff]
  refine propext ⟨fun h i hi => ?_, fun h => Nat.eq_of_testBit_eq fun i => ?_⟩
  · have := dif_bit a b i ha hb
    rw [h, hi, Nat.zero_testBit] at this
    cases q : b.testBit i
    · rw [q] at this; cases this
    · rfl
  · rw [dif_bit a b i ha hb, Nat.zero_testBit]
    cases q : a.testBit i
    · rfl
    · rw [h i q]; rfl
theorem bit_at (s n : Nat) (hs : s < 2 ^ 63) : (bits .and .u64 ((s : Int) / 2 ^ n) 1 == 1) = s.testBit n := by
  have e : (s : Int) / 2 ^ n = ((s / 2 ^ n : Nat) : Int) := by
    rw [Int.natCast_ediv]; simp
  have e1 : (1 : Int) = ((1 : Nat) : Int) := rfl
  have hl : s / 2 ^ n < 2 ^ 63 := Nat.lt_of_le_of_lt (Nat.div_le_self _ _) hs
  rw [e, e1, u_and _ _ hl (by decide), Nat.and_one_is_mod, Nat.testBit_eq_decide_div_mod_eq]
  by_cases h : s / 2 ^ n % 2 = 1
  · rw [h]; rfl
  · have : s / 2 ^ n % 2 = 0 := by omega
    rw [this]; rfl
set_option maxRecDepth 100000 in
set_option maxHeartbeats 1000000 in
theorem has_any (s n : Nat) (w : World) (hs : s < 16384) (hn : n < 64) : Calls Try.prog 26 #[.int .u64 (s : Int), .int .i64 (n : Int)] w fun e w' => e = .returned (.bool (s.testBit n)) ∧ w = w' := by
  have hn0 : (0 : Int) ≤ (n : Int) := by omega
  have hn6 : (n : Int) < 64 := by omega
  have Hb := Lib.hid (bit_at s n (by omega))
  go_enter Try.func26, Try.ntmps26
  go_wp2
  go_ret
  exact ⟨ret_bool Hb.out, rfl⟩
set_option maxRecDepth 100000 in
set_option maxHeartbeats 1000000 in
theorem within_any (a s : Nat) (w : World) (ha : a < 16384) (hs : s < 16384) : Calls Try.prog 27 #[.int .u64 (a : Int), .int .u64 (s : Int)] w fun e w' => e = .returned (.bool (subS a s)) ∧ w = w' := by
  have hb : (bits .andNot .u64 (a : Int) (s : Int) == 0) = subS a s := by
    rw [u_dif a s (by omega) (by omega)]
    have h := dif_zero a s (by omega) (by omega)
    by_cases q : dif a s = 0
    · rw [q]; rw [q] at h; simp at h; rw [h]; rfl
    · have q2 : subS a s = false := by
        cases r : subS a s
        · rfl
        · rw [r] at h; exact absurd (by rw [h]) q
      rw [q2]
      simpa using q
  have Hb := Lib.hid hb
  clear hb
  go_enter Try.func27, Try.ntmps27
  go_wp2
  go_ret
  exact ⟨ret_bool Hb.out, rfl⟩
set_option maxRecDepth 100000 in
set_option maxHeartbeats 1000000 in
theorem with_any (s n : Nat) (w : World) (hs : s < 16384) (hn : n < 14) : Calls Try.prog 28 #[.int .u64 (s : Int), .int .i64 (n : Int)] w fun e w' => e = .returned (.int .u64 ((s ||| 2 ^ n : Nat) : Int)) ∧ w = w' := by
  have hn0 : (0 : Int) ≤ (n : Int) := by omega
  have hn6 : (n : Int) < 64 := by omega
  have hp : 2 ^ n < 2 ^ 63 := Nat.pow_lt_pow_right (by decide) (by omega)
  have hb : bits .or .u64 (s : Int) (IntKind.u64.wrap (2 ^ n)) = ((s ||| 2 ^ n : Nat) : Int) := by
    have e : (2 : Int) ^ n = ((2 ^ n : Nat) : Int) := by simp
    rw [e, wraps_u64 _ (Int.natCast_nonneg _) (by exact_mod_cast hp)]
    exact u_or s (2 ^ n) (by omega) hp
  have Hb := Lib.hid hb
  clear hb hp
  go_enter Try.func28, Try.ntmps28
  go_wp2
  go_ret
  exact ⟨ret_int Hb.out, rfl⟩
end Go.Proofs.Ythffdkoncagimaa
