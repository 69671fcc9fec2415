/- Floats of small whole numbers. -/
import Derived.Laws.ComplexArith
import Derived.Laws.Entries
set_option linter.unusedVariables false
set_option linter.unusedSimpArgs false
namespace Go.Proofs.Ytpelocpjfmmceaa
open Go.RowKit

open Ieee

/-- the bits of a whole number's float -/
def fl (n : Int) : Nat := floatOfInt .f64 n
/-- the place of the last digit of a whole number's float -/
def plc (n : Nat) : Int := if n = 0 then -1074 else (n.log2 : Int) - 52

theorem log2_shl (d k : Nat) (hd : d ≠ 0) : (d <<< k).log2 = d.log2 + k := by
  have h1 := Nat.log2_self_le hd
  have h2 := @Nat.lt_log2_self d
  rw [Nat.shiftLeft_eq]
  have hp : 0 < 2 ^ k := Nat.two_pow_pos k
  rw [Nat.log2_eq_iff (Nat.mul_ne_zero hd (by omega))]
  constructor
  · rw [Nat.pow_add]; exact Nat.mul_le_mul_right _ h1
  · rw [show d.log2 + k + 1 = (d.log2 + 1) + k from by omega, Nat.pow_add]
    exact Nat.mul_lt_mul_of_pos_right h2 hp

/-- a cut that drops nothing but zeros -/
theorem cut_exact (neg : Bool) (a t : Nat) : Toward.even.cut neg (a <<< t) t = a := by
  unfold Toward.cut
  dsimp only
  by_cases ha : a = 0
  · subst ha
    simp [Nat.zero_shiftLeft]
  · rw [log2_shl a t ha, Nat.min_eq_left (by omega), Nat.shiftLeft_eq, Nat.shiftLeft_eq, Nat.one_mul]
    have hp : 0 < 2 ^ t := Nat.two_pow_pos t
    rw [Nat.mul_div_cancel _ hp, Nat.mul_mod_left]
    have h1 : decide (2 ^ t < 2 * 0) = false := by simp
    have h2 : (2 ^ t == 2 * 0) = false := by simp
    rw [h1, h2]
    rfl

/-- a whole number times a power of two, at the place below, is written as it is -/
theorem near_shl (neg : Bool) (d k : Nat) (hd : d ≠ 0) (hl : d.log2 ≤ 52) : double.nearest neg (d <<< k) (-(k : Int)) = double.word neg (min (((d.log2 : Int) + 1022).toNat * double.binade + d <<< (52 - d.log2)) double.infRung) := by
  have hne : d <<< k ≠ 0 := by
    rw [Nat.shiftLeft_eq]
    exact Nat.mul_ne_zero hd (by have := Nat.two_pow_pos k; omega)
  unfold Format.nearest
  rw [if_neg hne, log2_shl d k hd]
  have hlp : double.leastPlace = -1074 := by decide
  have hfb : double.fractionBits = 52 := rfl
  rw [hlp, hfb]
  have hlast : max (-(k : Int) + ((d.log2 + k : Nat) : Int) - ((52 : Nat) : Int)) (-1074) = (d.log2 : Int) - 52 := by omega
  simp only [hlast]
  rw [show ((d.log2 : Int) - 52 - -1074).toNat = ((d.log2 : Int) + 1022).toNat from by omega]
  have hcut : Toward.even.cut neg ((d <<< k) <<< (-(k : Int) - ((d.log2 : Int) - 52)).toNat) (((d.log2 : Int) - 52) - -(k : Int)).toNat = d <<< (52 - d.log2) := by
    by_cases h : k ≤ 52 - d.log2
    · rw [show (((d.log2 : Int) - 52) - -(k : Int)).toNat = 0 from by omega, ← Nat.shiftLeft_add, show k + (-(k : Int) - ((d.log2 : Int) - 52)).toNat = 52 - d.log2 from by omega]
      exact cut_exact neg _ 0
    · rw [show (-(k : Int) - ((d.log2 : Int) - 52)).toNat = 0 from by omega, Nat.shiftLeft_zero]
      rw [show d <<< k = (d <<< (52 - d.log2)) <<< (((d.log2 : Int) - 52) - -(k : Int)).toNat from by rw [← Nat.shiftLeft_add]; congr 1; omega]
      exact cut_exact neg _ _
  rw [hcut]

theorem near_same (neg : Bool) (d k : Nat) (hl : d < 4096) : double.nearest neg (d <<< k) (-(k : Int)) = double.nearest neg d 0 := by
  by_cases hd : d = 0
  · subst hd
    simp [Nat.zero_shiftLeft, Format.nearest]
  · have hl2 : d.log2 ≤ 52 := by
      have : d.log2 < 12 := (Nat.log2_lt hd).2 hl
      omega
    rw [near_shl neg d k hd hl2]
    have := near_shl neg d 0 hd hl2
    rw [Nat.shiftLeft_zero] at this
    exact this.symm

theorem fl_read' : ∀ n : Fin 1024, double.read (fl (n.val : Int)) = .number false (n.val <<< (-(plc n.val)).toNat) (plc n.val) := by decide +kernel
theorem fl_read (n : Nat) (h : n < 1024) : double.read (fl (n : Int)) = .number false (n <<< (-(plc n)).toNat) (plc n) := fl_read' ⟨n, h⟩
theorem plc_le (n : Nat) (h : n < 1024) : plc n ≤ 0 ∧ -1074 ≤ plc n := by
  unfold plc
  split
  · omega
  · rename_i hn
    have : n.log2 < 10 := (Nat.log2_lt hn).2 h
    omega
theorem fl_eq (n : Int) : fl n = double.nearest (decide (n < 0)) n.natAbs 0 := rfl

theorem shl_shl (a : Nat) (i base : Int) (hi : i ≤ 0) (hb : base ≤ i) : (a <<< (-i).toNat) <<< (i - base).toNat = a <<< (-base).toNat := by
  rw [← Nat.shiftLeft_add]; congr 1; omega

def sgn (s : Bool) (a : Nat) : Int := if s then -(a : Int) else a
theorem signed_fl (s : Bool) (a : Nat) (i base : Int) (k : Nat) (hi : i ≤ 0) (hb : base ≤ i) (hk : base = -(k : Int)) : signed s (a <<< (-i).toNat) (i - base).toNat = sgn s a * 2 ^ k := by
  unfold signed sgn
  rw [shl_shl a i base hi hb, hk, Int.neg_neg, Int.toNat_natCast, Nat.shiftLeft_eq]
  cases s
  · simp
  · simp [Int.neg_mul]

theorem sum_fl (s t : Bool) (a b : Nat) (ha : a < 1024) (hb : b < 1024) :
    ((Datum.number s (a <<< (-(plc a)).toNat) (plc a)).sum (.number t (b <<< (-(plc b)).toNat) (plc b))).map double.write = some (double.nearest (if sgn s a + sgn t b = 0 then s && t else decide (sgn s a + sgn t b < 0)) (sgn s a + sgn t b).natAbs 0) := by
  have pa := plc_le a ha
  have pb := plc_le b hb
  simp only [Datum.sum, Option.map_some, Format.write]
  obtain ⟨k, hk⟩ : ∃ k : Nat, min (plc a) (plc b) = -(k : Int) := ⟨(-(min (plc a) (plc b))).toNat, by omega⟩
  rw [signed_fl s a (plc a) _ k pa.1 (by omega) hk, signed_fl t b (plc b) _ k pb.1 (by omega) hk, hk, ← Int.add_mul]
  have hp : (0 : Int) < 2 ^ k := Int.pow_pos (by decide)
  obtain ⟨tot, htot⟩ : ∃ tot, tot = sgn s a + sgn t b := ⟨_, rfl⟩
  rw [← htot]
  have hab : tot.natAbs < 4096 := by
    rw [htot]; unfold sgn; split <;> split <;> omega
  have e1 : (tot * 2 ^ k).natAbs = tot.natAbs <<< k := by
    rw [Int.natAbs_mul, Nat.shiftLeft_eq]; congr 1
  rw [e1, near_same _ _ _ hab]
  congr 1
  congr 1
  by_cases h0 : tot = 0
  · rw [h0]; simp
  · rw [if_neg h0, if_neg (by intro h; rcases Int.mul_eq_zero.1 h with h | h <;> omega)]
    congr 1
    apply propext
    constructor
    · intro h
      rcases Int.lt_trichotomy tot 0 with h1 | h1 | h1
      · exact h1
      · exact absurd h1 h0
      · have := Int.mul_pos h1 hp; omega
    · intro h
      have := Int.mul_neg_of_neg_of_pos h hp
      exact this

/-- the sum, the difference: as of whole numbers -/
theorem add_fl (a b : Nat) (ha : a < 1024) (hb : b < 1024) : floatBits .add .f64 (fl a) (fl b) = some (fl ((a : Int) + b)) := by
  show ((double.read (fl a)).sum (double.read (fl b))).map double.write = _
  rw [fl_read a ha, fl_read b hb, sum_fl false false a b ha hb, fl_eq]
  congr 1
  unfold sgn
  simp only [Bool.false_eq_true, if_false]
  congr 1
  split
  · rename_i h; rw [h]; rfl
  · rfl
theorem sub_fl (a b : Nat) (ha : a < 1024) (hb : b < 1024) : floatBits .sub .f64 (fl a) (fl b) = some (fl ((a : Int) - b)) := by
  show ((double.read (fl a)).sum (double.read (fl b)).opposite).map double.write = _
  rw [fl_read a ha, fl_read b hb]
  simp only [Datum.opposite, Bool.not_false]
  rw [sum_fl false true a b ha hb, fl_eq]
  congr 1
  unfold sgn
  simp only [Bool.false_eq_true, if_false, if_true, Bool.false_and]
  rw [show (a : Int) + -(b : Int) = (a : Int) - b from by omega]
  congr 1
  split
  · rename_i h; rw [h]; rfl
  · rfl

theorem abs_fl' : ∀ n : Fin 1024, (bits .andNot .u64 (fl (n.val : Int) : Int) 9223372036854775808).toNat = fl (n.val : Int) ∧ (bits .andNot .u64 (fl (-(n.val : Int)) : Int) 9223372036854775808).toNat = fl (n.val : Int) := by decide +kernel
theorem int_fl' : ∀ n : Fin 2048, floatToIntVal .f64 (fl (n.val : Int)) .i64 = some (n.val : Int) := by decide +kernel
theorem compare_scale (a b p : Int) (hp : 0 < p) : compare (a * p) (b * p) = compare a b := by
  rcases Int.lt_trichotomy a b with h | h | h
  · have := Int.mul_lt_mul_of_pos_right h hp
    rw [Int.compare_eq_lt.2 h, Int.compare_eq_lt.2 this]
  · rw [h, Int.compare_eq_eq.2 rfl, Int.compare_eq_eq.2 rfl]
  · have := Int.mul_lt_mul_of_pos_right h hp
    rw [Int.compare_eq_gt.2 h, Int.compare_eq_gt.2 this]
theorem order_fl (a b : Nat) (ha : a < 1024) (hb : b < 1024) : FloatKind.f64.format.order (fl a) (fl b) = some (compare (a : Int) (b : Int)) := by
  show (double.read (fl a)).order (double.read (fl b)) = _
  rw [fl_read a ha, fl_read b hb]
  have pa := plc_le a ha
  have pb := plc_le b hb
  simp only [Datum.order]
  obtain ⟨k, hk⟩ : ∃ k : Nat, min (plc a) (plc b) = -(k : Int) := ⟨(-(min (plc a) (plc b))).toNat, by omega⟩
  rw [signed_fl false a (plc a) _ k pa.1 (by omega) hk, signed_fl false b (plc b) _ k pb.1 (by omega) hk, compare_scale _ _ _ (Int.pow_pos (by decide))]
  rfl
theorem order_same (a : Nat) (ha : a < 1024) : FloatKind.f64.format.order (fl a) (fl a) = some .eq := by
  rw [order_fl a a ha ha, Int.compare_eq_eq.2 rfl]
theorem order_top' : ∀ n : Fin 1024, FloatKind.f64.format.order (fl (n.val : Int)) 4697254411347427328 = some .lt := by decide +kernel
theorem order_low' : ∀ n : Fin 1024, FloatKind.f64.format.order (fl (n.val : Int)) 13920626448202203136 = some .gt := by decide +kernel
theorem order_top (n : Nat) (h : n < 1024) : FloatKind.f64.format.order (fl (n : Int)) 4697254411347427328 = some .lt := order_top' ⟨n, h⟩
theorem order_low (n : Nat) (h : n < 1024) : FloatKind.f64.format.order (fl (n : Int)) 13920626448202203136 = some .gt := order_low' ⟨n, h⟩
theorem abs_fl (n : Nat) (h : n < 1024) : (bits .andNot .u64 (fl (n : Int) : Int) 9223372036854775808).toNat = fl (n : Int) ∧ (bits .andNot .u64 (fl (-(n : Int)) : Int) 9223372036854775808).toNat = fl (n : Int) := abs_fl' ⟨n, h⟩
theorem int_fl (n : Nat) (h : n < 2048) : floatToIntVal .f64 (fl (n : Int)) .i64 = some (n : Int) := int_fl' ⟨n, h⟩
theorem trunc_fl' : ∀ n : Fin 1024, FloatKind.f64.encode ((FloatKind.f64.decode (fl (n.val : Int))).integral .zero) = fl (n.val : Int) := by decide +kernel
theorem trunc_fl (n : Nat) (h : n < 1024) : FloatKind.f64.encode ((FloatKind.f64.decode (fl (n : Int))).integral .zero) = fl (n : Int) := trunc_fl' ⟨n, h⟩
end Go.Proofs.Ytpelocpjfmmceaa
