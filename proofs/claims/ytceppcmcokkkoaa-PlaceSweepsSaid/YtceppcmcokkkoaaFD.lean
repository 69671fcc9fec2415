/- Contracts of Block, Turn at one place, and the law's own 'live'. -/
import Derived.Test.YtceppcmcokkkoaaFC
namespace Go.Proofs.Ytceppcmcokkkoaa
open Go.RowKit

theorem fl_zero : fl 0 = 0 := by decide +kernel
theorem pt_zero : pt 0 0 = .complex .f64 0 0 := by unfold pt; rw [fl_zero]

set_option maxRecDepth 100000 in
set_option maxHeartbeats 1000000 in
theorem block_at (k p : Nat) (hk : k < 1024) (hp0 : 1 ≤ p) (hp : p ≤ 64) (w : World) :
    Calls Try.prog 28 #[pt ((k / p : Nat) : Int) ((k % p : Nat) : Int), .int .i64 (p : Int)] w fun e w' => e = .returned (.tuple #[.int .i64 (k : Int), .bool true]) ∧ Quiet w w' := by
  have hq : k / p ≤ k := Nat.div_le_self _ _
  have hr : k % p < p := Nat.mod_lt _ (by omega)
  have hdm : k / p * p + k % p = k := by rw [Nat.mul_comm]; exact Nat.div_add_mod k p
  have Hat := Lib.hid (fun W => at_yes k p hk hp0 hp W)
  obtain ⟨q, hq'⟩ : ∃ q, q = k / p := ⟨_, rfl⟩
  obtain ⟨r, hr'⟩ : ∃ r, r = k % p := ⟨_, rfl⟩
  rw [← hq', ← hr'] at hdm Hat
  rw [← hq'] at hq ⊢
  rw [← hr'] at hr ⊢
  have hq1 : q < 1024 := by omega
  have hr1 : r < 1024 := by omega
  have Hpl := Lib.hid (fun W => plain_any q r hq1 hr1 W)
  unfold pt at Hat Hpl ⊢
  have i1 := fun W => run_convert_float_int (P := Try.prog) W 75 3 .f64 .i64 (fl q) q (by kernel_rfl) Try.underlying3 (int_fl q (by omega))
  have i2 := fun W => run_convert_float_int (P := Try.prog) W 75 3 .f64 .i64 (fl r) r (by kernel_rfl) Try.underlying3 (int_fl r (by omega))
  have oa : (FloatKind.f64.format.order (fl (q : Int)) (fl (q : Int)) == some .eq) = true := by rw [order_same q hq1]; rfl
  have ob : (FloatKind.f64.format.order (fl (r : Int)) (fl (r : Int)) == some .eq) = true := by rw [order_same r hr1]; rfl
  have hmul : (q : Int) * (p : Int) + (r : Int) = (k : Int) := by rw [← hdm]; simp
  have hmul2 : (q : Int) * (p : Int) ≤ 1024 := by
    have : (0 : Int) ≤ r := by omega
    omega
  have hmul3 : (0 : Int) ≤ (q : Int) * (p : Int) := Int.mul_nonneg (by omega) (by omega)
  have Hmul := Lib.hid hmul
  have hp1 : (1 : Int) ≤ (p : Int) := by omega
  have hp2 : (p : Int) ≤ 64 := by omega
  have hri : (r : Int) < 64 := by omega
  clear hq' hr' hdm hmul
  go_enter Try.func28, Try.ntmps28
  go_wp2_with fail
  refine (Hpl.out _).mono ?_
  rintro e w' ⟨rfl, rfl⟩
  go_wp2_with fail
  rw [Hmul.out]
  refine (Hat.out _).mono ?_
  rintro e w1 ⟨rfl, hQ⟩
  go_wp2
  go_ret2
  exact ⟨rfl, hQ⟩

theorem block_no (p : Int) (hp : p < 1 ∨ 64 < p) (w : World) :
    Calls Try.prog 28 #[.complex .f64 0 0, .int .i64 p] w fun e w' => e = .returned (.tuple #[.int .i64 0, .bool false]) ∧ Quiet w w' := by
  have hpl := fun W => plain_any 0 0 (by decide) (by decide) W
  have e0 : pt ((0 : Nat) : Int) ((0 : Nat) : Int) = .complex .f64 0 0 := pt_zero
  rw [e0] at hpl
  have Hpl := Lib.hid hpl
  clear hpl e0
  by_cases h1 : p < 1
  · go_enter Try.func28, Try.ntmps28
    go_wp2_with fail
    refine (Hpl.out _).mono ?_
    rintro e w' ⟨rfl, rfl⟩
    go_wp2
    go_ret2
    exact ⟨rfl, 0, rfl⟩
  · have h2 : 64 < p := by omega
    go_enter Try.func28, Try.ntmps28
    go_wp2_with fail
    refine (Hpl.out _).mono ?_
    rintro e w' ⟨rfl, rfl⟩
    go_wp2
    go_ret2
    exact ⟨rfl, 0, rfl⟩
end Go.Proofs.Ytceppcmcokkkoaa
