/- Contracts of plain, At. -/
import Derived.Test.YtceppcmcokkkoaaFB
namespace Go.Proofs.Ytceppcmcokkkoaa
open Go.RowKit

theorem abs_pos (n : Nat) (h : n < 1024) (w : World) :
    Calls Try.prog 57 #[.float .f64 (fl (n : Int))] w fun e w' => e = .returned (.float .f64 (fl n)) ∧ w = w' := abs_any _ n (abs_fl n h).1 w

set_option maxRecDepth 100000 in
set_option maxHeartbeats 1000000 in
theorem plain_any (a b : Nat) (ha : a < 1024) (hb : b < 1024) (w : World) :
    Calls Try.prog 56 #[pt a b] w fun e w' => e = .returned (.bool true) ∧ w = w' := by
  unfold pt
  have i0 : ∀ x y W, (Instr.index 88 (.agg #[.float .f64 x, .float .f64 y]) (.int .i64 0)).run Try.prog W = .ok (.float .f64 x) W := fun _ _ _ => by kernel_rfl
  have i1 : ∀ x y W, (Instr.index 88 (.agg #[.float .f64 x, .float .f64 y]) (.int .i64 1)).run Try.prog W = .ok (.float .f64 y) W := fun _ _ _ => by kernel_rfl
  go_enter Try.func56, Try.ntmps56
  have oa : (FloatKind.f64.format.order (fl (a : Int)) (fl (a : Int)) != some .eq) = false := by rw [order_same a ha]; rfl
  have ob : (FloatKind.f64.format.order (fl (b : Int)) (fl (b : Int)) != some .eq) = false := by rw [order_same b hb]; rfl
  have ta : (FloatKind.f64.format.order (fl (a : Int)) 4697254411347427328 == some .gt) = false := by rw [order_top a ha]; rfl
  have tb : (FloatKind.f64.format.order (fl (b : Int)) 4697254411347427328 == some .gt) = false := by rw [order_top b hb]; rfl
  go_wp2
  go_step3
  go_wp2
  go_loop [10] (fun i => ∃ k : Nat, k ≤ 2 ∧ i = .int .i64 k) (fun i => 2 - (intOf i).toNat)
  case atStart => exact ⟨0, by omega, rfl⟩
  case round =>
    obtain ⟨k, hk, rfl⟩ := hrel
    match k, hk with
    | 0, _ =>
      go_wp2_with (first | (go_at_call 64; refine (trunc_any a ha _).mono ?_; rintro e w' ⟨rfl, rfl⟩) | (go_at_call 57; refine (abs_pos a ha _).mono ?_; rintro e w' ⟨rfl, rfl⟩))
      go_round
      case rel => exact ⟨1, by omega, rfl⟩
      case measure => simp [intOf]
    | 1, _ =>
      go_wp2_with (first | (go_at_call 64; refine (trunc_any b hb _).mono ?_; rintro e w' ⟨rfl, rfl⟩) | (go_at_call 57; refine (abs_pos b hb _).mono ?_; rintro e w' ⟨rfl, rfl⟩))
      go_round
      case rel => exact ⟨2, by omega, rfl⟩
      case measure => simp [intOf]
    | 2, _ =>
      go_wp2
      go_ret
      exact ⟨rfl, rfl⟩

set_option maxRecDepth 100000 in
set_option maxHeartbeats 1000000 in
theorem at_yes (b p : Nat) (hb : b < 1024) (hp0 : 1 ≤ p) (hp : p ≤ 64) (w : World) :
    Calls Try.prog 27 #[.int .i64 (b : Int), .int .i64 (p : Int)] w fun e w' => e = .returned (.tuple #[pt ((b / p : Nat) : Int) ((b % p : Nat) : Int), .int .i64 0]) ∧ Quiet w w' := by
  have h1 : (b : Int) < 1024 := by omega
  have h2 : (1 : Int) ≤ (p : Int) := by omega
  have h3 : (p : Int) ≤ 64 := by omega
  have h4 : ((p : Int) == 0) = false := by simp; omega
  go_enter Try.func27, Try.ntmps27
  go_wp2
  go_region
  all_goals go_wp2
  go_ret2
  have e1 : wrap64 ((b : Int) / (p : Int)) = ((b / p : Nat) : Int) := by
    have h : (b : Int) / (p : Int) = ((b / p : Nat) : Int) := by simp
    have h2 : b / p ≤ b := Nat.div_le_self _ _
    rw [h]
    generalize b / p = q at h2
    exact IntWalk.wrap64_in _ ⟨by omega, by omega⟩
  have e2 : (b : Int) % (p : Int) = ((b % p : Nat) : Int) := by simp
  rw [e1, e2]
  exact ⟨rfl, 1, rfl⟩

theorem at_no (b p : Int) (h : b < 0 ∨ 1024 ≤ b ∨ p < 1 ∨ 64 < p) (w : World) :
    Calls Try.prog 27 #[.int .i64 b, .int .i64 p] w fun e w' => e = .returned (.tuple #[.complex .f64 0 0, .int .i64 2]) ∧ w = w' := by
  by_cases h1 : b < 0
  · go_enter Try.func27, Try.ntmps27
    go_wp2
    go_ret2
    exact ⟨rfl, rfl⟩
  by_cases h2 : 1024 ≤ b
  · go_enter Try.func27, Try.ntmps27
    go_wp2
    go_ret2
    exact ⟨rfl, rfl⟩
  by_cases h3 : p < 1
  · go_enter Try.func27, Try.ntmps27
    go_wp2
    go_ret2
    exact ⟨rfl, rfl⟩
  · have h4 : 64 < p := by omega
    go_enter Try.func27, Try.ntmps27
    go_wp2
    go_ret2
    exact ⟨rfl, rfl⟩
/-- may a block lie so? -/
def okAt (b p : Int) : Prop := (0 ≤ b ∧ b < 1024) ∧ 1 ≤ p ∧ p ≤ 64

set_option maxRecDepth 100000 in
set_option maxHeartbeats 1000000 in
theorem way_any (a b c d : Nat) (ha : a < 1024) (hb : b < 1024) (hc : c < 1024) (hd : d < 1024) (w : World) :
    Calls Try.prog 29 #[pt a b, pt c d] w fun e w' => e = .returned (.int .i64 ((((c : Int) - a).natAbs + ((d : Int) - b).natAbs : Nat) : Int)) ∧ w = w' := by
  obtain ⟨m, hm⟩ : ∃ m, m = ((c : Int) - a).natAbs := ⟨_, rfl⟩
  obtain ⟨n, hn⟩ : ∃ n, n = ((d : Int) - b).natAbs := ⟨_, rfl⟩
  have hm1 : m < 1024 := by omega
  have hn1 : n < 1024 := by omega
  have hsub := fun W => run_complex_sum (P := Try.prog) W .sub (.inr rfl) 34 .f64 (fl c) (fl d) (fl a) (fl b) (fl ((c : Int) - a)) (fl ((d : Int) - b)) (by unfold cSumBits; rw [sub_fl c a hc ha, sub_fl d b hd hb]; rfl)
  have hadd := fun W => run_float_arith (P := Try.prog) W .add 75 .f64 (fl m) (fl n) (fl ((m : Int) + n)) (add_fl m n hm1 hn1)
  have hint := fun W => run_convert_float_int (P := Try.prog) W 75 3 .f64 .i64 (fl ((m : Int) + n)) ((m : Int) + n) (by kernel_rfl) Try.underlying3 (by have := int_fl (m + n) (by omega); simpa using this)
  have e1 : (bits .andNot .u64 (fl ((c : Int) - a) : Int) 9223372036854775808).toNat = fl m := by
    have := abs_fl m hm1
    by_cases h : (a : Int) ≤ c
    · rw [show (c : Int) - a = (m : Int) from by omega]; exact this.1
    · rw [show (c : Int) - a = -(m : Int) from by omega]; exact this.2
  have e2 : (bits .andNot .u64 (fl ((d : Int) - b) : Int) 9223372036854775808).toNat = fl n := by
    have := abs_fl n hn1
    by_cases h : (b : Int) ≤ d
    · rw [show (d : Int) - b = (n : Int) from by omega]; exact this.1
    · rw [show (d : Int) - b = -(n : Int) from by omega]; exact this.2
  have E1 := Lib.hid e1
  have E2 := Lib.hid e2
  rw [← hm, ← hn]
  clear e1 e2 hm hn
  have hp1 := fun W => plain_any a b ha hb W
  have hp2 := fun W => plain_any c d hc hd W
  unfold pt at hp1 hp2 ⊢
  have Hp1 := Lib.hid hp1
  have Hp2 := Lib.hid hp2
  clear hp1 hp2
  go_enter Try.func29, Try.ntmps29
  go_wp2_with fail
  refine (Hp1.out _).mono ?_
  rintro e w' ⟨rfl, rfl⟩
  go_wp2_with fail
  refine (Hp2.out _).mono ?_
  rintro e w' ⟨rfl, rfl⟩
  go_wp2_with fail
  refine (abs_any _ m E1.out _).mono ?_
  rintro e w' ⟨rfl, rfl⟩
  go_wp2_with fail
  refine (abs_any _ n E2.out _).mono ?_
  rintro e w' ⟨rfl, rfl⟩
  go_wp2
  go_ret
  exact ⟨ret_int (by omega), rfl⟩
end Go.Proofs.Ytceppcmcokkkoaa
