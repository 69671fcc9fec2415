/- What must be whatever is asked, of places: the law's own 'live'. -/
import Derived.Test.YtceppcmcokkkoaaFD
namespace Go.Proofs.Ytceppcmcokkkoaa
open Go.RowKit

theorem fl_1 : fl 1 = 4607182418800017408 := by decide +kernel
theorem fl_2 : fl 2 = 4611686018427387904 := by decide +kernel
theorem fl_3 : fl 3 = 4613937818241073152 := by decide +kernel
theorem fl_4 : fl 4 = 4616189618054758400 := by decide +kernel

theorem at_live (w : World) : Calls Try.prog 27 #[.int .i64 13, .int .i64 5] w fun e w' => e = .returned (.tuple #[.complex .f64 (fl 2) (fl 3), .int .i64 0]) ∧ Quiet w w' :=
  at_yes 13 5 (by decide) (by decide) (by decide) w
theorem way_live (w : World) : Calls Try.prog 29 #[.complex .f64 (fl 2) (fl 3), .complex .f64 0 4616189618054758400] w fun e w' => e = .returned (.int .i64 3) ∧ w = w' := by
  have h := way_any 2 3 0 4 (by decide) (by decide) (by decide) (by decide) w
  have e : pt ((0 : Nat) : Int) ((4 : Nat) : Int) = .complex .f64 0 4616189618054758400 := by
    show Value.complex .f64 (fl 0) (fl 4) = _
    rw [fl_zero, fl_4]
  rw [e] at h
  exact h
theorem order_2 : (FloatKind.f64.format.order (fl 2) 4611686018427387904 == some .eq) = true := by decide +kernel
theorem order_3 : (FloatKind.f64.format.order (fl 3) 4613937818241073152 == some .eq) = true := by decide +kernel
theorem order_1 : (FloatKind.f64.format.order (fl 1) 4607182418800017408 == some .eq) = true := by decide +kernel
theorem order_0 : (FloatKind.f64.format.order 0 0 == some .eq) = true := by decide +kernel

set_option maxRecDepth 100000 in
set_option maxHeartbeats 1000000 in
theorem turn_live (w : World) : Calls Try.prog 52 #[.complex .f64 4607182418800017408 0, .int .i64 1] w fun e w' => e = .returned (.complex .f64 0 (fl 1)) ∧ w = w' := by
  have hp := fun W => plain_any 1 0 (by decide) (by decide) W
  have e : pt ((1 : Nat) : Int) ((0 : Nat) : Int) = .complex .f64 4607182418800017408 0 := by
    show Value.complex .f64 (fl 1) (fl 0) = _
    rw [fl_zero, fl_1]
  rw [e] at hp
  have Hp := Lib.hid hp
  have hmul := fun W => run_complex_mul (P := Try.prog) W 34 4607182418800017408 0 0 4607182418800017408 0 (fl 1) (by decide +kernel)
  clear hp e
  go_enter Try.func52, Try.ntmps52
  go_wp2_with fail
  refine (Hp.out _).mono ?_
  rintro e w' ⟨rfl, rfl⟩
  go_wp2
  go_loop [0, 12] (fun z i => (i = .int .i64 0 ∧ z = .complex .f64 4607182418800017408 0) ∨ (i = .int .i64 1 ∧ z = .complex .f64 0 (fl 1))) (fun _ i => 1 - (intOf i).toNat)
  case atStart => exact .inl ⟨rfl, rfl⟩
  case round =>
    rcases hrel with ⟨rfl, rfl⟩ | ⟨rfl, rfl⟩
    · go_wp2
      go_round
      case rel => exact .inr ⟨rfl, rfl⟩
      case measure => simp [intOf]
    · go_wp2
      go_ret
      exact ⟨rfl, rfl⟩

set_option maxRecDepth 100000 in
set_option maxHeartbeats 1000000 in
theorem live1_any (w : World) : Calls Try.prog 23 #[] w fun e w' => e = .returned (.bool true) ∧ Quiet w w' := by
  have o2 := order_2
  have o3 := order_3
  have o1 := order_1
  have o0 := order_0
  go_enter Try.func23, Try.ntmps23
  go_wp2_with fail
  refine (at_live _).mono ?_
  rintro e w1 ⟨rfl, hq⟩
  go_wp2_with fail
  refine (way_live _).mono ?_
  rintro e w' ⟨rfl, rfl⟩
  go_wp2_with fail
  refine (turn_live _).mono ?_
  rintro e w' ⟨rfl, rfl⟩
  go_wp2
  go_ret
  exact ⟨rfl, hq⟩
theorem block_zero (p : Nat) (hp0 : 1 ≤ p) (hp : p ≤ 64) (w : World) :
    Calls Try.prog 28 #[.complex .f64 0 0, .int .i64 (p : Int)] w fun e w' => e = .returned (.tuple #[.int .i64 0, .bool true]) ∧ Quiet w w' := by
  have h := block_at 0 p (by decide) hp0 hp w
  rw [Nat.zero_div, Nat.zero_mod] at h
  rw [show pt ((0 : Nat) : Int) ((0 : Nat) : Int) = .complex .f64 0 0 from pt_zero] at h
  exact h
theorem Quiet.grown {w w' : World} (q : Quiet w w') : Grown w w' := by
  obtain ⟨n, rfl⟩ := q
  exact ⟨Below.frame (show Below w.heap.size w (w.drewN n) from (show Quiet w (w.drewN n) from ⟨n, rfl⟩).below (Below.refl _ _)) _, fun _ => rfl, Nat.le_refl _⟩
theorem Quiet.trans2 {a b c : World} (h : Quiet a b) (k : Quiet b c) : Quiet a c := by
  obtain ⟨n, rfl⟩ := h
  obtain ⟨m, rfl⟩ := k
  exact ⟨n + m, by rw [World.drewN_drewN]⟩
end Go.Proofs.Ytceppcmcokkkoaa
