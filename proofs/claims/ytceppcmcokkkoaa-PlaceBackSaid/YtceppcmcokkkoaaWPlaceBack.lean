/- PlaceBack is true of every block and track, and leaves its arguments as they are. Conditions: none. Here: the walk of the law's text. -/
import Derived.Test.YtceppcmcokkkoaaFE
import Derived.WalkKit
import Derived.OpenShut
namespace Go.Proofs.Ytceppcmcokkkoaa.placeBack
open Go.RowKit
set_option maxRecDepth 100000 in
set_option maxHeartbeats 1000000 in
theorem walk (a0 : Int) (a1 : Int) (w0 : (Lit.int .i64 a0).wf = true) (w1 : (Lit.int .i64 a1).wf = true) (w : World) :
    Calls Try.prog 5 #[.int .i64 a0, .int .i64 a1] w fun e w' => e = .returned (.bool true) ∧ Grown w w' := by
  have r1 := bounds_i64 w0
  have r2 := bounds_i64 w1
  clear w0 w1
  by_cases hok : (0 ≤ a0 ∧ a0 < 1024) ∧ 1 ≤ a1 ∧ a1 ≤ 64
  · obtain ⟨⟨h1, h2⟩, h3, h4⟩ := hok
    obtain ⟨k, rfl⟩ := Int.eq_ofNat_of_zero_le h1
    obtain ⟨p, rfl⟩ := Int.eq_ofNat_of_zero_le (show 0 ≤ a1 by omega)
    have hk : k < 1024 := by omega
    have hp0 : 1 ≤ p := by omega
    have hp : p ≤ 64 := by omega
    clear h1 h2 h3 h4
    have Hat := Lib.hid (fun W => at_yes k p hk hp0 hp W)
    have Hbl := Lib.hid (fun W => block_at k p hk hp0 hp W)
    unfold pt at Hat Hbl
    go_enter Try.func5, Try.ntmps5
    go_wp2_with fail
    refine (Hat.out _).mono ?_
    rintro e wa ⟨rfl, hq1⟩
    go_wp2_with fail
    refine (Hbl.out _).mono ?_
    rintro e wb ⟨rfl, hq2⟩
    go_wp2_with fail
    refine (live1_any _).mono ?_
    rintro e wc ⟨rfl, hq3⟩
    go_wp2
    go_ret
    exact ⟨rfl, ((hq1.trans2 hq2).trans2 hq3).grown⟩
  · have hno : a0 < 0 ∨ 1024 ≤ a0 ∨ a1 < 1 ∨ 64 < a1 := by omega
    have Hat := Lib.hid (fun W => at_no a0 a1 hno W)
    have o0 := order_0
    clear hno hok
    by_cases hp : a1 < 1 ∨ 64 < a1
    · have Hbl := Lib.hid (fun W => block_no a1 hp W)
      clear hp
      go_enter Try.func5, Try.ntmps5
      go_wp2_with fail
      refine (Hat.out _).mono ?_
      rintro e w' ⟨rfl, rfl⟩
      go_wp2_with fail
      refine (Hbl.out _).mono ?_
      rintro e wb ⟨rfl, hq2⟩
      go_wp2_with fail
      refine (live1_any _).mono ?_
      rintro e wc ⟨rfl, hq3⟩
      go_wp2
      go_ret
      exact ⟨rfl, (hq2.trans2 hq3).grown⟩
    · obtain ⟨p, rfl⟩ := Int.eq_ofNat_of_zero_le (show 0 ≤ a1 by omega)
      have Hbl := Lib.hid (fun W => block_zero p (by omega) (by omega) W)
      clear hp
      go_enter Try.func5, Try.ntmps5
      go_wp2_with fail
      refine (Hat.out _).mono ?_
      rintro e w' ⟨rfl, rfl⟩
      go_wp2_with fail
      refine (Hbl.out _).mono ?_
      rintro e wb ⟨rfl, hq2⟩
      go_wp2_with fail
      refine (live1_any _).mono ?_
      rintro e wc ⟨rfl, hq3⟩
      go_wp2
      go_ret
      exact ⟨rfl, (hq2.trans2 hq3).grown⟩
end Go.Proofs.Ytceppcmcokkkoaa.placeBack
