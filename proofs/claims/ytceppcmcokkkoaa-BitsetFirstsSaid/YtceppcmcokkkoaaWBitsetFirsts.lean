/- BitsetFirsts is true of every bytes and bounds, and leaves its arguments as they are. Conditions: none. Here: the walk of the law's text. -/
import Derived.Test.YtceppcmcokkkoaaI
import Derived.Test.YtceppcmcokkkoaaJ
import Derived.Test.YtceppcmcokkkoaaK
import Derived.WalkKit
import Derived.OpenShut
namespace Go.Proofs.Ytceppcmcokkkoaa.bitsetFirsts
open Go.RowKit
set_option maxRecDepth 100000 in
set_option maxHeartbeats 1000000 in
theorem walk (a0 : Option Addr) (len0 cap0 : Nat) (z0 : List Int) (a1 : Int) (a2 : Int) (w : World) (w0 : IsRow .u8 w a0 len0 cap0 z0) (w1 : (Lit.int .i64 a1).wf = true) (w2 : (Lit.int .i64 a2).wf = true) :
    Calls Try.prog 10 #[.slice a0 len0 cap0, .int .i64 a1, .int .i64 a2] w fun e w' => e = .returned (.bool true) ∧ Below w.heap.size w w' := by
  obtain ⟨l, hl, hlc, hcm, hb, hfew⟩ := few_row w0
  have hl1 : l.length ≤ 1000 := by omega
  have r1 := bounds_i64 w1
  have r2 := bounds_i64 w2
  have Hfew := Lib.hid hfew
  clear hfew w0 w1 w2
  go_enter Try.func10, Try.ntmps10
  go_wp2_with fail
  refine Hfew.out.mono ?_
  rintro e w' ⟨rfl, rfl⟩
  go_wp2_with fail
  refine (first_any _ _ l _ _ _ _ hb hl1 r1 r2).mono ?_
  rintro e wa ⟨rfl, hqa⟩
  have hba := hqa.bts hb
  cases hf : firstB l a1 a2 with
  | none =>
    have HF := Lib.hid hf
    unfold foundV
    go_wp2_with fail
    refine (reffirst_any _ _ l _ _ _ _ hba hl1).mono ?_
    rintro e wb ⟨rfl, rfl⟩
    rw [HF.out]
    unfold foundV
    go_wp2_with fail
    refine (live_any _).mono ?_
    rintro e wc ⟨rfl, hB⟩
    go_wp2
    go_ret
    exact ⟨rfl, hqa.below (Below.refl _ _) |>.trans (by rw [hqa.size] at hB; exact hB)⟩
  | some k =>
    have HF := Lib.hid hf
    unfold foundV
    go_wp2_with fail
    refine (reffirst_any _ _ l _ _ _ _ hba hl1).mono ?_
    rintro e wb ⟨rfl, rfl⟩
    rw [HF.out]
    unfold foundV
    go_wp2_with fail
    refine (live_any _).mono ?_
    rintro e wc ⟨rfl, hB⟩
    go_wp2
    go_ret
    exact ⟨rfl, hqa.below (Below.refl _ _) |>.trans (by rw [hqa.size] at hB; exact hB)⟩
end Go.Proofs.Ytceppcmcokkkoaa.bitsetFirsts
