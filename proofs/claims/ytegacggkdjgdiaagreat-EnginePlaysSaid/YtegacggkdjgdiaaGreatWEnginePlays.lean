/- EnginePlays. Here: the walk of the law's text. -/
import Derived.Test.YtegacggkdjgdiaaGreatSM
import Derived.WalkKit
import Derived.OpenShut
set_option linter.unusedVariables false
set_option linter.unusedSimpArgs false
namespace Go.Proofs.YtegacggkdjgdiaaGreat
open Go.RowKit
namespace EnginePlays
set_option maxRecDepth 100000 in
set_option maxHeartbeats 4000000 in
theorem walk (a0 : Option Addr) (len0 cap0 : Nat) (z0 : List Dd) (a1 : Option Addr) (len1 cap1 : Nat) (z1 : List Int) (w : World) (h0 : z0.length = len0 ∧ DeedsAt w a0 z0 ∧ ∀ x ∈ z0, DdC w x) (h1 : NumsIn w a1 len1 cap1 z1) :
    Calls Tryz.prog 3 #[.slice a0 len0 cap0, .slice a1 len1 cap1] w fun e w' => e = .returned (.bool true) ∧ Below w.heap.size w w' := by
  obtain ⟨rfl, hA, hL⟩ := h0
  have HP := Lib.hid (play_any w a0 cap0 z0 hA hL)
  have H1 := Lib.hid h1
  clear hA hL h1
  generalize z0.length = len0 at HP
  unfold Played at HP
  go_enter Tryz.func3, Tryz.ntmps3
  go_wp2_with (first
    | (go_at_call 7; refine HP.out.mono ?_; rintro en x1 ⟨e, r, rfl, hO⟩; have HO := Lib.hid hO; clear hO)
    | (go_at_call 8; refine (live_any _).mono ?_; rintro en x2 ⟨rfl, hb2⟩; have HO2 := Lib.hid (HO.out.next hb2); have HS := Lib.hid (HO2.out.same (by decide) H1.out); clear hb2)
    | (go_at_call 9; refine HS.out.mono ?_; rintro en x3 ⟨rfl, hO3⟩; have HO3 := Lib.hid hO3; clear hO3))
  go_ret
  exact ⟨rfl, HO3.out.choose_spec.2.2⟩
end EnginePlays
end Go.Proofs.YtegacggkdjgdiaaGreat
