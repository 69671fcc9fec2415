/- ExploreLists holds whatever comes in. Here: the walk of the law's text. -/
import Derived.Test.YthffdkoncagimaaQ
set_option linter.unusedVariables false
namespace Go.Proofs.Ythffdkoncagimaa
open Go.RowKit
theorem ExploreLists.walk (a : Option Addr) (len cap : Nat) (R : List (List Int)) (A : Nat → Option Addr) (C : Nat → Nat) (w : World) (h : IsMat w a len cap R A C) :
    Calls Try.prog 5 #[.slice a len cap] w fun e w' => e = .returned (.bool true) ∧ Below w.heap.size w w' := by
  cases hf : fitB (litR R 9) with
  | false => exact lists_no a len cap R A C w h hf
  | true =>
    obtain ⟨D, hR, hD, hO⟩ := fit_out hf
    exact lists_yes a len cap R A C w h D hR hD hO
end Go.Proofs.Ythffdkoncagimaa
