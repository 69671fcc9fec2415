/- Small ones: place; was a unit not written yet. -/
import Derived.Test.YtkldiofleepkfaaHM
set_option linter.unusedVariables false
set_option linter.unusedSimpArgs false
namespace Go.Proofs.Ytkldiofleepkfaa.Hd
open Go.RowKit
theorem place_any (d : Int) (hd : WfI d) (w : World) : Calls Try.prog 37 #[.int .i64 d] w fun e w' => e = .returned (.int .i64 (-1 - d)) ∧ w = w' := by
  have hw : IntKind.i64.wrap (-1 - d) = -1 - d := by unfold WfI at hd; simp [IntKind.wrap, IntKind.bits, IntKind.signed]; omega
  clear hd
  go_enter Try.func37, Try.ntmps37
  go_wp2
  go_ret
  exact ⟨rfl, rfl⟩
theorem unwritten_any (bx : Nat) (s : Bool) (W : World) (hl : bx < W.heap.size) (hx : W.cell? ⟨bx, 3, none⟩ = some (.bool s)) :
    Calls Try.prog 16 #[.pointer (some ⟨bx, 0, none⟩)] W fun e w' => e = .returned (.bool (!s)) ∧ Below W.heap.size W w' := by
  go_enter Try.func16, Try.ntmps16
  go_wp2
  go_ret
  exact ⟨rfl, Below.refl _ _⟩
end Go.Proofs.Ytkldiofleepkfaa.Hd
