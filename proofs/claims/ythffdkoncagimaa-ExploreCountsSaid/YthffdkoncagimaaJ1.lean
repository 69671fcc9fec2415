/- OnesCount. -/
import Derived.Test.YthffdkoncagimaaJ0
set_option linter.unusedVariables false
set_option linter.unusedSimpArgs false
namespace Go.Proofs.Ythffdkoncagimaa
open Go.RowKit Go.Shelf
set_option maxRecDepth 100000 in
set_option maxHeartbeats 4000000 in
theorem ones_any (x : Nat) (w : World) (hx : x < 2 ^ 14) :
    Calls Try.prog 29 #[.int .u64 ((x : Nat) : Int)] w fun e w' => e = .returned (.int .i64 (((memb x).length : Nat) : Int)) ∧ w = w' := by
  have Hp : Hid _ := Lib.hid (pop_is (x := x) (by omega))
  have Hm : Hid (((pop x : Nat) : Int) = (((memb x).length : Nat) : Int)) := by
    unfold Hid; rw [pop_cnt hx, cnt_memb]; rfl
  clear hx
  go_enter Try.func29, Try.ntmps29
  go_wp2
  go_ret
  exact ⟨ret_int (Hp.out.trans Hm.out), rfl⟩
end Go.Proofs.Ythffdkoncagimaa
