/- Contract of the document's Closed; Closed anyhow. -/
import Derived.Test.YthffdkoncagimaaGT
import Derived.Test.YthffdkoncagimaaGP
namespace Go.Proofs.Ythffdkoncagimaa
set_option linter.unusedVariables false
set_option linter.unusedSimpArgs false
set_option maxRecDepth 100000
open Go.RowKit

theorem closed_yes (A : Option Addr) (c kD : Nat) (D : List (List Nat)) (hkD : kD = D.length) (hD : OkD D) (A2 : Option Addr) (c2 k2 : Nat) (l : List Int) (hk2 : k2 = l.length) (hl : l.length ≤ 100000) (w : World)
    (hM : Mat w w.heap.size A (rowsI D)) (hI : Ints w w.heap.size A2 l) :
    Calls Try.prog 19 #[.slice A kD c, .slice A2 k2 c2] w fun e W' => e = .returned (.bool (closedB D l)) ∧ Below w.heap.size w W' :=
  callsIn_wide.1 (closed_in 4 (Nat.le_refl _) A c kD D hkD hD A2 c2 k2 l hk2 hl w hM hI)
set_option maxRecDepth 100000 in
set_option maxHeartbeats 1000000 in
theorem closed_no (A : Option Addr) (c k : Nat) (R : List (List Int)) (hk : k = R.length) (hok : okB R = false) (v2 : Value) (w : World) (hl : R.length ≤ 1000) (hr : ∀ k, k < R.length → (rowI R k).length ≤ 1000) (hM : Mat w w.heap.size A R) :
    Calls Try.prog 19 #[.slice A k c, v2] w fun e w' => e = .returned (.bool false) ∧ Below w.heap.size w w' := by
  have hw0 : Below w.heap.size w ((w.alloc (.cells #[.slice A k c] 22)).alloc (.cells #[.bool false] 4)) := ((Below.refl _ _).alloc (Nat.le_refl _) _).alloc (by simp) _
  obtain ⟨hz4, _⟩ := zero_of_info (P := Try.prog) zero4
  have H := Lib.hid (right_no A c k R hk hok ((w.alloc (.cells #[.slice A k c] 22)).alloc (.cells #[.bool false] 4)) hl hr ((hM.below hw0).more (by simp; omega)))
  have Hw0 := Lib.hid hw0
  clear hk hok hr hM hw0
  go_enter Try.func19, Try.ntmps19
  go_wp2_with (go_at_call 34; refine H.out.mono ?_; rintro e w' ⟨rfl, rfl⟩)
  have hb1 := Boxed.new (w.alloc (.cells #[.slice A k c] 22)) 4 (.bool false)
  simp only [World.size_alloc] at hb1
  exact bodyPost_ret (v := .bool false) (results_one _ _ (w.heap.size + 1) false rfl rfl hb1) rfl ⟨rfl, Hw0.out⟩
end Go.Proofs.Ythffdkoncagimaa
