/- All's errors. -/
import Derived.Test.YthffdkoncagimaaJ
set_option linter.unusedVariables false
set_option linter.unusedSimpArgs false
namespace Go.Proofs.Ythffdkoncagimaa
open Go.RowKit Go.Shelf
set_option maxRecDepth 100000 in
set_option maxHeartbeats 1000000 in
theorem all_no (A : Option Addr) (c : Nat) (R : List (List Int)) (most : Int) (w : World) (hf : fitB R = false) (hl : R.length ≤ 1000) (hr : ∀ k, k < R.length → (rowI R k).length ≤ 1000) (hM : Mat w w.heap.size A R) :
    Calls Try.prog 16 #[.slice A R.length c, .int .i64 most] w fun e w' => e = .returned (.tuple #[.slice none 0 0, .int .i64 3]) ∧ Below w.heap.size w w' := by
  have HR := Lib.hid (needsOf_no A c R w hf hl hr hM)
  clear hM hr hf
  go_enter Try.func16, Try.ntmps16
  go_wp2_with (go_at_call 20; (with_reducible refine HR.out.mono ?_); rintro e w4 ⟨rfl, rfl⟩)
  go_ret2
  exact ⟨rfl, Below.refl _ _⟩
set_option maxRecDepth 100000 in
set_option maxHeartbeats 1000000 in
theorem all_range (A : Option Addr) (c : Nat) (D : List (List Nat)) (most : Int) (w : World) (hD : Sm D) (hO : OkD D) (hM : Mat w w.heap.size A (rowsI D)) (hm : ¬ (1 ≤ most ∧ most ≤ 4096)) :
    Calls Try.prog 16 #[.slice A D.length c, .int .i64 most] w fun e w' => e = .returned (.tuple #[.slice none 0 0, .int .i64 2]) ∧ Below w.heap.size w w' := by
  have HN := Lib.hid (needsOf_yes A c D w hD hO hM)
  clear hM hD hO
  by_cases h1 : most < 1
  · clear hm
    go_enter Try.func16, Try.ntmps16
    go_wp2_with (go_at_call 20; (with_reducible refine HN.out.mono ?_); rintro e w4 ⟨A4, c4, rfl, t4, b4⟩; have B4 := Lib.hid b4; clear t4 b4)
    go_ret2
    exact ⟨rfl, B4.out⟩
  · have h2 : 4096 < most := by omega
    clear hm
    go_enter Try.func16, Try.ntmps16
    go_wp2_with (go_at_call 20; (with_reducible refine HN.out.mono ?_); rintro e w4 ⟨A4, c4, rfl, t4, b4⟩; have B4 := Lib.hid b4; clear t4 b4)
    go_ret2
    exact ⟨rfl, B4.out⟩
set_option maxRecDepth 100000 in
set_option maxHeartbeats 1000000 in
theorem all_full (A : Option Addr) (c : Nat) (D : List (List Nat)) (most : Int) (w : World) (hD : Sm D) (hO : OkD D) (hM : Mat w w.heap.size A (rowsI D)) (h1 : 1 ≤ most) (h2 : most ≤ 4096) (hc : most < ((countL (needsL D) : Nat) : Int)) :
    Calls Try.prog 16 #[.slice A D.length c, .int .i64 most] w fun e w' => e = .returned (.tuple #[.slice none 0 0, .int .i64 11]) ∧ Below w.heap.size w w' := by
  have HN := Lib.hid (needsOf_yes A c D w hD hO hM)
  have HL := Lib.hid (lok_needs hD)
  clear hM hD hO
  generalize needsL D = L at *
  have h1' : ¬ most < 1 := by omega
  have h2' : ¬ 4096 < most := by omega
  clear h1 h2
  go_enter Try.func16, Try.ntmps16
  go_wp2_with (first
    | (go_at_call 20; (with_reducible refine HN.out.mono ?_); rintro e w4 ⟨A4, c4, rfl, t4, b4⟩; have B4 := Lib.hid b4; have HC := Lib.hid (count_any A4 c4 L w4 HL.out t4); clear t4 b4)
    | (go_at_call 21; (with_reducible refine HC.out.mono ?_); rintro e w5 ⟨rfl, b5⟩; have B5 := Lib.hid (B4.out.trans (b5.mono B4.out.size)); clear b5))
  go_ret2
  exact ⟨rfl, B5.out⟩
end Go.Proofs.Ythffdkoncagimaa
