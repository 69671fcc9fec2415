/- Same of two rows; New of the document; Took of the document. -/
import Derived.Test.YtdndchoghhllmaaI
set_option linter.unusedVariables false
set_option linter.unusedSimpArgs false
namespace Go.Proofs.Ytdndchoghhllmaa
open Go.RowKit
set_option maxRecDepth 100000 in
set_option maxHeartbeats 1000000 in
theorem same_ints (A A2 : Option Addr) (c c2 : Nat) (l : List Int) (w : World) (hl : l.length ≤ 1000) (h1 : Ints w w.heap.size A l) (h2 : Ints w w.heap.size A2 l) :
    Calls Try.prog 20 #[.slice A l.length c, .slice A2 l.length c2] w fun e w' => e = .returned (.bool true) ∧ Below w.heap.size w w' := by
  have H1 := Lib.hid h1
  have H2 := Lib.hid h2
  clear h1 h2
  go_enter Try.func20, Try.ntmps20
  go_wp2
  go_loopw [5] (fun i wr => ∃ k : Nat, k ≤ l.length ∧ i = .int .i64 k ∧ Below w.heap.size w wr) (fun i _ => l.length - (intOf i).toNat)
  case atStart => exact ⟨0, Nat.zero_le _, rfl, Below.refl _ _⟩
  case round =>
    obtain ⟨k, hk, rfl, hB⟩ := hrel
    rename World => wr
    have HB := Lib.hid hB
    by_cases hlt : k < l.length
    · have hlti : (k : Int) < (l.length : Int) := by omega
      have hk0 : (0 : Int) ≤ (k : Int) := by omega
      obtain ⟨b1, o1, rfl, l1, c1⟩ := H1.out.at_ hlt
      obtain ⟨b2, o2, rfl, l2, c2'⟩ := H2.out.at_ hlt
      have d1 := (hB.cell (p := ⟨b1, o1 + k, none⟩) l1).trans c1
      have d2 := (hB.cell (p := ⟨b2, o2 + k, none⟩) l2).trans c2'
      clear c1 c2' hB
      generalize inn l k = x at *
      go_wp2
      go_quiet (fail)
      go_wp2
      go_roundw
      case rel => exact ⟨k + 1, by omega, by go_num, bdn HB.out _⟩
      case measure => simp [intOf]; omega
    · obtain rfl : k = l.length := by omega
      have hlti : ¬ (l.length : Int) < (l.length : Int) := by omega
      clear hB
      go_wp2
      go_ret
      exact ⟨rfl, HB.out⟩
set_option maxRecDepth 100000 in
theorem rnew_any (w : World) : Calls Try.prog 33 #[] w fun e w' => ∃ r, e = .returned (.pointer (some ⟨r, 0, none⟩)) ∧ RefAt w.heap.size w' r none 0 [] 1 ∧ Below w.heap.size w w' := by
  have HY : Hid (RefAt w.heap.size (w.alloc (.cells #[.slice none 0 0, .int .i64 1] 75)) w.heap.size none 0 [] 1 ∧ Below w.heap.size w (w.alloc (.cells #[.slice none 0 0, .int .i64 1] 75))) :=
    ⟨⟨heap_alloc_new w _, World.ownsRow_nil _ _ _ _, Nat.le_refl _, fun q h => by cases h⟩, (Below.refl _ _).alloc (Nat.le_refl _) _⟩
  go_enter Try.func33, Try.ntmps33
  go_wp2
  go_ret
  exact ⟨w.heap.size, rfl, HY.out.1, HY.out.2⟩
end Go.Proofs.Ytdndchoghhllmaa
