/- Two slices of the same rows are the same. -/
import Derived.Test.YthffdkoncagimaaGYA
namespace Go.Proofs.Ythffdkoncagimaa
set_option linter.unusedVariables false
set_option linter.unusedSimpArgs false
set_option maxRecDepth 100000
open Go.RowKit

set_option maxRecDepth 100000 in
set_option maxHeartbeats 2000000 in
theorem same_rows (A1 A2 : Option Addr) (c1 c2 n1 n2 : Nat) (R : List (List Int)) (w : World) (e1 : n1 = R.length) (e2 : n2 = R.length) (h1 : Mat w w.heap.size A1 R) (h2 : Mat w w.heap.size A2 R) (hl : R.length ≤ 1000) (hr : ∀ k, k < R.length → (rowI R k).length ≤ 1000) :
    Calls Try.prog 18 #[.slice A1 n1 c1, .slice A2 n2 c2] w fun e w' => e = .returned (.bool true) ∧ Below w.heap.size w w' := by
  subst e1 e2
  have H1 := Lib.hid h1
  have H2 := Lib.hid h2
  have Hr := Lib.hid hr
  clear h1 h2 hr
  go_enter Try.func18, Try.ntmps18
  go_wp2
  go_loopw [5] (fun i wr => ∃ k : Nat, k ≤ R.length ∧ i = .int .i64 k ∧ Below w.heap.size w wr) (fun i _ => R.length - (intOf i).toNat)
  case atStart => exact ⟨0, Nat.zero_le _, rfl, Below.refl _ _⟩
  case round =>
    obtain ⟨k, hk, rfl, hB⟩ := hrel
    rename World => wr
    by_cases hlt : k < R.length
    · have hlti : (k : Int) < (R.length : Int) := by omega
      have hk0 : (0 : Int) ≤ (k : Int) := by omega
      obtain ⟨b1, o1, A1k, c1k, rfl, hb1, hc1w, hI1⟩ := H1.out.at_ hlt
      obtain ⟨b2, o2, A2k, c2k, rfl, hb2, hc2w, hI2⟩ := H2.out.at_ hlt
      have hrl := Hr.out k hlt
      obtain ⟨row, hrow⟩ : ∃ row, row = rowI R k := ⟨_, rfl⟩
      rw [← hrow] at hc1w hI1 hc2w hI2 hrl
      have Hc1 : Hid (∀ W', Below w.heap.size w W' → W'.cell? ⟨b1, o1 + k, none⟩ = some (.slice A1k row.length c1k)) := fun W' hb' => (Below.cell hb' (p := ⟨b1, o1 + k, none⟩) hb1).trans hc1w
      have Hc2 : Hid (∀ W', Below w.heap.size w W' → W'.cell? ⟨b2, o2 + k, none⟩ = some (.slice A2k row.length c2k)) := fun W' hb' => (Below.cell hb' (p := ⟨b2, o2 + k, none⟩) hb2).trans hc2w
      have HI1 := Lib.hid hI1
      have HI2 := Lib.hid hI2
      have hd1 := Hc1.out wr hB
      have hd2 := Hc2.out wr hB
      have HB := Lib.hid hB
      clear hc1w hc2w hI1 hI2 hrow hb1 hb2 hB
      go_wp2_with fail
      go_region
      go_wp2_with fail
      clear hd1 hd2
      go_loopw [6] (fun i w2 => ∃ j : Nat, j ≤ row.length ∧ i = .int .i64 j ∧ Below w.heap.size w w2) (fun i _ => row.length - (intOf i).toNat)
      case atStart => exact ⟨0, Nat.zero_le _, rfl, HB.out.drew⟩
      case round =>
        obtain ⟨j, hj, rfl, hB2⟩ := hrel
        rename World => w2
        have hd1 := Hc1.out w2 hB2
        have hd2 := Hc2.out w2 hB2
        by_cases hltj : j < row.length
        · have hltji : (j : Int) < (row.length : Int) := by omega
          have hj0 : (0 : Int) ≤ (j : Int) := by omega
          obtain ⟨x1, y1, rfl, hx1, he1⟩ := HI1.out.at_ hltj
          obtain ⟨x2, y2, rfl, hx2, he2⟩ := HI2.out.at_ hltj
          have hf1 := (Below.cell hB2 (p := ⟨x1, y1 + j, none⟩) hx1).trans he1
          have hf2 := (Below.cell hB2 (p := ⟨x2, y2 + j, none⟩) hx2).trans he2
          obtain ⟨z, hz⟩ : ∃ z, z = nth row j := ⟨_, rfl⟩
          rw [← hz] at hf1 hf2
          have HB2 := Lib.hid hB2
          clear he1 he2 hz hB2
          go_wp2_with fail
          go_region
          go_wp2_with fail
          go_roundw
          case rel => exact ⟨j + 1, by omega, by go_num, HB2.out.drew⟩
          case measure => simp [intOf]; omega
        · obtain rfl : j = row.length := by omega
          have HB2 := Lib.hid hB2
          clear hB2
          go_wp2_with fail
          go_roundw
          case rel => exact ⟨k + 1, by omega, by go_num, HB2.out⟩
          case measure => simp [intOf]; omega
    · obtain rfl : k = R.length := by omega
      go_wp2_with fail
      go_ret
      exact ⟨rfl, hB⟩
end Go.Proofs.Ythffdkoncagimaa
