/- The document's own arm: the least, the greatest that is asked for, on one side. -/
import Derived.Test.YtpelocpjfmmceaaRW
import Derived.Test.YtpelocpjfmmceaaA3
set_option linter.unusedVariables false
set_option linter.unusedSimpArgs false
namespace Go.Proofs.Ytpelocpjfmmceaa
open Go.RowKit

theorem RowQ.cell_at {E : TypeId} {w : World} {B ab c : Nat} {l : List Rq} (h : RowQ E w B (some ⟨ab, 0, none⟩) c l) {k : Nat} (hk : k < l.length) : w.cell? ⟨ab, k * 2, none⟩ = some (.int .i64 (rn l k).b) := by
  obtain ⟨b, e, _, _, _, _, c0, _⟩ := h.at_ hk
  cases e; exact c0

set_option maxRecDepth 100000 in
set_option maxHeartbeats 2000000 in
theorem rleast_any (B g : Nat) (A : Option Addr) (c : Nat) (x : Ar) (f : Int) (w : World) (hC : RAt B w g A c x) (hl : x.l.length ≤ 1000) :
    Calls Try.prog 71 #[.pointer (some ⟨g, 0, none⟩), .int .i64 f] w fun e w' => e = .returned (.int .i64 (leastK x.l f x.l.length)) ∧ Below w.heap.size w w' := by
  obtain ⟨_, _, _, _, _, hs⟩ := rcells hC
  have hg := hC.glt
  have HR := Lib.hid hC.row
  have hcap := own_cap hC.row
  unfold maxLen at hcap
  obtain ⟨xp, xn, xs, xm, xu, l⟩ := x
  dsimp only at *
  clear hC
  go_enter Try.func71, Try.ntmps71
  go_wp2
  go_loopw [5, 6] (fun t i wr => ∃ k : Nat, k ≤ l.length ∧ i = .int .i64 k ∧ t = .int .i64 (leastK l f k) ∧ Below w.heap.size w wr) (fun _ i _ => l.length - (intOf i).toNat)
  case atStart => exact ⟨0, Nat.zero_le _, rfl, rfl, Below.refl _ _⟩
  case round =>
    obtain ⟨k, hk, rfl, rfl, hB⟩ := hrel
    rename World => wr
    have HB := Lib.hid hB
    have hsr : wr.cell? ⟨g, 5, none⟩ = some (.slice A l.length c) := (hB.cell (p := ⟨g, 5, none⟩) hg).trans hs
    by_cases hlt : k < l.length
    · have hlti : (k : Int) < (l.length : Int) := by omega
      have hk0 : (0 : Int) ≤ (k : Int) := by omega
      have hrow := (show RowQ 81 w B A c l from HR.out).fresh hB
      obtain ⟨ab, hA, h3, h4, hb, _, c0, c1, _⟩ := hrow.at_ hlt
      subst hA
      have HRo := Lib.hid hrow
      have hin := leastK_in l f k
      have hs1 : leastK l f (k + 1) = if (f ≤ (rn l k).b) ∧ (leastK l f k < 0 ∨ ((rn l k).b < (rn l (leastK l f k).toNat).b)) then (k : Int) else leastK l f k := rfl
      by_cases hsd : f ≤ (rn l k).b
      · rcases hin with hin | ⟨m, hmk, hin⟩
        · have Hs := Lib.hid (show leastK l f (k + 1) = (k : Int) by rw [hs1, if_pos ⟨hsd, .inl (by omega)⟩])
          rw [hin]
          clear hs1 hin hs hB hrow
          generalize (rn l k).b = rb at *
          go_wp2
          go_quiet (fail)
          go_wp2
          go_roundw
          case rel => exact ⟨k + 1, by omega, by go_num, by rw [Hs.out], bdn HB.out _⟩
          case measure => simp [intOf]; omega
        · have cm := HRo.out.cell_at (show m < l.length by omega)
          have hmt : (leastK l f k).toNat = m := by rw [hin]; simp
          rw [hmt] at hs1
          have hm0 : (0 : Int) ≤ (m : Int) := by omega
          have hml : (m : Int) < (l.length : Int) := by omega
          have hmn : decide ((m : Int) < 0) = false := decide_eq_false (by omega)
          by_cases hbt : (rn l k).b < (rn l m).b
          · have Hs := Lib.hid (show leastK l f (k + 1) = (k : Int) by rw [hs1, if_pos ⟨hsd, .inr hbt⟩])
            rw [hin]
            clear hs1 hin hs hB hrow hmt
            generalize (rn l k).b = rb at *
            generalize (rn l m).b = mb at *
            go_wp2
            go_quiet (fail)
            go_wp2
            go_roundw
            case rel => exact ⟨k + 1, by omega, by go_num, by rw [Hs.out], bdn HB.out _⟩
            case measure => simp [intOf]; omega
          · have Hs := Lib.hid (show leastK l f (k + 1) = (m : Int) by rw [hs1, if_neg (fun q => by rcases q.2 with q | q; omega; exact hbt q), hin])
            have hbi : (rn l m).b ≤ (rn l k).b := by omega
            have hbd : decide ((rn l k).b < (rn l m).b) = false := decide_eq_false hbt
            rw [hin]
            clear hs1 hin hs hB hrow hmt hbt
            generalize (rn l k).b = rb at *
            generalize (rn l m).b = mb at *
            go_wp2
            go_quiet (fail)
            go_wp2
            go_roundw
            case rel => exact ⟨k + 1, by omega, by go_num, by rw [Hs.out], bdn HB.out _⟩
            case measure => simp [intOf]; omega
      · have Hs := Lib.hid (show leastK l f (k + 1) = leastK l f k by rw [hs1, if_neg (fun q => hsd q.1)])
        have hsi : (rn l k).b < f := by omega
        have hsdd : decide (f ≤ (rn l k).b) = false := decide_eq_false hsd
        clear hs1 hin hs hB hrow hsd
        obtain ⟨z, hz⟩ : ∃ z, z = leastK l f k := ⟨_, rfl⟩
        rw [← hz] at Hs ⊢
        clear hz
        generalize (rn l k).b = rb at *
        go_wp2
        go_quiet (fail)
        go_wp2
        go_roundw
        case rel => exact ⟨k + 1, by omega, by go_num, by rw [Hs.out], bdn HB.out _⟩
        case measure => simp [intOf]; omega
    · obtain rfl : k = l.length := by omega
      have hlti : ¬ (l.length : Int) < (l.length : Int) := by omega
      clear hB hs
      go_wp2
      go_ret
      exact ⟨rfl, HB.out⟩

set_option maxRecDepth 100000 in
set_option maxHeartbeats 2000000 in
theorem rgreatest_any (B g : Nat) (A : Option Addr) (c : Nat) (x : Ar) (f : Int) (w : World) (hC : RAt B w g A c x) (hl : x.l.length ≤ 1000) :
    Calls Try.prog 72 #[.pointer (some ⟨g, 0, none⟩), .int .i64 f] w fun e w' => e = .returned (.int .i64 (greatK x.l f x.l.length)) ∧ Below w.heap.size w w' := by
  obtain ⟨_, _, _, _, _, hs⟩ := rcells hC
  have hg := hC.glt
  have HR := Lib.hid hC.row
  have hcap := own_cap hC.row
  unfold maxLen at hcap
  obtain ⟨xp, xn, xs, xm, xu, l⟩ := x
  dsimp only at *
  clear hC
  go_enter Try.func72, Try.ntmps72
  go_wp2
  go_loopw [5, 6] (fun t i wr => ∃ k : Nat, k ≤ l.length ∧ i = .int .i64 k ∧ t = .int .i64 (greatK l f k) ∧ Below w.heap.size w wr) (fun _ i _ => l.length - (intOf i).toNat)
  case atStart => exact ⟨0, Nat.zero_le _, rfl, rfl, Below.refl _ _⟩
  case round =>
    obtain ⟨k, hk, rfl, rfl, hB⟩ := hrel
    rename World => wr
    have HB := Lib.hid hB
    have hsr : wr.cell? ⟨g, 5, none⟩ = some (.slice A l.length c) := (hB.cell (p := ⟨g, 5, none⟩) hg).trans hs
    by_cases hlt : k < l.length
    · have hlti : (k : Int) < (l.length : Int) := by omega
      have hk0 : (0 : Int) ≤ (k : Int) := by omega
      have hrow := (show RowQ 81 w B A c l from HR.out).fresh hB
      obtain ⟨ab, hA, h3, h4, hb, _, c0, c1, _⟩ := hrow.at_ hlt
      subst hA
      have HRo := Lib.hid hrow
      have hin := greatK_in l f k
      have hs1 : greatK l f (k + 1) = if ((rn l k).b ≤ f) ∧ (greatK l f k < 0 ∨ ((rn l (greatK l f k).toNat).b < (rn l k).b)) then (k : Int) else greatK l f k := rfl
      by_cases hsd : (rn l k).b ≤ f
      · rcases hin with hin | ⟨m, hmk, hin⟩
        · have Hs := Lib.hid (show greatK l f (k + 1) = (k : Int) by rw [hs1, if_pos ⟨hsd, .inl (by omega)⟩])
          rw [hin]
          clear hs1 hin hs hB hrow
          generalize (rn l k).b = rb at *
          go_wp2
          go_quiet (fail)
          go_wp2
          go_roundw
          case rel => exact ⟨k + 1, by omega, by go_num, by rw [Hs.out], bdn HB.out _⟩
          case measure => simp [intOf]; omega
        · have cm := HRo.out.cell_at (show m < l.length by omega)
          have hmt : (greatK l f k).toNat = m := by rw [hin]; simp
          rw [hmt] at hs1
          have hm0 : (0 : Int) ≤ (m : Int) := by omega
          have hml : (m : Int) < (l.length : Int) := by omega
          have hmn : decide ((m : Int) < 0) = false := decide_eq_false (by omega)
          by_cases hbt : (rn l m).b < (rn l k).b
          · have Hs := Lib.hid (show greatK l f (k + 1) = (k : Int) by rw [hs1, if_pos ⟨hsd, .inr hbt⟩])
            rw [hin]
            clear hs1 hin hs hB hrow hmt
            generalize (rn l k).b = rb at *
            generalize (rn l m).b = mb at *
            go_wp2
            go_quiet (fail)
            go_wp2
            go_roundw
            case rel => exact ⟨k + 1, by omega, by go_num, by rw [Hs.out], bdn HB.out _⟩
            case measure => simp [intOf]; omega
          · have Hs := Lib.hid (show greatK l f (k + 1) = (m : Int) by rw [hs1, if_neg (fun q => by rcases q.2 with q | q; omega; exact hbt q), hin])
            have hbi : (rn l k).b ≤ (rn l m).b := by omega
            have hbd : decide ((rn l m).b < (rn l k).b) = false := decide_eq_false hbt
            rw [hin]
            clear hs1 hin hs hB hrow hmt hbt
            generalize (rn l k).b = rb at *
            generalize (rn l m).b = mb at *
            go_wp2
            go_quiet (fail)
            go_wp2
            go_roundw
            case rel => exact ⟨k + 1, by omega, by go_num, by rw [Hs.out], bdn HB.out _⟩
            case measure => simp [intOf]; omega
      · have Hs := Lib.hid (show greatK l f (k + 1) = greatK l f k by rw [hs1, if_neg (fun q => hsd q.1)])
        have hsi : f < (rn l k).b := by omega
        have hsdd : decide ((rn l k).b ≤ f) = false := decide_eq_false hsd
        clear hs1 hin hs hB hrow hsd
        obtain ⟨z, hz⟩ : ∃ z, z = greatK l f k := ⟨_, rfl⟩
        rw [← hz] at Hs ⊢
        clear hz
        generalize (rn l k).b = rb at *
        go_wp2
        go_quiet (fail)
        go_wp2
        go_roundw
        case rel => exact ⟨k + 1, by omega, by go_num, by rw [Hs.out], bdn HB.out _⟩
        case measure => simp [intOf]; omega
    · obtain rfl : k = l.length := by omega
      have hlti : ¬ (l.length : Int) < (l.length : Int) := by omega
      clear hB hs
      go_wp2
      go_ret
      exact ⟨rfl, HB.out⟩
end Go.Proofs.Ytpelocpjfmmceaa
