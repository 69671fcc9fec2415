/- Contracts of the document's Has and Same, and of the two rows' Same. -/
import Derived.Test.YtkfjkhacchbkeaaGM
namespace Go.Proofs.Ytkfjkhacchbkeaa
set_option linter.unusedVariables false
set_option linter.unusedSimpArgs false
open Go.RowKit

/-- only draws lie between two worlds -/
def Quiet (w w' : World) : Prop := ∃ n, w' = w.drewN n
theorem Quiet.below {B : Nat} {a w w' : World} (q : Quiet w w') (h : Below B a w) : Below B a w' := by obtain ⟨n, rfl⟩ := q; exact ⟨h.os, h.tape, h.output, h.size, h.block⟩
theorem Quiet.belowR {B : Nat} {w w' : World} (q : Quiet w w') : Below B w w' := by
  obtain ⟨n, rfl⟩ := q; exact ⟨rfl, rfl, rfl, Nat.le_refl _, fun _ _ => rfl⟩
theorem Quiet.trans {a b c : World} (h : Quiet a b) (k : Quiet b c) : Quiet a c := by
  obtain ⟨n, rfl⟩ := h; obtain ⟨m, rfl⟩ := k; exact ⟨n + m, by simp [World.drewN, Nat.add_assoc]⟩
theorem Quiet.refl (w : World) : Quiet w w := ⟨0, rfl⟩

set_option maxRecDepth 100000 in
set_option maxHeartbeats 1000000 in
theorem has_any (A : Option Addr) (c k0 : Nat) (l : List Int) (x : Int) (w : World) (B : Nat) (hk0 : k0 = l.length) (hl : l.length ≤ 100000) (hI : Ints w B A l) :
    Calls Try.prog 51 #[.slice A k0 c, .int .i64 x] w fun e w' => e = .returned (.bool (decide (x ∈ l))) ∧ w = w' := by
  subst hk0
  have HI := Lib.hid hI
  clear hI
  go_enter Try.func51, Try.ntmps51
  go_wp2_with fail
  go_loop [5] (fun i => ∃ k : Nat, k ≤ l.length ∧ i = .int .i64 k ∧ x ∉ l.take k) (fun i => l.length - (intOf i).toNat)
  case atStart => exact ⟨0, Nat.zero_le _, rfl, by simp⟩
  case round =>
    obtain ⟨k, hk, rfl, hno⟩ := hrel
    have Hno := Lib.hid hno
    clear hno
    by_cases hlt : k < l.length
    · have hlti : (k : Int) < (l.length : Int) := by omega
      have hk0 : (0 : Int) ≤ (k : Int) := by omega
      obtain ⟨b, off, rfl, hb, hc⟩ := HI.out.at_ hlt
      have Htk := Lib.hid (take_nth l k hlt)
      have Hmem : Hid (nth l k ∈ l) := by unfold Hid; rw [nth_lt hlt]; exact List.getElem_mem _
      obtain ⟨y, hy⟩ : ∃ y, y = nth l k := ⟨_, rfl⟩
      rw [← hy] at hc Htk Hmem
      clear hy
      by_cases hxy : y = x
      · have hb1 : (y == x) = true := by simp [hxy]
        have Hf : Hid (decide (x ∈ l) = true) := by unfold Hid; rw [← hxy]; exact decide_eq_true Hmem.out
        clear hxy
        go_wp2_with fail
        go_ret
        exact ⟨ret_bool Hf.out.symm, rfl⟩
      · have hb1 : (y == x) = false := by simp [hxy]
        have Hxy := Lib.hid hxy
        clear hxy
        go_wp2_with fail
        go_round
        case rel =>
          refine ⟨k + 1, by omega, by go_num, ?_⟩
          rw [Htk.out, List.mem_append, List.mem_singleton]
          rintro (h | h)
          · exact Hno.out h
          · exact Hxy.out h.symm
        case measure => simp [intOf]; omega
    · have hlti : ¬ (k : Int) < (l.length : Int) := by omega
      obtain rfl : k = l.length := by omega
      have Hf : Hid (decide (x ∈ l) = false) := by
        have := Hno.out
        rw [List.take_length] at this
        exact decide_eq_false this
      go_wp2_with fail
      go_ret
      exact ⟨ret_bool Hf.out.symm, rfl⟩

set_option maxRecDepth 100000 in
set_option maxHeartbeats 1000000 in
/-- two slices of the same ints are the same -/
theorem same_any (A1 A2 : Option Addr) (c1 c2 n1 n2 : Nat) (l : List Int) (w : World) (B1 B2 : Nat) (e1 : n1 = l.length) (e2 : n2 = l.length) (h1 : Ints w B1 A1 l) (h2 : Ints w B2 A2 l) (hl : l.length ≤ 100000) :
    Calls Try.prog 22 #[.slice A1 n1 c1, .slice A2 n2 c2] w fun e w' => e = .returned (.bool true) ∧ Quiet w w' := by
  subst e1 e2
  go_enter Try.func22, Try.ntmps22
  go_wp2
  go_loopw [5] (fun i wr => ∃ k : Nat, k ≤ l.length ∧ i = .int .i64 k ∧ Quiet w wr) (fun i _ => l.length - (intOf i).toNat)
  case atStart => exact ⟨0, Nat.zero_le _, rfl, 0, rfl⟩
  case round =>
    obtain ⟨k, hk, rfl, hq⟩ := hrel
    rename World => wr
    by_cases hlt : k < l.length
    · have hlti : (k : Int) < (l.length : Int) := by omega
      have hk0 : (0 : Int) ≤ (k : Int) := by omega
      obtain ⟨b1, o1, rfl, _, e1⟩ := h1.at_ hlt
      obtain ⟨b2, o2, rfl, _, e2⟩ := h2.at_ hlt
      have e1' : wr.cell? ⟨b1, o1 + k, none⟩ = some (.int .i64 (nth l k)) := by obtain ⟨n, rfl⟩ := hq; exact e1
      have e2' : wr.cell? ⟨b2, o2 + k, none⟩ = some (.int .i64 (nth l k)) := by obtain ⟨n, rfl⟩ := hq; exact e2
      have Hq := Lib.hid hq
      clear hq
      go_wp2_with fail
      go_quiet (fail)
      go_wp2
      go_roundw
      case rel => exact ⟨k + 1, by omega, by go_num, Hq.out.trans ⟨_, rfl⟩⟩
      case measure => simp [intOf]; omega
    · have hlti : ¬ (k : Int) < (l.length : Int) := by omega
      go_wp2
      go_ret
      exact ⟨rfl, hq⟩
end Go.Proofs.Ytkfjkhacchbkeaa
