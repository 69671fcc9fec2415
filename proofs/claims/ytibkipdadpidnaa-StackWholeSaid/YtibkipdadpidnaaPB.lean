/- Plain words on patches: a patch's value, whether it is right, a block behind it; contracts of 'mayBe', 'end', 'Right'. -/
import Derived.Test.YtibkipdadpidnaaProg
import Derived.Test.YtibkipdadpidnaaPA
import Derived.WalkKit
import Derived.WalkLawsBesides
import Derived.WalkSpells
import Derived.Deep.QuietTactic
import Derived.BigQuiet
import Derived.Lib.Hide
import Derived.Laws.BytesArg
import Derived.Deep.OwnRows
import Derived.Laws.CopyOwn
import Derived.Deep.RegionWith
import Derived.Deep.DeepFit
import Derived.IntWalk
import Derived.Deep.RegionHeld3
namespace Go.Proofs.Ytibkipdadpidnaa.Pat
set_option linter.unusedVariables false
set_option linter.unusedSimpArgs false
set_option maxRecDepth 100000
open Go.RowKit

theorem ret_int {k : IntKind} {a b : Int} (h : a = b) : Ending.returned (.int k a) = .returned (.int k b) := by rw [h]
theorem ret_bool {a b : Bool} (h : a = b) : Ending.returned (.bool a) = .returned (.bool b) := by rw [h]

/-- a patch -/
structure Pt where
  b : Int
  o : Int
  s : ByteArray
def Pt.v (p : Pt) : Value := .agg #[.int .i64 p.b, .int .i64 p.o, .string p.s]
/-- its numbers are ints, its text is no longer than a text can be -/
def Pt.ok (p : Pt) : Prop := (-9223372036854775808 ≤ p.b ∧ p.b ≤ 9223372036854775807) ∧ (-9223372036854775808 ≤ p.o ∧ p.o ≤ 9223372036854775807) ∧ p.s.size ≤ maxLen
def Pt.right (p : Pt) : Bool := decide (0 ≤ p.b) && decide (p.b < 96) && decide (0 ≤ p.o) && decide (p.o < 32) && decide (1 ≤ p.s.size) && decide ((p.s.size : Int) ≤ 32 - p.o)
theorem Pt.right_out {p : Pt} (h : p.right = true) : 0 ≤ p.b ∧ p.b < 96 ∧ 0 ≤ p.o ∧ p.o < 32 ∧ 1 ≤ p.s.size ∧ (p.s.size : Int) ≤ 32 - p.o := by
  simp only [Pt.right, Bool.and_eq_true, decide_eq_true_eq] at h
  exact ⟨h.1.1.1.1.1, h.1.1.1.1.2, h.1.1.1.2, h.1.1.2, h.1.2, h.2⟩
theorem Pt.right_in {p : Pt} (h : 0 ≤ p.b ∧ p.b < 96 ∧ 0 ≤ p.o ∧ p.o < 32 ∧ 1 ≤ p.s.size ∧ (p.s.size : Int) ≤ 32 - p.o) : p.right = true := by
  simp only [Pt.right, Bool.and_eq_true, decide_eq_true_eq]
  exact ⟨⟨⟨⟨⟨h.1, h.2.1⟩, h.2.2.1⟩, h.2.2.2.1⟩, h.2.2.2.2.1⟩, h.2.2.2.2.2⟩
theorem Pt.right_not {p : Pt} (h : ¬ (0 ≤ p.b ∧ p.b < 96 ∧ 0 ≤ p.o ∧ p.o < 32 ∧ 1 ≤ p.s.size ∧ (p.s.size : Int) ≤ 32 - p.o)) : p.right = false := by
  cases e : p.right with
  | false => rfl
  | true => exact absurd (Pt.right_out e) h

theorem mayBe_yes (b : Int) (w : World) (h0 : 0 ≤ b) (h1 : b < 96) :
    Calls Try.prog 70 #[.int .i64 b] w fun e w' => e = .returned (.bool true) ∧ w = w' := by
  go_enter Try.func70, Try.ntmps70
  go_wp2
  go_ret
  exact ⟨rfl, rfl⟩
theorem mayBe_no (b : Int) (w : World) (h : b < 0 ∨ 96 ≤ b) :
    Calls Try.prog 70 #[.int .i64 b] w fun e w' => e = .returned (.bool false) ∧ w = w' := by
  by_cases h0 : 0 ≤ b
  · have h1 : ¬ b < 96 := by omega
    go_enter Try.func70, Try.ntmps70
    go_wp2
    go_ret
    exact ⟨by simp, rfl⟩
  · go_enter Try.func70, Try.ntmps70
    go_wp2
    go_ret
    exact ⟨rfl, rfl⟩

theorem end_any (p : Pt) (w : World) (h0 : 0 ≤ p.o) (h1 : p.o < 32) (h2 : p.s.size ≤ 1000) :
    Calls Try.prog 73 #[p.v] w fun e w' => e = .returned (.int .i64 (p.o + p.s.size)) ∧ Below w.heap.size w w' := by
  obtain ⟨b, o, s⟩ := p
  unfold Pt.v
  simp only at *
  go_enter Try.func73, Try.ntmps73
  go_wp2
  go_ret
  exact ⟨rfl, (Below.refl _ _).alloc (Nat.le_refl _) _⟩

theorem right_yes (p : Pt) (w : World) (h : p.right = true) :
    Calls Try.prog 47 #[p.v] w fun e w' => e = .returned (.bool true) ∧ Below w.heap.size w w' := by
  obtain ⟨h1, h2, h3, h4, h5, h6⟩ := Pt.right_out h
  clear h
  obtain ⟨b, o, s⟩ := p
  unfold Pt.v
  simp only at *
  have h7 : s.size ≤ 1000 := by omega
  go_enter Try.func47, Try.ntmps47
  go_wp2_with (go_at_call 70; refine (mayBe_yes _ _ h1 h2).mono ?_; rintro e w' ⟨rfl, rfl⟩)
  go_ret
  exact ⟨by simp, (Below.refl _ _).alloc (Nat.le_refl _) _⟩
set_option maxHeartbeats 400000 in
theorem right_no (p : Pt) (w : World) (hp : p.ok) (h : p.right = false) :
    Calls Try.prog 47 #[p.v] w fun e w' => e = .returned (.bool false) ∧ Below w.heap.size w w' := by
  have h' : ¬ (0 ≤ p.b ∧ p.b < 96 ∧ 0 ≤ p.o ∧ p.o < 32 ∧ 1 ≤ p.s.size ∧ (p.s.size : Int) ≤ 32 - p.o) := fun e => by rw [Pt.right_in e] at h; cases h
  clear h
  obtain ⟨b, o, s⟩ := p
  obtain ⟨hb, ho, hs⟩ := hp
  unfold Pt.v
  unfold maxLen at hs
  simp only at *
  by_cases h0 : b < 0 ∨ 96 ≤ b
  · go_enter Try.func47, Try.ntmps47
    go_wp2_with (go_at_call 70; refine (mayBe_no _ _ h0).mono ?_; rintro e w' ⟨rfl, rfl⟩)
    go_ret
    exact ⟨rfl, (Below.refl _ _).alloc (Nat.le_refl _) _⟩
  · have h1 : 0 ≤ b := by omega
    have h2 : b < 96 := by omega
    by_cases h3 : 0 ≤ o
    · by_cases h4 : o < 32
      · by_cases h5 : (1 : Int) ≤ (s.size : Int)
        · have h6 : ¬ (s.size : Int) ≤ 32 - o := by omega
          clear h'
          go_enter Try.func47, Try.ntmps47
          go_wp2_with (go_at_call 70; refine (mayBe_yes _ _ h1 h2).mono ?_; rintro e w' ⟨rfl, rfl⟩)
          go_ret
          exact ⟨by simp; omega, (Below.refl _ _).alloc (Nat.le_refl _) _⟩
        · clear h'
          go_enter Try.func47, Try.ntmps47
          go_wp2_with (go_at_call 70; refine (mayBe_yes _ _ h1 h2).mono ?_; rintro e w' ⟨rfl, rfl⟩)
          go_ret
          exact ⟨rfl, (Below.refl _ _).alloc (Nat.le_refl _) _⟩
      · clear h'
        go_enter Try.func47, Try.ntmps47
        go_wp2_with (go_at_call 70; refine (mayBe_yes _ _ h1 h2).mono ?_; rintro e w' ⟨rfl, rfl⟩)
        go_ret
        exact ⟨rfl, (Below.refl _ _).alloc (Nat.le_refl _) _⟩
    · clear h'
      go_enter Try.func47, Try.ntmps47
      go_wp2_with (go_at_call 70; refine (mayBe_yes _ _ h1 h2).mono ?_; rintro e w' ⟨rfl, rfl⟩)
      go_ret
      exact ⟨rfl, (Below.refl _ _).alloc (Nat.le_refl _) _⟩
theorem right_any (p : Pt) (w : World) (hp : p.ok) :
    Calls Try.prog 47 #[p.v] w fun e w' => e = .returned (.bool p.right) ∧ Below w.heap.size w w' := by
  cases h : p.right
  · exact right_no p w hp h
  · exact right_yes p w h
end Go.Proofs.Ytibkipdadpidnaa.Pat
