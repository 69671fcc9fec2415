/- The arm, plain: the choice as the document makes it, by places in the row. No program is imported. -/
import Derived.Test.YtpelocpjfmmceaaA2
set_option linter.unusedVariables false
set_option linter.unusedSimpArgs false
namespace Go.Proofs.Ytpelocpjfmmceaa

def leastK (l : List Rq) (f : Int) : Nat → Int
  | 0 => -1
  | k + 1 => if f ≤ (rn l k).b ∧ (leastK l f k < 0 ∨ (rn l k).b < (rn l (leastK l f k).toNat).b) then k else leastK l f k
def greatK (l : List Rq) (f : Int) : Nat → Int
  | 0 => -1
  | k + 1 => if (rn l k).b ≤ f ∧ (greatK l f k < 0 ∨ (rn l (greatK l f k).toNat).b < (rn l k).b) then k else greatK l f k
def nearK (l : List Rq) (s n : Nat) : Nat → Nat
  | 0 => 0
  | k + 1 => if k ≠ 0 ∧ nearB s n (rn l k).b (rn l (nearK l s n k)).b = true then k else nearK l s n k
theorem leastK_in (l : List Rq) (f : Int) (k : Nat) : leastK l f k = -1 ∨ ∃ m : Nat, m < k ∧ leastK l f k = (m : Int) := by
  induction k with
  | zero => exact .inl rfl
  | succ k ih =>
    unfold leastK
    by_cases h : f ≤ (rn l k).b ∧ (leastK l f k < 0 ∨ (rn l k).b < (rn l (leastK l f k).toNat).b)
    · rw [if_pos h]; exact .inr ⟨k, by omega, rfl⟩
    · rw [if_neg h]
      rcases ih with h1 | ⟨m, h1, h2⟩
      · exact .inl h1
      · exact .inr ⟨m, by omega, h2⟩
theorem greatK_in (l : List Rq) (f : Int) (k : Nat) : greatK l f k = -1 ∨ ∃ m : Nat, m < k ∧ greatK l f k = (m : Int) := by
  induction k with
  | zero => exact .inl rfl
  | succ k ih =>
    unfold greatK
    by_cases h : (rn l k).b ≤ f ∧ (greatK l f k < 0 ∨ (rn l (greatK l f k).toNat).b < (rn l k).b)
    · rw [if_pos h]; exact .inr ⟨k, by omega, rfl⟩
    · rw [if_neg h]
      rcases ih with h1 | ⟨m, h1, h2⟩
      · exact .inl h1
      · exact .inr ⟨m, by omega, h2⟩
theorem nearK_lt (l : List Rq) (s n : Nat) (k : Nat) : nearK l s n (k + 1) < k + 1 := by
  induction k with
  | zero => unfold nearK; simp [nearK]
  | succ k ih =>
    unfold nearK
    by_cases h : k + 1 ≠ 0 ∧ nearB s n (rn l (k + 1)).b (rn l (nearK l s n (k + 1))).b = true
    · rw [if_pos h]; omega
    · rw [if_neg h]; omega
def oldFrom (l : List Rq) : Nat → Int
  | 0 => -1
  | j + 1 => if old (rn l (l.length - (j + 1))) = true then ((l.length - (j + 1) : Nat) : Int) else oldFrom l j
namespace Ar
def rchoose (x : Ar) : Int × Bool :=
  if x.p = 2 then ((nearK x.l x.s x.n x.l.length : Int), x.u)
  else if x.p = 3 then (if x.u = true then (if 0 ≤ leastK x.l x.s x.l.length then (leastK x.l x.s x.l.length, true) else (greatK x.l x.s x.l.length, false))
    else (if 0 ≤ greatK x.l x.s x.l.length then (greatK x.l x.s x.l.length, false) else (leastK x.l x.s x.l.length, true)))
  else if x.p = 4 then ((if 0 ≤ leastK x.l x.s x.l.length then leastK x.l x.s x.l.length else leastK x.l 0 x.l.length), x.u)
  else (0, x.u)
end Ar
end Go.Proofs.Ytpelocpjfmmceaa
