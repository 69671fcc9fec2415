/- Plain words on how far blocks are apart; contracts of At and Way over blocks. -/
import Derived.Test.YtceppcmcokkkoaaFE
namespace Go.Proofs.Ytceppcmcokkkoaa
open Go.RowKit

/-- where a block lies -/
def plV (i n : Nat) : Value := pt ((i / n : Nat) : Int) ((i % n : Nat) : Int)
/-- how far two blocks are apart, on tracks of n -/
def far (i j n : Nat) : Nat := (((j / n : Nat) : Int) - ((i / n : Nat) : Int)).natAbs + (((j % n : Nat) : Int) - ((i % n : Nat) : Int)).natAbs
theorem far_self (i n : Nat) : far i i n = 0 := by simp [far]
theorem far_tri (i j k n : Nat) : far i k n ≤ far i j n + far j k n := by unfold far; omega
theorem far_zero {i j n : Nat} (h : far i j n = 0) : i = j := by
  unfold far at h
  have h1 : i / n = j / n := by omega
  have h2 : i % n = j % n := by omega
  rw [← Nat.div_add_mod i n, ← Nat.div_add_mod j n, h1, h2]
theorem far_le (i j n : Nat) (hi : i < 1024) (hj : j < 1024) (hn : 1 ≤ n) (hn64 : n ≤ 64) : far i j n ≤ 1100 := by
  have h1 : i / n ≤ i := Nat.div_le_self _ _
  have h2 : j / n ≤ j := Nat.div_le_self _ _
  have h3 : i % n < n := Nat.mod_lt _ (by omega)
  have h4 : j % n < n := Nat.mod_lt _ (by omega)
  unfold far
  generalize i / n = a at *
  generalize j / n = b at *
  generalize i % n = c at *
  generalize j % n = d at *
  have e1 : ((b : Int) - a).natAbs ≤ 1023 := by omega
  have e2 : ((d : Int) - c).natAbs ≤ 63 := by omega
  omega
theorem at_of (b p : Int) (i n : Nat) (e1 : b = (i : Int)) (e2 : p = (n : Int)) (hi : i < 1024) (hn : 1 ≤ n) (hn64 : n ≤ 64) (w : World) :
    Calls Try.prog 27 #[.int .i64 b, .int .i64 p] w fun e w' => e = .returned (.tuple #[plV i n, .int .i64 0]) ∧ Quiet w w' := by
  subst e1 e2
  exact at_yes i n hi hn hn64 w
theorem way_of (i j n : Nat) (hi : i < 1024) (hj : j < 1024) (hn : 1 ≤ n) (hn64 : n ≤ 64) (w : World) :
    Calls Try.prog 29 #[plV i n, plV j n] w fun e w' => e = .returned (.int .i64 (far i j n : Nat)) ∧ w = w' := by
  have h1 : i / n ≤ i := Nat.div_le_self _ _
  have h2 : j / n ≤ j := Nat.div_le_self _ _
  have h3 : i % n < n := Nat.mod_lt _ (by omega)
  have h4 : j % n < n := Nat.mod_lt _ (by omega)
  exact way_any (i / n) (i % n) (j / n) (j % n) (by omega) (by omega) (by omega) (by omega) w
theorem plV_form (i n : Nat) : ∃ x y, plV i n = .complex .f64 x y := ⟨_, _, rfl⟩
end Go.Proofs.Ytceppcmcokkkoaa
