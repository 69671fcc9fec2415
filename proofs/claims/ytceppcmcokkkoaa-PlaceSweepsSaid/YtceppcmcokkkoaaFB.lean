/- Contracts of the places' leaves: Trunc, Abs, plain, At. -/
import Derived.Test.YtceppcmcokkkoaaFA
import Derived.Test.YtceppcmcokkkoaaB
import Derived.Test.YtceppcmcokkkoaaE
import Derived.WalkMore
import Derived.Laws.Externs
import Derived.BigRegion
namespace Go.Proofs.Ytceppcmcokkkoaa
open Go.RowKit

/-- a place: a complex number of two whole parts -/
def pt (a b : Int) : Value := .complex .f64 (fl a) (fl b)

theorem toInt_of (nm : String) (way : Ieee.Toward) (x : Nat) (s : Bool) (m : Nat) (p : Int) (hd : FloatKind.f64.decode x = .number s m p) :
    Extern.MathFloor.toIntegral nm way #[.float .f64 x] = pure (.float .f64 (FloatKind.f64.encode ((Ieee.Datum.number s m p).integral way))) := by
  have key : ∃ F : Bool → Nat → Sem Value, ∀ d, d = FloatKind.f64.decode x → Extern.MathFloor.toIntegral nm way #[.float .f64 x] = (match d with | .nan s t => F s t | d => pure (.float .f64 (FloatKind.f64.encode (d.integral way)))) := by
    apply Exists.intro
    intro d e
    subst e
    rfl
  obtain ⟨F, hF⟩ := key
  rw [hF _ hd.symm]
theorem trunc_run (n : Nat) (h : n < 1024) (W : World) : (callFunc 71 #[.float .f64 (fl n)]).run Try.prog W = .ok (.value (.float .f64 (fl n))) W := by
  rw [run_callFunc_extern Try.func71 (by kernel_rfl) (by kernel_rfl) (by kernel_rfl) (e := Extern.MathFloor.toIntegral "math.archTrunc" .zero) (by kernel_rfl)]
  have ht := trunc_fl n h
  have hd : FloatKind.f64.decode (fl n) = .number false (n <<< (-(plc n)).toNat) (plc n) := fl_read n h
  rw [hd] at ht
  rw [toInt_of _ _ _ _ _ _ hd, ht]
  rfl
theorem bits_run (x : Nat) (W : World) : (callFunc 66 #[.float .f64 x]).run Try.prog W = .ok (.value (.int .u64 x)) W := by
  rw [run_callFunc_extern Try.func66 (by kernel_rfl) (by kernel_rfl) (by kernel_rfl) (e := Extern.MathFloatBits.float64bits) (by kernel_rfl)]
  rfl
theorem frombits_run (x : Int) (W : World) : (callFunc 65 #[.int .u64 x]).run Try.prog W = .ok (.value (.float .f64 x.toNat)) W := by
  rw [run_callFunc_extern Try.func65 (by kernel_rfl) (by kernel_rfl) (by kernel_rfl) (e := Extern.MathFloatBits.float64frombits) (by kernel_rfl)]
  rfl

theorem trunc_any (n : Nat) (h : n < 1024) (w : World) :
    Calls Try.prog 64 #[.float .f64 (fl n)] w fun e w' => e = .returned (.float .f64 (fl n)) ∧ w = w' := by
  have ht := trunc_run n h
  go_enter Try.func64, Try.ntmps64
  go_wp2
  go_ret
  exact ⟨rfl, rfl⟩

theorem abs_any (x n : Nat) (h : (bits .andNot .u64 (x : Int) 9223372036854775808).toNat = fl n) (w : World) :
    Calls Try.prog 57 #[.float .f64 x] w fun e w' => e = .returned (.float .f64 (fl n)) ∧ w = w' := by
  have h1 := bits_run x
  have h2 := fun W => frombits_run (bits .andNot .u64 (x : Int) 9223372036854775808) W
  rw [h] at h2
  clear h
  go_enter Try.func57, Try.ntmps57
  go_wp2
  go_ret
  exact ⟨rfl, rfl⟩
end Go.Proofs.Ytceppcmcokkkoaa
