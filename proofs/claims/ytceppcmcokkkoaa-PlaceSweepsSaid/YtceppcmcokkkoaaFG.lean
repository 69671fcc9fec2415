/- Contracts of the document's own answers on places: whole, plain, apart, At, Way, way. -/
import Derived.Test.YtceppcmcokkkoaaFF
import Derived.Test.YtceppcmcokkkoaaF
namespace Go.Proofs.Ytceppcmcokkkoaa
open Go.RowKit

theorem run_store_float (P : Program) (w : World) (a : Addr) (m : Mode) (k : FloatKind) (x : Nat) : (store a (.float k x) m).run P w = stored P w a (.float k x) m := run_store P w a _ m rfl
theorem run_store_complex (P : Program) (w : World) (a : Addr) (m : Mode) (k : FloatKind) (x y : Nat) : (store a (.complex k x y) m).run P w = stored P w a (.complex k x y) m := run_store P w a _ m rfl

/-- a place of the document's own answers -/
def ptR (a b : Int) : Value := .agg #[.float .f64 (fl a), .float .f64 (fl b)]
theorem ptR_form (a b : Int) : ∃ x y, ptR a b = .agg #[.float .f64 x, .float .f64 y] := ⟨_, _, rfl⟩

set_option maxRecDepth 100000 in
theorem whole_any (n : Nat) (h : n < 1024) (w : World) :
    Calls Try.prog 73 #[.float .f64 (fl (n : Int))] w fun e w' => e = .returned (.tuple #[.int .i64 (n : Int), .bool true]) ∧ w = w' := by
  have i1 := fun W => run_convert_float_int (P := Try.prog) W 75 3 .f64 .i64 (fl n) n (by kernel_rfl) Try.underlying3 (int_fl n (by omega))
  have oa : (FloatKind.f64.format.order (fl (n : Int)) (fl (n : Int)) == some .eq) = true := by rw [order_same n h]; rfl
  have ob : FloatKind.f64.format.order (fl (n : Int)) 13920626448202203136 = some .gt := order_low n h
  have oc : FloatKind.f64.format.order (fl (n : Int)) 4697254411347427328 = some .lt := order_top n h
  have hi : (n : Int) < 1024 := by omega
  have OA : Hid ((FloatKind.f64.format.order (floatOfInt .f64 (n : Int)) (fl (n : Int)) == some .eq) = true) := Lib.hid oa
  clear oa
  go_enter Try.func73, Try.ntmps73
  go_wp2
  go_ret2
  refine ⟨?_, rfl⟩
  show Ending.returned (.tuple #[.int .i64 (n : Int), .bool (FloatKind.f64.format.order (floatOfInt .f64 (n : Int)) (fl (n : Int)) == some .eq)]) = _
  rw [OA.out]

theorem apart_any (a b : Nat) (ha : a < 1024) (hb : b < 1024) (w : World) :
    Calls Try.prog 70 #[.int .i64 (a : Int), .int .i64 (b : Int)] w fun e w' => e = .returned (.int .i64 (((b : Int) - a).natAbs : Nat)) ∧ w = w' := by
  have ha1 : (a : Int) < 1024 := by omega
  have hb1 : (b : Int) < 1024 := by omega
  by_cases h : (a : Int) < (b : Int)
  · have e : (b : Int) - (a : Int) = (((b : Int) - a).natAbs : Nat) := by omega
    have E := Lib.hid e
    clear e
    go_enter Try.func70, Try.ntmps70
    go_wp2
    go_ret
    exact ⟨ret_int E.out, rfl⟩
  · have e : (a : Int) - (b : Int) = (((b : Int) - a).natAbs : Nat) := by omega
    have E := Lib.hid e
    clear e
    go_enter Try.func70, Try.ntmps70
    go_wp2
    go_ret
    exact ⟨ret_int E.out, rfl⟩

set_option maxRecDepth 100000 in
set_option maxHeartbeats 1000000 in
theorem plainr_any (a b : Nat) (ha : a < 1024) (hb : b < 1024) (w : World) :
    Calls Try.prog 69 #[ptR a b] w fun e w' => e = .returned (.tuple #[.int .i64 (a : Int), .int .i64 (b : Int), .bool true]) ∧ Below w.heap.size w w' := by
  have Ha := Lib.hid (fun W => whole_any a ha W)
  have Hb := Lib.hid (fun W => whole_any b hb W)
  have hB0 : ∀ v t, Below w.heap.size w (w.alloc (.cells v t)) := fun v t => (Below.refl _ w).alloc (Nat.le_refl _) _
  unfold ptR
  generalize fl (a : Int) = x at *
  generalize fl (b : Int) = y at *
  go_enter Try.func69, Try.ntmps69
  go_wp2_with fail
  refine (Ha.out _).mono ?_
  rintro e w' ⟨rfl, rfl⟩
  go_wp2_with fail
  refine (Hb.out _).mono ?_
  rintro e w' ⟨rfl, rfl⟩
  go_wp2
  exact bodyPost_ret (v := .tuple #[.int .i64 (a : Int), .int .i64 (b : Int), .bool true]) (by simp [results, Try.results69, go_sem]) rfl ⟨rfl, hB0 _ _⟩

set_option maxRecDepth 100000 in
set_option maxHeartbeats 1000000 in
theorem refat_yes (b p : Nat) (hb : b < 1024) (hp0 : 1 ≤ p) (hp : p ≤ 64) (w : World) :
    Calls Try.prog 62 #[.int .i64 (b : Int), .int .i64 (p : Int)] w fun e w' => e = .returned (.tuple #[ptR ((b / p : Nat) : Int) ((b % p : Nat) : Int), .int .i64 0]) ∧ Below w.heap.size w w' := by
  have h1 : (b : Int) < 1024 := by omega
  have h2 : (1 : Int) ≤ (p : Int) := by omega
  have h3 : (p : Int) ≤ 64 := by omega
  have h4 : ((p : Int) == 0) = false := by simp; omega
  have h5 : ¬ (p : Int) = 0 := by omega
  have h6 : ¬ p = 0 := by omega
  have hst := fun (W : World) (a : Addr) (m : Mode) (x : Nat) => run_store_float Try.prog W a m .f64 x
  have e1 : wrap64 ((b : Int) / (p : Int)) = ((b / p : Nat) : Int) := by
    have h : (b : Int) / (p : Int) = ((b / p : Nat) : Int) := by simp
    have h2 : b / p ≤ b := Nat.div_le_self _ _
    rw [h]
    generalize b / p = q at h2
    exact IntWalk.wrap64_in _ ⟨by omega, by omega⟩
  have e2 : (b : Int) % (p : Int) = ((b % p : Nat) : Int) := by simp
  have E1 := Lib.hid e1
  have E2 := Lib.hid e2
  clear e1 e2
  have hB0 : ∀ v t, Below w.heap.size w (w.alloc (.cells v t)).drew := fun v t => ((Below.refl _ w).alloc (Nat.le_refl _) _).drew
  go_enter Try.func62, Try.ntmps62
  go_wp2
  go_region
  all_goals go_wp2
  refine bodyPost_ret (v := .tuple #[.agg #[.float .f64 (fl (wrap64 ((b : Int) / (p : Int)))), .float .f64 (fl ((b : Int) % (p : Int)))], .int .i64 0]) (by simp [results, Try.results62, go_sem, fl]) rfl ⟨?_, hB0 _ _⟩
  rw [E1.out, E2.out]
  rfl
end Go.Proofs.Ytceppcmcokkkoaa
