/- How many bits a small number has: math/bits.OnesCount. -/
import Derived.Test.YthffdkoncagimaaI
set_option linter.unusedVariables false
set_option linter.unusedSimpArgs false
namespace Go.Proofs.Ythffdkoncagimaa
open Go.RowKit Go.Shelf
def pA (x : Nat) : Nat := (x / 2 &&& 6148914691236517205) + (x &&& 6148914691236517205)
def pB (x : Nat) : Nat := (x / 4 &&& 3689348814741910323) + (x &&& 3689348814741910323)
def pC (x : Nat) : Nat := (x / 16 + x) &&& 1085102592571150095
def pop (x : Nat) : Nat :=
  let c := pC (pB (pA x))
  let d := c + c / 256
  let e := d + d / 65536
  (e + e / 4294967296) &&& 127
def iA (x : Int) : Int := IntKind.u64.wrap (bits .and .u64 (x / 2) 6148914691236517205 + bits .and .u64 x 6148914691236517205)
def iB (x : Int) : Int := IntKind.u64.wrap (bits .and .u64 (x / 4) 3689348814741910323 + bits .and .u64 x 3689348814741910323)
def iC (x : Int) : Int := bits .and .u64 (IntKind.u64.wrap (x / 16 + x)) 1085102592571150095
def iD (x d : Int) : Int := IntKind.u64.wrap (x + x / d)
theorem pA_lt {x : Nat} (h : x < 2 ^ 20) : pA x < 2 ^ 21 := by
  have h1 := Nat.and_le_left (n := x / 2) (m := 6148914691236517205)
  have h2 := Nat.and_le_left (n := x) (m := 6148914691236517205)
  unfold pA; omega
theorem pB_lt {x : Nat} (h : x < 2 ^ 21) : pB x < 2 ^ 22 := by
  have h1 := Nat.and_le_left (n := x / 4) (m := 3689348814741910323)
  have h2 := Nat.and_le_left (n := x) (m := 3689348814741910323)
  unfold pB; omega
theorem pC_lt {x : Nat} (h : x < 2 ^ 22) : pC x < 2 ^ 23 := by
  have h1 := Nat.and_le_left (n := x / 16 + x) (m := 1085102592571150095)
  unfold pC; omega
theorem iA_is {x : Nat} (h : x < 2 ^ 20) : iA x = (pA x : Nat) := by
  have hl := pA_lt h
  unfold iA
  rw [show (x : Int) / 2 = ((x / 2 : Nat) : Int) by omega, show (6148914691236517205 : Int) = ((6148914691236517205 : Nat) : Int) from rfl, u_and _ _ (by omega) (by decide), u_and _ _ (by omega) (by decide)]
  have e : (((x / 2 &&& 6148914691236517205 : Nat) : Int) + ((x &&& 6148914691236517205 : Nat) : Int)) = ((pA x : Nat) : Int) := by unfold pA; omega
  rw [e]
  exact wraps_u64 _ (by omega) (by omega)
theorem iB_is {x : Nat} (h : x < 2 ^ 21) : iB x = (pB x : Nat) := by
  have hl := pB_lt h
  unfold iB
  rw [show (x : Int) / 4 = ((x / 4 : Nat) : Int) by omega, show (3689348814741910323 : Int) = ((3689348814741910323 : Nat) : Int) from rfl, u_and _ _ (by omega) (by decide), u_and _ _ (by omega) (by decide)]
  have e : (((x / 4 &&& 3689348814741910323 : Nat) : Int) + ((x &&& 3689348814741910323 : Nat) : Int)) = ((pB x : Nat) : Int) := by unfold pB; omega
  rw [e]
  exact wraps_u64 _ (by omega) (by omega)
theorem iC_is {x : Nat} (h : x < 2 ^ 22) : iC x = (pC x : Nat) := by
  unfold iC
  rw [show (x : Int) / 16 + (x : Int) = ((x / 16 + x : Nat) : Int) by omega, wraps_u64 _ (by omega) (by omega), show (1085102592571150095 : Int) = ((1085102592571150095 : Nat) : Int) from rfl, u_and _ _ (by omega) (by decide)]
  rfl
theorem iD_is {x d : Nat} (h : x < 2 ^ 30) : iD x d = ((x + x / d : Nat) : Int) := by
  unfold iD
  have hd := Nat.div_le_self x d
  have e : (x : Int) + (x : Int) / (d : Int) = ((x + x / d : Nat) : Int) := by rw [Int.natCast_add, Int.natCast_ediv]
  rw [e]
  have hb : x + x / d < 2 ^ 31 := by omega
  generalize x + x / d = y at *
  exact wraps_u64 _ (by omega) (by omega)
theorem pop_is {x : Nat} (h : x < 2 ^ 20) : bits .and .i64 (wrap64 (iD (iD (iD (iC (iB (iA x))) ((256 : Nat) : Int)) ((65536 : Nat) : Int)) ((4294967296 : Nat) : Int))) 127 = ((pop x : Nat) : Int) := by
  have ha := pA_lt h
  have hb := pB_lt ha
  have hc := pC_lt hb
  rw [iA_is h, iB_is ha, iC_is hb, iD_is (by omega)]
  unfold pop
  generalize pC (pB (pA x)) = c at *
  have h1 := Nat.div_le_self c 256
  rw [iD_is (by omega)]
  show _ = (((c + c / 256 + (c + c / 256) / 65536 + (c + c / 256 + (c + c / 256) / 65536) / 4294967296) &&& 127 : Nat) : Int)
  have h4 : c + c / 256 < 2 ^ 24 := by omega
  generalize c + c / 256 = d at *
  have h2 := Nat.div_le_self d 65536
  rw [iD_is (by omega)]
  have h5 : d + d / 65536 < 2 ^ 25 := by omega
  generalize d + d / 65536 = e at *
  have h3 := Nat.div_le_self e 4294967296
  rw [show wrap64 ((e + e / 4294967296 : Nat) : Int) = ((e + e / 4294967296 : Nat) : Int) from by unfold wrap64; omega, show (127 : Int) = ((127 : Nat) : Int) from rfl, i_and _ _ (by omega) (by decide)]
def cnt (x : Nat) : Nat → Nat
  | 0 => 0
  | k + 1 => cnt x k + x / 2 ^ k % 2
theorem pop_all : ((List.range 128).all fun a => (List.range 128).all fun b => pop (128 * a + b) == cnt (128 * a + b) 14) = true := by kernel_rfl
theorem pop_cnt {x : Nat} (h : x < 2 ^ 14) : pop x = cnt x 14 := by
  have := pop_all
  rw [List.all_eq_true] at this
  have := this (x / 128) (List.mem_range.2 (by omega))
  rw [List.all_eq_true] at this
  have := this (x % 128) (List.mem_range.2 (by omega))
  rw [Nat.div_add_mod] at this
  simpa using this
theorem cnt_memb (x : Nat) : ∀ k, cnt x k = (membTo x k).length
  | 0 => rfl
  | k + 1 => by
    unfold cnt
    rw [membTo_succ, List.length_append, ← cnt_memb x k, Nat.testBit_eq_decide_div_mod_eq]
    by_cases h : x / 2 ^ k % 2 = 1
    · simp [h]
    · have : x / 2 ^ k % 2 = 0 := by omega
      simp [this]
set_option maxRecDepth 100000 in
set_option maxHeartbeats 4000000 in
theorem ones64_any (x : Nat) (w : World) (hx : x < 2 ^ 14) :
    Calls Try.prog 41 #[.int .u64 ((x : Nat) : Int)] w fun e w' => e = .returned (.int .i64 (((memb x).length : Nat) : Int)) ∧ w = w' := by
  have Hp : Hid _ := Lib.hid (pop_is (x := x) (by omega))
  have Hm : Hid (((pop x : Nat) : Int) = (((memb x).length : Nat) : Int)) := by
    unfold Hid; rw [pop_cnt hx, cnt_memb]; rfl
  go_enter Try.func41, Try.ntmps41
  go_wp2
  go_ret
  exact ⟨ret_int (Hp.out.trans Hm.out), rfl⟩
end Go.Proofs.Ythffdkoncagimaa
