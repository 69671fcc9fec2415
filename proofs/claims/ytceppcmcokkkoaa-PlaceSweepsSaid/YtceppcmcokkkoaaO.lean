/- Plain words: the bits that are set, as a list of numbers. No program is imported. -/
import Derived.Test.YtceppcmcokkkoaaA
import Derived.Lib.BitFns
import Derived.Laws.Entries
namespace Go.Proofs.Ytceppcmcokkkoaa
open Go.RowKit

def tz8 (x : Int) : Int := (Lib.trailingZeros8 x.toNat : Nat)
def pop8 (x : Int) : Int := (Lib.onesCount x.toNat : Nat)
/-- a byte without its lowest bit, as the code has it -/
def low (x : Int) : Int := bits .and .u8 x (x - 1)
def onesB (x : Int) : List Nat := (List.range 8).filter fun i => x.toNat.testBit i
def onesTo (l : List Int) (k : Nat) : List Nat := (List.range k).flatMap fun j => (onesB (nth l j)).map (8 * j + ·)
def ones (l : List Int) : List Nat := onesTo l l.length

theorem onesB_zero : onesB 0 = [] := by decide
theorem onesB_step (x : Int) (h0 : 0 ≤ x) (h1 : x ≤ 255) (hx : x ≠ 0) : onesB x = (tz8 x).toNat :: onesB (low x) ∧ 0 ≤ low x ∧ low x < x ∧ 0 ≤ tz8 x ∧ tz8 x ≤ 7 := by
  have : ∀ x : Fin 256, x.val ≠ 0 → onesB (x.val : Int) = (tz8 (x.val : Int)).toNat :: onesB (low (x.val : Int)) ∧ 0 ≤ low (x.val : Int) ∧ low (x.val : Int) < (x.val : Int) ∧ 0 ≤ tz8 (x.val : Int) ∧ tz8 (x.val : Int) ≤ 7 := by decide +kernel
  obtain ⟨n, rfl⟩ := Int.eq_ofNat_of_zero_le h0
  have hn : n ≠ 0 := fun e => hx (by rw [e]; rfl)
  exact this ⟨n, by omega⟩ hn
theorem onesTo_succ (l : List Int) (k : Nat) : onesTo l (k + 1) = onesTo l k ++ (onesB (nth l k)).map (8 * k + ·) := by
  simp [onesTo, List.range_succ]
theorem onesB_lt {x : Int} {i : Nat} (h : i ∈ onesB x) : i < 8 := by
  simp [onesB] at h; exact h.1
theorem onesTo_lt {l : List Int} {k i : Nat} (h : i ∈ onesTo l k) : i < 8 * k := by
  simp only [onesTo, List.mem_flatMap, List.mem_map, List.mem_range] at h
  obtain ⟨j, hj, i', hi', rfl⟩ := h
  have := onesB_lt hi'
  omega
theorem length_onesB (x : Int) : (onesB x).length ≤ 8 := by
  have := List.length_filter_le (fun i => x.toNat.testBit i) (List.range 8)
  simpa [onesB] using this
theorem length_onesTo (l : List Int) (k : Nat) : (onesTo l k).length ≤ 8 * k := by
  induction k with
  | zero => simp [onesTo]
  | succ k ih => rw [onesTo_succ, List.length_append, List.length_map]; have := length_onesB (nth l k); omega

theorem onesTo_pre (l : List Int) {k : Nat} (hk : k ≤ l.length) : onesTo l k <+: ones l := by
  obtain ⟨d, hd⟩ : ∃ d, l.length = k + d := ⟨l.length - k, by omega⟩
  unfold ones onesTo
  rw [hd, List.range_add, List.flatMap_append]
  exact List.prefix_append _ _
theorem range_add_map (n m : Nat) : List.range (n + m) = List.range n ++ (List.range m).map (n + ·) := by
  rw [List.range_add]
/-- all bits, each asked -/
theorem onesTo_filter (l : List Int) (k : Nat) : onesTo l k = (List.range (8 * k)).filter (bitN l) := by
  induction k with
  | zero => rfl
  | succ k ih =>
    rw [onesTo_succ, ih, show 8 * (k + 1) = 8 * k + 8 from by omega, range_add_map, List.filter_append, List.filter_map]
    congr 1
    unfold onesB
    congr 1
    apply List.filter_congr
    intro i hi
    have hi := List.mem_range.1 hi
    simp only [Function.comp, bitN]
    rw [show (8 * k + i) / 8 = k from by omega, show (8 * k + i) % 8 = i from by omega]
end Go.Proofs.Ytceppcmcokkkoaa
