/- A group's bytes as they grow: plain. -/
import Derived.Test.YtpcindemkkdbbaaEB
namespace Go.Proofs.Ytpcindemkkdbbaa
set_option linter.unusedVariables false
set_option linter.unusedSimpArgs false
open Go.RowKit

/-- six bytes, the bits of blocks, the bits of inodes, zeros, the sum -/
def rowE (x : Cy) (U I : List Int) (z : Int) : List Int := (headB x ++ (U ++ (I ++ List.replicate 15 0))) ++ [z]
theorem rowE_full (x : Cy) : rowE x (Bs.accB 8 x.us) (Bs.accB 2 x.is) (sumTo (frontB x) 31) = bytesL x := rfl
theorem len8 {U : List Int} (h : U.length = 8) : ∃ a b c d e f g i, U = [a, b, c, d, e, f, g, i] := by
  rcases U with _ | ⟨u0, _ | ⟨u1, _ | ⟨u2, _ | ⟨u3, _ | ⟨u4, _ | ⟨u5, _ | ⟨u6, _ | ⟨u7, _ | ⟨u8, U⟩⟩⟩⟩⟩⟩⟩⟩⟩ <;> simp only [List.length_cons, List.length_nil] at h <;> try omega
  exact ⟨_, _, _, _, _, _, _, _, rfl⟩
theorem len2 {I : List Int} (h : I.length = 2) : ∃ a b, I = [a, b] := by
  rcases I with _ | ⟨i0, _ | ⟨i1, _ | ⟨i2, I⟩⟩⟩ <;> simp only [List.length_cons, List.length_nil] at h <;> try omega
  exact ⟨_, _, rfl⟩
theorem length_rowE (x : Cy) {U I : List Int} (z : Int) (hU : U.length = 8) (hI : I.length = 2) : (rowE x U I z).length = 32 := by simp [rowE, headB, hU, hI]
theorem rowE_us (x : Cy) {U I : List Int} (z : Int) (hU : U.length = 8) (hI : I.length = 2) {q : Nat} (hq : q < 8) : nth (rowE x U I z) (6 + q) = nth U q ∧ ∀ v, (rowE x U I z).set (6 + q) v = rowE x (U.set q v) I z := by
  obtain ⟨a, b, c, d, e, f, g, i, rfl⟩ := len8 hU
  rcases (by omega : q = 0 ∨ q = 1 ∨ q = 2 ∨ q = 3 ∨ q = 4 ∨ q = 5 ∨ q = 6 ∨ q = 7) with rfl | rfl | rfl | rfl | rfl | rfl | rfl | rfl <;> exact ⟨rfl, fun _ => rfl⟩
theorem rowE_is (x : Cy) {U I : List Int} (z : Int) (hU : U.length = 8) (hI : I.length = 2) {q : Nat} (hq : q < 2) : nth (rowE x U I z) (14 + q) = nth I q ∧ ∀ v, (rowE x U I z).set (14 + q) v = rowE x U (I.set q v) z := by
  obtain ⟨a, b, c, d, e, f, g, i, rfl⟩ := len8 hU
  obtain ⟨k, l, rfl⟩ := len2 hI
  rcases (by omega : q = 0 ∨ q = 1) with rfl | rfl <;> exact ⟨rfl, fun _ => rfl⟩
theorem rowE_sum (x : Cy) {U I : List Int} (z : Int) (hU : U.length = 8) (hI : I.length = 2) : ∀ v, (rowE x U I z).set 31 v = rowE x U I v := by
  obtain ⟨a, b, c, d, e, f, g, i, rfl⟩ := len8 hU
  obtain ⟨k, l, rfl⟩ := len2 hI
  exact fun _ => rfl
theorem rowE_front (x : Cy) (U I : List Int) (z : Int) {k : Nat} (hU : U.length = 8) (hI : I.length = 2) (hk : k < 31) : nth (rowE x U I z) k = nth (headB x ++ (U ++ (I ++ List.replicate 15 0))) k := by
  unfold rowE nth
  rw [List.getD_eq_getElem?_getD, List.getD_eq_getElem?_getD, List.getElem?_append_left (by simp [headB, hU, hI]; omega)]
theorem rowE_zero (x : Cy) : rowE x (List.replicate 8 0) (List.replicate 2 0) 0 = headB x ++ List.replicate 26 0 := rfl
/-- one more number's bit -/
theorem rowE_bit (x : Cy) {l : List Int} {k : Nat} (hk : k < l.length) (hb : ∀ y ∈ l, Bs.hasB 8 y = true) (I : List Int) (z : Int) (hI : I.length = 2) :
    rowE x (Bs.accB 8 (l.take (k + 1))) I z = (rowE x (Bs.accB 8 (l.take k)) I z).set (6 + (nth l k).toNat / 8) (bits .or .u8 (nth (rowE x (Bs.accB 8 (l.take k)) I z) (6 + (nth l k).toNat / 8)) (Bs.mk8 (nth l k))) := by
  have hx := Bs.hasB_out (hb _ (nth_mem hk))
  have hq : (nth l k).toNat / 8 < 8 := by omega
  have h := rowE_us x z (Bs.length_accB 8 (l.take k)) hI hq
  rw [h.1, h.2, Bs.accB_take 8 l k hk]
  unfold Bs.setB
  rw [if_pos rfl]
  have e1 : ((((nth l k).toNat : Nat) : Int)) = nth l k := by omega
  rw [show Bs.nth l k = nth l k from rfl, e1]
  rfl
theorem rowE_ibit (x : Cy) {l : List Int} {k : Nat} (hk : k < l.length) (hb : ∀ y ∈ l, Bs.hasB 2 y = true) (U : List Int) (z : Int) (hU : U.length = 8) :
    rowE x U (Bs.accB 2 (l.take (k + 1))) z = (rowE x U (Bs.accB 2 (l.take k)) z).set (14 + (nth l k).toNat / 8) (bits .or .u8 (nth (rowE x U (Bs.accB 2 (l.take k)) z) (14 + (nth l k).toNat / 8)) (Bs.mk8 (nth l k))) := by
  have hx := Bs.hasB_out (hb _ (nth_mem hk))
  have hq : (nth l k).toNat / 8 < 2 := by omega
  have h := rowE_is x z hU (Bs.length_accB 2 (l.take k)) hq
  rw [h.1, h.2, Bs.accB_take 2 l k hk]
  unfold Bs.setB
  rw [if_pos rfl]
  have e1 : ((((nth l k).toNat : Nat) : Int)) = nth l k := by omega
  rw [show Bs.nth l k = nth l k from rfl, e1]
  rfl
theorem shl_mk8 {u : Int} (h : 0 ≤ u) : IntKind.u8.wrap ((2 : Int) ^ (u % 8).toNat) = Bs.mk8 u := by
  unfold Bs.mk8
  have h2 : (u % 8).toNat < 8 := by omega
  generalize (u % 8).toNat = j at h2
  have : ∀ k : Fin 8, IntKind.u8.wrap ((2 : Int) ^ k.val) = 2 ^ k.val := by decide
  exact this ⟨j, h2⟩
/-- bits that are read, one after the other -/
def bitsTo (l : List Int) (k : Nat) : List Int := ((List.range k).filter (Bs.bitN l)).map fun i => ((i : Nat) : Int)
theorem bitsTo_succ (l : List Int) (k : Nat) : bitsTo l (k + 1) = bitsTo l k ++ (if Bs.bitN l k = true then [((k : Nat) : Int)] else []) := by
  unfold bitsTo
  rw [List.range_succ, List.filter_append, List.map_append]
  congr 1
  by_cases h : Bs.bitN l k = true
  · simp [h]
  · simp [h]
theorem bitsTo_ones (l : List Int) : bitsTo l (8 * l.length) = Bs.natsI (Bs.ones l) := by
  unfold bitsTo Bs.natsI Bs.ones
  rw [Bs.onesTo_filter]
theorem length_bitsTo (l : List Int) (k : Nat) : (bitsTo l k).length ≤ k := by
  unfold bitsTo
  rw [List.length_map]
  have := List.length_filter_le (Bs.bitN l) (List.range k)
  rwa [List.length_range] at this
/-- a bit as it is read out of a byte -/
theorem bit_byte {b : Int} (h0 : 0 ≤ b) (h1 : b ≤ 255) (j : Nat) (hj : j < 8) : (bits .and .u8 (b / 2 ^ j) 1 == 1) = b.toNat.testBit j := by
  obtain ⟨n, rfl⟩ : ∃ n : Nat, b = n := ⟨b.toNat, by omega⟩
  have hn : n < 256 := by omega
  have key : ((List.range 256).all fun n => (List.range 8).all fun j => (bits .and .u8 ((n : Int) / 2 ^ j) 1 == 1) == n.testBit j) = true := by decide +kernel
  rw [List.all_eq_true] at key
  have := key n (List.mem_range.2 hn)
  rw [List.all_eq_true] at this
  have := this j (List.mem_range.2 hj)
  simpa using this
end Go.Proofs.Ytpcindemkkdbbaa
