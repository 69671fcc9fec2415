/- What All lists, as sets. -/
import Derived.Test.YthffdkoncagimaaN
import Derived.Test.YthffdkoncagimaaGYA
set_option linter.unusedVariables false
set_option linter.unusedSimpArgs false
namespace Go.Proofs.Ythffdkoncagimaa
open Go.RowKit Go.Shelf
theorem mem_memb {s n : Nat} : n ∈ memb s ↔ n < 14 ∧ s.testBit n = true := by simp [memb, membTo]
theorem bit_small {s n i : Nat} (h : s < 2 ^ n) (hb : s.testBit i = true) : i < n := by
  rcases Nat.lt_or_ge i n with q | q
  · exact q
  · rw [Nat.testBit_lt_two_pow (Nat.lt_of_lt_of_le h (Nat.pow_le_pow_right (by decide) q))] at hb; cases hb
theorem needN_memb {s : Nat} (h : s < 2 ^ 14) : needN (memb s) = s := Nat.eq_of_testBit_eq fun i => by
  rw [needN_bit]
  cases q : s.testBit i with
  | false => exact decide_eq_false fun m => by rw [(mem_memb.1 m).2] at q; cases q
  | true => exact decide_eq_true (mem_memb.2 ⟨bit_small h q, q⟩)
theorem closed_memb {D : List (List Nat)} (hD : Sm D) {s : Nat} (hs : s < 2 ^ D.length) (hc : clo (needsL D) s = true) : closedB D (natsI (memb s)) = true := by
  refine closedB_yes ⟨fun x hx => ?_, fun n hn d hd => ?_⟩
  · obtain ⟨i, hi, rfl⟩ := List.mem_map.1 hx
    have := bit_small hs (mem_memb.1 hi).2
    unfold isN
    simp; omega
  · obtain ⟨h1, h2⟩ := markI_nats.1 hn
    have hdn := hD.r n d hd
    have h3 := clo_iff.1 hc n (by rw [length_needsL]; exact h1) (mem_memb.1 h2).2
    have h4 : (nd (needsL D) n).testBit d = true := by rw [nd_needs h1, needN_bit]; exact decide_eq_true hd
    have h5 := subS_iff.1 h3 d h4
    exact markI_nats.2 ⟨by omega, mem_memb.2 ⟨by have := hD.n; omega, h5⟩⟩
theorem cloTo_rising (L : List Nat) (m : Nat) : (cloTo L m).Pairwise (· < ·) := List.Pairwise.filter _ (List.pairwise_lt_range)
theorem cloTo_lt (L : List Nat) {m i j : Nat} (hij : i < j) (hj : j < (cloTo L m).length) : el (cloTo L m) i < el (cloTo L m) j := by
  rw [el_lt (by omega), el_lt hj]
  exact List.pairwise_iff_getElem.1 (cloTo_rising L m) i j (by omega) hj hij
theorem clo_all {D : List (List Nat)} (hD : Sm D) : clo (needsL D) (2 ^ D.length - 1) = true := clo_iff.2 fun n hn _ => subS_iff.2 fun i hi => by
  rw [length_needsL] at hn
  have := bit_small (hD.need_lt hn) hi
  rw [Nat.testBit_two_pow_sub_one]
  exact decide_eq_true this
theorem clo_last {D : List (List Nat)} (hD : Sm D) : ∃ m, countL (needsL D) = m + 1 ∧ el (cloTo (needsL D) (2 ^ (needsL D).length)) m = 2 ^ D.length - 1 := by
  have hp : 0 < 2 ^ D.length := Nat.two_pow_pos _
  obtain ⟨q, hq⟩ : ∃ q, 2 ^ D.length = q + 1 := ⟨2 ^ D.length - 1, by omega⟩
  have hc := clo_all hD
  unfold countL
  rw [length_needsL, hq] at *
  rw [cloTo_succ, if_pos (by simpa using hc)]
  refine ⟨(cloTo (needsL D) q).length, by simp, ?_⟩
  rw [el_lt (by simp)]
  simp
theorem rowI_allL (L : List Nat) {k : Nat} (h : k < countL L) : rowI (allL L) k = natsI (memb (el (cloTo L (2 ^ L.length)) k)) := by
  rw [rowI_lt (by rw [length_allL]; exact h), el_lt h]
  simp only [allL, rowsOf, List.getElem_map]
  rfl
/-- the number of the set ahead of the k-th -/
def lastV (S : List Nat) : Nat → Int
  | 0 => -1
  | k + 1 => ((el S k : Nat) : Int)
structure ListF (D : List (List Nat)) (R3 : List (List Int)) (S : List Nat) (k : Nat) : Prop where
  sm : el S k < 2 ^ 14
  row : rowI R3 k = natsI (memb (el S k))
  cl : closedB D (natsI (memb (el S k))) = true
  gt : lastV S k < ((el S k : Nat) : Int)
theorem list_facts {D : List (List Nat)} (hD : Sm D) {k : Nat} (hk : k < countL (needsL D)) : ListF D (allL (needsL D)) (cloTo (needsL D) (2 ^ (needsL D).length)) k := by
  have hm := mem_cloTo.1 (el_mem (q := cloTo (needsL D) (2 ^ (needsL D).length)) hk)
  have h14 : 2 ^ D.length ≤ 2 ^ 14 := Nat.pow_le_pow_right (by decide) hD.n
  have hlt : el (cloTo (needsL D) (2 ^ (needsL D).length)) k < 2 ^ D.length := by rw [← length_needsL]; exact hm.1
  refine ⟨by omega, rowI_allL _ hk, closed_memb hD hlt hm.2, ?_⟩
  cases k with
  | zero => show (-1 : Int) < _; omega
  | succ k => have : el (cloTo (needsL D) (2 ^ (needsL D).length)) k < el (cloTo (needsL D) (2 ^ (needsL D).length)) (k + 1) := cloTo_lt (needsL D) (Nat.lt_succ_self k) hk; show ((_ : Nat) : Int) < _; omega
end Go.Proofs.Ythffdkoncagimaa
