/- Contracts of few, Count, the document's own Set. -/
import Derived.Test.YtceppcmcokkkoaaC
import Derived.Test.YtceppcmcokkkoaaE
import Derived.Laws.AppendOwnNone
namespace Go.Proofs.Ytceppcmcokkkoaa
open Go.RowKit

theorem few_any (A : Option Addr) (n c : Nat) (w : World) (hn : n ≤ c) (hc : c ≤ maxLen) :
    Calls Try.prog 30 #[.slice A n c] w fun e w' => e = .returned (.slice A (min n 80) c) ∧ w = w' := by
  unfold maxLen at hc
  by_cases h : 80 < n
  · have e : min n 80 = 80 := by omega
    rw [e]
    have h1 : (80 : Int) < (n : Int) := by omega
    have h2 : 80 ≤ c := by omega
    clear e
    go_enter Try.func30, Try.ntmps30
    go_wp2
    go_ret
    exact ⟨rfl, rfl⟩
  · have e : min n 80 = n := by omega
    rw [e]
    have h1 : ¬ (80 : Int) < (n : Int) := by omega
    clear e
    go_enter Try.func30, Try.ntmps30
    go_wp2
    go_ret
    exact ⟨rfl, rfl⟩

theorem pop_ones (x : Int) (h0 : 0 ≤ x) (h1 : x ≤ 255) : pop8 x = ((onesB x).length : Int) := by
  have : ∀ x : Fin 256, pop8 (x.val : Int) = ((onesB (x.val : Int)).length : Int) := by decide +kernel
  obtain ⟨n, rfl⟩ := Int.eq_ofNat_of_zero_le h0
  exact this ⟨n, by omega⟩

set_option maxHeartbeats 400000 in
theorem count_any (A : Option Addr) (c : Nat) (l : List Int) (w : World) (B : Nat) (hb : Bts w B A l) (hl : l.length ≤ 1000) :
    Calls Try.prog 40 #[.slice A l.length c] w fun e w' => e = .returned (.int .i64 ((ones l).length : Int)) ∧ w = w' := by
  go_enter Try.func40, Try.ntmps40
  go_wp2
  go_loop [3, 7] (fun t i => ∃ k : Nat, k ≤ l.length ∧ i = .int .i64 k ∧ t = .int .i64 ((onesTo l k).length : Int)) (fun _ i => l.length - (intOf i).toNat)
  case atStart => exact ⟨0, Nat.zero_le _, rfl, rfl⟩
  case round =>
    obtain ⟨k, hk, rfl, rfl⟩ := hrel
    by_cases hlt : k < l.length
    · obtain ⟨b, off, rfl, _, hc⟩ := hb.at_ hlt
      have hx := hb.1.nth k
      have hlen := length_onesTo l k
      have hpop := pop_ones _ hx.1 hx.2
      have h8 := length_onesB (nth l k)
      have hs : ((onesTo l (k + 1)).length : Int) = ((onesTo l k).length : Int) + pop8 (nth l k) := by rw [onesTo_succ, hpop]; simp
      have h0 : 0 ≤ pop8 (nth l k) ∧ pop8 (nth l k) ≤ 8 := by omega
      have HS := Lib.hid hs
      clear hs hpop
      go_wp2_with (go_at_call 61; refine (pop_any _ _ hx.1 hx.2).mono ?_; rintro e w' ⟨rfl, rfl⟩)
      go_round
      case rel => exact ⟨k + 1, by omega, by go_num, by rw [HS.out]⟩
      case measure => simp [intOf]; omega
    · obtain rfl : k = l.length := by omega
      go_wp2
      go_ret
      exact ⟨rfl, rfl⟩

/-- what the document's own Set makes of the bytes -/
def refSetB (l : List Int) (i : Nat) (on : Bool) : List Int := if bitN l i = on then l else l.set (i / 8) (bits .xor .u8 (nth l (i / 8)) (mk8 i))
theorem set_same {l : List Int} {i : Nat} {v : Int} (h : i < l.length) (hv : v = nth l i) : l.set i v = l := by
  rw [hv, nth_lt h, List.set_getElem_self]
theorem refSetB_eq (l : List Int) (hl : AllB l) (i : Nat) (on : Bool) (h : i / 8 < l.length) : refSetB l i on = setB l i on := by
  have key : ∀ (x : Fin 256) (k : Fin 8), (if x.val.testBit k.val = true then bits .or .u8 (x.val : Int) (2 ^ k.val) = (x.val : Int) ∧ bits .xor .u8 (x.val : Int) (2 ^ k.val) = bits .andNot .u8 (x.val : Int) (2 ^ k.val)
      else bits .andNot .u8 (x.val : Int) (2 ^ k.val) = (x.val : Int) ∧ bits .xor .u8 (x.val : Int) (2 ^ k.val) = bits .or .u8 (x.val : Int) (2 ^ k.val)) := by decide +kernel
  have hx := hl.nth (i / 8)
  obtain ⟨x, hx'⟩ := Int.eq_ofNat_of_zero_le hx.1
  have k := key ⟨x, by omega⟩ ⟨i % 8, by omega⟩
  have hm : mk8 (i : Int) = 2 ^ (i % 8) := by unfold mk8; rw [show ((i : Int) % 8).toNat = i % 8 from by omega]
  have hb : bitN l i = x.testBit (i % 8) := by unfold bitN; rw [hx']; rfl
  unfold refSetB setB
  rw [hb, hm, hx']
  simp only at k
  cases on <;> cases ht : x.testBit (i % 8) <;> rw [ht] at k <;> simp at k
  · rw [if_pos rfl, if_neg (by simp)]
    exact (set_same h (by rw [hx']; exact k.1)).symm
  · rw [if_neg (by simp), if_neg (by simp), k.2]
  · rw [if_neg (by simp), if_pos rfl, k.2]
  · rw [if_pos rfl, if_pos rfl]
    exact (set_same h (by rw [hx']; exact k.1)).symm
end Go.Proofs.Ytceppcmcokkkoaa
