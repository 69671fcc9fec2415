/- Rows of sets; what must come ahead of a set's members; a set's members. -/
import Derived.Test.YthffdkoncagimaaB
import Derived.Test.YthffdkoncagimaaGYF
set_option linter.unusedVariables false
set_option linter.unusedSimpArgs false
namespace Go.Proofs.Ythffdkoncagimaa
open Go.RowKit
/-- a slice's address under which, below block B, the words are L -/
def Words (w : World) (B : Nat) (A : Option Addr) (L : List Nat) : Prop :=
  0 < L.length → ∃ b off, A = some ⟨b, off, none⟩ ∧ b < B ∧ ∀ j, j < L.length → w.cell? ⟨b, off + j, none⟩ = some (.int .u64 ((nd L j : Nat) : Int))
section
variable {w w' : World} {B B' : Nat} {A : Option Addr} {L : List Nat}
theorem Words.keep (h : Words w B A L) (hk : ∀ p : Addr, p.block < B → w'.cell? p = w.cell? p) : Words w' B A L := fun hn => by
  obtain ⟨b, off, e, hb, hc⟩ := h hn
  exact ⟨b, off, e, hb, fun j hj => (hk _ hb).trans (hc j hj)⟩
theorem Words.more (h : Words w B A L) (hB : B ≤ B') : Words w B' A L := fun hn => by
  obtain ⟨b, off, e, hb, hc⟩ := h hn
  exact ⟨b, off, e, by omega, hc⟩
theorem Words.below (h : Words w B A L) (hb : Below B w w') : Words w' B A L := h.keep fun _ hp => hb.cell hp
theorem Words.at_ (h : Words w B A L) {k : Nat} (hk : k < L.length) : ∃ b off, A = some ⟨b, off, none⟩ ∧ b < B ∧ w.cell? ⟨b, off + k, none⟩ = some (.int .u64 ((nd L k : Nat) : Int)) := by
  obtain ⟨b, off, e, hb, hc⟩ := h (by omega)
  exact ⟨b, off, e, hb, hc k hk⟩
end
/-- words of small sets -/
structure Lok (L : List Nat) : Prop where
  n : L.length ≤ 14
  b : ∀ k, k < L.length → nd L k < 16384
theorem or_lt {a b : Nat} (ha : a < 16384) (hb : b < 16384) : a ||| b < 16384 := Nat.or_lt_two_pow (n := 14) ha hb
theorem Lok.ahead {L : List Nat} (h : Lok L) (s : Nat) : ∀ k, k ≤ L.length → aheadK L s k < 16384
  | 0, _ => by simp [aheadK]
  | k + 1, hk => by
    unfold aheadK
    split
    · exact or_lt (h.ahead s k (by omega)) (h.b k (by omega))
    · exact h.ahead s k (by omega)
set_option maxRecDepth 100000 in
set_option maxHeartbeats 1000000 in
theorem ahead_any (A : Option Addr) (c : Nat) (L : List Nat) (s : Nat) (w : World) (hL : Lok L) (hs : s < 16384) (hW : Words w w.heap.size A L) :
    Calls Try.prog 30 #[.slice A L.length c, .int .u64 (s : Int)] w fun e w' => e = .returned (.int .u64 ((ahead L s : Nat) : Int)) ∧ w = w' := by
  have HW := Lib.hid hW
  have HL := Lib.hid hL
  have hn := hL.n
  have HH : Hid (∀ n : Nat, n < 64 → Calls Try.prog 26 #[.int .u64 (s : Int), .int .i64 (n : Int)] w fun e w' => e = .returned (.bool (s.testBit n)) ∧ w = w') := fun n h => has_any s n w hs h
  clear hW hL
  go_enter Try.func30, Try.ntmps30
  go_wp2
  go_loopw [5, 10] (fun a i wr => ∃ k : Nat, k ≤ L.length ∧ a = .int .u64 ((aheadK L s k : Nat) : Int) ∧ i = .int .i64 k ∧ wr = w) (fun _ i _ => L.length - (intOf i).toNat)
  case atStart => exact ⟨0, Nat.zero_le _, rfl, rfl, rfl⟩
  case round =>
    obtain ⟨k, hk, rfl, rfl, rfl⟩ := hrel
    rename World => wr
    have hk0 : (0 : Int) ≤ (k : Int) := by omega
    by_cases hlt : k < L.length
    · have hki : (k : Int) < (L.length : Int) := by omega
      obtain ⟨b1, o1, rfl, l1, c1⟩ := HW.out.at_ hlt
      have HHk := Lib.hid (HH.out k (by omega))
      cases hb : s.testBit k with
      | false =>
        have HV : Hid (aheadK L s (k + 1) = aheadK L s k) := by show (if _ then _ else _) = _; rw [if_neg (by rw [hb]; simp)]
        rw [hb] at HHk
        clear hb
        generalize aheadK L s k = v at *
        generalize nd L k = x at *
        go_wp2_with (go_at_call 26; (with_reducible refine HHk.out.mono ?_); rintro e w4 ⟨rfl, rfl⟩)
        go_roundw
        case rel => exact ⟨k + 1, by omega, by rw [HV.out], by go_num, trivial⟩
        case measure => simp [intOf]; omega
      | true =>
        have HV : Hid (aheadK L s (k + 1) = aheadK L s k ||| nd L k) := by show (if _ then _ else _) = _; rw [if_pos hb]
        have HO := Lib.hid (u_or (aheadK L s k) (nd L k) (Nat.lt_trans (HL.out.ahead s k hk) (by decide)) (Nat.lt_trans (HL.out.b k hlt) (by decide)))
        rw [hb] at HHk
        clear hb
        generalize aheadK L s k = v at *
        generalize nd L k = x at *
        go_wp2_with (go_at_call 26; (with_reducible refine HHk.out.mono ?_); rintro e w4 ⟨rfl, rfl⟩)
        go_roundw
        case rel => exact ⟨k + 1, by omega, by rw [HV.out]; exact congrArg _ HO.out, by go_num, trivial⟩
        case measure => simp [intOf]; omega
    · obtain rfl : k = L.length := by omega
      have hki : ¬ (L.length : Int) < (L.length : Int) := by omega
      go_wp2
      go_ret
      exact ⟨rfl, rfl⟩
end Go.Proofs.Ythffdkoncagimaa
