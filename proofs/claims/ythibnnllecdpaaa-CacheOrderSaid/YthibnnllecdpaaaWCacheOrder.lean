/- Whatever size, beginning and number come in, CacheOrder returns true. No condition. Here: the walk of the law's text. -/
import Derived.Test.YthibnnllecdpaaaO
namespace Go.Proofs.Ythibnnllecdpaaa
open Go.RowKit
set_option maxRecDepth 100000 in
set_option maxHeartbeats 2000000 in
theorem CacheOrder.walk (n f m : Int) (W : World) (hn : (Lit.int .u8 n).wf = true) (hf : (Lit.int .u8 f).wf = true) (hm : (Lit.int .u8 m).wf = true) :
    Calls Try.prog 6 #[.int .u8 n, .int .u8 f, .int .u8 m] W fun e W' => e = .returned (.bool true) ∧ Below W.heap.size W W' := by
  obtain ⟨n0, n1⟩ := bounds_u8 hn
  obtain ⟨f0, f1⟩ := bounds_u8 hf
  obtain ⟨m0, m1⟩ := bounds_u8 hm
  obtain ⟨M, hM⟩ : ∃ M : Nat, n % 8 + 1 = (M : Int) := ⟨(n % 8 + 1).toNat, by omega⟩
  obtain ⟨K, hK⟩ : ∃ K : Nat, m % 60 = (K : Int) := ⟨(m % 60).toNat, by omega⟩
  obtain ⟨F, rfl⟩ : ∃ F : Nat, f = (F : Int) := ⟨f.toNat, by omega⟩
  have hM1 : 1 ≤ M := by omega
  have hM8 : M ≤ 8 := by omega
  have hF : F ≤ 255 := by omega
  have hK6 : K ≤ 59 := by omega
  have HN := Lib.hid (new_yes (M : Int) W (by omega) (by omega))
  have HK := Lib.hid hK
  have HM := Lib.hid hM
  have a0 : 0 ≤ n % 8 := by omega
  have a1 : n % 8 ≤ 7 := by omega
  have a2 : 0 ≤ m % 60 := by omega
  have a3 : m % 60 ≤ 59 := by omega
  clear hM hK hn hf hm
  go_enter Try.func6, Try.ntmps6
  go_wp2_with fail
  rw [HM.out]
  refine HN.out.mono ?_
  rintro e w1 ⟨rfl, hC, hB⟩
  have HC := Lib.hid hC
  have HB := Lib.hid hB
  clear hC hB a0 a1
  go_wp2
  go_loopw [9] (fun i wr => ∃ (k : Nat) (vc : Value) (l : List H), k ≤ K ∧ i = .int .i64 k ∧ CacheAt 69 66 W.heap.size wr W.heap.size vc M l ∧ Line l ∧ blocks l = lastOf F M k ∧ l.length ≤ M ∧ Below W.heap.size W wr) (fun i _ => K - (intOf i).toNat)
  case atStart => exact ⟨0, _, [], Nat.zero_le _, rfl, HC.out, ⟨(fun _ h => (by cases h)), [], [], rfl, (fun _ h => (by cases h)), (fun _ h => (by cases h))⟩, (by simp [blocks, lastOf]), Nat.zero_le _, HB.out⟩
  case round =>
    obtain ⟨k, vc, l, hk, rfl, hC, hL, hb, hl, hB⟩ := hrel
    rename World => wr
    have HCk := Lib.hid hC
    have HBk := Lib.hid hB
    have hk0 : (0 : Int) ≤ (k : Int) := by omega
    by_cases hlt : k < K
    · have hkm : (k : Int) < m % 60 := by rw [HK.out]; omega
      have hx : ¬ ((((F : Int) + (k : Int)) % 96) < 0 ∨ 96 ≤ ((F : Int) + (k : Int)) % 96) := by omega
      have hxc : (((F + k) % 96 : Nat) : Int) = ((F : Int) + (k : Int)) % 96 := by omega
      have hno : has l (((F : Int) + (k : Int)) % 96) = false := by
        rw [Bool.eq_false_iff]
        intro hh
        rw [has_mem] at hh
        have hh2 : (((F + k) % 96 : Nat) : Int) ∈ lastOf F M k := by rw [hxc, ← hb]; exact hh
        exact last_none hM8 hh2
      obtain ⟨s1, s2, s3⟩ := Line.step (m := M) hL hx hno (by omega) hl
      have hll : l.length = min k M := by have := congrArg List.length hb; simpa [blocks, lastOf] using this
      have HU := Lib.hid (use_any W.heap.size W.heap.size M vc l (((F : Int) + (k : Int)) % 96) wr HCk.out hl (by omega) HBk.out.size)
      have HS1 := Lib.hid s1
      have Hlen := Lib.hid (length_useL (m := M) (x := ((F : Int) + (k : Int)) % 96) hl)
      rw [s2] at HU
      by_cases hkM : k < M
      · rw [if_pos (by omega)] at s3
        obtain ⟨s4, s5⟩ := s3
        have HS5 : Hid (blocks (useL M l (((F : Int) + (k : Int)) % 96)) = lastOf F M (k + 1)) := by unfold Hid; rw [s5, hb, last_grow hkM, hxc]
        rw [s4] at HU
        have hkMi : (k : Int) < (M : Int) := by omega
        clear s1 s2 s4 s5 hx hxc hno hL hb hC hB hll
        go_wp2_with ((with_reducible refine HU.out.mono ?_); rintro e w5 ⟨rfl, hw5⟩; have HW5 := Lib.hid hw5; clear hw5)
        go_roundw
        case rel =>
          obtain ⟨v', r, b5, _⟩ := HW5.out.next HCk.out HBk.out.size
          exact ⟨k + 1, v', _, by omega, by go_num, r, HS1.out, HS5.out, Hlen.out, HBk.out.trans b5⟩
        case measure => simp [intOf]; omega
      · rw [if_neg (by omega)] at s3
        obtain ⟨s4, s5⟩ := s3
        obtain ⟨t1, t2, t3⟩ := last_turn (f := F) (m := M) (k := k) (by omega) (by omega)
        have HS5 : Hid (blocks (useL M l (((F : Int) + (k : Int)) % 96)) = lastOf F M (k + 1)) := by unfold Hid; rw [s5, hb, t1, hxc]
        have hg : useG M l (((F : Int) + (k : Int)) % 96) = ((F : Int) + (k : Int) - (M : Int)) % 96 := by rw [s4, hb, t2]; omega
        rw [hg] at HU
        have hkMi : ¬ (k : Int) < (M : Int) := by omega
        have hkMi2 : (M : Int) ≤ (k : Int) := by omega
        clear s1 s2 s4 s5 hx hxc hno hL hb hC hB hll t1 t2 t3 hg
        go_wp2_with ((with_reducible refine HU.out.mono ?_); rintro e w5 ⟨rfl, hw5⟩; have HW5 := Lib.hid hw5; clear hw5)
        go_roundw
        case rel =>
          obtain ⟨v', r, b5, _⟩ := HW5.out.next HCk.out HBk.out.size
          exact ⟨k + 1, v', _, by omega, by go_num, r, HS1.out, HS5.out, Hlen.out, HBk.out.trans b5⟩
        case measure => simp [intOf]; omega
    · have hkm : ¬ (k : Int) < m % 60 := by rw [HK.out]; omega
      have hli : (l.length : Int) ≤ (M : Int) := by omega
      clear hC hL hb hB
      go_wp2_with (first
        | (go_at_call 12; refine (live_any _).mono ?_; rintro e w2 ⟨rfl, hb2⟩; have HC2 := Lib.hid (HCk.out.fresh hb2); have HB2 := Lib.hid (HBk.out.trans (hb2.mono HBk.out.size)); clear hb2)
        | (go_at_call 19; refine (list_any _ _ vc _ l _ HC2.out (by omega)).mono ?_; rintro e w3 ⟨A3, c3, rfl, _, hb3⟩; have HB3 := Lib.hid (HB2.out.trans (hb3.mono HB2.out.size)); clear hb3))
      go_ret
      exact ⟨by simp, HB3.out⟩
end Go.Proofs.Ythibnnllecdpaaa
