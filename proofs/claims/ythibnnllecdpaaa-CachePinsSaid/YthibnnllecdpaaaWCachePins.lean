/- Whatever deeds, block and number come in, CachePins returns true, and they read afterwards as before. No condition. Here: the walk of the law's text. -/
import Derived.Test.YthibnnllecdpaaaO
namespace Go.Proofs.Ythibnnllecdpaaa
open Go.RowKit
set_option maxRecDepth 100000 in
set_option maxHeartbeats 4000000 in
theorem CachePins.walk (a1 : Option Addr) (len1 cap1 : Nat) (ds : List D) (x : Int) (n : Int) (W : World) (hd : IsDeeds W a1 len1 cap1 ds) (_hx : (Lit.int .i64 x).wf = true) (hn : (Lit.int .u8 n).wf = true) :
    Calls Try.prog 7 #[.slice a1 len1 cap1, .int .i64 x, .int .u8 n] W fun e W' => e = .returned (.bool true) ∧ Below W.heap.size W W' := by
  obtain ⟨n0, n1⟩ := bounds_u8 hn
  obtain ⟨M, hM⟩ : ∃ M : Nat, n % 8 + 1 = (M : Int) := ⟨(n % 8 + 1).toNat, by omega⟩
  obtain ⟨d1, d2, d3, d4⟩ := hd
  have HP := Lib.hid (play_any n M a1 len1 cap1 ds W n0 n1 hM d1 d2 d3 d4)
  have hM1 : 1 ≤ M := by omega
  have hM8 : M ≤ 8 := by omega
  have HMe := Lib.hid hM
  clear hM d1 d2 d3 d4 hn
  obtain ⟨K, hK⟩ : ∃ K : Nat, n % 9 = (K : Int) := ⟨(n % 9).toNat, by omega⟩
  have hK8 : K ≤ 8 := by omega
  have HK := Lib.hid hK
  have a0 : 0 ≤ n % 9 := by omega
  have a8 : n % 9 ≤ 8 := by omega
  clear hK
  go_enter Try.func7, Try.ntmps7
  go_wp2_with fail
  refine HP.out.mono ?_
  rintro e w1 ⟨gc, vc, gr, vr, l, rfl, hT, hf, hnd, hB⟩
  have HT := Lib.hid hT
  have HB := Lib.hid hB
  have Hf := Lib.hid hf
  have hl1 : l.length ≤ 1000 := by have := hT.len; have := hT.hM; omega
  clear hT hf hnd hB
  cases hh : has l x with
  | false =>
    have hpe : pinE l x true = 5 := by simp [pinE, hh]
    have hpl : pinL l x true = l := by simp [pinL, hh]
    have hpn : pinsN l x = 0 := by simp [pinsN, hh]
    have HPi := Lib.hid (fun w hc => pin_any W.heap.size gc vc M l x w true hc hl1 (Hf.out.more (by omega)))
    rw [hpe, hpl] at HPi
    have Hpn := Lib.hid hpn
    have Hhh := Lib.hid hh
    clear hpe hpl hpn hh
    go_wp2_with (first
      | (go_at_call 12; refine (live_any _).mono ?_; rintro e w2 ⟨rfl, hb2⟩; have HT2 := Lib.hid (HT.out.fresh hb2); have HB2 := Lib.hid (HB.out.trans (hb2.mono HB.out.size)); clear hb2)
      | (go_at_call 15; refine (has_any _ gc vc _ l x _ HT2.out.c hl1).mono ?_; rintro e w3 ⟨rfl, hb3⟩; rw [Hhh.out]; have HT3 := Lib.hid (HT2.out.fresh hb3); have HB3 := Lib.hid (HB2.out.trans (hb3.mono HB2.out.size)); clear hb3)
      | (go_at_call 16; refine (HPi.out _ HT3.out.c).mono ?_; rintro e w4 ⟨rfl, hw4⟩; have hr4 := HT3.out.stays hw4; obtain ⟨v4, hc4, hb4, hz4⟩ := hw4.next HT3.out.c HB3.out.size; have HT4 : Hid (Two W.heap.size w4 gc v4 gr vr M l) := ⟨hc4, hr4, HT.out.len, HT.out.hM, hz4⟩; have HB4 := Lib.hid (HB3.out.trans hb4); clear hw4 hr4 hc4 hb4 hz4)
      | (go_at_call 22; refine (pins_any _ gc v4 _ l x _ HT4.out.c hl1).mono ?_; rintro e w5 ⟨rfl, hb5⟩; rw [Hpn.out]; have HT5 := Lib.hid (HT4.out.fresh hb5); have HB5 := Lib.hid (HB4.out.trans (hb5.mono HB4.out.size)); clear hb5)
      | (go_at_call 13; refine (same_any _ gc gr M v4 vr l _ HT5.out).mono ?_; rintro e w6 ⟨rfl, hb6⟩; have HB6 := Lib.hid (HB5.out.trans (hb6.mono HB5.out.size)); clear hb6))
    go_ret
    exact ⟨rfl, HB6.out⟩
  | true =>
    have Hhh := Lib.hid hh
    obtain ⟨p0, p1⟩ := pinsN_few Hf.out (by omega) x
    obtain ⟨Q, hQ⟩ : ∃ Q : Nat, pinsN l x = (Q : Int) := ⟨(pinsN l x).toNat, by omega⟩
    have HQ := Lib.hid hQ
    have hQ8 : Q ≤ 80 := by omega
    clear hh p0 p1 hQ
    go_wp2_with (first
      | (go_at_call 12; refine (live_any _).mono ?_; rintro e w2 ⟨rfl, hb2⟩; have HT2 := Lib.hid (HT.out.fresh hb2); have HB2 := Lib.hid (HB.out.trans (hb2.mono HB.out.size)); clear hb2)
      | (go_at_call 15; refine (has_any _ gc vc _ l x _ HT2.out.c hl1).mono ?_; rintro e w3 ⟨rfl, hb3⟩; rw [Hhh.out]; have HT3 := Lib.hid (HT2.out.fresh hb3); have HB3 := Lib.hid (HB2.out.trans (hb3.mono HB2.out.size)); clear hb3)
      | (go_at_call 22; refine (pins_any _ gc vc _ l x _ HT3.out.c hl1).mono ?_; rintro e w5 ⟨rfl, hb5⟩; rw [HQ.out]; have HT5 := Lib.hid (HT3.out.fresh hb5); have HB5 := Lib.hid (HB3.out.trans (hb5.mono HB3.out.size)); clear hb5))
    go_loopw [11] (fun i wr => ∃ (k : Nat) (vk : Value) (lk : List H), k ≤ K ∧ i = .int .i64 k ∧ CacheAt 69 66 W.heap.size wr gc vk M lk ∧ has lk x = true ∧ pinsN lk x = ((Q + k : Nat) : Int) ∧ lk.length ≤ 1000 ∧ Few (80 + k) lk ∧ Below W.heap.size W wr) (fun i _ => K - (intOf i).toNat)
    case atStart => exact ⟨0, vc, l, Nat.zero_le _, rfl, HT5.out.c, Hhh.out, by rw [HQ.out]; rfl, hl1, Hf.out.more (by omega), HB5.out⟩
    case round =>
      obtain ⟨k, vk, lk, hk, rfl, hC, hhk, hpk, hlk, hfk, hBk⟩ := hrel
      rename World => wr
      have HCk := Lib.hid hC
      have HBk := Lib.hid hBk
      have Hhk := Lib.hid hhk
      have Hpk := Lib.hid hpk
      have Hfk := Lib.hid hfk
      have hk0 : (0 : Int) ≤ (k : Int) := by omega
      clear hC hhk hpk hfk hBk
      by_cases hlt : k < K
      · have hki : (k : Int) < n % 9 := by rw [HK.out]; omega
        obtain ⟨s1, s2, s3⟩ := pin_up Hhk.out
        have HPi := Lib.hid (pin_any W.heap.size gc vk M lk x wr true HCk.out hlk (Hfk.out.more (by omega)))
        rw [s1] at HPi
        have Hs2 := Lib.hid s2
        have Hs3 : Hid (pinsN (pinL lk x true) x = ((Q + (k + 1) : Nat) : Int)) := by unfold Hid; rw [s3, Hpk.out]; omega
        have Hs4 : Hid ((pinL lk x true).length ≤ 1000) := by unfold Hid; rw [length_pinL]; exact hlk
        have Hs5 := Lib.hid (Hfk.out.pinned (by omega) x true)
        generalize pinL lk x true = l7 at *
        clear s1 s2 s3
        go_wp2_with (go_at_call 16; (with_reducible refine HPi.out.mono ?_); rintro e w7 ⟨rfl, hw7⟩; obtain ⟨v7, hc7, hb7, hz7⟩ := hw7.next HCk.out HBk.out.size; have HC7 := Lib.hid hc7; have HB7 := Lib.hid (HBk.out.trans hb7); clear hw7 hc7 hb7 hz7)
        go_roundw
        case rel => exact ⟨k + 1, v7, l7, by omega, by go_num, HC7.out, Hs2.out, Hs3.out, Hs4.out, Hs5.out.more (by omega), HB7.out⟩
        case measure => simp [intOf]; omega
      · have hkK : k = K := by omega
        have HkK := Lib.hid hkK
        have hki : ¬ (k : Int) < n % 9 := by rw [HK.out]; omega
        clear hkK
        go_wp2_with fail
        obtain ⟨wo, rfl⟩ : ∃ wo : World, wo = wr := ⟨_, rfl⟩
        go_loopw [12] (fun i wr => ∃ (j : Nat) (vj : Value) (lj : List H), j ≤ Q + K ∧ i = .int .i64 j ∧ CacheAt 69 66 W.heap.size wr gc vj M lj ∧ has lj x = true ∧ pinsN lj x = ((Q + K - j : Nat) : Int) ∧ lj.length ≤ 1000 ∧ Few (88 + j) lj ∧ Below W.heap.size W wr) (fun i _ => Q + K - (intOf i).toNat)
        case atStart => exact ⟨0, vk, lk, Nat.zero_le _, rfl, HCk.out, Hhk.out, by rw [Hpk.out, HkK.out]; rfl, hlk, Hfk.out.more (by omega), HBk.out⟩
        case round =>
          obtain ⟨j, vj, lj, hj, rfl, hCj, hhj, hpj, hlj, hfj, hBj⟩ := hrel
          rename World => wr
          have HCj := Lib.hid hCj
          have HBj := Lib.hid hBj
          have Hhj := Lib.hid hhj
          have Hpj := Lib.hid hpj
          have Hfj := Lib.hid hfj
          have hj0 : (0 : Int) ≤ (j : Int) := by omega
          clear hCj hhj hpj hfj hBj
          by_cases hltj : j < Q + K
          · have hji : (j : Int) < (Q : Int) + n % 9 := by rw [HK.out]; omega
            have hj1 : ¬ 100 < (j : Int) := by omega
            obtain ⟨s1, s2, s3⟩ := pin_down Hhj.out (by rw [Hpj.out]; omega)
            have HPi := Lib.hid (pin_any W.heap.size gc vj M lj x wr false HCj.out hlj (Hfj.out.more (by omega)))
            rw [s1] at HPi
            have Hs2 := Lib.hid s2
            have Hs3 : Hid (pinsN (pinL lj x false) x = ((Q + K - (j + 1) : Nat) : Int)) := by unfold Hid; rw [s3, Hpj.out]; omega
            have Hs4 : Hid ((pinL lj x false).length ≤ 1000) := by unfold Hid; rw [length_pinL]; exact hlj
            have Hs5 := Lib.hid (Hfj.out.pinned (by omega) x false)
            generalize pinL lj x false = l7 at *
            clear s1 s2 s3
            go_wp2_with (go_at_call 16; (with_reducible refine HPi.out.mono ?_); rintro e w7 ⟨rfl, hw7⟩; obtain ⟨v7, hc7, hb7, hz7⟩ := hw7.next HCj.out HBj.out.size; have HC7 := Lib.hid hc7; have HB7 := Lib.hid (HBj.out.trans hb7); clear hw7 hc7 hb7 hz7)
            go_roundw
            case rel => exact ⟨j + 1, v7, l7, by omega, by go_num, HC7.out, Hs2.out, Hs3.out, Hs4.out, Hs5.out.more (by omega), HB7.out⟩
            case measure => simp [intOf]; omega
          · have hji : ¬ (j : Int) < (Q : Int) + n % 9 := by rw [HK.out]; omega
            have hz : pinsN lj x = 0 := by rw [Hpj.out]; omega
            have Hz := Lib.hid hz
            have HPi := Lib.hid (fun w hc => pin_any W.heap.size gc vj M lj x w false hc hlj (Hfj.out.more (by omega)))
            rw [pin_zero Hhj.out hz] at HPi
            clear hz
            go_wp2_with (first
              | (go_at_call 22; refine (pins_any _ gc vj _ lj x _ HCj.out hlj).mono ?_; rintro e w8 ⟨rfl, hb8⟩; rw [Hz.out]; have HC8 := Lib.hid (HCj.out.fresh hb8); have HB8 := Lib.hid (HBj.out.trans (hb8.mono HBj.out.size)); clear hb8)
              | (go_at_call 16; (with_reducible refine (HPi.out _ HC8.out).mono ?_); rintro e w9 ⟨rfl, hw9⟩; obtain ⟨v9, hc9, hb9, hz9⟩ := hw9.next HC8.out HB8.out.size; have HB9 := Lib.hid (HB8.out.trans hb9); clear hw9 hc9 hb9 hz9))
            go_ret
            exact ⟨rfl, HB9.out⟩
end Go.Proofs.Ythibnnllecdpaaa
