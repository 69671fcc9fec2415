/- Whatever deeds come in, GroupRound returns true, and they read afterwards as before. No condition. Here: the walk of the law's text. -/
import Derived.Test.YtdndchoghhllmaaSE
set_option linter.unusedVariables false
set_option linter.unusedSimpArgs false
namespace Go.Proofs.Ytdndchoghhllmaa
open Go.RowKit
set_option maxRecDepth 100000 in
set_option maxHeartbeats 4000000 in
theorem GroupRound.walk (a2 : Option Addr) (len2 cap2 : Nat) (ds : List Dd) (W : World) (hd : IsDeeds W a2 len2 cap2 ds) :
    Calls Try.prog 4 #[.slice a2 len2 cap2] W fun e W' => e = .returned (.bool true) ∧ Below W.heap.size W W' := by
  obtain ⟨d1, d2, d3, d4⟩ := hd
  have HP := Lib.hid (play_any a2 len2 cap2 ds W d1 d2 d3 d4)
  clear d1 d2 d3 d4
  go_enter Try.func4, Try.ntmps4
  go_wp2_with fail
  refine HP.out.mono ?_
  rintro e w1 ⟨g, h, x, rfl, hT, hO, hB⟩
  have HL1 := Lib.hid (Laid.of hO (by omega) hT)
  have HB := Lib.hid hB
  have HNs : Hid (∀ n y, y ∈ aheadR x.l n → y ≠ n ∧ WfI y) := fun n y hy => ⟨fun e => hO.not_self ((mem_aheadR hO.hin n n).1 (by rw [← e]; rw [e]; rw [e] at hy; exact hy)), HL1.out.wf (aheadR_in hO hy)⟩
  have HNb : Hid (∀ n y z, y ∈ aheadR x.l n → z ∈ aheadR x.l y → z ≠ n) := fun n y z h1 h2 e => hO.not_both ((mem_aheadR hO.hin n y).1 h1) ((mem_aheadR hO.hin y n).1 (by rw [← e]; exact h2))
  have HLa : Hid (∀ n, (aheadR x.l n).length ≤ 1000) := fun n => by have := aheadR_len hO.hin n; have := hO.len; omega
  clear hT hO hB
  go_wp2_with (go_at_call 14; refine (live_any _).mono ?_; rintro e w2 ⟨rfl, hb2⟩; have HL2 := Lib.hid (HL1.out.next hb2); have HB2 := Lib.hid (HB.out.trans (hb2.mono HB.out.size)); clear hb2)
  go_loopw [6] (fun i wr => ∃ n : Int, 0 ≤ n ∧ n ≤ 30 ∧ i = .int .i64 n ∧ Below w2.heap.size w2 wr) (fun i _ => (30 - intOf i).toNat)
  case atStart => exact ⟨0, by omega, by omega, rfl, Below.refl _ _⟩
  case round =>
    obtain ⟨n, hn0, hn, rfl, hB⟩ := hrel
    rename World => wr
    have HBr := Lib.hid hB
    by_cases hlt : n < 30
    · have HA := Lib.hid ((HL2.out.next hB).ahead (n := n) (wfi (by omega)))
      have HN1 := Lib.hid (HNs.out n)
      have HN2 := Lib.hid (HNb.out n)
      have HR := Lib.hid (aheadR_rises x.l n)
      have hla := HLa.out n
      generalize aheadR x.l n = la at *
      clear hB
      go_wp2_with (refine HA.out.mono ?_; rintro e w5 ⟨Aa, ca, rfl, ia, hb5⟩; have HIa := Lib.hid ia; have HB5 := Lib.hid (HBr.out.trans (hb5.mono HBr.out.size)); clear ia hb5)
      go_loopw [8] (fun i wr => ∃ k : Nat, k ≤ la.length ∧ i = .int .i64 k ∧ Below w5.heap.size w5 wr) (fun i _ => la.length - (intOf i).toNat)
      case atStart => exact ⟨0, Nat.zero_le _, rfl, Below.refl _ _⟩
      case round =>
        obtain ⟨k, hk, rfl, hB⟩ := hrel
        rename World => ws
        have hk0 : (0 : Int) ≤ (k : Int) := by omega
        have HBs := Lib.hid hB
        have HBs2 := Lib.hid (HB5.out.trans (hB.mono HB5.out.size))
        by_cases hkl : k < la.length
        · have hki : (k : Int) < (la.length : Int) := by omega
          obtain ⟨b2, o2, rfl, l2, c2⟩ := (HIa.out.next hB).at_ hkl
          obtain ⟨hne, hwf⟩ := HN1.out _ (inn_mem hkl)
          have heq : (inn la k == n) = false := by simpa using hne
          have HAh : Hid (∀ j, Calls Try.prog 16 #[.pointer (some ⟨g, 0, none⟩), .int .i64 (inn la k)] (ws.drewN j) (GivesI (ws.drewN j) (aheadR x.l (inn la k)))) := fun j => (HL2.out.next (bdn HBs2.out j)).ahead hwf
          have HN3 : Hid (∀ z ∈ aheadR x.l (inn la k), (z == n) = false) := fun z hz => by simpa using HN2.out _ z (inn_mem hkl) hz
          have hc2 : ∀ p, k = p + 1 → ws.cell? ⟨b2, o2 + p, none⟩ = some (.int .i64 (inn la p)) ∧ ¬ inn la k ≤ inn la p := fun p hp => by
            obtain ⟨b3, o3, e3, _, c3⟩ := (HIa.out.next hB).at_ (show p < la.length by omega)
            cases e3
            refine ⟨c3, ?_⟩
            have : inn la p ∈ la.take k := by
              rw [hp, take_inn (by omega)]; simp
            have := rises_lt HR.out hkl _ this
            omega
          have hlb := HLa.out (inn la k)
          generalize aheadR x.l (inn la k) = lb at *
          clear hB hne hwf
          by_cases hk1 : k = 0
          · have hkp : ¬ (0 : Int) < (k : Int) := by omega
            have hkq : ¬ 0 < k := by omega
            clear hk1
            generalize inn la k = y at *
            clear hc2
            go_wp2
            go_quiet (fail)
            go_wp2_with (refine (HAh.out _).mono ?_; rintro e w6 ⟨Ap, cp, rfl, ip, hb6⟩; have HIp := Lib.hid ip; have HB6 := Lib.hid (HBs.out.trans ((bdn (Below.refl ws.heap.size ws) _).trans (hb6.mono (Nat.le_refl _)) |>.mono HBs.out.size)); clear ip hb6)
            go_loopw [10] (fun i wr => ∃ q : Nat, q ≤ lb.length ∧ i = .int .i64 q ∧ Below w6.heap.size w6 wr) (fun i _ => lb.length - (intOf i).toNat)
            case atStart => exact ⟨0, Nat.zero_le _, rfl, Below.refl _ _⟩
            case round =>
              obtain ⟨q, hq, rfl, hB⟩ := hrel
              rename World => wt
              have hq0 : (0 : Int) ≤ (q : Int) := by omega
              have HBt := Lib.hid hB
              by_cases hql : q < lb.length
              · have hqi : (q : Int) < (lb.length : Int) := by omega
                obtain ⟨b4, o4, rfl, l4, c4⟩ := (HIp.out.next hB).at_ hql
                have hzn := HN3.out _ (inn_mem hql)
                generalize inn lb q = z at *
                clear hB
                go_wp2
                go_roundw
                case rel => exact ⟨q + 1, by omega, by go_num, HBt.out⟩
                case measure => simp [intOf]; omega
              · obtain rfl : q = lb.length := by omega
                have hqi : ¬ (lb.length : Int) < (lb.length : Int) := by omega
                clear hB
                go_wp2
                go_roundw
                case rel => exact ⟨k + 1, by omega, by go_num, HB6.out.trans (HBt.out.mono HB6.out.size)⟩
                case measure => simp [intOf]; omega
          · obtain ⟨p, hp⟩ : ∃ p, k = p + 1 := ⟨k - 1, by omega⟩
            obtain ⟨c3, hle⟩ := hc2 p hp
            have hkp : (0 : Int) < (k : Int) := by omega
            have hkq : 0 < k := by omega
            have hw : IntKind.i64.wrap ((k : Int) - 1) = (k : Int) - 1 := IntWalk.i64_in _ (by omega)
            have hp0 : (0 : Int) ≤ (k : Int) - 1 := by omega
            have hp1 : (1 : Int) ≤ (k : Int) := by omega
            have hp2 : (k : Int) - 1 < (la.length : Int) := by omega
            have hp3 : ((k : Int) - 1).toNat = p := by omega
            clear hk1 hp
            generalize inn la k = y at *
            generalize inn la p = y2 at *
            clear hc2
            go_wp2
            go_quiet (fail)
            go_wp2_with (refine (HAh.out _).mono ?_; rintro e w6 ⟨Ap, cp, rfl, ip, hb6⟩; have HIp := Lib.hid ip; have HB6 := Lib.hid (HBs.out.trans ((bdn (Below.refl ws.heap.size ws) _).trans (hb6.mono (Nat.le_refl _)) |>.mono HBs.out.size)); clear ip hb6)
            go_loopw [10] (fun i wr => ∃ q : Nat, q ≤ lb.length ∧ i = .int .i64 q ∧ Below w6.heap.size w6 wr) (fun i _ => lb.length - (intOf i).toNat)
            case atStart => exact ⟨0, Nat.zero_le _, rfl, Below.refl _ _⟩
            case round =>
              obtain ⟨q, hq, rfl, hB⟩ := hrel
              rename World => wt
              have hq0 : (0 : Int) ≤ (q : Int) := by omega
              have HBt := Lib.hid hB
              by_cases hql : q < lb.length
              · have hqi : (q : Int) < (lb.length : Int) := by omega
                obtain ⟨b4, o4, rfl, l4, c4⟩ := (HIp.out.next hB).at_ hql
                have hzn := HN3.out _ (inn_mem hql)
                generalize inn lb q = z at *
                clear hB
                go_wp2
                go_roundw
                case rel => exact ⟨q + 1, by omega, by go_num, HBt.out⟩
                case measure => simp [intOf]; omega
              · obtain rfl : q = lb.length := by omega
                have hqi : ¬ (lb.length : Int) < (lb.length : Int) := by omega
                clear hB
                go_wp2
                go_roundw
                case rel => exact ⟨k + 1, by omega, by go_num, HB6.out.trans (HBt.out.mono HB6.out.size)⟩
                case measure => simp [intOf]; omega
        · obtain rfl : k = la.length := by omega
          have hki : ¬ (la.length : Int) < (la.length : Int) := by omega
          clear hB
          go_wp2
          go_roundw
          case rel => exact ⟨n + 1, by omega, by omega, by go_num, HBs2.out⟩
          case measure => simp [intOf]; omega
    · obtain rfl : n = 30 := by omega
      have HE := Lib.hid (HB2.out.trans (hB.mono HB2.out.size))
      clear hB
      go_wp2
      go_ret
      exact ⟨rfl, HE.out⟩
end Go.Proofs.Ytdndchoghhllmaa
