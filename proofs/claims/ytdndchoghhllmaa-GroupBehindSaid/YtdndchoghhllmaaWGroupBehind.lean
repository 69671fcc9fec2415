/- Whatever deeds come in, GroupBehind returns true, and they read afterwards as before. No condition. Here: the walk of the law's text. -/
import Derived.Test.YtdndchoghhllmaaSE
set_option linter.unusedVariables false
set_option linter.unusedSimpArgs false
namespace Go.Proofs.Ytdndchoghhllmaa
open Go.RowKit
set_option maxRecDepth 100000 in
set_option maxHeartbeats 4000000 in
theorem GroupBehind.walk (a2 : Option Addr) (len2 cap2 : Nat) (ds : List Dd) (W : World) (hd : IsDeeds W a2 len2 cap2 ds) :
    Calls Try.prog 7 #[.slice a2 len2 cap2] W fun e W' => e = .returned (.bool true) ∧ Below W.heap.size W W' := by
  obtain ⟨d1, d2, d3, d4⟩ := hd
  have HP := Lib.hid (play_any a2 len2 cap2 ds W d1 d2 d3 d4)
  clear d1 d2 d3 d4
  go_enter Try.func7, Try.ntmps7
  go_wp2_with fail
  refine HP.out.mono ?_
  rintro e w1 ⟨g, h, x, rfl, hT, hO, hB⟩
  have HL1 := Lib.hid (Laid.of hO (by omega) hT)
  have HB := Lib.hid hB
  have HFar : Hid (∀ n m y, n ∈ x.engaged → m ∈ aheadR x.l n → y ∈ (ofN x.l m).p → y ∈ x.behind) := fun n m y a b c => mem_beh a b c
  have HNo : Hid (x.engaged.length = 0 → x.behind.length = 0) := fun h => by rw [beh_none h]; rfl
  have HWe : Hid (∀ n ∈ x.engaged, WfI n) := fun n hn => HL1.out.wf (engaged_in hn)
  have HWa : Hid (∀ n, ∀ m ∈ aheadR x.l n, WfI m) := fun n m hm => HL1.out.wf (aheadR_in HL1.out.ok hm)
  have hbl : x.behind.length ≤ 1000 := by have := behind_len hO; omega
  have hen : x.engaged.length ≤ 1000 := by have := hO.eng8; omega
  have HLa : Hid (∀ n, (aheadR x.l n).length ≤ 1000) := fun n => by have := aheadR_len hO.hin n; have := hO.len; omega
  have HLp : Hid (∀ m, (ofN x.l m).p.length ≤ 1000) := fun m => by have := (hO.pofN m).2; omega
  clear hT hO hB
  go_wp2_with (first
    | (go_at_call 14; refine (live_any _).mono ?_; rintro e w2 ⟨rfl, hb2⟩; have HL2 := Lib.hid (HL1.out.next hb2); have HB2 := Lib.hid (HB.out.trans (hb2.mono HB.out.size)); clear hb2)
    | (go_at_call 25; refine HL2.out.behind.mono ?_; rintro e w3 ⟨Ab, cb, rfl, ib, hb3⟩; have HL3 := Lib.hid (HL2.out.next hb3); have HB3 := Lib.hid (HB2.out.trans (hb3.mono HB2.out.size)); have HIb := Lib.hid ib; clear hb3 ib)
    | (go_at_call 26; refine HL3.out.engaged.mono ?_; rintro e w4 ⟨Ae, ce, rfl, ie, hb4⟩; have HL4 := Lib.hid (HL3.out.next hb4); have HB4 := Lib.hid (HB3.out.trans (hb4.mono HB3.out.size)); have HIe := Lib.hid ie; have HIb4 := Lib.hid (HIb.out.next hb4); clear hb4 ie))
  clear HP HB HL1 HL2 HL3 HB2 HB3 HIb
  generalize x.engaged = en at *
  generalize x.behind = bl at *
  go_loopw [8] (fun i wr => ∃ j : Nat, j ≤ en.length ∧ i = .int .i64 j ∧ Below w4.heap.size w4 wr) (fun i _ => en.length - (intOf i).toNat)
  case atStart => exact ⟨0, Nat.zero_le _, rfl, Below.refl _ _⟩
  case round =>
    obtain ⟨j, hj, rfl, hB⟩ := hrel
    rename World => wr
    have hj0 : (0 : Int) ≤ (j : Int) := by omega
    have HBr := Lib.hid hB
    by_cases hlt : j < en.length
    · have hji : (j : Int) < (en.length : Int) := by omega
      obtain ⟨b1, o1, rfl, l1, c1⟩ := (HIe.out.next hB).at_ hlt
      have HA := Lib.hid ((HL4.out.next hB).ahead (HWe.out _ (inn_mem hlt)))
      have HF2 : Hid (∀ m y, m ∈ aheadR x.l (inn en j) → y ∈ (ofN x.l m).p → y ∈ bl) := fun m y a b => HFar.out _ m y (inn_mem hlt) a b
      have HWm := Lib.hid (HWa.out (inn en j))
      have hla := HLa.out (inn en j)
      generalize inn en j = n at *
      generalize aheadR x.l n = la at *
      clear hB
      go_wp2_with (refine HA.out.mono ?_; rintro e w5 ⟨Aa, ca, rfl, ia, hb5⟩; have HIa := Lib.hid ia; have HB5 := Lib.hid (HBr.out.trans (hb5.mono HBr.out.size)); clear ia hb5)
      go_loopw [10] (fun i wr => ∃ k : Nat, k ≤ la.length ∧ i = .int .i64 k ∧ Below w5.heap.size w5 wr) (fun i _ => la.length - (intOf i).toNat)
      case atStart => exact ⟨0, Nat.zero_le _, rfl, Below.refl _ _⟩
      case round =>
        obtain ⟨k, hk, rfl, hB⟩ := hrel
        rename World => ws
        have hk0 : (0 : Int) ≤ (k : Int) := by omega
        have HBs := Lib.hid hB
        have HBs4 := Lib.hid (HB5.out.trans (hB.mono HB5.out.size))
        by_cases hkl : k < la.length
        · have hki : (k : Int) < (la.length : Int) := by omega
          obtain ⟨b2, o2, rfl, l2, c2⟩ := (HIa.out.next hB).at_ hkl
          have HPt := Lib.hid ((HL4.out.next HBs4.out).patches (HWm.out _ (inn_mem hkl)))
          have HF3 : Hid (∀ y, y ∈ (ofN x.l (inn la k)).p → y ∈ bl) := fun y b => HF2.out _ y (inn_mem hkl) b
          have hlp := HLp.out (inn la k)
          generalize inn la k = m at *
          generalize (ofN x.l m).p = lp at *
          clear hB
          go_wp2_with (refine HPt.out.mono ?_; rintro e w6 ⟨Ap, cp, rfl, ip, hb6⟩; have HIp := Lib.hid ip; have HB6 := Lib.hid (HBs.out.trans (hb6.mono HBs.out.size)); have HIb6 := Lib.hid ((HIb4.out.next HBs4.out).next hb6); clear ip hb6)
          go_loopw [12] (fun i wr => ∃ q : Nat, q ≤ lp.length ∧ i = .int .i64 q ∧ Below w6.heap.size w6 wr) (fun i _ => lp.length - (intOf i).toNat)
          case atStart => exact ⟨0, Nat.zero_le _, rfl, Below.refl _ _⟩
          case round =>
            obtain ⟨q, hq, rfl, hB⟩ := hrel
            rename World => wt
            have hq0 : (0 : Int) ≤ (q : Int) := by omega
            have HBt := Lib.hid hB
            by_cases hql : q < lp.length
            · have hqi : (q : Int) < (lp.length : Int) := by omega
              have HIpt := Lib.hid (HIp.out.next hB)
              have HIbt := Lib.hid (HIb6.out.next hB)
              have Hin : Hid (decide (inn lp q ∈ bl) = true) := decide_eq_true (HF3.out _ (inn_mem hql))
              clear hB
              go_wp2
              go_loopw [13, 14] (fun s i wr => ∃ t : Nat, t ≤ bl.length ∧ i = .int .i64 t ∧ s = .bool (hasK bl (inn lp q) t) ∧ Below wt.heap.size wt wr) (fun _ i _ => bl.length - (intOf i).toNat)
              case atStart => exact ⟨0, Nat.zero_le _, rfl, rfl, Below.refl _ _⟩
              case round =>
                obtain ⟨t, ht, rfl, rfl, hB⟩ := hrel
                rename World => wu
                have ht0 : (0 : Int) ≤ (t : Int) := by omega
                have HBu := Lib.hid hB
                by_cases htl : t < bl.length
                · have hti : (t : Int) < (bl.length : Int) := by omega
                  obtain ⟨b3, o3, rfl, l3, c3⟩ := (HIbt.out.next hB).at_ htl
                  obtain ⟨b4, o4, rfl, l4, c4⟩ := (HIpt.out.next hB).at_ hql
                  have Hst := Lib.hid (hasK_step (y := inn lp q) htl)
                  generalize inn bl t = z at *
                  generalize inn lp q = y at *
                  clear hB
                  cases hk : hasK bl y t with
                  | true =>
                    rw [hk] at Hst
                    go_wp2
                    go_quiet (fail)
                    go_wp2
                    go_roundw
                    case rel => exact ⟨t + 1, by omega, by go_num, by rw [Hst.out]; rfl, bdn HBu.out _⟩
                    case measure => simp [intOf]; omega
                  | false =>
                    rw [hk] at Hst
                    go_wp2
                    go_quiet (fail)
                    go_wp2
                    go_roundw
                    case rel => exact ⟨t + 1, by omega, by go_num, by rw [Hst.out]; simp, bdn HBu.out _⟩
                    case measure => simp [intOf]; omega
                · obtain rfl : t = bl.length := by omega
                  have hti : ¬ (bl.length : Int) < (bl.length : Int) := by omega
                  rw [hasK_all, Hin.out]
                  clear hB
                  go_wp2
                  go_roundw
                  case rel => exact ⟨q + 1, by omega, by go_num, HBt.out.trans (HBu.out.mono HBt.out.size)⟩
                  case measure => simp [intOf]; omega
            · obtain rfl : q = lp.length := by omega
              have hqi : ¬ (lp.length : Int) < (lp.length : Int) := by omega
              clear hB
              go_wp2
              go_roundw
              case rel => exact ⟨k + 1, by omega, by go_num, HB6.out.trans (HBt.out.mono HB6.out.size)⟩
              case measure => simp [intOf]; omega
        · obtain rfl : k = la.length := by omega
          have hki : ¬ (la.length : Int) < (la.length : Int) := by omega
          clear hB
          go_wp2
          go_roundw
          case rel => exact ⟨j + 1, by omega, by go_num, HBs4.out⟩
          case measure => simp [intOf]; omega
    · obtain rfl : j = en.length := by omega
      have hji : ¬ (en.length : Int) < (en.length : Int) := by omega
      have HE := Lib.hid (HB4.out.trans (hB.mono HB4.out.size))
      clear hB
      by_cases h0 : 0 < en.length
      · have h0i : (0 : Int) < (en.length : Int) := by omega
        go_wp2
        go_ret
        exact ⟨rfl, HE.out⟩
      · have h0n : en.length = 0 := by omega
        have hbl0 := HNo.out h0n
        have h0i : ¬ (0 : Int) < (en.length : Int) := by omega
        have hbi : ((bl.length : Int) == 0) = true := by rw [hbl0]; rfl
        clear hbl0
        go_wp2
        go_ret
        exact ⟨rfl, HE.out⟩
end Go.Proofs.Ytdndchoghhllmaa
