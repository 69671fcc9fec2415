/- Whatever deeds and groups come in, GroupWhole returns true, and they read afterwards as before. No condition. Here: the walk of the law's text. -/
import Derived.Test.YtdndchoghhllmaaSE
set_option linter.unusedVariables false
set_option linter.unusedSimpArgs false
namespace Go.Proofs.Ytdndchoghhllmaa
open Go.RowKit
set_option maxRecDepth 100000 in
set_option maxHeartbeats 4000000 in
theorem GroupWhole.walk (a2 : Option Addr) (len2 cap2 : Nat) (ds : List Dd) (n m : Int) (W : World) (hd : IsDeeds W a2 len2 cap2 ds) (hn : (Lit.int .i64 n).wf = true) (hm : (Lit.int .i64 m).wf = true) :
    Calls Try.prog 11 #[.slice a2 len2 cap2, .int .i64 n, .int .i64 m] W fun e W' => e = .returned (.bool true) ∧ Below W.heap.size W W' := by
  obtain ⟨d1, d2, d3, d4⟩ := hd
  have HP := Lib.hid (play_any a2 len2 cap2 ds W d1 d2 d3 d4)
  have HWn := Lib.hid (bounds_i64 hn)
  have HWm := Lib.hid (bounds_i64 hm)
  clear d1 d2 d3 d4 hn hm
  go_enter Try.func11, Try.ntmps11
  go_wp2_with fail
  refine HP.out.mono ?_
  rintro e w1 ⟨g, h, x, rfl, hT, hO, hB⟩
  have HL1 := Lib.hid (Laid.of hO (by omega) hT)
  have HB := Lib.hid hB
  have H4 : Hid (∀ y ∈ aheadR x.l n, WfI y ∧ stG x.l y = 4) := fun y hy => ⟨HL1.out.wf (aheadR_in hO hy), ahead4 hO hy⟩
  have HTr : Hid (∀ y, m ∈ aheadR x.l n → y ∈ aheadR x.l m → y ∈ aheadR x.l n) := fun y h1 h2 => ahead_trans hO h1 h2
  have hla : (aheadR x.l n).length ≤ 1000 := by have := aheadR_len hO.hin n; have := hO.len; omega
  have hlb : (aheadR x.l m).length ≤ 1000 := by have := aheadR_len hO.hin m; have := hO.len; omega
  clear hT hO hB
  go_wp2_with (go_at_call 14; refine (live_any _).mono ?_; rintro e w2 ⟨rfl, hb2⟩; have HL2 := Lib.hid (HL1.out.next hb2); have HB2 := Lib.hid (HB.out.trans (hb2.mono HB.out.size)); clear hb2)
  refine (HL2.out.ahead HWn.out).mono ?_
  rintro e w3 ⟨Aa, ca, rfl, ia, hb3⟩
  have HL3 := Lib.hid (HL2.out.next hb3)
  have HB3 := Lib.hid (HB2.out.trans (hb3.mono HB2.out.size))
  have HIa := Lib.hid ia
  clear ia hb3
  go_wp2_with fail
  refine (HL3.out.ahead HWm.out).mono ?_
  rintro e w4 ⟨Ab, cb, rfl, ib, hb4⟩
  have HL4 := Lib.hid (HL3.out.next hb4)
  have HB4 := Lib.hid (HB3.out.trans (hb4.mono HB3.out.size))
  have HIa4 := Lib.hid (HIa.out.next hb4)
  have HIb := Lib.hid ib
  clear ib hb4 HP HB HL1 HL2 HL3 HB2 HB3 HIa
  generalize aheadR x.l n = la at *
  generalize aheadR x.l m = lb at *
  go_wp2
  go_loopw [12, 13] (fun s i wr => ∃ t : Nat, t ≤ la.length ∧ i = .int .i64 t ∧ s = .bool (hasK la m t) ∧ Below w4.heap.size w4 wr) (fun _ i _ => la.length - (intOf i).toNat)
  case atStart => exact ⟨0, Nat.zero_le _, rfl, rfl, Below.refl _ _⟩
  case round =>
    obtain ⟨t, ht, rfl, rfl, hB⟩ := hrel
    rename World => wr
    have ht0 : (0 : Int) ≤ (t : Int) := by omega
    have HBr := Lib.hid hB
    by_cases hlt : t < la.length
    · have hti : (t : Int) < (la.length : Int) := by omega
      obtain ⟨b1, o1, rfl, l1, c1⟩ := (HIa4.out.next hB).at_ hlt
      obtain ⟨hw, h4⟩ := H4.out _ (inn_mem hlt)
      have HSt := Lib.hid ((HL4.out.next hB).state hw)
      rw [h4] at HSt
      have Hst := Lib.hid (hasK_step (y := m) hlt)
      generalize inn la t = z at *
      clear hB hw h4
      cases hk : hasK la m t with
      | true =>
        rw [hk] at Hst
        go_wp2_with (refine HSt.out.mono ?_; rintro e w' ⟨rfl, rfl⟩)
        go_roundw
        case rel => exact ⟨t + 1, by omega, by go_num, by rw [Hst.out]; rfl, HBr.out⟩
        case measure => simp [intOf]; omega
      | false =>
        rw [hk] at Hst
        go_wp2_with (refine HSt.out.mono ?_; rintro e w' ⟨rfl, rfl⟩)
        go_roundw
        case rel => exact ⟨t + 1, by omega, by go_num, by rw [Hst.out]; simp, HBr.out⟩
        case measure => simp [intOf]; omega
    · obtain rfl : t = la.length := by omega
      have hti : ¬ (la.length : Int) < (la.length : Int) := by omega
      have HIar := Lib.hid (HIa4.out.next hB)
      have HIbr := Lib.hid (HIb.out.next hB)
      rw [hasK_all]
      clear hB
      by_cases hma : m ∈ la
      · have HTr2 : Hid (∀ y ∈ lb, y ∈ la) := fun y hy => HTr.out y hma hy
        rw [decide_eq_true hma]
        go_wp2
        go_loopw [14] (fun i ws => ∃ q : Nat, q ≤ lb.length ∧ i = .int .i64 q ∧ Below wr.heap.size wr ws) (fun i _ => lb.length - (intOf i).toNat)
        case atStart => exact ⟨0, Nat.zero_le _, rfl, Below.refl _ _⟩
        case round =>
          obtain ⟨q, hq, rfl, hB⟩ := hrel
          rename World => wt
          have hq0 : (0 : Int) ≤ (q : Int) := by omega
          have HBt := Lib.hid hB
          by_cases hql : q < lb.length
          · have hqi : (q : Int) < (lb.length : Int) := by omega
            have HIpt := Lib.hid (HIbr.out.next hB)
            have HIbt := Lib.hid (HIar.out.next hB)
            have Hin : Hid (decide (inn lb q ∈ la) = true) := decide_eq_true (HTr2.out _ (inn_mem hql))
            clear hB
            go_wp2
            go_loopw [15, 16] (fun s i wr => ∃ t : Nat, t ≤ la.length ∧ i = .int .i64 t ∧ s = .bool (hasK la (inn lb q) t) ∧ Below wt.heap.size wt wr) (fun _ i _ => la.length - (intOf i).toNat)
            case atStart => exact ⟨0, Nat.zero_le _, rfl, rfl, Below.refl _ _⟩
            case round =>
              obtain ⟨t, ht, rfl, rfl, hB⟩ := hrel
              rename World => wu
              have ht0 : (0 : Int) ≤ (t : Int) := by omega
              have HBu := Lib.hid hB
              by_cases htl : t < la.length
              · have hti : (t : Int) < (la.length : Int) := by omega
                obtain ⟨b3, o3, rfl, l3, c3⟩ := (HIbt.out.next hB).at_ htl
                obtain ⟨b4, o4, rfl, l4, c4⟩ := (HIpt.out.next hB).at_ hql
                have Hst := Lib.hid (hasK_step (y := inn lb q) htl)
                generalize inn la t = z at *
                generalize inn lb q = y at *
                clear hB
                cases hk : hasK la y t with
                | true =>
                  rw [hk] at Hst
                  go_wp2
                  go_quiet (fail)
                  go_wp2
                  go_roundw
                  case rel => exact ⟨t + 1, by omega, by go_num, by rw [Hst.out]; rfl, bdn HBu.out _⟩
                  case measure => simp [intOf]; omega
                | false =>
                  rw [hk] at Hst
                  go_wp2
                  go_quiet (fail)
                  go_wp2
                  go_roundw
                  case rel => exact ⟨t + 1, by omega, by go_num, by rw [Hst.out]; simp, bdn HBu.out _⟩
                  case measure => simp [intOf]; omega
              · obtain rfl : t = la.length := by omega
                have hti : ¬ (la.length : Int) < (la.length : Int) := by omega
                rw [hasK_all, Hin.out]
                clear hB
                go_wp2
                go_roundw
                case rel => exact ⟨q + 1, by omega, by go_num, HBt.out.trans (HBu.out.mono HBt.out.size)⟩
                case measure => simp [intOf]; omega
          · obtain rfl : q = lb.length := by omega
            have hqi : ¬ (lb.length : Int) < (lb.length : Int) := by omega
            have HE := Lib.hid (HB4.out.trans ((HBr.out.trans (hB.mono HBr.out.size)).mono HB4.out.size))
            clear hB
            go_wp2
            go_ret
            exact ⟨rfl, HE.out⟩
      · rw [decide_eq_false hma]
        have HE := Lib.hid (HB4.out.trans (HBr.out.mono HB4.out.size))
        go_wp2
        go_loopw [14] (fun i ws => i = .int .i64 0 ∧ ws = wr) (fun i _ => 0)
        case atStart => exact ⟨rfl, rfl⟩
        case round =>
          obtain ⟨rfl, rfl⟩ := hrel
          by_cases h0 : 0 < lb.length
          · have h0i : (0 : Int) < (lb.length : Int) := by omega
            go_wp2
            go_ret
            exact ⟨rfl, HE.out⟩
          · have h0i : ¬ (0 : Int) < (lb.length : Int) := by omega
            go_wp2
            go_ret
            exact ⟨rfl, HE.out⟩
end Go.Proofs.Ytdndchoghhllmaa
