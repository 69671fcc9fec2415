/- Whatever deeds and patch come in, GroupTakes returns true, and they read afterwards as before. No condition. Here: the walk of the law's text. -/
import Derived.Test.YtdndchoghhllmaaSG
set_option linter.unusedVariables false
set_option linter.unusedSimpArgs false
namespace Go.Proofs.Ytdndchoghhllmaa
open Go.RowKit
set_option maxRecDepth 100000 in
set_option maxHeartbeats 4000000 in
theorem GroupTakes.walk (a2 : Option Addr) (len2 cap2 : Nat) (ds : List Dd) (y : Int) (W : World) (hd : IsDeeds W a2 len2 cap2 ds) (hy : (Lit.int .i64 y).wf = true) :
    Calls Try.prog 6 #[.slice a2 len2 cap2, .int .i64 y] W fun e W' => e = .returned (.bool true) ∧ Below W.heap.size W W' := by
  obtain ⟨d1, d2, d3, d4⟩ := hd
  have HP := Lib.hid (play_any a2 len2 cap2 ds W d1 d2 d3 d4)
  have HWy := Lib.hid (bounds_i64 hy)
  clear d1 d2 d3 d4 hy
  go_enter Try.func6, Try.ntmps6
  go_wp2_with fail
  refine HP.out.mono ?_
  rintro e w1 ⟨g, h, x, rfl, hT, hO, hB⟩
  have HT := Lib.hid hT
  have HO := Lib.hid hO
  have HB := Lib.hid hB
  clear hT hO hB HP
  go_wp2_with (go_at_call 14; refine (live_any _).mono ?_; rintro e w2 ⟨rfl, hb2⟩; have HT2 := Lib.hid (HT.out.fresh hb2); have HB2 := Lib.hid (HB.out.trans (hb2.mono HB.out.size)); clear hb2)
  have hF : Calls Try.prog 23 #[.pointer (some ⟨g, 0, none⟩)] w2 fun e w' => ∃ f, e = .returned (.pointer (some ⟨f, 0, none⟩)) ∧ Calls Try.prog 24 #[.pointer (some ⟨g, 0, none⟩), .int .i64 y] w' fun e w3 => e = .returned (.int .i64 (Gs.tkE y)) ∧ Two W.heap.size 61 w3 g h (x.tk0 y) x ∧ Laid W.heap.size 61 w3 f x ∧ Below W.heap.size W w3 := by
    obtain ⟨h0, ⟨mb, L, hPp, hg⟩, _⟩ := id HT2.out
    have hl : L.length ≤ 8 := by have := HO.out.len; rw [← hg, length_gp] at this; exact this
    refine (fork_any W.heap.size (8 * 60) g mb L x.k w2 hPp (by omega) hl).mono fun e w' ⟨f, mf, Lf, q1, q2, q3, q4⟩ => ⟨f, q1, ?_⟩
    have hT3 := HT2.out.fresh q4
    have hP3 := hPp.fresh q4
    refine (p6 (m := y) hP3 hg HO.out (by omega) HWy.out).mono fun e w3 ⟨e1, e2⟩ => ?_
    obtain ⟨t3, b3⟩ := Two.p hT3 hP3 e2
    obtain ⟨_, _, _, k, _⟩ := e2
    have hPf : PrgAt w2.heap.size (8 * 61) w3 f mf Lf x.k := q2.keep k (fun b o o2 => by have := q2.low b o; have := hPp.lt b o2; omega)
    refine ⟨e1, t3, Laid.of (h := h) (y := x) (HO.out.more (by omega)) (by omega) ⟨t3.1, ⟨mf, Lf, hPf.base h0, by rw [q3, hg]⟩, t3.2.2⟩, (HB2.out.trans (q4.mono HB2.out.size)).trans b3⟩
  refine hF.mono ?_
  rintro e w3 ⟨f, rfl, hTk⟩
  have HTk := Lib.hid hTk
  clear hF hTk HT HB
  go_wp2_with fail
  refine HTk.out.mono ?_
  rintro e w4 ⟨rfl, hT, hL, hB⟩
  have HT4 := Lib.hid hT
  have HL4 := Lib.hid hL
  have HB4 := Lib.hid hB
  have HO4 := Lib.hid ((HO.out.tk0 y))
  clear hT hL hB HTk HT2 HB2
  by_cases hy0 : y < 0
  · have hx : x.tk0 y = x := by unfold Gs.tk0; rw [if_pos hy0]
    have he : Gs.tkE y = 2 := by unfold Gs.tkE; rw [if_pos hy0]
    rw [hx] at HT4
    rw [he]
    clear hx he
    go_wp2_with (refine (same_any _ g h x _ (HO.out.more (show 60 ≤ 61 by omega)) (by omega) HT4.out).mono ?_; rintro e w5 ⟨rfl, hb5⟩; have HE := Lib.hid (HB4.out.trans (hb5.mono HB4.out.size)); clear hb5)
    go_ret
    exact ⟨rfl, HE.out⟩
  · have hx : x.tk0 y = x.took y := by unfold Gs.tk0; rw [if_neg hy0]
    have he : Gs.tkE y = 0 := by unfold Gs.tkE; rw [if_neg hy0]
    rw [hx] at HT4 HO4
    rw [he]
    have HLg := Lib.hid (Laid.of HO4.out (by omega) HT4.out)
    have HHas : Hid (∀ n, decide (y ∈ (ofN (x.took y).l n).p) = (decide (y ∈ (ofN x.l n).p) || decide (stG (x.took y).l n = 2)) ∧ (ofN x.l n).p.length ≤ (ofN (x.took y).l n).p.length ∧ (ofN (x.took y).l n).p.length ≤ 1000) := fun n => ⟨took_has y n, took_len HO.out y n, by have := (HO4.out.pofN n).2; omega⟩
    clear hx he HT4 HO4 HO
    go_wp2
    go_loopw [10] (fun i wr => ∃ n : Int, 0 ≤ n ∧ n ≤ 30 ∧ i = .int .i64 n ∧ Below w4.heap.size w4 wr) (fun i _ => (30 - intOf i).toNat)
    case atStart => exact ⟨0, by omega, by omega, rfl, Below.refl _ _⟩
    case round =>
      obtain ⟨n, hn0, hn, rfl, hB⟩ := hrel
      rename World => wr
      have HBr := Lib.hid hB
      by_cases hlt : n < 30
      · have HPf := Lib.hid ((HL4.out.next hB).patches (n := n) (wfi (by omega)))
        have HPg : Hid (∀ V, Below wr.heap.size wr V → Calls Try.prog 18 #[.pointer (some ⟨g, 0, none⟩), .int .i64 n] V (GivesI V (ofN (x.took y).l n).p)) := fun V hV => ((HLg.out.next HBr.out).next hV).patches (wfi (by omega))
        have HSt : Hid (∀ V, Below wr.heap.size wr V → Calls Try.prog 17 #[.pointer (some ⟨g, 0, none⟩), .int .i64 n] V fun e w' => e = .returned (.int .u8 (stG (x.took y).l n)) ∧ V = w') := fun V hV => ((HLg.out.next HBr.out).next hV).state (wfi (by omega))
        obtain ⟨hh, hl1, hl2⟩ := HHas.out n
        have HH := Lib.hid hh
        generalize (ofN x.l n).p = la at *
        generalize (ofN (x.took y).l n).p = lb at *
        generalize stG (x.took y).l n = st at *
        clear hB hh
        go_wp2_with (first
          | (go_at_call 18; (with_reducible refine HPf.out.mono ?_); rintro e w5 ⟨Aa, ca, rfl, ia, hb5⟩; have HIa := Lib.hid ia; have HB5 := Lib.hid hb5; clear ia hb5)
          | (go_at_call 18; (with_reducible refine (HPg.out w5 HB5.out).mono ?_); rintro e w6 ⟨Ab, cb, rfl, ib, hb6⟩; have HIb := Lib.hid ib; have HIa6 := Lib.hid (HIa.out.next hb6); have HB6 := Lib.hid (HB5.out.trans (hb6.mono HB5.out.size)); clear ib hb6))
        go_loopw [13, 15] (fun s i ws => ∃ t : Nat, t ≤ la.length ∧ i = .int .i64 t ∧ s = .bool (hasK la y t) ∧ w6 = ws) (fun _ i _ => la.length - (intOf i).toNat)
        case atStart => exact ⟨0, Nat.zero_le _, rfl, rfl, rfl⟩
        case round =>
          obtain ⟨t, ht, rfl, rfl, rfl⟩ := hrel
          have ht0 : (0 : Int) ≤ (t : Int) := by omega
          by_cases htl : t < la.length
          · have hti : (t : Int) < (la.length : Int) := by omega
            obtain ⟨b3, o3, rfl, l3, c3⟩ := HIa6.out.at_ htl
            have Hst := Lib.hid (hasK_step (y := y) htl)
            generalize inn la t = z at *
            cases hk : hasK la y t with
            | true =>
              rw [hk] at Hst
              go_wp2
              go_roundw
              case rel => exact ⟨t + 1, by omega, by go_num, by rw [Hst.out]; rfl, trivial⟩
              case measure => simp [intOf]; omega
            | false =>
              rw [hk] at Hst
              go_wp2
              go_roundw
              case rel => exact ⟨t + 1, by omega, by go_num, by rw [Hst.out]; simp, trivial⟩
              case measure => simp [intOf]; omega
          · obtain rfl : t = la.length := by omega
            have hti : ¬ (la.length : Int) < (la.length : Int) := by omega
            rw [hasK_all]
            generalize decide (y ∈ la) = ha at *
            go_wp2
            go_loopw [14, 16] (fun s i ws => ∃ t : Nat, t ≤ lb.length ∧ i = .int .i64 t ∧ s = .bool (hasK lb y t) ∧ w6 = ws) (fun _ i _ => lb.length - (intOf i).toNat)
            case atStart => exact ⟨0, Nat.zero_le _, rfl, rfl, rfl⟩
            case round =>
              obtain ⟨t, ht, rfl, rfl, rfl⟩ := hrel
              have ht0 : (0 : Int) ≤ (t : Int) := by omega
              by_cases htl : t < lb.length
              · have hti : (t : Int) < (lb.length : Int) := by omega
                obtain ⟨b3, o3, rfl, l3, c3⟩ := HIb.out.at_ htl
                have Hst := Lib.hid (hasK_step (y := y) htl)
                generalize inn lb t = z at *
                cases hk : hasK lb y t with
                | true =>
                  rw [hk] at Hst
                  go_wp2
                  go_roundw
                  case rel => exact ⟨t + 1, by omega, by go_num, by rw [Hst.out]; rfl, trivial⟩
                  case measure => simp [intOf]; omega
                | false =>
                  rw [hk] at Hst
                  go_wp2
                  go_roundw
                  case rel => exact ⟨t + 1, by omega, by go_num, by rw [Hst.out]; simp, trivial⟩
                  case measure => simp [intOf]; omega
              · obtain rfl : t = lb.length := by omega
                have hti : ¬ (lb.length : Int) < (lb.length : Int) := by omega
                have hle : ¬ (lb.length : Int) < (la.length : Int) := by omega
                rw [hasK_all, HH.out]
                cases ha with
                | true =>
                  rw [Bool.true_or]
                  go_wp2
                  go_roundw
                  case rel => exact ⟨n + 1, by omega, by omega, by go_num, HBr.out.trans (HB6.out.mono HBr.out.size)⟩
                  case measure => simp [intOf]; omega
                | false =>
                  rw [Bool.false_or]
                  by_cases h2 : st = 2
                  · have hs : ((st : Int) == 2) = true := by simp; omega
                    rw [decide_eq_true h2]
                    clear h2
                    go_wp2_with (refine (HSt.out _ HB6.out).mono ?_; rintro e w' ⟨rfl, rfl⟩)
                    go_roundw
                    case rel => exact ⟨n + 1, by omega, by omega, by go_num, HBr.out.trans (HB6.out.mono HBr.out.size)⟩
                    case measure => simp [intOf]; omega
                  · have hs : ((st : Int) == 2) = false := by simp; omega
                    rw [decide_eq_false h2]
                    clear h2
                    go_wp2_with (refine (HSt.out _ HB6.out).mono ?_; rintro e w' ⟨rfl, rfl⟩)
                    go_roundw
                    case rel => exact ⟨n + 1, by omega, by omega, by go_num, HBr.out.trans (HB6.out.mono HBr.out.size)⟩
                    case measure => simp [intOf]; omega
      · obtain rfl : n = 30 := by omega
        have HE := Lib.hid (HB4.out.trans (hB.mono HB4.out.size))
        clear hB
        go_wp2
        go_ret
        exact ⟨rfl, HE.out⟩
end Go.Proofs.Ytdndchoghhllmaa
