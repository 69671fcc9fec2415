/- Whatever deeds and group come in, GroupStays returns true, and they read afterwards as before. No condition. Here: the walk of the law's text. -/
import Derived.Test.YtdndchoghhllmaaSH
set_option linter.unusedVariables false
set_option linter.unusedSimpArgs false
namespace Go.Proofs.Ytdndchoghhllmaa
open Go.RowKit
theorem turn13 {B c g h : Nat} {w : World} {y : Gs} {n : Int} (t : Two B c w g h y y) (hO : y.Ok c) (hn : WfI n) (h4 : stG y.l n = 4) (hin : n ∈ nos y.l) :
    Calls Try.prog 21 #[.pointer (some ⟨g, 0, none⟩), .int .i64 n] w fun e w1 => e = .returned (.int .i64 13) ∧ Below B w w1 ∧ Calls Try.prog 22 #[.pointer (some ⟨g, 0, none⟩), .int .i64 n] w1 fun e w2 => e = .returned (.int .i64 13) ∧ Below B w1 w2 := by
  have hE : y.turnE n 1 3 = 13 := by
    unfold Gs.turnE
    rw [stG_s] at h4
    rw [if_neg (fun q => q hin), if_pos ⟨by rw [h4]; decide, by rw [h4]; decide⟩]
  have hT : y.tn0 n 1 3 2 = y := by unfold Gs.tn0; rw [hE, if_neg (by decide)]
  obtain ⟨_, ⟨mb, L, hP, hg⟩, _⟩ := id t
  refine (p2 (n := n) hP hg hn).mono fun e w1 ⟨e1, e2⟩ => ?_
  rw [hT] at e2
  obtain ⟨t1, b1⟩ := Two.p t hP e2
  refine ⟨by rw [e1, hE], b1, ?_⟩
  obtain ⟨_, ⟨mb1, L1, hP1, hg1⟩, _⟩ := id t1
  refine (p4 (n := n) hP1 hg1 hn).mono fun e w2 ⟨e3, e4⟩ => ?_
  exact ⟨by rw [e3, hE], (Two.p t1 hP1 e4).2⟩
theorem q_rows {B c g h : Nat} {x y : Gs} {w : World} (t : Two B c w g h x y) (hO : x.Ok c) (hc : c ≤ 900) {n : Int} (hn : WfI n) :
    (Calls Try.prog 18 #[.pointer (some ⟨g, 0, none⟩), .int .i64 n] w fun e w' => ∃ A' c', e = .returned (.slice A' (ofN x.l n).p.length c') ∧ RowI w' 0 A' c' (ofN x.l n).p ∧ Below w.heap.size w w') ∧
    Calls Try.prog 16 #[.pointer (some ⟨g, 0, none⟩), .int .i64 n] w fun e w' => ∃ A' c', e = .returned (.slice A' (aheadR x.l n).length c') ∧ RowI w' 0 A' c' (aheadR x.l n) ∧ Below w.heap.size w w' := by
  obtain ⟨_, ⟨mb, L, hP, hg⟩, _⟩ := t
  have hl : L.length ≤ 100 := by have := hO.len; rw [← hg, length_gp] at this; omega
  have h1 := patches_any B (8 * c) g mb L x.k n w hP hn (by omega) (by rw [hg]; exact (hO.pofN n).1)
  have h2 := ahead_any B (8 * c) g mb L x.k n w hP (by omega) hn (by rw [hg]; exact hO.wf (by omega)) (by rw [hg]; exact hO.hin) hl
  rw [hg] at h1 h2
  exact ⟨h1.mono fun e w' ⟨A, c', e1, e2, e3⟩ => ⟨A, c', e1, ownBase e2 (Nat.zero_le _), e3⟩, h2.mono fun e w' ⟨A, c', e1, e2, e3⟩ => ⟨A, c', e1, ownBase e2 (Nat.zero_le _), e3⟩⟩
set_option maxRecDepth 100000 in
set_option maxHeartbeats 4000000 in
theorem GroupStays.walk (a1 : Option Addr) (len1 cap1 : Nat) (ds : List Dd) (n : Int) (a2 : Option Addr) (len2 cap2 : Nat) (es : List Dd) (W : World) (hd : IsDeeds W a1 len1 cap1 ds) (hn : (Lit.int .i64 n).wf = true) (he : IsDeeds W a2 len2 cap2 es) :
    Calls Try.prog 5 #[.slice a1 len1 cap1, .int .i64 n, .slice a2 len2 cap2] W fun e W' => e = .returned (.bool true) ∧ Below W.heap.size W W' := by
  obtain ⟨d1, d2, d3, d4⟩ := hd
  obtain ⟨e1, e2, e3, e4⟩ := he
  have HP := Lib.hid (play_any a1 len1 cap1 ds W d1 d2 d3 d4)
  have HWn := Lib.hid (bounds_i64 hn)
  have HD := Lib.hid e4
  subst e1
  unfold maxLen at e3
  clear d1 d2 d3 d4 e4 hn
  go_enter Try.func5, Try.ntmps5
  go_wp2_with fail
  refine HP.out.mono ?_
  rintro e w1 ⟨g, h, x, rfl, hT, hO, hB⟩
  have HT := Lib.hid hT
  have HO := Lib.hid hO
  have HB := Lib.hid hB
  clear hT hO hB HP
  go_wp2_with (go_at_call 14; refine (live_any _).mono ?_; rintro e w2 ⟨rfl, hb2⟩; have HT2 := Lib.hid (HT.out.fresh hb2); have HB2 := Lib.hid (HB.out.trans (hb2.mono HB.out.size)); clear hb2)
  have HS := Lib.hid (q_state HT2.out HWn.out)
  by_cases h4 : stG x.l n = 4
  · have HL2 := Lib.hid (Laid.of HO.out (by omega) HT2.out)
    have hin : n ∈ nos x.l := by
      by_cases q : n ∈ nos x.l
      · exact q
      · unfold stG at h4; rw [if_neg q] at h4; cases h4
    have HK : Hid (Kp x.l x.l n) := ⟨hin, fun z hz => ⟨by rcases hz with e | e; rw [e]; exact hin; exact (far4 HO.out e).1, rfl⟩⟩
    have H4 : Hid (∀ z, (z = n ∨ Far x.l n z) → (ofN x.l z).s = 4) := fun z hz => by
      rcases hz with e | e
      · rw [e, ← stG_s]; exact h4
      · exact (far4 HO.out e).2
    have hl1 : (ofN x.l n).p.length ≤ 1000 := by have := (HO.out.pofN n).2; omega
    have hl2 : (aheadR x.l n).length ≤ 1000 := by have := aheadR_len HO.out.hin n; have := HO.out.len; omega
    have HSm : Hid (∀ (V : World) (l : List Int) A3 A4 c3 c4, l.length ≤ 1000 → Ints V V.heap.size A3 l → Ints V V.heap.size A4 l → Calls Try.prog 20 #[.slice A3 l.length c3, .slice A4 l.length c4] V fun e w' => e = .returned (.bool true) ∧ Below V.heap.size V w') := fun V l A3 A4 c3 c4 hl h1 h2 => same_ints A3 A4 c3 c4 l V hl h1 h2
    have HDeed : Hid (∀ (c : Nat) (y : Gs) (d : Dd), y.Ok c → Kp x.l y.l n → (Kp x.l (y.deed d).l n ∧ stG (y.deed d).l n = 4 ∧ (ofN (y.deed d).l n).p = (ofN x.l n).p ∧ aheadR (y.deed d).l n = aheadR x.l n) ∨ stG (y.deed d).l n = 0) := fun c y d hy hk => by
      rcases hk.deed hy H4.out d with q | q
      · left
        have e := (q.2 n (.inl rfl)).2
        refine ⟨q, by rw [stG_s, e, ← stG_s]; exact h4, by rw [e], q.ahead (hy.deed d) HO.out.hin⟩
      · right; unfold stG; rw [if_neg q]
    have HKst : Hid (∀ y : Gs, Kp x.l y.l n → stG y.l n = 4 ∧ n ∈ nos y.l) := fun y q => ⟨by rw [stG_s, (q.2 n (.inl rfl)).2, ← stG_s]; exact h4, q.1⟩
    rw [h4] at HS
    clear hin h4
    go_wp2_with (go_at_call 17; (with_reducible refine HS.out.mono ?_); rintro e w' ⟨rfl, rfl⟩)
    refine (q_rows HT2.out HO.out (by omega) HWn.out).1.mono ?_
    rintro e w3 ⟨Ap, cp, rfl, ip, hb3⟩
    have HIp := Lib.hid ip
    have HT3 := Lib.hid (HT2.out.fresh hb3)
    have HB3 := Lib.hid (HB2.out.trans (hb3.mono HB2.out.size))
    clear ip hb3
    go_wp2_with fail
    refine (q_rows HT3.out HO.out (by omega) HWn.out).2.mono ?_
    rintro e w4 ⟨Aa, ca, rfl, ia, hb4⟩
    have HIa := Lib.hid ia
    have HIp4 := Lib.hid (HIp.out.fresh hb4)
    have HT4 := Lib.hid (HT3.out.fresh hb4)
    have HB4 := Lib.hid (HB3.out.trans (hb4.mono HB3.out.size))
    clear ia hb4 HL2 HIp HT HT2 HT3 HB HB2 HB3 HS
    generalize (ofN x.l n).p = lp at *
    generalize aheadR x.l n = la at *
    have HS1 := Lib.hid (fun V A3 A4 c3 c4 => HSm.out V lp A3 A4 c3 c4 hl1)
    have HS2 := Lib.hid (fun V A3 A4 c3 c4 => HSm.out V la A3 A4 c3 c4 hl2)
    clear hl1 hl2 HSm
    go_wp2
    go_loopw [12] (fun i wr => ∃ (k : Nat) (y : Gs), k ≤ es.length ∧ k ≤ 30 ∧ i = .int .i64 k ∧ Hid (Two W.heap.size (60 + k) wr g h y y) ∧ Hid (y.Ok (60 + k)) ∧ Hid (Kp x.l y.l n) ∧ Hid (Below W.heap.size W wr) ∧ Hid (RowI wr 0 Ap cp lp) ∧ Hid (RowI wr 0 Aa ca la)) (fun i _ => es.length - (intOf i).toNat)
    case atStart => exact ⟨0, x, Nat.zero_le _, Nat.zero_le _, rfl, HT4.out, HO.out, HK.out, HB4.out, HIp4.out, HIa.out⟩
    case round =>
      obtain ⟨k, y, hk, hk30, rfl, hT, hO, hKp, hB, hIp, hIa⟩ := hrel
      rename World => wr
      have hk0 : (0 : Int) ≤ (k : Int) := by omega
      by_cases hgo : k < es.length ∧ k < 30
      · obtain ⟨hlt, h30⟩ := hgo
        have hlti : (k : Int) < (es.length : Int) := by omega
        have h30i : (k : Int) < 30 := by omega
        obtain ⟨b, off, rfl, hb, hc⟩ := (HD.out.next hB.out) (by omega)
        obtain ⟨c0, c1, c2, c3⟩ := hc k hlt
        have HDo := Lib.hid (do_any W.heap.size g h y (ddn es k) c3.1 c3.2 wr hO.out (by omega) hT.out)
        have Hn := Lib.hid (hO.out.deed (ddn es k))
        have HCase := HDeed.out _ y (ddn es k) hO.out hKp.out
        generalize ddn es k = d at *
        obtain ⟨dk, db, dx⟩ := d
        unfold Dd.v DoSays at HDo
        clear hc c3
        generalize y.deed ⟨dk, db, dx⟩ = y2 at *
        rcases HCase with ⟨k1, k2, k3, k4⟩ | k0
        · have HK2 := Lib.hid k1
          have HSt : Hid (∀ V, Two W.heap.size (60 + k + 1) V g h y2 y2 → Calls Try.prog 17 #[.pointer (some ⟨g, 0, none⟩), .int .i64 n] V fun e w' => e = .returned (.int .u8 4) ∧ V = w') := fun V t => by have := q_state t HWn.out; rwa [k2] at this
          have HPt : Hid (∀ V, Two W.heap.size (60 + k + 1) V g h y2 y2 → Calls Try.prog 18 #[.pointer (some ⟨g, 0, none⟩), .int .i64 n] V (GivesI V lp)) := fun V t => by have := q_patches t Hn.out (by omega) HWn.out; rwa [k3] at this
          have HAh : Hid (∀ V, Two W.heap.size (60 + k + 1) V g h y2 y2 → Calls Try.prog 16 #[.pointer (some ⟨g, 0, none⟩), .int .i64 n] V (GivesI V la)) := fun V t => by have := q_ahead t Hn.out (by omega) HWn.out; rwa [k4] at this
          clear k1 k2 k3 k4
          go_wp2_with (first
            | (go_at_call 19; (with_reducible refine HDo.out.mono ?_); rintro e w5 ⟨rfl, t5, b5, k5⟩; have T5 := Lib.hid t5; have B5 := Lib.hid (hB.out.trans b5); have P5 := Lib.hid (hIp.out.ki k5); have A5 := Lib.hid (hIa.out.ki k5); clear t5 b5 k5)
            | (go_at_call 17; (with_reducible refine (HSt.out _ T5.out).mono ?_); rintro e w' ⟨rfl, rfl⟩)
            | (go_at_call 18; (with_reducible refine (HPt.out _ T5.out).mono ?_); rintro e w6 ⟨A6, c6, rfl, i6, b6⟩; have I6 := Lib.hid i6; have T6 := Lib.hid (T5.out.fresh b6); have B6 := Lib.hid (B5.out.trans (b6.mono B5.out.size)); have P6 := Lib.hid (P5.out.fresh b6); have A6' := Lib.hid (A5.out.fresh b6); clear i6 b6)
            | (go_at_call 20; (with_reducible refine (HS1.out w6 A6 Ap c6 cp I6.out P6.out.ints).mono ?_); rintro e w7 ⟨rfl, b7⟩; have T7 := Lib.hid (T6.out.fresh b7); have B7 := Lib.hid (B6.out.trans (b7.mono B6.out.size)); have P7 := Lib.hid (P6.out.fresh b7); have A7 := Lib.hid (A6'.out.fresh b7); clear b7)
            | (go_at_call 16; (with_reducible refine (HAh.out _ T7.out).mono ?_); rintro e w8 ⟨A8, c8, rfl, i8, b8⟩; have I8 := Lib.hid i8; have T8 := Lib.hid (T7.out.fresh b8); have B8 := Lib.hid (B7.out.trans (b8.mono B7.out.size)); have P8 := Lib.hid (P7.out.fresh b8); have A8' := Lib.hid (A7.out.fresh b8); clear i8 b8)
            | (go_at_call 20; (with_reducible refine (HS2.out w8 A8 Aa c8 ca I8.out A8'.out.ints).mono ?_); rintro e w9 ⟨rfl, b9⟩; have T9 := Lib.hid (T8.out.fresh b9); have B9 := Lib.hid (B8.out.trans (b9.mono B8.out.size)); have P9 := Lib.hid (P8.out.fresh b9); have A9 := Lib.hid (A8'.out.fresh b9); clear b9))
          go_roundw
          case rel => exact ⟨k + 1, y2, by omega, by omega, by go_num, T9.out, Hn.out, HK2.out, B9.out, P9.out, A9.out⟩
          case measure => simp [intOf]; omega
        · have HSt : Hid (∀ V, Two W.heap.size (60 + k + 1) V g h y2 y2 → Calls Try.prog 17 #[.pointer (some ⟨g, 0, none⟩), .int .i64 n] V fun e w' => e = .returned (.int .u8 0) ∧ V = w') := fun V t => by have := q_state t HWn.out; rwa [k0] at this
          clear k0
          go_wp2_with (first
            | (go_at_call 19; (with_reducible refine HDo.out.mono ?_); rintro e w5 ⟨rfl, t5, b5, k5⟩; have T5 := Lib.hid t5; have B5 := Lib.hid (hB.out.trans b5); clear t5 b5 k5)
            | (go_at_call 17; (with_reducible refine (HSt.out _ T5.out).mono ?_); rintro e w' ⟨rfl, rfl⟩))
          go_ret
          exact ⟨rfl, B5.out⟩
      · obtain ⟨h4, hin⟩ := HKst.out y hKp.out
        have HEn := Lib.hid (turn13 hT.out hO.out HWn.out h4 hin)
        have HBl := Lib.hid (fun (V : World) (q : Below W.heap.size wr V) => hB.out.trans q)
        clear h4 hin
        by_cases hlt : k < es.length
        · have hlti : (k : Int) < (es.length : Int) := by omega
          obtain rfl : k = 30 := by omega
          clear hgo
          go_wp2_with (first
            | (go_at_call 21; (with_reducible refine HEn.out.mono ?_); rintro e w5 ⟨rfl, b5, hr⟩; have B5 := Lib.hid (hB.out.trans b5); have HR := Lib.hid hr; clear b5 hr)
            | (go_at_call 22; (with_reducible refine HR.out.mono ?_); rintro e w6 ⟨rfl, b6⟩; have B6 := Lib.hid (B5.out.trans b6); clear b6))
          go_ret
          exact ⟨rfl, B6.out⟩
        · have hlti : ¬ (k : Int) < (es.length : Int) := by omega
          clear hgo
          go_wp2_with (first
            | (go_at_call 21; (with_reducible refine HEn.out.mono ?_); rintro e w5 ⟨rfl, b5, hr⟩; have B5 := Lib.hid (hB.out.trans b5); have HR := Lib.hid hr; clear b5 hr)
            | (go_at_call 22; (with_reducible refine HR.out.mono ?_); rintro e w6 ⟨rfl, b6⟩; have B6 := Lib.hid (B5.out.trans b6); clear b6))
          go_ret
          exact ⟨rfl, B6.out⟩
  · have hs : ((stG x.l n : Int) != 4) = true := by simp; omega
    generalize stG x.l n = st at *
    clear h4
    go_wp2_with (refine HS.out.mono ?_; rintro e w' ⟨rfl, rfl⟩)
    go_ret
    exact ⟨rfl, HB2.out⟩
end Go.Proofs.Ytdndchoghhllmaa
