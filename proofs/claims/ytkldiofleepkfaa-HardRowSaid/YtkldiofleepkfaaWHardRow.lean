/- HardRow. Here: the walk of the law's text. -/
import Derived.Test.YtkldiofleepkfaaIG
import Derived.WalkKit
import Derived.OpenShut
set_option linter.unusedVariables false
set_option linter.unusedSimpArgs false
namespace Go.Proofs.Ytkldiofleepkfaa.HardRow
open Go.RowKit Hd
set_option maxRecDepth 100000 in
set_option maxHeartbeats 4000000 in
theorem walk (bk mn at_ : Int) (w : World) (hb : (Lit.int .u8 bk).wf = true) (hm : (Lit.int .u8 mn).wf = true) (ha : (Lit.int .u8 at_).wf = true) : Calls Try.prog 3 #[.int .u8 bk, .int .u8 mn, .int .u8 at_] w fun e w' => e = .returned (.bool true) ∧ Below w.heap.size w w' := by
  have HD := Lib.hid (cnew (m := 4) (by decide) (by decide) w)
  have hb1 := bounds8 hb
  have hm1 := bounds8 hm
  have ha1 := bounds8 ha
  obtain ⟨n, hn⟩ : ∃ n, n = mn.toNat % 20 + 2 := ⟨_, rfl⟩
  obtain ⟨b, hbb⟩ : ∃ b, b = bk.toNat % 4 := ⟨_, rfl⟩
  obtain ⟨cut, hcut⟩ : ∃ cut, cut = at_.toNat % n := ⟨_, rfl⟩
  have hn2 : 2 ≤ n := by omega
  have hn21 : n ≤ 21 := by omega
  have hb4 : b < 4 := by omega
  have hcn : cut < n := by rw [hcut]; exact Nat.mod_lt _ (by omega)
  have en : wrap64 ((wrap64 mn).tmod 20 + 2) = (n : Int) := by
    have h := tmN hm1.1 20
    rw [w64 hm1.1 (by omega), show ((20 : Int)) = ((20 : Nat) : Int) from rfl, h, w64 (by omega) (by omega)]; omega
  have eb : (wrap64 bk).tmod 4 = (b : Int) := by
    rw [w64 hb1.1 (by omega), show ((4 : Int)) = ((4 : Nat) : Int) from rfl, tmN hb1.1, hbb]
  have ec : (wrap64 at_).tmod (n : Int) = (cut : Int) := by
    rw [w64 ha1.1 (by omega), tmN ha1.1, hcut]
  have hz : ¬ ((n : Int) = 0) := by omega
  clear hb hm ha hn hbb hcut hb1 hm1 ha1
  go_enter Try.func3, Try.ntmps3
  go_wp2_with (first
    | (go_at_call 5; refine HD.out.mono ?_; rintro e y1 ⟨rfl, ⟨F0, hd1, hf1⟩, hb1⟩; have HD1 := Lib.hid hd1; have HB1 := Lib.hid hb1; have HN := Lib.hid (hnew hd1 (by decide)); clear hd1 hf1 hb1)
    | (go_at_call 4; refine HN.out.mono ?_; rintro e y2 ⟨g, F, rfl, he2, hf2, hb2⟩; have HE2 : Hid (EngS y2 g 4 S0 0 h0 F) := he2; have HF2 : Hid (∀ b, F b → w.heap.size ≤ b) := (fun b q => Nat.le_trans HB1.out.size (hf2 b q)); have HB2 := Lib.hid (HB1.out.trans (hb2.mono HB1.out.size)); clear he2 hf2 hb2))
  rw [en]
  clear en eb ec hz
  go_loopw [11] (fun q wr => ∃ (i : Nat) (S : Nat → Bk) (s : Hs) (cc : Nat) (F : Nat → Prop), i ≤ n ∧ q = .int .i64 i ∧ Hid (EngS wr g 4 S cc s F) ∧ cc ≤ 2 * i ∧ Hid (s.k = i) ∧ Hid (s.l = Hd.rowL (b : Int) cut i) ∧ Hid (s.sent = if 0 < cut ∧ cut < i then [0] else []) ∧ Hid s.Cnt ∧ Hid ((S b).s = noSec) ∧ Hid ((S b).b = false) ∧ Hid (Below w.heap.size w wr) ∧ Hid (∀ b, F b → w.heap.size ≤ b)) (fun q _ => n - (intOf q).toNat)
  case atStart => exact ⟨0, S0, h0, 0, F, Nat.zero_le _, rfl, HE2.out, Nat.le_refl _, rfl, rfl, by unfold Hid; rw [if_neg (by omega)]; rfl, ⟨by decide, by decide, by decide, by decide⟩, rfl, rfl, HB2.out, HF2.out⟩
  case round =>
    obtain ⟨i, S, s, cc, F1, hi, rfl, HE, hcc, Hk, Hl, Hs, Hc, HS, HSb, HB, HF⟩ := hrel
    rename World => wr
    by_cases hlt : i < n
    · have hlti : (i : Int) < (n : Int) := by omega
      have hi0 : (0 : Int) ≤ (i : Int) := by omega
      by_cases hw : i = cut ∧ 0 < i
      · obtain ⟨rfl, hpos⟩ := hw
        have hposi : (0 : Int) < (i : Int) := by omega
        have hs0 : s.sent = [] := by rw [Hs.out, if_neg (by omega)]
        obtain ⟨r1, r2, r3, r4, r5, r6, r7⟩ := row_wrote (b := b) (by omega) Hl.out hs0 HSb.out
        have HWr := Lib.hid (hwrite_at (i := b) HE.out (y := (b : Int)) rfl hb4 (by omega) (by rw [Hk.out]; omega) r1 r2)
        have R3 := Lib.hid (r3.trans HS.out)
        have R4 := Lib.hid r4
        have R5 := Lib.hid (r5.trans Hk.out)
        have R6 := Lib.hid (r6.trans Hl.out)
        have R7 : Hid ((wrH S s b).sent = rowSent i i) := by unfold Hid; rw [r7]; unfold rowSent; rw [if_pos (by omega)]
        have R8 : Hid (wrH S s b).Cnt := wrH_cnt Hc.out
        clear hs0 r1 r2 r3 r4 r5 r6 r7
        have HAdd := Lib.hid (fun wa Fa (HEa : Hid (EngS wa g 4 (wrS S s b) (cc + 1) (wrH S s b) Fa)) W' (z : Nat) (hW : Below wa.heap.size wa W') (hz : z = W'.heap.size) => hadd_at (m := 1) (k := (i : Int)) ((HEa.out.fresh hW).fresh (below_alloc1 W' (.cells #[.int .i64 b, .int .i64 i, .string (byt i), .slice none 0 0] 35))) R8.out (some ⟨z, 0, none⟩) 1 [⟨rowP (b : Int) i, []⟩] rfl (by rw [hz]; exact items_none W' Fa (fun q hq => Nat.lt_of_lt_of_le (HEa.out.lt q hq) hW.size) [⟨rowP (b : Int) i, []⟩] (fun x hx => by rw [List.mem_singleton.1 hx]) #[.int .i64 b, .int .i64 i, .string (byt i), .slice none 0 0] rfl) (fun x hx => by rw [List.mem_singleton.1 hx]; exact ⟨ok_of_right (rowP_right (by omega) (by omega) (by omega)), by simp, fun y hy => by cases hy⟩) (by rw [R5.out]; omega) (by omega) (row_ok (b := b) (n := 4) (by omega) (by omega) (by omega) (by rw [R6.out, rowL_len]; omega)) R5.out rfl)
        have HRA := Lib.hid (row_add (b := (b : Int)) (by omega) (by omega) (cut := i) (i := i) (by omega) (S := (wrS S s b)) (by rw [Int.toNat_natCast]; exact R3.out) R5.out R6.out R7.out R8.out (i : Int))
        have hcv := byt_conv i
        go_wp2_with (first
          | (go_at_call 6; refine HWr.out.mono ?_; rintro e wa ⟨rfl, Fa, hea, hka, hfa⟩; have HEa := Lib.hid hea; have HRa := Lib.hid (run_of HB.out HF.out hka hfa); clear hea hka hfa)
          | (go_at_call 7; refine (HAdd.out wa Fa HEa (World.alloc wa _) _ (below_alloc1 wa _) (by simp)).mono ?_; rintro e wb ⟨rfl, Fb, heb, hkb, hfb⟩; have HEb := Lib.hid heb; have HRb := Lib.hid (run_of (HRa.out.1.trans (((below_alloc1 wa _).trans ((below_alloc1 _ _).mono (by simp))).mono HRa.out.1.size)) HRa.out.2 hkb hfb); clear heb hkb hfb))
        go_roundw
        case rel => exact ⟨i + 1, _, _, _, Fb, by omega, by go_num, HEb.out, by omega, HRA.out.1, HRA.out.2.1, HRA.out.2.2.1.trans (by unfold rowSent; rw [if_pos (by omega), if_pos (by omega)]), HRA.out.2.2.2, R3.out, R4.out, HRb.out.1, HRb.out.2⟩
        case measure => simp [intOf]; omega
      · have HsR : Hid (s.sent = rowSent cut i) := by
          unfold Hid; rw [Hs.out]; unfold rowSent
          by_cases q : 0 < cut ∧ cut < i
          · rw [if_pos q, if_pos (by omega)]
          · rw [if_neg q, if_neg (by omega)]
        have HR0 : Hid (Below w.heap.size w wr ∧ ∀ b, F1 b → w.heap.size ≤ b) := ⟨HB.out, HF.out⟩
        have hcv := byt_conv i
        have HAdd := Lib.hid (fun W' (z : Nat) (hW : Below wr.heap.size wr W') (hz : z = W'.heap.size) => hadd_at (m := 1) (k := (i : Int)) ((HE.out.fresh hW).fresh (below_alloc1 W' (.cells #[.int .i64 b, .int .i64 i, .string (byt i), .slice none 0 0] 35))) Hc.out (some ⟨z, 0, none⟩) 1 [⟨rowP (b : Int) i, []⟩] rfl (by rw [hz]; exact items_none W' F1 (fun q hq => Nat.lt_of_lt_of_le (HE.out.lt q hq) hW.size) [⟨rowP (b : Int) i, []⟩] (fun x hx => by rw [List.mem_singleton.1 hx]) #[.int .i64 b, .int .i64 i, .string (byt i), .slice none 0 0] rfl) (fun x hx => by rw [List.mem_singleton.1 hx]; exact ⟨ok_of_right (rowP_right (by omega) (by omega) (by omega)), by simp, fun y hy => by cases hy⟩) (by rw [Hk.out]; omega) (by omega) (row_ok (b := b) (n := 4) (by omega) (by omega) (by omega) (by rw [Hl.out, rowL_len]; omega)) Hk.out rfl)
        have HRA := Lib.hid (row_add (b := (b : Int)) (by omega) (by omega) (cut := cut) (i := i) (by omega) (S := S) (by rw [Int.toNat_natCast]; exact HS.out) Hk.out Hl.out HsR.out Hc.out (i : Int))
        by_cases hic : i = cut
        · have hi00 : i = 0 := by omega
          subst hic
          have hnn : ¬ ((0 : Int) < (i : Int)) := by omega
          have Hi00 := Lib.hid hi00
          clear hi00 hi0 hw
          go_wp2_with (go_at_call 7; refine (HAdd.out (World.alloc wr _) _ (below_alloc1 wr _) (by simp)).mono ?_; rintro e wb ⟨rfl, Fb, heb, hkb, hfb⟩; have HEb := Lib.hid heb; have HRb := Lib.hid (run_of (HR0.out.1.trans (((below_alloc1 wr _).trans ((below_alloc1 _ _).mono (by simp))).mono HR0.out.1.size)) HR0.out.2 hkb hfb); clear heb hkb hfb)
          go_roundw
          case rel => exact ⟨i + 1, _, _, _, Fb, by omega, by go_num, HEb.out, by omega, HRA.out.1, HRA.out.2.1, HRA.out.2.2.1.trans (by have := Hi00.out; unfold rowSent; rw [if_neg (by omega), if_neg (by omega)]), HRA.out.2.2.2, HS.out, HSb.out, HRb.out.1, HRb.out.2⟩
          case measure => simp [intOf]; omega
        · have hici : ¬ ((i : Int) = (cut : Int)) := by omega
          go_wp2_with (go_at_call 7; refine (HAdd.out (World.alloc wr _) _ (below_alloc1 wr _) (by simp)).mono ?_; rintro e wb ⟨rfl, Fb, heb, hkb, hfb⟩; have HEb := Lib.hid heb; have HRb := Lib.hid (run_of (HR0.out.1.trans (((below_alloc1 wr _).trans ((below_alloc1 _ _).mono (by simp))).mono HR0.out.1.size)) HR0.out.2 hkb hfb); clear heb hkb hfb)
          go_roundw
          case rel => exact ⟨i + 1, _, _, _, Fb, by omega, by go_num, HEb.out, by omega, HRA.out.1, HRA.out.2.1, HRA.out.2.2.1.trans (sent_next cut i), HRA.out.2.2.2, HS.out, HSb.out, HRb.out.1, HRb.out.2⟩
          case measure => simp [intOf]; omega
    · obtain rfl : i = n := by omega
      have hlti : ¬ (i : Int) < (i : Int) := by omega
      have HU := Lib.hid (fun W (hW : Below wr.heap.size wr W) => hunits (HE.out.fresh hW) (by omega))
      have hul : (units s.l).length = if 0 < cut ∧ cut < i then 2 else 1 := by rw [Hl.out]; exact row_units (by omega)
      have hol : (nums (ofU s.l 0)).length = if 0 < cut ∧ cut < i then cut else i := by unfold nums; rw [List.length_map, Hl.out]; exact row_of i
      have HO := Lib.hid (fun W (hW : Below wr.heap.size wr W) => hof (HE.out.fresh hW) 0 (by unfold WfI; omega))
      generalize units s.l = us at HU hul
      generalize nums (ofU s.l 0) = os at HO hol
      by_cases hc0 : cut = 0
      · subst hc0
        rw [if_neg (by omega)] at hul hol
        unfold Says at HU HO
        rw [hul] at HU
        rw [hol] at HO
        go_wp2_with (first
          | (go_at_call 8; refine (HU.out _ (Below.refl _ _)).mono ?_; rintro e wa ⟨A1, c1, rfl, _, hb1⟩; have HB1' := Lib.hid hb1; clear hb1)
          | (go_at_call 9; refine (live_any _).mono ?_; rintro e wb ⟨rfl, hb2⟩; have HB2' := Lib.hid (HB1'.out.trans (hb2.mono HB1'.out.size)); clear hb2)
          | (go_at_call 10; refine (HO.out _ HB2'.out).mono ?_; rintro e wc ⟨A3, c3, rfl, _, hb3⟩; have HB3' := Lib.hid (HB2'.out.trans (hb3.mono HB2'.out.size)); clear hb3))
        go_ret
        exact ⟨rfl, HB.out.trans (HB3'.out.mono HB.out.size)⟩
      · have hc1 : ¬ ((cut : Int) = 0) := by omega
        rw [if_pos (by omega)] at hul hol
        unfold Says at HU HO
        rw [hul] at HU
        rw [hol] at HO
        have hm : Hid (((cut : Int) == (i : Int) - ((i : Int) - (cut : Int))) = true) := by unfold Hid; rw [beq_iff_eq]; omega
        go_wp2_with (first
          | (go_at_call 8; refine (HU.out _ (Below.refl _ _)).mono ?_; rintro e wa ⟨A1, c1, rfl, _, hb1⟩; have HB1' := Lib.hid hb1; clear hb1)
          | (go_at_call 9; refine (live_any _).mono ?_; rintro e wb ⟨rfl, hb2⟩; have HB2' := Lib.hid (HB1'.out.trans (hb2.mono HB1'.out.size)); clear hb2)
          | (go_at_call 10; refine (HO.out _ HB2'.out).mono ?_; rintro e wc ⟨A3, c3, rfl, _, hb3⟩; have HB3' := Lib.hid (HB2'.out.trans (hb3.mono HB2'.out.size)); clear hb3))
        go_ret
        exact ⟨congrArg (fun t => Ending.returned (Value.bool t)) hm.out, HB.out.trans (HB3'.out.mono HB.out.size)⟩
end Go.Proofs.Ytkldiofleepkfaa.HardRow
