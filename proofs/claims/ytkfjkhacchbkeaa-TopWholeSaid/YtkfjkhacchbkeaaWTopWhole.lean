/- TopWhole holds whatever comes in. Here: the walk of the law's text. -/
import Derived.Test.YtkfjkhacchbkeaaU
namespace Go.Proofs.Ytkfjkhacchbkeaa
set_option linter.unusedVariables false
set_option linter.unusedSimpArgs false
open Go.RowKit

set_option maxRecDepth 100000 in
set_option maxHeartbeats 4000000 in
theorem TopWhole.walk (a0 : Option Addr) (len0 cap0 : Nat) (ps : List Pat.Pt) (a1 : Option Addr) (len1 cap1 : Nat) (zs : List Int) (W : World) (h0 : Pat.IsPats W a0 len0 cap0 ps) (h1 : IsRow .i64 W a1 len1 cap1 zs) :
    Calls Try.prog 12 #[.slice a0 len0 cap0, .slice a1 len1 cap1] W fun e W' => e = .returned (.bool true) ∧ Below W.heap.size W W' := by
  obtain ⟨g1, g2, g3, g4, g5⟩ := h0
  obtain ⟨k1, k2, k3, k4⟩ := h1.ints
  have hl20 : (ps.take 20).length = min 20 len0 := by rw [List.length_take, g1]
  have hs30 : ((zs.take len1).take 30).length = min 30 len1 := by rw [List.length_take, k4]
  have HP : Hid (Pat.Pats W W.heap.size a0 (ps.take 20)) := Pats.take g4 20
  have HF : Hid (Fine (ps.take 20)) := Fine.take g5 20
  have HSm := Lib.hid (k3.take 30)
  unfold maxLen at g3 k2
  obtain ⟨l, hl⟩ : ∃ l, l = ps.take 20 := ⟨_, rfl⟩
  rw [← hl] at hl20 HP HF
  obtain ⟨s, hse⟩ : ∃ s, s = (zs.take len1).take 30 := ⟨_, rfl⟩
  rw [← hse] at hs30 HSm
  obtain ⟨n, hn⟩ : ∃ n, n = min 20 len0 := ⟨_, rfl⟩
  rw [← hn] at hl20
  obtain ⟨n1, hn1⟩ : ∃ n1, n1 = min 30 len1 := ⟨_, rfl⟩
  rw [← hn1] at hs30
  have Hl := Lib.hid hl20
  have Hs := Lib.hid hs30
  have hn20 : n ≤ 20 := by omega
  have hn30 : n1 ≤ 30 := by omega
  have HOv : Hid (Calls Try.prog 27 #[.slice a0 n cap0] W (OvA W l)) := (overlaps_any a0 cap0 n l Hl.out.symm W (by rw [Hl.out]; omega) HF.out HP.out).mono fun e w' h => h.any HF.out
  obtain ⟨i0, hi, hz0, hz1, hz2⟩ := info_parts info3
  clear hl g4 g5 k3 k4 h1 hl20 g1 hse hs30 HP
  by_cases h20 : 20 < len0
  · obtain rfl : n = 20 := by omega
    have h20i : (20 : Int) < (len0 : Int) := by omega
    clear hn
    by_cases h30 : 30 < len1
    · obtain rfl : n1 = 30 := by omega
      have h30i : (30 : Int) < (len1 : Int) := by omega
      clear hn1
      go_enter Try.func12, Try.ntmps12
      go_wp2_with fail
      refine HOv.out.mono ?_
      rintro e w1 ⟨hB1, ls, Ai, ci, rfl, hI1, hlen1, hlen2, hF1, hr1, _⟩
      have hr : rightL (overL ls) = true := by rw [rightL_overL]; exact hr1
      have HI1 := Lib.hid hI1
      have HB1 := Lib.hid hB1
      have hls : ls.length ≤ 20 := by rw [Hl.out] at hlen1; omega
      have HS := Lib.hid (small_overL hF1 (by omega))
      have Hr := Lib.hid hr
      have HokD := Lib.hid (okD_mdeps hr)
      have HokI := Lib.hid (right_out hr).2.1
      have Hexp := Lib.hid (expand_closed hr)
      have Hall := Lib.hid (expand_all hr)
      have HdI := Lib.hid (right_out hr).1
      have HSs := Lib.hid (HSm.out.next hB1)
      obtain ⟨it, hit⟩ : ∃ it, it = overL ls := ⟨_, rfl⟩
      have hil : it.length = ls.length := by rw [hit, length_overL]
      rw [← hit] at HI1 HS Hr HokD HokI Hexp Hall HdI
      rw [← hil]
      obtain ⟨nn, hnn⟩ : ∃ nn, nn = it.length := ⟨_, rfl⟩
      have Hnn := Lib.hid hnn
      have hnn20 : nn ≤ 20 := by omega
      have hng := (groupsL_len it).2
      rw [← hnn] at hng ⊢
      obtain ⟨ng, hnge⟩ : ∃ ng, ng = (groupsL it).length := ⟨_, rfl⟩
      rw [← hnge] at hng Hall
      have Hng := Lib.hid hnge
      have hMl : (mdepsL it).length = ng := by rw [length_mdepsL, hnge]
      have HMl := Lib.hid hMl
      clear hI1 hB1 hF1 hr1 hr hlen1 hlen2 hls HOv hnn hit hil hnge hMl
      go_wp2_with fail
      refine (deps_any Ai ci nn it Hnn.out w1 (by rw [← Hnn.out]; omega) HS.out HI1.out).mono ?_
      rintro e w2 ⟨A2, c2, rfl, hM2, hB2⟩
      rw [HMl.out]
      have HM2 := Lib.hid hM2
      have HI2 := Lib.hid (HI1.out.next hB2)
      have HSs2 := Lib.hid (HSs.out.next hB2)
      have HB2 := Lib.hid (HB1.out.trans (hB2.mono HB1.out.size))
      clear hM2 hB2 HI1 HSs HB1
      go_wp2_with fail
      refine (close_at A2 c2 ng (mdepsL it) HMl.out.symm HokD.out a1 cap1 _ s Hs.out.symm (by rw [Hs.out]; omega) w2 HM2.out HSs2.out).mono ?_
      rintro e w3 ⟨A3, c3, rfl, hI3, hB3⟩
      have HC3 := Lib.hid hI3
      have HI3 := Lib.hid (HI2.out.next hB3)
      have HB3 := Lib.hid (HB2.out.trans (hB3.mono HB2.out.size))
      have hcl := length_closeL (mdepsL it) HokD.out s
      have HX := Lib.hid (Hexp.out s)
      obtain ⟨cl, hcle⟩ : ∃ cl, cl = closeL (mdepsL it) s := ⟨_, rfl⟩
      rw [← hcle] at HC3 hcl HX ⊢
      clear hI3 hB3 HI2 HB2 HSs2 HM2 hcle
      go_wp2_with fail
      refine (expand_any Ai ci nn it A3 c3 cl.length (natsI cl) Hnn.out (length_natsI _).symm w3 (by rw [← Hnn.out]; omega) (by rw [length_natsI]; omega) HS.out HI3.out HC3.out).mono ?_
      rintro e w4 ⟨A4, c4, rfl, hI4, hB4⟩
      have HX4 := Lib.hid hI4
      have HI4 := Lib.hid (HI3.out.next hB4)
      have HB4 := Lib.hid (HB3.out.trans (hB4.mono HB3.out.size))
      have hxl := expand_len it (natsI cl)
      obtain ⟨x, hx⟩ : ∃ x, x = expandL it (natsI cl) := ⟨_, rfl⟩
      rw [← hx] at HX4 HX hxl ⊢
      clear hI4 hB4 HI3 HB3 HC3 hx hcl
      go_wp2_with fail
      go_loopw [8, 9] (fun v i wr => ∃ k : Nat, k ≤ ng ∧ i = .int .i64 k ∧ wr.ownsRow w4.heap.size 3 1 v k (natsV (List.range k)) ∧ Below w4.heap.size w4 wr) (fun _ i _ => ng - (intOf i).toNat)
      case atStart => exact ⟨0, Nat.zero_le _, rfl, World.ownsRow_nil _ _ _ _, Below.refl _ _⟩
      case round =>
        obtain ⟨k, hk, rfl, hown, hB⟩ := hrel
        rename World => wr
        have hk0 : (0 : Int) ≤ (k : Int) := by omega
        have HI5 := Lib.hid (HI4.out.next hB)
        have HX5 := Lib.hid (HX4.out.next hB)
        have Hown := Lib.hid hown
        have HB := Lib.hid hB
        have HG := Lib.hid (groups_any Ai ci nn it Hnn.out wr (by rw [← Hnn.out]; omega) HS.out HI5.out)
        clear hown hB
        by_cases hlt : k < ng
        · have hlti : (k : Int) < (ng : Int) := by omega
          go_wp2_with fail
          refine HG.out.mono ?_
          rintro e w6 ⟨A6, c6, rfl, _, hB6⟩
          rw [← Hng.out]
          have hown := own_lay Hown.out hB6
          have hB := HB.out.trans (hB6.mono HB.out.size)
          have hsz := hB.size
          clear hB6 HG
          go_wp2_with (at_builtin; refine wpList_append_own _ rfl _ _ 29 rfl w4.heap.size 3 i0 (.int .i64 0) 1 8 Try.underlying29 hi hz0 hz1 hz2 rfl (by decide) _ _ _ rfl (hown.alloc _) ⟨w6.heap.size, 0, none⟩ 1 1 [.int .i64 ((k : Nat) : Int)] rfl rfl (cell_one_new _ _ _) (by simp [Value.oneCell']) (by unfold maxLen; omega) (by omega) (by simp; omega) ?_; intro v' w7 hown' hgrow _; have hB7 : Below w4.heap.size w4 w7 := hB.trans ((((Below.refl _ w6).alloc hsz _)).grown hgrow (by simp; omega) (fun j e => (hown.lt j e).1)); have Hown7 := Lib.hid hown'; have HB7 := Lib.hid hB7; clear hown' hB7 hgrow)
          go_roundw
          case rel => exact ⟨k + 1, by omega, by go_num, by rw [List.range_succ]; simpa [natsV] using Hown7.out, HB7.out⟩
          case measure => simp [intOf]; omega
        · have hlti : ¬ (k : Int) < (ng : Int) := by omega
          obtain rfl : k = ng := by omega
          have ho := Hown.out
          rw [natsV_intsV] at ho
          obtain ⟨A5, c5, rfl, _, _, hI5a⟩ := own_ints (n := k) ho
          go_wp2_with fail
          refine HG.out.mono ?_
          rintro e w6 ⟨A6, c6, rfl, _, hB6⟩
          rw [← Hng.out]
          have HA6 := Lib.hid (Ints.next hI5a hB6)
          have HI6 := Lib.hid (HI5.out.next hB6)
          have HX6 := Lib.hid (HX5.out.next hB6)
          have HB6 := Lib.hid (HB4.out.trans ((HB.out.trans (hB6.mono HB.out.size)).mono HB4.out.size))
          clear hB6 HG hI5a ho HI5 HX5 Hown HB4 HB
          go_wp2_with fail
          refine (topDepsOf_any Ai ci nn it Hnn.out w6 (by rw [← Hnn.out]; omega) HI6.out).mono ?_
          rintro e w7 ⟨A7, c7, rfl, hM7, hB7⟩
          rw [HdI.out] at hM7
          have HDl : Hid (nn = (depsN it).length) := by unfold Hid; rw [length_depsN]; exact Hnn.out
          rw [← Hnn.out]
          have HM7 := Lib.hid hM7
          have HA7 := Lib.hid (HA6.out.next hB7)
          have HI7 := Lib.hid (HI6.out.next hB7)
          have HX7 := Lib.hid (HX6.out.next hB7)
          have HB7 := Lib.hid (HB6.out.trans (hB7.mono HB6.out.size))
          clear hM7 hB7 HA6 HI6 HX6 HB6
          have Hlr : Hid ((natsI (List.range k)).length = k) := by unfold Hid; rw [length_natsI, List.length_range]
          have Hlall : Hid ((expandL it (natsI (List.range k))).length = nn) := by unfold Hid; rw [Hall.out, List.length_range]; exact Hnn.out.symm
          have hkn : (k : Int) ≤ (nn : Int) := by omega
          rw [Hlr.out]
          go_wp2_with (first
            | (go_at_call 35; refine (closed_yes A7 c7 nn (depsN it) HDl.out HokI.out A4 c4 x.length (natsI x) (length_natsI _).symm (by rw [length_natsI]; omega) w7 HM7.out HX7.out).mono ?_; rintro e w8 ⟨rfl, hB8⟩; rw [closedB_yes HX.out]; have HA8 := Lib.hid (HA7.out.next hB8); have HI8 := Lib.hid (HI7.out.next hB8); have HB8 := Lib.hid (HB7.out.trans (hB8.mono HB7.out.size)); clear hB8)
            | (go_at_call 23; refine (expand_any Ai ci nn it A5 c5 k (natsI (List.range k)) Hnn.out Hlr.out.symm w8 (by rw [← Hnn.out]; omega) (by rw [Hlr.out]; omega) HS.out HI8.out HA8.out).mono ?_; rintro e w9 ⟨A9, c9, rfl, _, hB9⟩; rw [Hlall.out]; have HI9 := Lib.hid (HI8.out.next hB9); have HB9 := Lib.hid (HB8.out.trans (hB9.mono HB8.out.size)); clear hB9)
            | (go_at_call 15; have hmr := mright_any Ai ci nn it Hnn.out w9 (by rw [← Hnn.out]; omega) HS.out HI9.out; rw [Hr.out] at hmr; refine hmr.mono ?_; clear hmr; rintro e wa ⟨rfl, hBa⟩; have HBa := Lib.hid (HB9.out.trans (hBa.mono HB9.out.size)); clear hBa))
          go_ret
          exact ⟨rfl, HBa.out⟩
    · obtain rfl : n1 = len1 := by omega
      have h30i : ¬ (30 : Int) < (n1 : Int) := by omega
      clear hn1
      go_enter Try.func12, Try.ntmps12
      go_wp2_with fail
      refine HOv.out.mono ?_
      rintro e w1 ⟨hB1, ls, Ai, ci, rfl, hI1, hlen1, hlen2, hF1, hr1, _⟩
      have hr : rightL (overL ls) = true := by rw [rightL_overL]; exact hr1
      have HI1 := Lib.hid hI1
      have HB1 := Lib.hid hB1
      have hls : ls.length ≤ 20 := by rw [Hl.out] at hlen1; omega
      have HS := Lib.hid (small_overL hF1 (by omega))
      have Hr := Lib.hid hr
      have HokD := Lib.hid (okD_mdeps hr)
      have HokI := Lib.hid (right_out hr).2.1
      have Hexp := Lib.hid (expand_closed hr)
      have Hall := Lib.hid (expand_all hr)
      have HdI := Lib.hid (right_out hr).1
      have HSs := Lib.hid (HSm.out.next hB1)
      obtain ⟨it, hit⟩ : ∃ it, it = overL ls := ⟨_, rfl⟩
      have hil : it.length = ls.length := by rw [hit, length_overL]
      rw [← hit] at HI1 HS Hr HokD HokI Hexp Hall HdI
      rw [← hil]
      obtain ⟨nn, hnn⟩ : ∃ nn, nn = it.length := ⟨_, rfl⟩
      have Hnn := Lib.hid hnn
      have hnn20 : nn ≤ 20 := by omega
      have hng := (groupsL_len it).2
      rw [← hnn] at hng ⊢
      obtain ⟨ng, hnge⟩ : ∃ ng, ng = (groupsL it).length := ⟨_, rfl⟩
      rw [← hnge] at hng Hall
      have Hng := Lib.hid hnge
      have hMl : (mdepsL it).length = ng := by rw [length_mdepsL, hnge]
      have HMl := Lib.hid hMl
      clear hI1 hB1 hF1 hr1 hr hlen1 hlen2 hls HOv hnn hit hil hnge hMl
      go_wp2_with fail
      refine (deps_any Ai ci nn it Hnn.out w1 (by rw [← Hnn.out]; omega) HS.out HI1.out).mono ?_
      rintro e w2 ⟨A2, c2, rfl, hM2, hB2⟩
      rw [HMl.out]
      have HM2 := Lib.hid hM2
      have HI2 := Lib.hid (HI1.out.next hB2)
      have HSs2 := Lib.hid (HSs.out.next hB2)
      have HB2 := Lib.hid (HB1.out.trans (hB2.mono HB1.out.size))
      clear hM2 hB2 HI1 HSs HB1
      go_wp2_with fail
      refine (close_at A2 c2 ng (mdepsL it) HMl.out.symm HokD.out a1 cap1 _ s Hs.out.symm (by rw [Hs.out]; omega) w2 HM2.out HSs2.out).mono ?_
      rintro e w3 ⟨A3, c3, rfl, hI3, hB3⟩
      have HC3 := Lib.hid hI3
      have HI3 := Lib.hid (HI2.out.next hB3)
      have HB3 := Lib.hid (HB2.out.trans (hB3.mono HB2.out.size))
      have hcl := length_closeL (mdepsL it) HokD.out s
      have HX := Lib.hid (Hexp.out s)
      obtain ⟨cl, hcle⟩ : ∃ cl, cl = closeL (mdepsL it) s := ⟨_, rfl⟩
      rw [← hcle] at HC3 hcl HX ⊢
      clear hI3 hB3 HI2 HB2 HSs2 HM2 hcle
      go_wp2_with fail
      refine (expand_any Ai ci nn it A3 c3 cl.length (natsI cl) Hnn.out (length_natsI _).symm w3 (by rw [← Hnn.out]; omega) (by rw [length_natsI]; omega) HS.out HI3.out HC3.out).mono ?_
      rintro e w4 ⟨A4, c4, rfl, hI4, hB4⟩
      have HX4 := Lib.hid hI4
      have HI4 := Lib.hid (HI3.out.next hB4)
      have HB4 := Lib.hid (HB3.out.trans (hB4.mono HB3.out.size))
      have hxl := expand_len it (natsI cl)
      obtain ⟨x, hx⟩ : ∃ x, x = expandL it (natsI cl) := ⟨_, rfl⟩
      rw [← hx] at HX4 HX hxl ⊢
      clear hI4 hB4 HI3 HB3 HC3 hx hcl
      go_wp2_with fail
      go_loopw [8, 9] (fun v i wr => ∃ k : Nat, k ≤ ng ∧ i = .int .i64 k ∧ wr.ownsRow w4.heap.size 3 1 v k (natsV (List.range k)) ∧ Below w4.heap.size w4 wr) (fun _ i _ => ng - (intOf i).toNat)
      case atStart => exact ⟨0, Nat.zero_le _, rfl, World.ownsRow_nil _ _ _ _, Below.refl _ _⟩
      case round =>
        obtain ⟨k, hk, rfl, hown, hB⟩ := hrel
        rename World => wr
        have hk0 : (0 : Int) ≤ (k : Int) := by omega
        have HI5 := Lib.hid (HI4.out.next hB)
        have HX5 := Lib.hid (HX4.out.next hB)
        have Hown := Lib.hid hown
        have HB := Lib.hid hB
        have HG := Lib.hid (groups_any Ai ci nn it Hnn.out wr (by rw [← Hnn.out]; omega) HS.out HI5.out)
        clear hown hB
        by_cases hlt : k < ng
        · have hlti : (k : Int) < (ng : Int) := by omega
          go_wp2_with fail
          refine HG.out.mono ?_
          rintro e w6 ⟨A6, c6, rfl, _, hB6⟩
          rw [← Hng.out]
          have hown := own_lay Hown.out hB6
          have hB := HB.out.trans (hB6.mono HB.out.size)
          have hsz := hB.size
          clear hB6 HG
          go_wp2_with (at_builtin; refine wpList_append_own _ rfl _ _ 29 rfl w4.heap.size 3 i0 (.int .i64 0) 1 8 Try.underlying29 hi hz0 hz1 hz2 rfl (by decide) _ _ _ rfl (hown.alloc _) ⟨w6.heap.size, 0, none⟩ 1 1 [.int .i64 ((k : Nat) : Int)] rfl rfl (cell_one_new _ _ _) (by simp [Value.oneCell']) (by unfold maxLen; omega) (by omega) (by simp; omega) ?_; intro v' w7 hown' hgrow _; have hB7 : Below w4.heap.size w4 w7 := hB.trans ((((Below.refl _ w6).alloc hsz _)).grown hgrow (by simp; omega) (fun j e => (hown.lt j e).1)); have Hown7 := Lib.hid hown'; have HB7 := Lib.hid hB7; clear hown' hB7 hgrow)
          go_roundw
          case rel => exact ⟨k + 1, by omega, by go_num, by rw [List.range_succ]; simpa [natsV] using Hown7.out, HB7.out⟩
          case measure => simp [intOf]; omega
        · have hlti : ¬ (k : Int) < (ng : Int) := by omega
          obtain rfl : k = ng := by omega
          have ho := Hown.out
          rw [natsV_intsV] at ho
          obtain ⟨A5, c5, rfl, _, _, hI5a⟩ := own_ints (n := k) ho
          go_wp2_with fail
          refine HG.out.mono ?_
          rintro e w6 ⟨A6, c6, rfl, _, hB6⟩
          rw [← Hng.out]
          have HA6 := Lib.hid (Ints.next hI5a hB6)
          have HI6 := Lib.hid (HI5.out.next hB6)
          have HX6 := Lib.hid (HX5.out.next hB6)
          have HB6 := Lib.hid (HB4.out.trans ((HB.out.trans (hB6.mono HB.out.size)).mono HB4.out.size))
          clear hB6 HG hI5a ho HI5 HX5 Hown HB4 HB
          go_wp2_with fail
          refine (topDepsOf_any Ai ci nn it Hnn.out w6 (by rw [← Hnn.out]; omega) HI6.out).mono ?_
          rintro e w7 ⟨A7, c7, rfl, hM7, hB7⟩
          rw [HdI.out] at hM7
          have HDl : Hid (nn = (depsN it).length) := by unfold Hid; rw [length_depsN]; exact Hnn.out
          rw [← Hnn.out]
          have HM7 := Lib.hid hM7
          have HA7 := Lib.hid (HA6.out.next hB7)
          have HI7 := Lib.hid (HI6.out.next hB7)
          have HX7 := Lib.hid (HX6.out.next hB7)
          have HB7 := Lib.hid (HB6.out.trans (hB7.mono HB6.out.size))
          clear hM7 hB7 HA6 HI6 HX6 HB6
          have Hlr : Hid ((natsI (List.range k)).length = k) := by unfold Hid; rw [length_natsI, List.length_range]
          have Hlall : Hid ((expandL it (natsI (List.range k))).length = nn) := by unfold Hid; rw [Hall.out, List.length_range]; exact Hnn.out.symm
          have hkn : (k : Int) ≤ (nn : Int) := by omega
          rw [Hlr.out]
          go_wp2_with (first
            | (go_at_call 35; refine (closed_yes A7 c7 nn (depsN it) HDl.out HokI.out A4 c4 x.length (natsI x) (length_natsI _).symm (by rw [length_natsI]; omega) w7 HM7.out HX7.out).mono ?_; rintro e w8 ⟨rfl, hB8⟩; rw [closedB_yes HX.out]; have HA8 := Lib.hid (HA7.out.next hB8); have HI8 := Lib.hid (HI7.out.next hB8); have HB8 := Lib.hid (HB7.out.trans (hB8.mono HB7.out.size)); clear hB8)
            | (go_at_call 23; refine (expand_any Ai ci nn it A5 c5 k (natsI (List.range k)) Hnn.out Hlr.out.symm w8 (by rw [← Hnn.out]; omega) (by rw [Hlr.out]; omega) HS.out HI8.out HA8.out).mono ?_; rintro e w9 ⟨A9, c9, rfl, _, hB9⟩; rw [Hlall.out]; have HI9 := Lib.hid (HI8.out.next hB9); have HB9 := Lib.hid (HB8.out.trans (hB9.mono HB8.out.size)); clear hB9)
            | (go_at_call 15; have hmr := mright_any Ai ci nn it Hnn.out w9 (by rw [← Hnn.out]; omega) HS.out HI9.out; rw [Hr.out] at hmr; refine hmr.mono ?_; clear hmr; rintro e wa ⟨rfl, hBa⟩; have HBa := Lib.hid (HB9.out.trans (hBa.mono HB9.out.size)); clear hBa))
          go_ret
          exact ⟨rfl, HBa.out⟩
  · obtain rfl : n = len0 := by omega
    have h20i : ¬ (20 : Int) < (n : Int) := by omega
    clear hn
    by_cases h30 : 30 < len1
    · obtain rfl : n1 = 30 := by omega
      have h30i : (30 : Int) < (len1 : Int) := by omega
      clear hn1
      go_enter Try.func12, Try.ntmps12
      go_wp2_with fail
      refine HOv.out.mono ?_
      rintro e w1 ⟨hB1, ls, Ai, ci, rfl, hI1, hlen1, hlen2, hF1, hr1, _⟩
      have hr : rightL (overL ls) = true := by rw [rightL_overL]; exact hr1
      have HI1 := Lib.hid hI1
      have HB1 := Lib.hid hB1
      have hls : ls.length ≤ 20 := by rw [Hl.out] at hlen1; omega
      have HS := Lib.hid (small_overL hF1 (by omega))
      have Hr := Lib.hid hr
      have HokD := Lib.hid (okD_mdeps hr)
      have HokI := Lib.hid (right_out hr).2.1
      have Hexp := Lib.hid (expand_closed hr)
      have Hall := Lib.hid (expand_all hr)
      have HdI := Lib.hid (right_out hr).1
      have HSs := Lib.hid (HSm.out.next hB1)
      obtain ⟨it, hit⟩ : ∃ it, it = overL ls := ⟨_, rfl⟩
      have hil : it.length = ls.length := by rw [hit, length_overL]
      rw [← hit] at HI1 HS Hr HokD HokI Hexp Hall HdI
      rw [← hil]
      obtain ⟨nn, hnn⟩ : ∃ nn, nn = it.length := ⟨_, rfl⟩
      have Hnn := Lib.hid hnn
      have hnn20 : nn ≤ 20 := by omega
      have hng := (groupsL_len it).2
      rw [← hnn] at hng ⊢
      obtain ⟨ng, hnge⟩ : ∃ ng, ng = (groupsL it).length := ⟨_, rfl⟩
      rw [← hnge] at hng Hall
      have Hng := Lib.hid hnge
      have hMl : (mdepsL it).length = ng := by rw [length_mdepsL, hnge]
      have HMl := Lib.hid hMl
      clear hI1 hB1 hF1 hr1 hr hlen1 hlen2 hls HOv hnn hit hil hnge hMl
      go_wp2_with fail
      refine (deps_any Ai ci nn it Hnn.out w1 (by rw [← Hnn.out]; omega) HS.out HI1.out).mono ?_
      rintro e w2 ⟨A2, c2, rfl, hM2, hB2⟩
      rw [HMl.out]
      have HM2 := Lib.hid hM2
      have HI2 := Lib.hid (HI1.out.next hB2)
      have HSs2 := Lib.hid (HSs.out.next hB2)
      have HB2 := Lib.hid (HB1.out.trans (hB2.mono HB1.out.size))
      clear hM2 hB2 HI1 HSs HB1
      go_wp2_with fail
      refine (close_at A2 c2 ng (mdepsL it) HMl.out.symm HokD.out a1 cap1 _ s Hs.out.symm (by rw [Hs.out]; omega) w2 HM2.out HSs2.out).mono ?_
      rintro e w3 ⟨A3, c3, rfl, hI3, hB3⟩
      have HC3 := Lib.hid hI3
      have HI3 := Lib.hid (HI2.out.next hB3)
      have HB3 := Lib.hid (HB2.out.trans (hB3.mono HB2.out.size))
      have hcl := length_closeL (mdepsL it) HokD.out s
      have HX := Lib.hid (Hexp.out s)
      obtain ⟨cl, hcle⟩ : ∃ cl, cl = closeL (mdepsL it) s := ⟨_, rfl⟩
      rw [← hcle] at HC3 hcl HX ⊢
      clear hI3 hB3 HI2 HB2 HSs2 HM2 hcle
      go_wp2_with fail
      refine (expand_any Ai ci nn it A3 c3 cl.length (natsI cl) Hnn.out (length_natsI _).symm w3 (by rw [← Hnn.out]; omega) (by rw [length_natsI]; omega) HS.out HI3.out HC3.out).mono ?_
      rintro e w4 ⟨A4, c4, rfl, hI4, hB4⟩
      have HX4 := Lib.hid hI4
      have HI4 := Lib.hid (HI3.out.next hB4)
      have HB4 := Lib.hid (HB3.out.trans (hB4.mono HB3.out.size))
      have hxl := expand_len it (natsI cl)
      obtain ⟨x, hx⟩ : ∃ x, x = expandL it (natsI cl) := ⟨_, rfl⟩
      rw [← hx] at HX4 HX hxl ⊢
      clear hI4 hB4 HI3 HB3 HC3 hx hcl
      go_wp2_with fail
      go_loopw [8, 9] (fun v i wr => ∃ k : Nat, k ≤ ng ∧ i = .int .i64 k ∧ wr.ownsRow w4.heap.size 3 1 v k (natsV (List.range k)) ∧ Below w4.heap.size w4 wr) (fun _ i _ => ng - (intOf i).toNat)
      case atStart => exact ⟨0, Nat.zero_le _, rfl, World.ownsRow_nil _ _ _ _, Below.refl _ _⟩
      case round =>
        obtain ⟨k, hk, rfl, hown, hB⟩ := hrel
        rename World => wr
        have hk0 : (0 : Int) ≤ (k : Int) := by omega
        have HI5 := Lib.hid (HI4.out.next hB)
        have HX5 := Lib.hid (HX4.out.next hB)
        have Hown := Lib.hid hown
        have HB := Lib.hid hB
        have HG := Lib.hid (groups_any Ai ci nn it Hnn.out wr (by rw [← Hnn.out]; omega) HS.out HI5.out)
        clear hown hB
        by_cases hlt : k < ng
        · have hlti : (k : Int) < (ng : Int) := by omega
          go_wp2_with fail
          refine HG.out.mono ?_
          rintro e w6 ⟨A6, c6, rfl, _, hB6⟩
          rw [← Hng.out]
          have hown := own_lay Hown.out hB6
          have hB := HB.out.trans (hB6.mono HB.out.size)
          have hsz := hB.size
          clear hB6 HG
          go_wp2_with (at_builtin; refine wpList_append_own _ rfl _ _ 29 rfl w4.heap.size 3 i0 (.int .i64 0) 1 8 Try.underlying29 hi hz0 hz1 hz2 rfl (by decide) _ _ _ rfl (hown.alloc _) ⟨w6.heap.size, 0, none⟩ 1 1 [.int .i64 ((k : Nat) : Int)] rfl rfl (cell_one_new _ _ _) (by simp [Value.oneCell']) (by unfold maxLen; omega) (by omega) (by simp; omega) ?_; intro v' w7 hown' hgrow _; have hB7 : Below w4.heap.size w4 w7 := hB.trans ((((Below.refl _ w6).alloc hsz _)).grown hgrow (by simp; omega) (fun j e => (hown.lt j e).1)); have Hown7 := Lib.hid hown'; have HB7 := Lib.hid hB7; clear hown' hB7 hgrow)
          go_roundw
          case rel => exact ⟨k + 1, by omega, by go_num, by rw [List.range_succ]; simpa [natsV] using Hown7.out, HB7.out⟩
          case measure => simp [intOf]; omega
        · have hlti : ¬ (k : Int) < (ng : Int) := by omega
          obtain rfl : k = ng := by omega
          have ho := Hown.out
          rw [natsV_intsV] at ho
          obtain ⟨A5, c5, rfl, _, _, hI5a⟩ := own_ints (n := k) ho
          go_wp2_with fail
          refine HG.out.mono ?_
          rintro e w6 ⟨A6, c6, rfl, _, hB6⟩
          rw [← Hng.out]
          have HA6 := Lib.hid (Ints.next hI5a hB6)
          have HI6 := Lib.hid (HI5.out.next hB6)
          have HX6 := Lib.hid (HX5.out.next hB6)
          have HB6 := Lib.hid (HB4.out.trans ((HB.out.trans (hB6.mono HB.out.size)).mono HB4.out.size))
          clear hB6 HG hI5a ho HI5 HX5 Hown HB4 HB
          go_wp2_with fail
          refine (topDepsOf_any Ai ci nn it Hnn.out w6 (by rw [← Hnn.out]; omega) HI6.out).mono ?_
          rintro e w7 ⟨A7, c7, rfl, hM7, hB7⟩
          rw [HdI.out] at hM7
          have HDl : Hid (nn = (depsN it).length) := by unfold Hid; rw [length_depsN]; exact Hnn.out
          rw [← Hnn.out]
          have HM7 := Lib.hid hM7
          have HA7 := Lib.hid (HA6.out.next hB7)
          have HI7 := Lib.hid (HI6.out.next hB7)
          have HX7 := Lib.hid (HX6.out.next hB7)
          have HB7 := Lib.hid (HB6.out.trans (hB7.mono HB6.out.size))
          clear hM7 hB7 HA6 HI6 HX6 HB6
          have Hlr : Hid ((natsI (List.range k)).length = k) := by unfold Hid; rw [length_natsI, List.length_range]
          have Hlall : Hid ((expandL it (natsI (List.range k))).length = nn) := by unfold Hid; rw [Hall.out, List.length_range]; exact Hnn.out.symm
          have hkn : (k : Int) ≤ (nn : Int) := by omega
          rw [Hlr.out]
          go_wp2_with (first
            | (go_at_call 35; refine (closed_yes A7 c7 nn (depsN it) HDl.out HokI.out A4 c4 x.length (natsI x) (length_natsI _).symm (by rw [length_natsI]; omega) w7 HM7.out HX7.out).mono ?_; rintro e w8 ⟨rfl, hB8⟩; rw [closedB_yes HX.out]; have HA8 := Lib.hid (HA7.out.next hB8); have HI8 := Lib.hid (HI7.out.next hB8); have HB8 := Lib.hid (HB7.out.trans (hB8.mono HB7.out.size)); clear hB8)
            | (go_at_call 23; refine (expand_any Ai ci nn it A5 c5 k (natsI (List.range k)) Hnn.out Hlr.out.symm w8 (by rw [← Hnn.out]; omega) (by rw [Hlr.out]; omega) HS.out HI8.out HA8.out).mono ?_; rintro e w9 ⟨A9, c9, rfl, _, hB9⟩; rw [Hlall.out]; have HI9 := Lib.hid (HI8.out.next hB9); have HB9 := Lib.hid (HB8.out.trans (hB9.mono HB8.out.size)); clear hB9)
            | (go_at_call 15; have hmr := mright_any Ai ci nn it Hnn.out w9 (by rw [← Hnn.out]; omega) HS.out HI9.out; rw [Hr.out] at hmr; refine hmr.mono ?_; clear hmr; rintro e wa ⟨rfl, hBa⟩; have HBa := Lib.hid (HB9.out.trans (hBa.mono HB9.out.size)); clear hBa))
          go_ret
          exact ⟨rfl, HBa.out⟩
    · obtain rfl : n1 = len1 := by omega
      have h30i : ¬ (30 : Int) < (n1 : Int) := by omega
      clear hn1
      go_enter Try.func12, Try.ntmps12
      go_wp2_with fail
      refine HOv.out.mono ?_
      rintro e w1 ⟨hB1, ls, Ai, ci, rfl, hI1, hlen1, hlen2, hF1, hr1, _⟩
      have hr : rightL (overL ls) = true := by rw [rightL_overL]; exact hr1
      have HI1 := Lib.hid hI1
      have HB1 := Lib.hid hB1
      have hls : ls.length ≤ 20 := by rw [Hl.out] at hlen1; omega
      have HS := Lib.hid (small_overL hF1 (by omega))
      have Hr := Lib.hid hr
      have HokD := Lib.hid (okD_mdeps hr)
      have HokI := Lib.hid (right_out hr).2.1
      have Hexp := Lib.hid (expand_closed hr)
      have Hall := Lib.hid (expand_all hr)
      have HdI := Lib.hid (right_out hr).1
      have HSs := Lib.hid (HSm.out.next hB1)
      obtain ⟨it, hit⟩ : ∃ it, it = overL ls := ⟨_, rfl⟩
      have hil : it.length = ls.length := by rw [hit, length_overL]
      rw [← hit] at HI1 HS Hr HokD HokI Hexp Hall HdI
      rw [← hil]
      obtain ⟨nn, hnn⟩ : ∃ nn, nn = it.length := ⟨_, rfl⟩
      have Hnn := Lib.hid hnn
      have hnn20 : nn ≤ 20 := by omega
      have hng := (groupsL_len it).2
      rw [← hnn] at hng ⊢
      obtain ⟨ng, hnge⟩ : ∃ ng, ng = (groupsL it).length := ⟨_, rfl⟩
      rw [← hnge] at hng Hall
      have Hng := Lib.hid hnge
      have hMl : (mdepsL it).length = ng := by rw [length_mdepsL, hnge]
      have HMl := Lib.hid hMl
      clear hI1 hB1 hF1 hr1 hr hlen1 hlen2 hls HOv hnn hit hil hnge hMl
      go_wp2_with fail
      refine (deps_any Ai ci nn it Hnn.out w1 (by rw [← Hnn.out]; omega) HS.out HI1.out).mono ?_
      rintro e w2 ⟨A2, c2, rfl, hM2, hB2⟩
      rw [HMl.out]
      have HM2 := Lib.hid hM2
      have HI2 := Lib.hid (HI1.out.next hB2)
      have HSs2 := Lib.hid (HSs.out.next hB2)
      have HB2 := Lib.hid (HB1.out.trans (hB2.mono HB1.out.size))
      clear hM2 hB2 HI1 HSs HB1
      go_wp2_with fail
      refine (close_at A2 c2 ng (mdepsL it) HMl.out.symm HokD.out a1 cap1 _ s Hs.out.symm (by rw [Hs.out]; omega) w2 HM2.out HSs2.out).mono ?_
      rintro e w3 ⟨A3, c3, rfl, hI3, hB3⟩
      have HC3 := Lib.hid hI3
      have HI3 := Lib.hid (HI2.out.next hB3)
      have HB3 := Lib.hid (HB2.out.trans (hB3.mono HB2.out.size))
      have hcl := length_closeL (mdepsL it) HokD.out s
      have HX := Lib.hid (Hexp.out s)
      obtain ⟨cl, hcle⟩ : ∃ cl, cl = closeL (mdepsL it) s := ⟨_, rfl⟩
      rw [← hcle] at HC3 hcl HX ⊢
      clear hI3 hB3 HI2 HB2 HSs2 HM2 hcle
      go_wp2_with fail
      refine (expand_any Ai ci nn it A3 c3 cl.length (natsI cl) Hnn.out (length_natsI _).symm w3 (by rw [← Hnn.out]; omega) (by rw [length_natsI]; omega) HS.out HI3.out HC3.out).mono ?_
      rintro e w4 ⟨A4, c4, rfl, hI4, hB4⟩
      have HX4 := Lib.hid hI4
      have HI4 := Lib.hid (HI3.out.next hB4)
      have HB4 := Lib.hid (HB3.out.trans (hB4.mono HB3.out.size))
      have hxl := expand_len it (natsI cl)
      obtain ⟨x, hx⟩ : ∃ x, x = expandL it (natsI cl) := ⟨_, rfl⟩
      rw [← hx] at HX4 HX hxl ⊢
      clear hI4 hB4 HI3 HB3 HC3 hx hcl
      go_wp2_with fail
      go_loopw [8, 9] (fun v i wr => ∃ k : Nat, k ≤ ng ∧ i = .int .i64 k ∧ wr.ownsRow w4.heap.size 3 1 v k (natsV (List.range k)) ∧ Below w4.heap.size w4 wr) (fun _ i _ => ng - (intOf i).toNat)
      case atStart => exact ⟨0, Nat.zero_le _, rfl, World.ownsRow_nil _ _ _ _, Below.refl _ _⟩
      case round =>
        obtain ⟨k, hk, rfl, hown, hB⟩ := hrel
        rename World => wr
        have hk0 : (0 : Int) ≤ (k : Int) := by omega
        have HI5 := Lib.hid (HI4.out.next hB)
        have HX5 := Lib.hid (HX4.out.next hB)
        have Hown := Lib.hid hown
        have HB := Lib.hid hB
        have HG := Lib.hid (groups_any Ai ci nn it Hnn.out wr (by rw [← Hnn.out]; omega) HS.out HI5.out)
        clear hown hB
        by_cases hlt : k < ng
        · have hlti : (k : Int) < (ng : Int) := by omega
          go_wp2_with fail
          refine HG.out.mono ?_
          rintro e w6 ⟨A6, c6, rfl, _, hB6⟩
          rw [← Hng.out]
          have hown := own_lay Hown.out hB6
          have hB := HB.out.trans (hB6.mono HB.out.size)
          have hsz := hB.size
          clear hB6 HG
          go_wp2_with (at_builtin; refine wpList_append_own _ rfl _ _ 29 rfl w4.heap.size 3 i0 (.int .i64 0) 1 8 Try.underlying29 hi hz0 hz1 hz2 rfl (by decide) _ _ _ rfl (hown.alloc _) ⟨w6.heap.size, 0, none⟩ 1 1 [.int .i64 ((k : Nat) : Int)] rfl rfl (cell_one_new _ _ _) (by simp [Value.oneCell']) (by unfold maxLen; omega) (by omega) (by simp; omega) ?_; intro v' w7 hown' hgrow _; have hB7 : Below w4.heap.size w4 w7 := hB.trans ((((Below.refl _ w6).alloc hsz _)).grown hgrow (by simp; omega) (fun j e => (hown.lt j e).1)); have Hown7 := Lib.hid hown'; have HB7 := Lib.hid hB7; clear hown' hB7 hgrow)
          go_roundw
          case rel => exact ⟨k + 1, by omega, by go_num, by rw [List.range_succ]; simpa [natsV] using Hown7.out, HB7.out⟩
          case measure => simp [intOf]; omega
        · have hlti : ¬ (k : Int) < (ng : Int) := by omega
          obtain rfl : k = ng := by omega
          have ho := Hown.out
          rw [natsV_intsV] at ho
          obtain ⟨A5, c5, rfl, _, _, hI5a⟩ := own_ints (n := k) ho
          go_wp2_with fail
          refine HG.out.mono ?_
          rintro e w6 ⟨A6, c6, rfl, _, hB6⟩
          rw [← Hng.out]
          have HA6 := Lib.hid (Ints.next hI5a hB6)
          have HI6 := Lib.hid (HI5.out.next hB6)
          have HX6 := Lib.hid (HX5.out.next hB6)
          have HB6 := Lib.hid (HB4.out.trans ((HB.out.trans (hB6.mono HB.out.size)).mono HB4.out.size))
          clear hB6 HG hI5a ho HI5 HX5 Hown HB4 HB
          go_wp2_with fail
          refine (topDepsOf_any Ai ci nn it Hnn.out w6 (by rw [← Hnn.out]; omega) HI6.out).mono ?_
          rintro e w7 ⟨A7, c7, rfl, hM7, hB7⟩
          rw [HdI.out] at hM7
          have HDl : Hid (nn = (depsN it).length) := by unfold Hid; rw [length_depsN]; exact Hnn.out
          rw [← Hnn.out]
          have HM7 := Lib.hid hM7
          have HA7 := Lib.hid (HA6.out.next hB7)
          have HI7 := Lib.hid (HI6.out.next hB7)
          have HX7 := Lib.hid (HX6.out.next hB7)
          have HB7 := Lib.hid (HB6.out.trans (hB7.mono HB6.out.size))
          clear hM7 hB7 HA6 HI6 HX6 HB6
          have Hlr : Hid ((natsI (List.range k)).length = k) := by unfold Hid; rw [length_natsI, List.length_range]
          have Hlall : Hid ((expandL it (natsI (List.range k))).length = nn) := by unfold Hid; rw [Hall.out, List.length_range]; exact Hnn.out.symm
          have hkn : (k : Int) ≤ (nn : Int) := by omega
          rw [Hlr.out]
          go_wp2_with (first
            | (go_at_call 35; refine (closed_yes A7 c7 nn (depsN it) HDl.out HokI.out A4 c4 x.length (natsI x) (length_natsI _).symm (by rw [length_natsI]; omega) w7 HM7.out HX7.out).mono ?_; rintro e w8 ⟨rfl, hB8⟩; rw [closedB_yes HX.out]; have HA8 := Lib.hid (HA7.out.next hB8); have HI8 := Lib.hid (HI7.out.next hB8); have HB8 := Lib.hid (HB7.out.trans (hB8.mono HB7.out.size)); clear hB8)
            | (go_at_call 23; refine (expand_any Ai ci nn it A5 c5 k (natsI (List.range k)) Hnn.out Hlr.out.symm w8 (by rw [← Hnn.out]; omega) (by rw [Hlr.out]; omega) HS.out HI8.out HA8.out).mono ?_; rintro e w9 ⟨A9, c9, rfl, _, hB9⟩; rw [Hlall.out]; have HI9 := Lib.hid (HI8.out.next hB9); have HB9 := Lib.hid (HB8.out.trans (hB9.mono HB8.out.size)); clear hB9)
            | (go_at_call 15; have hmr := mright_any Ai ci nn it Hnn.out w9 (by rw [← Hnn.out]; omega) HS.out HI9.out; rw [Hr.out] at hmr; refine hmr.mono ?_; clear hmr; rintro e wa ⟨rfl, hBa⟩; have HBa := Lib.hid (HB9.out.trans (hBa.mono HB9.out.size)); clear hBa))
          go_ret
          exact ⟨rfl, HBa.out⟩
end Go.Proofs.Ytkfjkhacchbkeaa
