/- CylCodes: the walk. -/
import Derived.Test.YtpcindemkkdbbaaND
import Derived.Test.YtpcindemkkdbbaaON
import Derived.Deep.RegionHeld3
import Derived.BigRegion
namespace Go.Proofs.Ytpcindemkkdbbaa.cylCodes
set_option linter.unusedVariables false
set_option linter.unusedSimpArgs false
open Go.RowKit
theorem bts_take {w : World} {Bd : Nat} {A : Option Addr} {l : List Int} (h : Bts w Bd A l) (k : Nat) : Bts w Bd A (l.take k) := ⟨fun x hx => h.1 x (List.mem_of_mem_take hx), fun hn => by
  rw [List.length_take] at hn
  obtain ⟨b, off, e, hb, hc⟩ := h.2 (by omega)
  refine ⟨b, off, e, hb, fun j hj => ?_⟩
  rw [List.length_take] at hj
  rw [nth_take (by omega) (by omega)]
  exact hc j (by omega)⟩
set_option maxRecDepth 100000 in
set_option maxHeartbeats 16000000 in
theorem walk (x : Cy) (A : Option Addr) (c : Nat) (A2 : Option Addr) (d : Nat) (B : Option Addr) (n k : Nat) (l : List Int) (t0 t1 : Int) (w : World) (hx : CyIn w x A c A2 d) (hl : BtsIn w B n k l) (h0 : -9223372036854775808 ≤ t0 ∧ t0 ≤ 9223372036854775807) (h1 : -9223372036854775808 ≤ t1 ∧ t1 ≤ 9223372036854775807) :
    Calls Try.prog 3 #[x.v A c A2 d, .slice B n k, .agg #[.int .i64 t0, .int .i64 t1]] w fun e w' => e = .returned (.bool true) ∧ Below w.heap.size w w' := by
  obtain ⟨hc, hd, hU, hI⟩ := hx
  obtain ⟨hn, ⟨hk, hm⟩, hB⟩ := hl
  have HO : Hid (∀ W, Below w.heap.size w W → Calls Try.prog 12 #[.agg (boxV x A c A2 d)] W (ForkSays W (capC x))) := fun W hW => one_any x A c A2 d W hc hd (hU.next hW) (hI.next hW)
  rw [boxV_v]
  have Hb1 : Hid ((Try.prog.info? 24).map (·.size) = some (boxV x A c A2 d).size) := boxV_size _ _ _ _ _
  have Hb4 : Hid (∀ P a Q b, (boxV x A c A2 d).size = (boxV (capC x) P a Q b).size) := fun _ _ _ _ => rfl
  have HZ : Hid (∀ W o p, W = (w.alloc o).alloc p → W.heap[w.heap.size]? = some o ∧ W.heap[w.heap.size + 1]? = some p ∧ Below w.heap.size w W) := fun W o p e => by
    subst e
    have h0 := Go.heap_alloc_new w o
    have h1 := Go.heap_alloc_new (w.alloc o) p
    rw [World.size_alloc] at h1
    exact ⟨(Go.heap_alloc_old _ p (show w.heap.size < (w.alloc o).heap.size by rw [World.size_alloc]; omega)).trans h0, h1, ((Below.refl _ w).alloc (Nat.le_refl _) _).alloc (by simp) p⟩
  obtain ⟨m, hmm⟩ : ∃ m, m = min n 40 := ⟨_, rfl⟩
  have hlm : (l.take 40).length = m := by rw [List.length_take, hn, hmm, Nat.min_comm]
  have HDe : Hid (∀ W, Below w.heap.size w W → Calls Try.prog 15 #[.slice B m k] W (CyT W (decZ (l.take 40)) (decE (l.take 40)))) := fun W hW => (decode_any B k m (l.take 40) W hlm.symm (bts_take (hB.next hW) 40) (by omega)).mono fun _ _ h => CyT.of_dec h
  have HRd : Hid (∀ W, Below w.heap.size w W → Calls Try.prog 16 #[.slice B m k] W (CyT W (decZ (l.take 40)) (decE (l.take 40)))) := fun W hW => (refdecode_any B k m (l.take 40) W hlm.symm (bts_take (hB.next hW) 40)).mono fun _ _ h => CyT.of_dec h
  have HzD := Lib.hid (decZ_small (l.take 40))
  generalize decZ (l.take 40) = zD at *
  generalize decE (l.take 40) = eD at *
  have HNw : Hid (∀ W, Calls Try.prog 19 #[.int .i64 t0, .int .i64 t1] W (CyT W (if rightC (bare t0 t1) = true then bare t0 t1 else cy0) (if rightC (bare t0 t1) = true then 0 else 2))) := fun W => (new_any t0 t1 W).mono fun _ _ h => CyT.of h
  have HRn : Hid (∀ W, Calls Try.prog 20 #[.int .i64 t0, .int .i64 t1] W (CyT W (if rightC (bare t0 t1) = true then bare t0 t1 else cy0) (if rightC (bare t0 t1) = true then 0 else 2))) := fun W => (refnew_any t0 t1 W).mono fun _ _ h => CyT.of h
  have HzN := Lib.hid (newZ_small t0 t1)
  generalize (if rightC (bare t0 t1) = true then bare t0 t1 else cy0) = zN at *
  generalize (if rightC (bare t0 t1) = true then (0 : Int) else 2) = eN at *
  have Hs := capC_small x
  generalize capC x = y at *
  have HzR := Lib.hid (rebZ_small Hs)
  have HEnG : Hid (∀ W P p P2 p2, Ints W W.heap.size P y.us → Ints W W.heap.size P2 y.is → Calls Try.prog 13 #[.agg (boxV y P p P2 p2)] W (EncT W (encE y) (encS y))) := fun W P p P2 p2 h1 h2 => (encode_any y P p P2 p2 W Hs.1 Hs.2 h1 h2).mono fun _ _ h => EncT.of h
  have HReG : Hid (∀ W P p P2 p2, Ints W W.heap.size P y.us → Ints W W.heap.size P2 y.is → Calls Try.prog 14 #[.agg (boxV y P p P2 p2)] W (EncT W (encE y) (encS y))) := fun W P p P2 p2 h1 h2 => (refencode_any y P p P2 p2 W Hs.1 Hs.2 h1 h2).mono fun _ _ h => EncT.of_ref h
  generalize encE y = eE at *
  generalize encS y = sE at *
  have HRbG : Hid (∀ W P p P2 p2, Ints W W.heap.size P y.us → Ints W W.heap.size P2 y.is → Calls Try.prog 17 #[.agg (boxV y P p P2 p2)] W (CyT W (if rightC (recount y) = true then recount y else cy0) (if rightC (recount y) = true then 0 else 3))) := fun W P p P2 p2 h1 h2 => (rebuild_any y P p P2 p2 W Hs.1 Hs.2 h1 h2).mono fun _ _ h => CyT.of h
  have HRrG : Hid (∀ W P p P2 p2, Ints W W.heap.size P y.us → Ints W W.heap.size P2 y.is → Calls Try.prog 18 #[.agg (boxV y P p P2 p2)] W (CyT W (if rightC (recount y) = true then recount y else cy0) (if rightC (recount y) = true then 0 else 3))) := fun W P p P2 p2 h1 h2 => (refrebuild_any y P p P2 p2 W Hs.1 Hs.2 h1 h2).mono fun _ _ h => CyT.of h
  generalize (if rightC (recount y) = true then recount y else cy0) = zR at *
  generalize (if rightC (recount y) = true then (0 : Int) else 3) = eR at *
  have HG1 : Hid (∀ W P p P2 p2, Ints W W.heap.size P y.us → Ints W W.heap.size P2 y.is → Calls Try.prog 23 #[.agg (boxV y P p P2 p2)] W fun e w' => e = .returned (.bool (rightC y)) ∧ Below W.heap.size W w') := fun W P p P2 p2 h1 h2 => right_any y P p P2 p2 W Hs.1 Hs.2 h1 h2
  have HG2 : Hid (∀ W P p P2 p2, Ints W W.heap.size P y.us → Ints W W.heap.size P2 y.is → Calls Try.prog 24 #[.agg (boxV y P p P2 p2)] W fun e w' => e = .returned (.bool (rightC y)) ∧ Below W.heap.size W w') := fun W P p P2 p2 h1 h2 => refright_any y P p P2 p2 W Hs.1 Hs.2 h1 h2
  have HSm : Hid (∀ z, SmallC z → ∀ W R r R2 r2 Q q Q2 q2, Ints W W.heap.size R z.us → Ints W W.heap.size R2 z.is → Ints W W.heap.size Q z.us → Ints W W.heap.size Q2 z.is → Calls Try.prog 22 #[.agg (boxV z R r R2 r2), .agg (boxV z Q q Q2 q2)] W fun e w' => e = .returned (.bool true) ∧ Below W.heap.size W w') := fun z hz W R r R2 r2 Q q Q2 q2 h1 h2 h3 h4 => by
    have h := refSame_any z z R r R2 r2 Q q Q2 q2 W hz hz h1 h2 h3 h4
    rw [sameC_iff.2 rfl] at h
    exact h
  have HLv : Hid (∀ W, Calls Try.prog 21 #[] W fun e w' => e = .returned (.bool true) ∧ Below W.heap.size W w') := fun W => live_any W
  generalize hbx : boxV x A c A2 d = bx at *
  clear hU hI hc hd hB hn hlm h0 h1 hbx
  have Hmm := Lib.hid hmm
  clear hmm
  go_enter Try.func3, Try.ntmps3
  go_upto_region 1 with fail
  generalize hW0 : World.alloc (World.alloc w _) _ = W0
  obtain ⟨b0, b1, hB0⟩ := HZ.out _ _ _ hW0.symm
  have B0 := Lib.hid b0
  have B1 := Lib.hid b1
  have HB0 := Lib.hid hB0
  clear hW0 b0 b1 hB0 HZ
  go_wp2_with (refine wpList_load_row rfl 24 (.tmp 3) rfl w.heap.size rfl 24 bx (0, 0) _ B0.out Try.underlying24 rfl Hb1.out ?_)
  refine (HO.out W0 HB0.out).mono ?_
  rintro e w1 ⟨P, p, P2, p2, rfl, hr1, hr2, hap, hB1⟩
  rw [boxV_v]
  have B0b := Lib.hid ((hB1.block _ (lt_heap B0.out)).trans B0.out)
  have B1b := Lib.hid ((hB1.block _ (lt_heap B1.out)).trans B1.out)
  have HB1 := Lib.hid (HB0.out.trans (hB1.mono HB0.out.size))
  have HI1 := Lib.hid hr1
  have HI2 := Lib.hid hr2
  have Hz0 := Lib.hid (lt_heap B1.out)
  clear hr1 hr2 hap hB1 HO HB0 B0 B1
  go_upto_region 2 with (refine wpList_store_row rfl 24 (.tmp 3) (.tmp 24) rfl w.heap.size (boxV y P p P2 p2) rfl rfl 24 _ B0b.out (boxV_size _ _ _ _ _) (Hb4.out _ _ _ _) (boxV_one _ _ _ _ _) ?_)
  have C0 := Lib.hid (setRow_heap w1 w.heap.size _ (boxV y P p P2 p2) _ _ B0b.out)
  have hk1 := setRow_kept w1 w.heap.size (boxV y P p P2 p2)
  have C1 := Lib.hid ((setRow_other w1 w.heap.size (w.heap.size + 1) (boxV y P p P2 p2) (by omega)).trans B1b.out)
  have HBc := Lib.hid (HB1.out.trans (hk1.below (fun b q => Nat.le_of_eq q.symm) HB1.out.size))
  have HU := Lib.hid (HI1.out.keep hk1 (fun b q r => by have := (HI1.out.lt q).1; have := Hz0.out; omega)).ints
  have HV := Lib.hid (HI2.out.keep hk1 (fun b q r => by have := (HI2.out.lt q).1; have := Hz0.out; omega)).ints
  generalize World.setRow w1 w.heap.size (boxV y P p P2 p2) = w2 at *
  clear hk1 HI1 HI2 HB1 B0b B1b Hb1 Hb4 Hz0
  simp only [Act.put]
  go_upto_if 27 with fail
  go_cut [1] from 28 to 29 (fun s1 wx => s1 = .slice B m k ∧ wx = w2)
  case first =>
    by_cases h40 : 40 < n
    · have h40i : (40 : Int) < (n : Int) := by omega
      have hm40 : m = 40 := by have := Hmm.out; omega
      subst hm40
      go_wp2_with fail
      go_meet
      exact ⟨rfl, rfl⟩
    · have h40i : ¬ (40 : Int) < (n : Int) := by omega
      have hm40 : m = n := by have := Hmm.out; omega
      subst hm40
      go_wp2_with fail
      go_meet
      exact ⟨rfl, rfl⟩
  case rest =>
    obtain ⟨rfl, hw⟩ := hcut
    replace hw := hw.symm
    subst hw
    have HX2 : Hid (Below w2.heap.size w2 w2) := Below.refl _ _
    go_wp2_with (refine wpList_load_row rfl 24 (.tmp 3) rfl w.heap.size rfl 24 (boxV y P p P2 p2) (0, 0) _ ((HX2.out.block _ (lt_heap C0.out)).trans C0.out) Try.underlying24 rfl (boxV_size _ _ _ _ _) ?_)
    refine (HEnG.out w2 P p P2 p2 (HU.out.next HX2.out) (HV.out.next HX2.out)).mono ?_
    rintro e w3 ⟨v3, rfl, htx, hB⟩
    have HX3 := Lib.hid (HX2.out.trans (hB.mono HX2.out.size))
    have HT3 := Lib.hid htx
    have HS3 := Lib.hid hB
    clear hB htx
    go_wp2_with (refine wpList_load_row rfl 24 (.tmp 3) rfl w.heap.size rfl 24 (boxV y P p P2 p2) (0, 0) _ ((HX3.out.block _ (lt_heap C0.out)).trans C0.out) Try.underlying24 rfl (boxV_size _ _ _ _ _) ?_)
    refine (HReG.out w3 P p P2 p2 (HU.out.next HX3.out) (HV.out.next HX3.out)).mono ?_
    rintro e w4 ⟨v4, rfl, htx, hB⟩
    have HX4 := Lib.hid (HX3.out.trans (hB.mono HX3.out.size))
    have HT4 := Lib.hid htx
    have HS4 := Lib.hid hB
    clear hB htx
    replace HT3 : Hid (∀ W, Below w4.heap.size w4 W → _) := fun W hW => HT3.out W (HS4.out.trans (hW.mono HS4.out.size))
    go_wp2_with fail
    refine (HDe.out w4 (HBc.out.trans (HX4.out.mono HBc.out.size))).mono ?_
    rintro e u5 ⟨R5, r5, Q5, q5, rfl, hi1, hi2, hB⟩
    obtain ⟨hbx, hb2⟩ := box_new (r := r5) (r2 := q5) hi1 hi2
    have hz5 := hB.size
    go_upto_region 7 with (refine wpList_store_row rfl 24 (.tmp 11) (.tmp 43) rfl u5.heap.size (boxV zD R5 r5 Q5 q5) rfl rfl 24 _ (Go.heap_alloc_new u5 _) (boxV_size _ _ _ _ _) rfl (boxV_one _ _ _ _ _) ?_)
    unfold zeroB at hbx hb2
    generalize hgw : World.setRow (World.alloc u5 _) _ _ = w5 at hbx hb2 ⊢
    clear hgw
    have hst := hB.trans (hb2.mono hB.size)
    have BX5 := Lib.hid hbx
    have HX5 := Lib.hid (HX4.out.trans (hst.mono HX4.out.size))
    replace HT3 : Hid (∀ W, Below w5.heap.size w5 W → _) := fun W hW => HT3.out W (hst.trans (hW.mono hst.size))
    replace HT4 : Hid (∀ W, Below w5.heap.size w5 W → _) := fun W hW => HT4.out W (hst.trans (hW.mono hst.size))
    clear hbx hb2 hst hi1 hi2 hB
    try simp only [Act.put]
    go_wp2_with fail
    refine (HRd.out w5 (HBc.out.trans (HX5.out.mono HBc.out.size))).mono ?_
    rintro e u6 ⟨R6, r6, Q6, q6, rfl, hi1, hi2, hB⟩
    obtain ⟨hbx, hb2⟩ := box_new (r := r6) (r2 := q6) hi1 hi2
    have hz6 := hB.size
    go_upto_region 8 with (refine wpList_store_row rfl 24 (.tmp 13) (.tmp 48) rfl u6.heap.size (boxV zD R6 r6 Q6 q6) rfl rfl 24 _ (Go.heap_alloc_new u6 _) (boxV_size _ _ _ _ _) rfl (boxV_one _ _ _ _ _) ?_)
    unfold zeroB at hbx hb2
    generalize hgw : World.setRow (World.alloc u6 _) _ _ = w6 at hbx hb2 ⊢
    clear hgw
    have hst := hB.trans (hb2.mono hB.size)
    replace BX5 := Lib.hid (BX5.out.next hst)
    have BX6 := Lib.hid hbx
    have HX6 := Lib.hid (HX5.out.trans (hst.mono HX5.out.size))
    replace HT3 : Hid (∀ W, Below w6.heap.size w6 W → _) := fun W hW => HT3.out W (hst.trans (hW.mono hst.size))
    replace HT4 : Hid (∀ W, Below w6.heap.size w6 W → _) := fun W hW => HT4.out W (hst.trans (hW.mono hst.size))
    clear hbx hb2 hst hi1 hi2 hB
    try simp only [Act.put]
    go_wp2_with (refine wpList_load_row rfl 24 (.tmp 3) rfl w.heap.size rfl 24 (boxV y P p P2 p2) (0, 0) _ ((HX6.out.block _ (lt_heap C0.out)).trans C0.out) Try.underlying24 rfl (boxV_size _ _ _ _ _) ?_)
    refine (HRbG.out w6 P p P2 p2 (HU.out.next HX6.out) (HV.out.next HX6.out)).mono ?_
    rintro e u7 ⟨R7, r7, Q7, q7, rfl, hi1, hi2, hB⟩
    obtain ⟨hbx, hb2⟩ := box_new (r := r7) (r2 := q7) hi1 hi2
    have hz7 := hB.size
    go_upto_region 9 with (refine wpList_store_row rfl 24 (.tmp 15) (.tmp 53) rfl u7.heap.size (boxV zR R7 r7 Q7 q7) rfl rfl 24 _ (Go.heap_alloc_new u7 _) (boxV_size _ _ _ _ _) rfl (boxV_one _ _ _ _ _) ?_)
    unfold zeroB at hbx hb2
    generalize hgw : World.setRow (World.alloc u7 _) _ _ = w7 at hbx hb2 ⊢
    clear hgw
    have hst := hB.trans (hb2.mono hB.size)
    replace BX5 := Lib.hid (BX5.out.next hst)
    replace BX6 := Lib.hid (BX6.out.next hst)
    have BX7 := Lib.hid hbx
    have HX7 := Lib.hid (HX6.out.trans (hst.mono HX6.out.size))
    replace HT3 : Hid (∀ W, Below w7.heap.size w7 W → _) := fun W hW => HT3.out W (hst.trans (hW.mono hst.size))
    replace HT4 : Hid (∀ W, Below w7.heap.size w7 W → _) := fun W hW => HT4.out W (hst.trans (hW.mono hst.size))
    clear hbx hb2 hst hi1 hi2 hB
    try simp only [Act.put]
    go_wp2_with (refine wpList_load_row rfl 24 (.tmp 3) rfl w.heap.size rfl 24 (boxV y P p P2 p2) (0, 0) _ ((HX7.out.block _ (lt_heap C0.out)).trans C0.out) Try.underlying24 rfl (boxV_size _ _ _ _ _) ?_)
    refine (HRrG.out w7 P p P2 p2 (HU.out.next HX7.out) (HV.out.next HX7.out)).mono ?_
    rintro e u8 ⟨R8, r8, Q8, q8, rfl, hi1, hi2, hB⟩
    obtain ⟨hbx, hb2⟩ := box_new (r := r8) (r2 := q8) hi1 hi2
    have hz8 := hB.size
    go_upto_region 10 with (refine wpList_store_row rfl 24 (.tmp 17) (.tmp 58) rfl u8.heap.size (boxV zR R8 r8 Q8 q8) rfl rfl 24 _ (Go.heap_alloc_new u8 _) (boxV_size _ _ _ _ _) rfl (boxV_one _ _ _ _ _) ?_)
    unfold zeroB at hbx hb2
    generalize hgw : World.setRow (World.alloc u8 _) _ _ = w8 at hbx hb2 ⊢
    clear hgw
    have hst := hB.trans (hb2.mono hB.size)
    replace BX5 := Lib.hid (BX5.out.next hst)
    replace BX6 := Lib.hid (BX6.out.next hst)
    replace BX7 := Lib.hid (BX7.out.next hst)
    have BX8 := Lib.hid hbx
    have HX8 := Lib.hid (HX7.out.trans (hst.mono HX7.out.size))
    replace HT3 : Hid (∀ W, Below w8.heap.size w8 W → _) := fun W hW => HT3.out W (hst.trans (hW.mono hst.size))
    replace HT4 : Hid (∀ W, Below w8.heap.size w8 W → _) := fun W hW => HT4.out W (hst.trans (hW.mono hst.size))
    clear hbx hb2 hst hi1 hi2 hB
    try simp only [Act.put]
    obtain ⟨e0, e1⟩ := two ((HX8.out.block _ (lt_heap C1.out)).trans C1.out)
    go_wp2_with fail
    refine (HNw.out w8).mono ?_
    rintro e u9 ⟨R9, r9, Q9, q9, rfl, hi1, hi2, hB⟩
    clear e0 e1
    obtain ⟨hbx, hb2⟩ := box_new (r := r9) (r2 := q9) hi1 hi2
    have hz9 := hB.size
    go_upto_region 11 with (refine wpList_store_row rfl 24 (.tmp 19) (.tmp 66) rfl u9.heap.size (boxV zN R9 r9 Q9 q9) rfl rfl 24 _ (Go.heap_alloc_new u9 _) (boxV_size _ _ _ _ _) rfl (boxV_one _ _ _ _ _) ?_)
    unfold zeroB at hbx hb2
    generalize hgw : World.setRow (World.alloc u9 _) _ _ = w9 at hbx hb2 ⊢
    clear hgw
    have hst := hB.trans (hb2.mono hB.size)
    replace BX5 := Lib.hid (BX5.out.next hst)
    replace BX6 := Lib.hid (BX6.out.next hst)
    replace BX7 := Lib.hid (BX7.out.next hst)
    replace BX8 := Lib.hid (BX8.out.next hst)
    have BX9 := Lib.hid hbx
    have HX9 := Lib.hid (HX8.out.trans (hst.mono HX8.out.size))
    replace HT3 : Hid (∀ W, Below w9.heap.size w9 W → _) := fun W hW => HT3.out W (hst.trans (hW.mono hst.size))
    replace HT4 : Hid (∀ W, Below w9.heap.size w9 W → _) := fun W hW => HT4.out W (hst.trans (hW.mono hst.size))
    clear hbx hb2 hst hi1 hi2 hB
    try simp only [Act.put]
    obtain ⟨e0, e1⟩ := two ((HX9.out.block _ (lt_heap C1.out)).trans C1.out)
    go_wp2_with fail
    refine (HRn.out w9).mono ?_
    rintro e u10 ⟨R10, r10, Q10, q10, rfl, hi1, hi2, hB⟩
    clear e0 e1
    obtain ⟨hbx, hb2⟩ := box_new (r := r10) (r2 := q10) hi1 hi2
    have hz10 := hB.size
    go_upto_region 12 with (refine wpList_store_row rfl 24 (.tmp 21) (.tmp 74) rfl u10.heap.size (boxV zN R10 r10 Q10 q10) rfl rfl 24 _ (Go.heap_alloc_new u10 _) (boxV_size _ _ _ _ _) rfl (boxV_one _ _ _ _ _) ?_)
    unfold zeroB at hbx hb2
    generalize hgw : World.setRow (World.alloc u10 _) _ _ = w10 at hbx hb2 ⊢
    clear hgw
    have hst := hB.trans (hb2.mono hB.size)
    replace BX5 := Lib.hid (BX5.out.next hst)
    replace BX6 := Lib.hid (BX6.out.next hst)
    replace BX7 := Lib.hid (BX7.out.next hst)
    replace BX8 := Lib.hid (BX8.out.next hst)
    replace BX9 := Lib.hid (BX9.out.next hst)
    have BX10 := Lib.hid hbx
    have HX10 := Lib.hid (HX9.out.trans (hst.mono HX9.out.size))
    replace HT3 : Hid (∀ W, Below w10.heap.size w10 W → _) := fun W hW => HT3.out W (hst.trans (hW.mono hst.size))
    replace HT4 : Hid (∀ W, Below w10.heap.size w10 W → _) := fun W hW => HT4.out W (hst.trans (hW.mono hst.size))
    clear hbx hb2 hst hi1 hi2 hB
    try simp only [Act.put]
    obtain ⟨A5, a5, D5, d5, hg5, hi5, hj5⟩ := BX5.out
    have HI5 := Lib.hid hi5
    have HJ5 := Lib.hid hj5
    have HG5 := Lib.hid hg5
    clear hg5 hi5 hj5 BX5
    obtain ⟨A6, a6, D6, d6, hg6, hi6, hj6⟩ := BX6.out
    have HI6 := Lib.hid hi6
    have HJ6 := Lib.hid hj6
    have HG6 := Lib.hid hg6
    clear hg6 hi6 hj6 BX6
    obtain ⟨A7, a7, D7, d7, hg7, hi7, hj7⟩ := BX7.out
    have HI7 := Lib.hid hi7
    have HJ7 := Lib.hid hj7
    have HG7 := Lib.hid hg7
    clear hg7 hi7 hj7 BX7
    obtain ⟨A8, a8, D8, d8, hg8, hi8, hj8⟩ := BX8.out
    have HI8 := Lib.hid hi8
    have HJ8 := Lib.hid hj8
    have HG8 := Lib.hid hg8
    clear hg8 hi8 hj8 BX8
    obtain ⟨A9, a9, D9, d9, hg9, hi9, hj9⟩ := BX9.out
    have HI9 := Lib.hid hi9
    have HJ9 := Lib.hid hj9
    have HG9 := Lib.hid hg9
    clear hg9 hi9 hj9 BX9
    obtain ⟨A10, a10, D10, d10, hg10, hi10, hj10⟩ := BX10.out
    have HI10 := Lib.hid hi10
    have HJ10 := Lib.hid hj10
    have HG10 := Lib.hid hg10
    clear hg10 hi10 hj10 BX10
    have C10 := Lib.hid ((HX10.out.block _ (lt_heap C0.out)).trans C0.out)
    have HSS : Hid (∀ W, Below w10.heap.size w10 W → W.cell? ⟨u5.heap.size, 0, none⟩ = some (.int .i64 zD.ix) ∧ W.cell? ⟨u5.heap.size, 1, none⟩ = some (.int .i64 zD.bl) ∧ W.cell? ⟨u5.heap.size, 2, none⟩ = some (.int .i64 zD.fb) ∧ W.cell? ⟨u5.heap.size, 3, none⟩ = some (.int .i64 zD.fi) ∧ W.cell? ⟨u5.heap.size, 4, none⟩ = some (.int .i64 zD.ro) ∧ W.cell? ⟨u5.heap.size, 5, none⟩ = some (.slice A5 zD.us.length a5) ∧ W.cell? ⟨u5.heap.size, 6, none⟩ = some (.slice D5 zD.is.length d5) ∧ W.cell? ⟨u6.heap.size, 0, none⟩ = some (.int .i64 zD.ix) ∧ W.cell? ⟨u6.heap.size, 1, none⟩ = some (.int .i64 zD.bl) ∧ W.cell? ⟨u6.heap.size, 2, none⟩ = some (.int .i64 zD.fb) ∧ W.cell? ⟨u6.heap.size, 3, none⟩ = some (.int .i64 zD.fi) ∧ W.cell? ⟨u6.heap.size, 4, none⟩ = some (.int .i64 zD.ro) ∧ W.cell? ⟨u6.heap.size, 5, none⟩ = some (.slice A6 zD.us.length a6) ∧ W.cell? ⟨u6.heap.size, 6, none⟩ = some (.slice D6 zD.is.length d6) ∧ W.cell? ⟨u7.heap.size, 0, none⟩ = some (.int .i64 zR.ix) ∧ W.cell? ⟨u7.heap.size, 1, none⟩ = some (.int .i64 zR.bl) ∧ W.cell? ⟨u7.heap.size, 2, none⟩ = some (.int .i64 zR.fb) ∧ W.cell? ⟨u7.heap.size, 3, none⟩ = some (.int .i64 zR.fi) ∧ W.cell? ⟨u7.heap.size, 4, none⟩ = some (.int .i64 zR.ro) ∧ W.cell? ⟨u7.heap.size, 5, none⟩ = some (.slice A7 zR.us.length a7) ∧ W.cell? ⟨u7.heap.size, 6, none⟩ = some (.slice D7 zR.is.length d7) ∧ W.cell? ⟨u8.heap.size, 0, none⟩ = some (.int .i64 zR.ix) ∧ W.cell? ⟨u8.heap.size, 1, none⟩ = some (.int .i64 zR.bl) ∧ W.cell? ⟨u8.heap.size, 2, none⟩ = some (.int .i64 zR.fb) ∧ W.cell? ⟨u8.heap.size, 3, none⟩ = some (.int .i64 zR.fi) ∧ W.cell? ⟨u8.heap.size, 4, none⟩ = some (.int .i64 zR.ro) ∧ W.cell? ⟨u8.heap.size, 5, none⟩ = some (.slice A8 zR.us.length a8) ∧ W.cell? ⟨u8.heap.size, 6, none⟩ = some (.slice D8 zR.is.length d8) ∧ W.cell? ⟨u9.heap.size, 0, none⟩ = some (.int .i64 zN.ix) ∧ W.cell? ⟨u9.heap.size, 1, none⟩ = some (.int .i64 zN.bl) ∧ W.cell? ⟨u9.heap.size, 2, none⟩ = some (.int .i64 zN.fb) ∧ W.cell? ⟨u9.heap.size, 3, none⟩ = some (.int .i64 zN.fi) ∧ W.cell? ⟨u9.heap.size, 4, none⟩ = some (.int .i64 zN.ro) ∧ W.cell? ⟨u9.heap.size, 5, none⟩ = some (.slice A9 zN.us.length a9) ∧ W.cell? ⟨u9.heap.size, 6, none⟩ = some (.slice D9 zN.is.length d9) ∧ W.cell? ⟨u10.heap.size, 0, none⟩ = some (.int .i64 zN.ix) ∧ W.cell? ⟨u10.heap.size, 1, none⟩ = some (.int .i64 zN.bl) ∧ W.cell? ⟨u10.heap.size, 2, none⟩ = some (.int .i64 zN.fb) ∧ W.cell? ⟨u10.heap.size, 3, none⟩ = some (.int .i64 zN.fi) ∧ W.cell? ⟨u10.heap.size, 4, none⟩ = some (.int .i64 zN.ro) ∧ W.cell? ⟨u10.heap.size, 5, none⟩ = some (.slice A10 zN.us.length a10) ∧ W.cell? ⟨u10.heap.size, 6, none⟩ = some (.slice D10 zN.is.length d10) ∧ W.cell? ⟨w.heap.size, 0, none⟩ = some (.int .i64 y.ix) ∧ W.cell? ⟨w.heap.size, 1, none⟩ = some (.int .i64 y.bl) ∧ W.cell? ⟨w.heap.size, 2, none⟩ = some (.int .i64 y.fb) ∧ W.cell? ⟨w.heap.size, 3, none⟩ = some (.int .i64 y.fi) ∧ W.cell? ⟨w.heap.size, 4, none⟩ = some (.int .i64 y.ro) ∧ W.cell? ⟨w.heap.size, 5, none⟩ = some (.slice P y.us.length p) ∧ W.cell? ⟨w.heap.size, 6, none⟩ = some (.slice P2 y.is.length p2) ∧ (convert 25 9 v3).run Try.prog W = .ok (.string sE) W ∧ (convert 25 9 v4).run Try.prog W = .ok (.string sE) W) := fun W hW => by
      obtain ⟨b50, b51, b52, b53, b54, b55, b56⟩ := seven ((hW.block _ (lt_heap HG5.out)).trans HG5.out)
      obtain ⟨b60, b61, b62, b63, b64, b65, b66⟩ := seven ((hW.block _ (lt_heap HG6.out)).trans HG6.out)
      obtain ⟨b70, b71, b72, b73, b74, b75, b76⟩ := seven ((hW.block _ (lt_heap HG7.out)).trans HG7.out)
      obtain ⟨b80, b81, b82, b83, b84, b85, b86⟩ := seven ((hW.block _ (lt_heap HG8.out)).trans HG8.out)
      obtain ⟨b90, b91, b92, b93, b94, b95, b96⟩ := seven ((hW.block _ (lt_heap HG9.out)).trans HG9.out)
      obtain ⟨b100, b101, b102, b103, b104, b105, b106⟩ := seven ((hW.block _ (lt_heap HG10.out)).trans HG10.out)
      obtain ⟨by0, by1, by2, by3, by4, by5, by6⟩ := seven ((hW.block _ (lt_heap C10.out)).trans C10.out)
      exact ⟨b50, b51, b52, b53, b54, b55, b56, b60, b61, b62, b63, b64, b65, b66, b70, b71, b72, b73, b74, b75, b76, b80, b81, b82, b83, b84, b85, b86, b90, b91, b92, b93, b94, b95, b96, b100, b101, b102, b103, b104, b105, b106, by0, by1, by2, by3, by4, by5, by6, HT3.out W hW, HT4.out W hW⟩
    have HC1 : Hid (∀ W, Below w10.heap.size w10 W → Calls Try.prog 22 #[.agg #[.int .i64 zD.ix, .int .i64 zD.bl, .int .i64 zD.fb, .int .i64 zD.fi, .int .i64 zD.ro, .slice A5 zD.us.length a5, .slice D5 zD.is.length d5], .agg #[.int .i64 zD.ix, .int .i64 zD.bl, .int .i64 zD.fb, .int .i64 zD.fi, .int .i64 zD.ro, .slice A6 zD.us.length a6, .slice D6 zD.is.length d6]] W fun e w' => e = .returned (.bool true) ∧ Below W.heap.size W w') := fun W hW => HSm.out zD HzD.out W A5 a5 D5 d5 A6 a6 D6 d6 (HI5.out.next hW) (HJ5.out.next hW) (HI6.out.next hW) (HJ6.out.next hW)
    have HC2 : Hid (∀ W, Below w10.heap.size w10 W → Calls Try.prog 22 #[.agg #[.int .i64 zR.ix, .int .i64 zR.bl, .int .i64 zR.fb, .int .i64 zR.fi, .int .i64 zR.ro, .slice A7 zR.us.length a7, .slice D7 zR.is.length d7], .agg #[.int .i64 zR.ix, .int .i64 zR.bl, .int .i64 zR.fb, .int .i64 zR.fi, .int .i64 zR.ro, .slice A8 zR.us.length a8, .slice D8 zR.is.length d8]] W fun e w' => e = .returned (.bool true) ∧ Below W.heap.size W w') := fun W hW => HSm.out zR HzR.out W A7 a7 D7 d7 A8 a8 D8 d8 (HI7.out.next hW) (HJ7.out.next hW) (HI8.out.next hW) (HJ8.out.next hW)
    have HC3 : Hid (∀ W, Below w10.heap.size w10 W → Calls Try.prog 22 #[.agg #[.int .i64 zN.ix, .int .i64 zN.bl, .int .i64 zN.fb, .int .i64 zN.fi, .int .i64 zN.ro, .slice A9 zN.us.length a9, .slice D9 zN.is.length d9], .agg #[.int .i64 zN.ix, .int .i64 zN.bl, .int .i64 zN.fb, .int .i64 zN.fi, .int .i64 zN.ro, .slice A10 zN.us.length a10, .slice D10 zN.is.length d10]] W fun e w' => e = .returned (.bool true) ∧ Below W.heap.size W w') := fun W hW => HSm.out zN HzN.out W A9 a9 D9 d9 A10 a10 D10 d10 (HI9.out.next hW) (HJ9.out.next hW) (HI10.out.next hW) (HJ10.out.next hW)
    have HC4 : Hid (∀ W, Below w10.heap.size w10 W → Calls Try.prog 23 #[.agg #[.int .i64 y.ix, .int .i64 y.bl, .int .i64 y.fb, .int .i64 y.fi, .int .i64 y.ro, .slice P y.us.length p, .slice P2 y.is.length p2]] W fun e w' => e = .returned (.bool (rightC y)) ∧ Below W.heap.size W w') := fun W hW => HG1.out W P p P2 p2 (HU.out.next (HX10.out.trans (hW.mono HX10.out.size))) (HV.out.next (HX10.out.trans (hW.mono HX10.out.size)))
    have HC5 : Hid (∀ W, Below w10.heap.size w10 W → Calls Try.prog 24 #[.agg #[.int .i64 y.ix, .int .i64 y.bl, .int .i64 y.fb, .int .i64 y.fi, .int .i64 y.ro, .slice P y.us.length p, .slice P2 y.is.length p2]] W fun e w' => e = .returned (.bool (rightC y)) ∧ Below W.heap.size W w') := fun W hW => HG2.out W P p P2 p2 (HU.out.next (HX10.out.trans (hW.mono HX10.out.size))) (HV.out.next (HX10.out.trans (hW.mono HX10.out.size)))
    have HZ10 : Hid (Below w10.heap.size w10 w10) := Below.refl _ _
    clear HSm HG1 HG2 HU HV HG5 HI5 HJ5 HG6 HI6 HJ6 HG7 HI7 HJ7 HG8 HI8 HJ8 HG9 HI9 HJ9 HG10 HI10 HJ10 C10 C0 C1 HzD HzR HzN HEnG HReG HRbG HRrG HDe HRd HNw HRn
    generalize rightC y = rc at *
    go_region_held3 (fun W => W.cell? ⟨u5.heap.size, 0, none⟩ = some (.int .i64 zD.ix) ∧ W.cell? ⟨u5.heap.size, 1, none⟩ = some (.int .i64 zD.bl) ∧ W.cell? ⟨u5.heap.size, 2, none⟩ = some (.int .i64 zD.fb) ∧ W.cell? ⟨u5.heap.size, 3, none⟩ = some (.int .i64 zD.fi) ∧ W.cell? ⟨u5.heap.size, 4, none⟩ = some (.int .i64 zD.ro) ∧ W.cell? ⟨u5.heap.size, 5, none⟩ = some (.slice A5 zD.us.length a5) ∧ W.cell? ⟨u5.heap.size, 6, none⟩ = some (.slice D5 zD.is.length d5) ∧ W.cell? ⟨u6.heap.size, 0, none⟩ = some (.int .i64 zD.ix) ∧ W.cell? ⟨u6.heap.size, 1, none⟩ = some (.int .i64 zD.bl) ∧ W.cell? ⟨u6.heap.size, 2, none⟩ = some (.int .i64 zD.fb) ∧ W.cell? ⟨u6.heap.size, 3, none⟩ = some (.int .i64 zD.fi) ∧ W.cell? ⟨u6.heap.size, 4, none⟩ = some (.int .i64 zD.ro) ∧ W.cell? ⟨u6.heap.size, 5, none⟩ = some (.slice A6 zD.us.length a6) ∧ W.cell? ⟨u6.heap.size, 6, none⟩ = some (.slice D6 zD.is.length d6) ∧ W.cell? ⟨u7.heap.size, 0, none⟩ = some (.int .i64 zR.ix) ∧ W.cell? ⟨u7.heap.size, 1, none⟩ = some (.int .i64 zR.bl) ∧ W.cell? ⟨u7.heap.size, 2, none⟩ = some (.int .i64 zR.fb) ∧ W.cell? ⟨u7.heap.size, 3, none⟩ = some (.int .i64 zR.fi) ∧ W.cell? ⟨u7.heap.size, 4, none⟩ = some (.int .i64 zR.ro) ∧ W.cell? ⟨u7.heap.size, 5, none⟩ = some (.slice A7 zR.us.length a7) ∧ W.cell? ⟨u7.heap.size, 6, none⟩ = some (.slice D7 zR.is.length d7) ∧ W.cell? ⟨u8.heap.size, 0, none⟩ = some (.int .i64 zR.ix) ∧ W.cell? ⟨u8.heap.size, 1, none⟩ = some (.int .i64 zR.bl) ∧ W.cell? ⟨u8.heap.size, 2, none⟩ = some (.int .i64 zR.fb) ∧ W.cell? ⟨u8.heap.size, 3, none⟩ = some (.int .i64 zR.fi) ∧ W.cell? ⟨u8.heap.size, 4, none⟩ = some (.int .i64 zR.ro) ∧ W.cell? ⟨u8.heap.size, 5, none⟩ = some (.slice A8 zR.us.length a8) ∧ W.cell? ⟨u8.heap.size, 6, none⟩ = some (.slice D8 zR.is.length d8) ∧ W.cell? ⟨u9.heap.size, 0, none⟩ = some (.int .i64 zN.ix) ∧ W.cell? ⟨u9.heap.size, 1, none⟩ = some (.int .i64 zN.bl) ∧ W.cell? ⟨u9.heap.size, 2, none⟩ = some (.int .i64 zN.fb) ∧ W.cell? ⟨u9.heap.size, 3, none⟩ = some (.int .i64 zN.fi) ∧ W.cell? ⟨u9.heap.size, 4, none⟩ = some (.int .i64 zN.ro) ∧ W.cell? ⟨u9.heap.size, 5, none⟩ = some (.slice A9 zN.us.length a9) ∧ W.cell? ⟨u9.heap.size, 6, none⟩ = some (.slice D9 zN.is.length d9) ∧ W.cell? ⟨u10.heap.size, 0, none⟩ = some (.int .i64 zN.ix) ∧ W.cell? ⟨u10.heap.size, 1, none⟩ = some (.int .i64 zN.bl) ∧ W.cell? ⟨u10.heap.size, 2, none⟩ = some (.int .i64 zN.fb) ∧ W.cell? ⟨u10.heap.size, 3, none⟩ = some (.int .i64 zN.fi) ∧ W.cell? ⟨u10.heap.size, 4, none⟩ = some (.int .i64 zN.ro) ∧ W.cell? ⟨u10.heap.size, 5, none⟩ = some (.slice A10 zN.us.length a10) ∧ W.cell? ⟨u10.heap.size, 6, none⟩ = some (.slice D10 zN.is.length d10) ∧ W.cell? ⟨w.heap.size, 0, none⟩ = some (.int .i64 y.ix) ∧ W.cell? ⟨w.heap.size, 1, none⟩ = some (.int .i64 y.bl) ∧ W.cell? ⟨w.heap.size, 2, none⟩ = some (.int .i64 y.fb) ∧ W.cell? ⟨w.heap.size, 3, none⟩ = some (.int .i64 y.fi) ∧ W.cell? ⟨w.heap.size, 4, none⟩ = some (.int .i64 y.ro) ∧ W.cell? ⟨w.heap.size, 5, none⟩ = some (.slice P y.us.length p) ∧ W.cell? ⟨w.heap.size, 6, none⟩ = some (.slice P2 y.is.length p2) ∧ (convert 25 9 v3).run Try.prog W = .ok (.string sE) W ∧ (convert 25 9 v4).run Try.prog W = .ok (.string sE) W) (first | exact HSS.out _ HZ10.out | exact HSS.out _ Hwf.out | exact HSS.out _ Hwe.out | exact HSS.out _ Hwd.out | exact HSS.out _ Hwc.out | exact HSS.out _ Hwb.out | exact HSS.out _ Hwa.out | exact HSS.out _ HZ10.out.drew) (first | (go_at_call 21; (with_reducible refine (HLv.out _).mono ?_); rintro e wa ⟨rfl, hB⟩; have Hwa : Hid (Below w10.heap.size w10 wa) := HZ10.out.trans ((⟨hB.os, hB.tape, hB.output, hB.size, hB.block⟩ : Below w10.heap.size w10 wa).mono HZ10.out.size); clear hB) | (go_at_call 22; (with_reducible refine (HC1.out _ Hwa.out).mono ?_); rintro e wb ⟨rfl, hB⟩; have Hwb : Hid (Below w10.heap.size w10 wb) := Hwa.out.trans ((⟨hB.os, hB.tape, hB.output, hB.size, hB.block⟩ : Below wa.heap.size wa wb).mono Hwa.out.size); clear hB) | (go_at_call 22; (with_reducible refine (HC2.out _ Hwb.out).mono ?_); rintro e wc ⟨rfl, hB⟩; have Hwc : Hid (Below w10.heap.size w10 wc) := Hwb.out.trans ((⟨hB.os, hB.tape, hB.output, hB.size, hB.block⟩ : Below wb.heap.size wb wc).mono Hwb.out.size); clear hB) | (go_at_call 22; (with_reducible refine (HC3.out _ Hwc.out).mono ?_); rintro e wd ⟨rfl, hB⟩; have Hwd : Hid (Below w10.heap.size w10 wd) := Hwc.out.trans ((⟨hB.os, hB.tape, hB.output, hB.size, hB.block⟩ : Below wc.heap.size wc wd).mono Hwc.out.size); clear hB) | (go_at_call 23; (with_reducible refine (HC4.out _ Hwd.out).mono ?_); rintro e we ⟨rfl, hB⟩; have Hwe : Hid (Below w10.heap.size w10 we) := Hwd.out.trans ((⟨hB.os, hB.tape, hB.output, hB.size, hB.block⟩ : Below wd.heap.size wd we).mono Hwd.out.size); clear hB) | (go_at_call 24; (with_reducible refine (HC5.out _ Hwe.out).mono ?_); rintro e wf ⟨rfl, hB⟩; have Hwf : Hid (Below w10.heap.size w10 wf) := Hwe.out.trans ((⟨hB.os, hB.tape, hB.output, hB.size, hB.block⟩ : Below we.heap.size we wf).mono Hwe.out.size); clear hB))
    have hbf : Below w.heap.size w wf := HBc.out.trans ((HX10.out.trans (Hwf.out.mono HX10.out.size)).mono HBc.out.size)
    go_wp2_with fail
    go_ret
    exact ⟨rfl, hbf⟩
end Go.Proofs.Ytpcindemkkdbbaa.cylCodes
