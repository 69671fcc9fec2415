/- Whatever track, beginning and blocks come in, ArmFirst returns true, and they read afterwards as before. No condition. Here: the walk of the law's text. -/
import Derived.Test.YtpelocpjfmmceaaSG
import Derived.Test.YtpelocpjfmmceaaST
set_option linter.unusedVariables false
set_option linter.unusedSimpArgs false
namespace Go.Proofs.Ytpelocpjfmmceaa
open Go.RowKit
set_option maxRecDepth 100000 in
set_option maxHeartbeats 8000000 in
theorem ArmFirst.walk (per from_ : Int) (a2 : Option Addr) (len2 cap2 : Nat) (ms : List Int) (W : World) (hp : (Lit.int .u8 per).wf = true) (hn : (Lit.int .u8 from_).wf = true) (hm : IsWords W a2 len2 cap2 ms) :
    Calls Try.prog 7 #[.int .u8 per, .int .u8 from_, .slice a2 len2 cap2] W fun e W' => e = .returned (.bool true) ∧ Below W.heap.size W W' := by
  obtain ⟨p0, p1⟩ := bounds_u8 hp
  obtain ⟨n0, n1⟩ := bounds_u8 hn
  obtain ⟨e1, e2, e3, e4⟩ := hm
  subst e1
  unfold maxLen at e3
  have HM := Lib.hid e4
  obtain ⟨i0, hi0, hz0, hz1, hz2⟩ := info_parts infoI
  clear hp hn e4
  go_enter Try.func7, Try.ntmps7
  go_wp2
  go_loopw [8, 9] (fun s i wr => ∃ (k : Nat) (bl : List Int) (A' : Option Addr) (c' : Nat), k ≤ ms.length ∧ k ≤ 10 ∧ i = .int .i64 k ∧ s = .slice A' bl.length c' ∧ Hid (RowI wr W.heap.size A' c' bl) ∧ Hid (bl.length ≤ k ∧ bl.Nodup ∧ ∀ y ∈ bl, 0 ≤ y ∧ y < 1024) ∧ Hid (Below W.heap.size W wr)) (fun _ i _ => 11 - (intOf i).toNat)
  case atStart => exact ⟨0, [], none, 0, Nat.zero_le _, by omega, rfl, rfl, World.ownsRow_nil _ _ _ _, ⟨Nat.le_refl _, List.nodup_nil, fun y h => (by cases h)⟩, Below.refl _ _⟩
  case round =>
    obtain ⟨k, bl, A', c', hk, hkc, rfl, rfl, hrow, hbl, hB⟩ := hrel
    rename World => wr
    have hk0 : (0 : Int) ≤ (k : Int) := by omega
    obtain ⟨hbk, hbn, hbr⟩ := hbl.out
    by_cases hgo : k < ms.length ∧ k < 10
    · obtain ⟨hlt, hcp⟩ := hgo
      have hki : (k : Int) < (ms.length : Int) := by omega
      have hkc2 : (k : Int) < 10 := by omega
      obtain ⟨q0, q1⟩ := HM.out.1 _ (inn_mem hlt)
      obtain ⟨bb, off, rfl, hbb, hcc⟩ := HM.out.2 (by omega)
      have hck := (hB.out.cell (p := ⟨bb, off + k, none⟩) hbb).trans (hcc k hlt)
      generalize inn ms k = v at *
      obtain ⟨v2, hv⟩ : ∃ v2 : Int, v % 1024 = v2 := ⟨_, rfl⟩
      have r0 : 0 ≤ v % 1024 := by omega
      have r1 : v % 1024 < 1024 := by omega
      have hv2 : 0 ≤ v2 ∧ v2 < 1024 := by omega
      have Hv := Lib.hid hv
      have HI : Hid (Ints wr wr.heap.size A' bl) := hrow.out.ints
      have hcw := own_cap hrow.out
      unfold maxLen at hcw
      have HNo : Hid (v2 ∉ bl → (bl ++ [v2]).Nodup ∧ ∀ y ∈ bl ++ [v2], 0 ≤ y ∧ y < 1024) := fun h => by
        refine ⟨List.nodup_append.2 ⟨hbn, by simp, fun a ha b hb e => h (by rw [List.mem_singleton] at hb; rw [← hb, ← e]; exact ha)⟩, fun y hy => ?_⟩
        rcases List.mem_append.1 hy with h | h
        · exact hbr y h
        · rw [List.mem_singleton] at h; rw [h]; exact hv2
      clear hv hcc hbn hbr
      go_wp2
      rw [Hv.out]
      go_loopw [11, 12] (fun t i w7 => ∃ q : Nat, q ≤ bl.length ∧ i = .int .i64 q ∧ t = .bool (decide (v2 ∈ bl.take q)) ∧ Below wr.heap.size wr w7) (fun _ i _ => bl.length - (intOf i).toNat)
      case atStart => exact ⟨0, Nat.zero_le _, rfl, by simp, Below.refl _ _⟩
      case round =>
        obtain ⟨q, hq, rfl, rfl, hB7⟩ := hrel
        rename World => w7
        have HB7 := Lib.hid hB7
        have hq0 : (0 : Int) ≤ (q : Int) := by omega
        by_cases hql : q < bl.length
        · have hqi : (q : Int) < (bl.length : Int) := by omega
          obtain ⟨b1, o1, hA1, l1, c1⟩ := HI.out.at_ hql
          subst hA1
          have d1 := (hB7.cell (p := ⟨b1, o1 + q, none⟩) l1).trans c1
          have Hst : Hid (decide (v2 ∈ bl.take (q + 1)) = (decide (v2 ∈ bl.take q) || decide (inn bl q = v2))) := by
            unfold Hid
            rw [take_inn hql, ← Bool.decide_or]
            congr 1
            rw [List.mem_append, List.mem_singleton]
            exact propext ⟨fun h => h.imp id Eq.symm, fun h => h.imp id Eq.symm⟩
          generalize inn bl q = z at *
          generalize decide (v2 ∈ bl.take q) = di at *
          cases di with
          | true =>
            have Hs2 : Hid (decide (v2 ∈ bl.take (q + 1)) = true) := by unfold Hid; rw [Hst.out]; rfl
            clear hB7 c1 Hst
            go_wp2
            go_roundw
            case rel => exact ⟨q + 1, by omega, by go_num, by rw [Hs2.out], HB7.out⟩
            case measure => simp [intOf]; omega
          | false =>
            by_cases hzy : z = v2
            · have hbz : (z == v2) = true := by simpa using hzy
              have Hs2 : Hid (decide (v2 ∈ bl.take (q + 1)) = true) := by unfold Hid; rw [Hst.out, decide_eq_true hzy]; rfl
              clear hB7 c1 Hst hzy
              go_wp2
              go_roundw
              case rel => exact ⟨q + 1, by omega, by go_num, by rw [Hs2.out], HB7.out⟩
              case measure => simp [intOf]; omega
            · have hbz : (z == v2) = false := by simpa using hzy
              have Hs2 : Hid (decide (v2 ∈ bl.take (q + 1)) = false) := by unfold Hid; rw [Hst.out, decide_eq_false hzy]; rfl
              clear hB7 c1 Hst hzy
              go_wp2
              go_roundw
              case rel => exact ⟨q + 1, by omega, by go_num, by rw [Hs2.out], HB7.out⟩
              case measure => simp [intOf]; omega
        · obtain rfl : q = bl.length := by omega
          have hqi : ¬ (bl.length : Int) < (bl.length : Int) := by omega
          rw [List.take_length]
          have HRow : Hid ((w7.alloc (.cells #[.int .i64 v2] 3)).ownsRow W.heap.size 3 1 (.slice A' bl.length c') bl.length (intsV bl)) := (hrow.out.fresh hB7).alloc _
          have HNew : Hid (∀ ad, some (⟨w7.heap.size, 0, none⟩ : Addr) = some ad → ∀ j u, [Value.int .i64 v2][j]? = some u → (w7.alloc (.cells #[.int .i64 v2] 3)).cell? (ad.add j) = some u) := fun ad e j u hu => by
            cases e
            exact World.news_of_block (heap_alloc_new w7 (.cells #[.int .i64 v2] 3)) j u hu
          have HAft : Hid (∀ A8 c8 w8, w8.ownsRow W.heap.size 3 1 (.slice A8 (bl.length + 1) c8) (bl.length + 1) (intsV bl ++ [.int .i64 v2]) → (w7.alloc (.cells #[.int .i64 v2] 3)).grownBy w8 (Value.slice A' bl.length c').ownBlock → RowI w8 W.heap.size A8 c8 (bl ++ [v2]) ∧ Below W.heap.size W w8) := fun A8 c8 w8 h8 hg => by
            have hb7 : Below W.heap.size W w7 := hB.out.trans (hB7.mono hB.out.size)
            refine ⟨by unfold RowI; rw [List.length_append, intsV_append]; exact h8, (hb7.alloc hb7.size _).grown hg (by simp; have := hb7.size; omega) (fun j e => (hrow.out.lt j (by rw [← own_eq A' bl.length c']; exact e)).1)⟩
          have HBw : Hid (Below W.heap.size W w7) := hB.out.trans (hB7.mono hB.out.size)
          have HRw : Hid (RowI w7 W.heap.size A' c' bl) := hrow.out.fresh hB7
          have hwz : W.heap.size ≤ w7.heap.size := HBw.out.size
          have hbl10 : bl.length ≤ 20 := by omega
          by_cases hin : v2 ∈ bl
          · have hdi : decide (v2 ∈ bl) = true := decide_eq_true hin
            rw [hdi]
            clear hdi hB7 hrow
            go_wp2
            go_roundw
            case rel => exact ⟨k + 1, bl, A', c', by omega, by omega, by go_num, rfl, HRw.out, ⟨by omega, hbl.out.2⟩, HBw.out⟩
            case measure => simp [intOf]; omega
          · have hdi : decide (v2 ∈ bl) = false := decide_eq_false hin
            have HNo2 := Lib.hid (HNo.out hin)
            rw [hdi]
            clear hdi hB7 hrow hin HNo
            go_wp2_with (at_builtin; refine wpList_append_src rfl (.tmp 68) (.tmp 70) 31 rfl W.heap.size 3 i0 (.int .i64 0) 1 8 Try.underlying31 hi0 hz0 hz1 hz2 rfl (by decide) (.slice A' bl.length c') bl.length (intsV bl) rfl HRow.out (some ⟨w7.heap.size, 0, none⟩) 1 1 [.int .i64 v2] rfl rfl HNew.out (by intro h; cases h) (by intro u hu; simp at hu; subst hu; rfl) (by unfold maxLen; omega) (by omega) (by simp; omega) (bl.length + 1) rfl ?_; intro A8 c8 w8 ho8 hg8 hor8; obtain ⟨a1, a2⟩ := HAft.out A8 c8 w8 ho8 hg8; have G1 := Lib.hid a1; have G2 := Lib.hid a2; clear ho8 hg8 hor8 a1 a2)
            go_roundw
            case rel => exact ⟨k + 1, bl ++ [v2], A8, c8, by omega, by omega, by go_num, by rw [List.length_append]; rfl, G1.out, ⟨by rw [List.length_append]; simp; omega, HNo2.out⟩, G2.out⟩
            case measure => simp [intOf]; omega
    · have hx : (¬ (k : Int) < (ms.length : Int)) ∨ ((k : Int) < (ms.length : Int) ∧ ¬ (k : Int) < 10) := by omega
      have hb10 : bl.length ≤ 10 := by omega
      have HI : Hid (∀ w, Below wr.heap.size wr w → Ints w w.heap.size A' bl) := fun w h => hrow.out.ints.next h
      have HBl : Hid (bl.Nodup ∧ ∀ y ∈ bl, 0 ≤ y ∧ y < 1024) := ⟨hbn, hbr⟩
      have HBw := Lib.hid hB.out
      have hcw2 := own_cap hrow.out
      unfold maxLen at hcw2
      clear hrow hbl hbn hbr hgo hB
      have hm0 : 0 ≤ per % 64 := by omega
      have hm1 : per % 64 < 64 := by omega
      have hnew : ∀ p : Nat, 1 ≤ p → p ≤ 4 → newOk p (per % 64 + 1) = true := fun p h1 h2 => by unfold newOk; simp; omega
      obtain ⟨hbn, hbr⟩ := HBl.out
      obtain ⟨y1, hO1, hbl1, hyl1, hyp1, hyn1, hys1, hyu1, hall1⟩ := all_of 1 (by decide) (per % 64 + 1) from_ (hnew 1 (by omega) (by omega)) n0 (by omega) bl hbn hbr (by omega)
      obtain ⟨y2, hO2, hbl2, hyl2, hyp2, hyn2, hys2, hyu2, hall2⟩ := all_of 2 (by decide) (per % 64 + 1) from_ (hnew 2 (by omega) (by omega)) n0 (by omega) bl hbn hbr (by omega)
      obtain ⟨y4, hO4, hbl4, hyl4, hyp4, hyn4, hys4, hyu4, hall4⟩ := all_of 4 (by decide) (per % 64 + 1) from_ (hnew 4 (by omega) (by omega)) n0 (by omega) bl hbn hbr (by omega)
      have hg1 : goL y1 bl.length = bl := by
        rw [(fifo_go hO1 hyp1 (by omega) bl.length (by omega)).1, hbl1, List.take_length]
      rw [hg1] at hall1
      obtain ⟨s, hs⟩ : ∃ s, s = from_.toNat := ⟨_, rfl⟩
      obtain ⟨n', hn'⟩ : ∃ n', n' = (per % 64 + 1).toNat := ⟨_, rfl⟩
      have hn1 : 1 ≤ n' ∧ n' ≤ 64 := by omega
      have hnear : Hid (∀ j, j < bl.length → far s (inn (goL y2 bl.length) 0).toNat n' ≤ far s (inn bl j).toNat n') := fun j hj => by
        have := near_first hO2 hyp2 (j := j) (by omega)
        rw [hys2, hyn2, hbl2, ← hs, ← hn'] at this
        rw [inn_goL y2 bl.length 0 (by omega)]
        exact this
      have Hz : Hid (0 < bl.length → 0 ≤ inn (goL y2 bl.length) 0 ∧ inn (goL y2 bl.length) 0 < 1024) := fun h => by
        rw [inn_goL y2 bl.length 0 h]
        exact hO2.blk_in (Ar.choose_mem (by show 0 < y2.l.length; omega))
      obtain ⟨f, hf⟩ : ∃ f : Nat → Int, f = fun j => (stA y4 j).choose.1 := ⟨_, rfl⟩
      have HG : Hid (∀ j, j < bl.length → inn (goL y4 bl.length) j = f j) := fun j hj => by rw [hf]; exact inn_goL y4 bl.length j hj
      have HT : Hid (fallK f bl.length ≤ 1) := by rw [hf]; exact cyc_few hO4 hyp4 (by omega) bl.length (by omega)
      have HTk := Lib.hid (fallK_le f)
      have HL2 := Lib.hid (length_goL y2 bl.length)
      have HL4 := Lib.hid (length_goL y4 bl.length)
      have HBr : Hid (∀ j, j < bl.length → 0 ≤ inn bl j ∧ inn bl j < 1024) := fun j hj => hbr _ (inn_mem hj)
      obtain ⟨ax, ay, ha⟩ := plV_form s n'
      have HAt : Hid (∀ b : Int, 0 ≤ b → b < 1024 → ∃ bx by_, plV b.toNat n' = .complex .f64 bx by_ ∧ (∀ w, Calls Try.prog 22 #[.int .i64 b, .int .i64 (per % 64 + 1)] w fun e w' => e = .returned (.tuple #[.complex .f64 bx by_, .int .i64 0]) ∧ Below w.heap.size w w') ∧ ∀ w, Calls Try.prog 23 #[.complex .f64 ax ay, .complex .f64 bx by_] w fun e w' => e = .returned (.int .i64 (far s b.toNat n' : Nat)) ∧ w = w') := fun b b0 b1 => by
        obtain ⟨bx, by_, hb⟩ := plV_form b.toNat n'
        refine ⟨bx, by_, hb, fun w => ?_, fun w => ?_⟩
        · rw [← hb]
          exact (at_of b (per % 64 + 1) b.toNat n' (by omega) (by omega) (by omega) hn1.1 hn1.2 w).mono fun e w' ⟨h1, h2⟩ => ⟨h1, h2.below (Below.refl _ _)⟩
        · rw [← hb, ← ha]
          exact way_of s b.toNat n' (by omega) (by omega) hn1.1 hn1.2 w
      have HAt0 : Hid (∀ w, Calls Try.prog 22 #[.int .i64 from_, .int .i64 (per % 64 + 1)] w fun e w' => e = .returned (.tuple #[.complex .f64 ax ay, .int .i64 0]) ∧ Below w.heap.size w w') := fun w => by
        rw [← ha]
        exact (at_of from_ (per % 64 + 1) s n' (by omega) (by omega) (by omega) hn1.1 hn1.2 w).mono fun e w' ⟨h1, h2⟩ => ⟨h1, h2.below (Below.refl _ _)⟩
      have HA1 : Hid (∀ w, Below wr.heap.size wr w → Calls Try.prog 14 #[.int .u8 1, .int .i64 (per % 64 + 1), .int .i64 from_, .slice A' bl.length c'] w fun e w' => ∃ A2 c2, e = .returned (.tuple #[.slice A2 bl.length c2, .int .i64 ((stA y1 bl.length).m : Int), .int .i64 0]) ∧ RowI w' w.heap.size A2 c2 bl ∧ Below w.heap.size w w') := fun w h => hall1 A' c' w (HI.out w h)
      have HA2 : Hid (∀ w, Below wr.heap.size wr w → Calls Try.prog 14 #[.int .u8 2, .int .i64 (per % 64 + 1), .int .i64 from_, .slice A' bl.length c'] w fun e w' => ∃ A2 c2, e = .returned (.tuple #[.slice A2 bl.length c2, .int .i64 ((stA y2 bl.length).m : Int), .int .i64 0]) ∧ RowI w' w.heap.size A2 c2 (goL y2 bl.length) ∧ Below w.heap.size w w') := fun w h => hall2 A' c' w (HI.out w h)
      have HA4 : Hid (∀ w, Below wr.heap.size wr w → Calls Try.prog 14 #[.int .u8 4, .int .i64 (per % 64 + 1), .int .i64 from_, .slice A' bl.length c'] w fun e w' => ∃ A2 c2, e = .returned (.tuple #[.slice A2 bl.length c2, .int .i64 ((stA y4 bl.length).m : Int), .int .i64 0]) ∧ RowI w' w.heap.size A2 c2 (goL y4 bl.length) ∧ Below w.heap.size w w') := fun w h => hall4 A' c' w (HI.out w h)
      generalize ((stA y1 bl.length).m : Int) = M1 at *
      generalize ((stA y2 bl.length).m : Int) = M2 at *
      generalize ((stA y4 bl.length).m : Int) = M4 at *
      generalize goL y2 bl.length = X at *
      generalize goL y4 bl.length = C at *
      have HBb : Hid (bl.length ≤ 1000) := by unfold Hid; omega
      have HSm : Hid (∀ A2 c2 w, Ints w w.heap.size A2 bl → Below wr.heap.size wr w → Calls Try.prog 17 #[.slice A2 bl.length c2, .slice A' bl.length c'] w fun e w' => e = .returned (.bool true) ∧ Below w.heap.size w w') := fun A2 c2 w h1 h2 => same_ints A2 A' c2 c' bl w HBb.out h1 (HI.out w h2)
      obtain ⟨N, hN⟩ : ∃ N, N = bl.length := ⟨_, rfl⟩
      rw [← hN] at hnear Hz HG HT HL2 HL4 HBr HA1 HA2 HA4 HSm hb10 ⊢
      have HNb := Lib.hid hN
      have hbs : (N : Int) ≤ 10 := by omega
      clear hall1 hall2 hall4 hf ha hs hn' hg1 hbn hbr HBl hN hnew hO1 hbl1 hyl1 hyp1 hyn1 hys1 hyu1 hO2 hbl2 hyl2 hyp2 hyn2 hys2 hyu2 hO4 hbl4 hyl4 hyp4 hyn4 hys4 hyu4 hn1
      rcases hx with hx | ⟨hx1, hx2⟩
      all_goals
        go_wp2_with (first
          | (go_at_call 14; (with_reducible refine (HA1.out _ (Below.refl _ _)).mono ?_); rintro e w2 ⟨A2, c2, rfl, hr2, hb2⟩; have HF2 := Lib.hid hr2.ints; have HB2 := Lib.hid hb2; clear hb2 hr2)
          | (go_at_call 14; (with_reducible refine (HA2.out _ HB2.out).mono ?_); rintro e w3 ⟨A3, c3, rfl, hr3, hb3⟩; have HX3 := Lib.hid hr3.ints; have HF3 := Lib.hid (HF2.out.next hb3); have hc3 := own_cap hr3; have HB3 := Lib.hid (HB2.out.trans (hb3.mono HB2.out.size)); clear hb3 hr3)
          | (go_at_call 14; (with_reducible refine (HA4.out _ HB3.out).mono ?_); rintro e w4 ⟨A4, c4, rfl, hr4, hb4⟩; have HC4 := Lib.hid hr4.ints; have HX4 := Lib.hid (HX3.out.next hb4); have HF4 := Lib.hid (HF3.out.next hb4); have hc4 := own_cap hr4; have HB4 := Lib.hid (HB3.out.trans (hb4.mono HB3.out.size)); clear hb4 hr4)
          | (go_at_call 17; refine (HSm.out _ _ _ HF4.out HB4.out).mono ?_; rintro e w5 ⟨rfl, hb5⟩; have HB5 := Lib.hid hb5; clear hb5)
          | (go_at_call 22; refine (HAt0.out _).mono ?_; rintro e w6 ⟨rfl, hb6⟩; have HB6 := Lib.hid (HB5.out.trans (hb6.mono HB5.out.size)); clear hb6))
        unfold maxLen at hc3 hc4
        rw [HL2.out] at hc3
        rw [HL4.out] at hc4
        go_loopw [24] (fun i w7 => ∃ q : Nat, q ≤ N ∧ i = .int .i64 q ∧ Below w4.heap.size w4 w7) (fun i _ => N - (intOf i).toNat)
        case atStart => exact ⟨0, Nat.zero_le _, rfl, HB6.out⟩
        case round =>
          obtain ⟨q, hqN, rfl, hB7⟩ := hrel
          rename World => w7
          have HB7 := Lib.hid hB7
          have hq0 : (0 : Int) ≤ (q : Int) := by omega
          by_cases hqn : q < N
          · have hqi : (q : Int) < (N : Int) := by omega
            have hN0 : (0 : Int) < (N : Int) := by omega
            obtain ⟨b0, b1⟩ := HBr.out q hqn
            obtain ⟨z0, z1⟩ := Hz.out (by omega)
            obtain ⟨bx, by_, _, hat1, hway1⟩ := HAt.out _ b0 b1
            obtain ⟨zx, zy, _, hat2, hway2⟩ := HAt.out _ z0 z1
            have hnr := hnear.out q hqn
            have HT1 := Lib.hid hat1
            have HT2 := Lib.hid hat2
            have HW1 := Lib.hid hway1
            have HW2 := Lib.hid hway2
            obtain ⟨k1, o1, rfl, l1, e1⟩ := (HI.out wr (Below.refl _ _)).at_ (show q < bl.length by rw [← HNb.out]; exact hqn)
            obtain ⟨k2, o2, rfl, l2, e2⟩ := HX4.out.at_ (show 0 < X.length by rw [HL2.out]; omega)
            have HD1 : Hid (∀ w, Below w4.heap.size w4 w → w.cell? ⟨k1, o1 + q, none⟩ = some (.int .i64 (inn bl q))) := fun w h => ((HB4.out.trans (h.mono HB4.out.size)).cell (p := ⟨k1, o1 + q, none⟩) l1).trans e1
            have HD2 : Hid (∀ w, Below w4.heap.size w4 w → w.cell? ⟨k2, o2, none⟩ = some (.int .i64 (inn X 0))) := fun w h => (h.cell (p := ⟨k2, o2, none⟩) l2).trans e2
            have d1 := HD1.out w7 hB7
            generalize inn bl q = vb at *
            generalize inn X 0 = vz at *
            generalize far s vb.toNat n' = fb at *
            generalize far s vz.toNat n' = fz at *
            have hle : decide ((fb : Int) < (fz : Int)) = false := decide_eq_false (by omega)
            have hle2 : ¬ (fb : Int) < (fz : Int) := by omega
            clear hB7 hat1 hat2 hway1 hway2 e1 e2 hnr
            go_wp2_with (first
              | (go_at_call 22; (with_reducible refine (HT1.out _).mono ?_); rintro e w8 ⟨rfl, hb8⟩; have HB8 := Lib.hid (HB7.out.trans (hb8.mono HB7.out.size)); have d2 := HD2.out w8 HB8.out; clear hb8)
              | (go_at_call 22; (with_reducible refine (HT2.out _).mono ?_); rintro e w9 ⟨rfl, hb9⟩; have HB9 := Lib.hid (HB8.out.trans (hb9.mono HB8.out.size)); clear hb9)
              | (go_at_call 23; (with_reducible refine (HW1.out _).mono ?_); rintro e w' ⟨rfl, rfl⟩)
              | (go_at_call 23; (with_reducible refine (HW2.out _).mono ?_); rintro e w' ⟨rfl, rfl⟩))
            go_roundw
            case rel => exact ⟨q + 1, by omega, by go_num, HB9.out⟩
            case measure => simp [intOf]; omega
          · have hqi : ¬ (q : Int) < (N : Int) := by omega
            clear hB7 hqN
            go_wp2
            go_loopw [29, 30] (fun t i w8 => ∃ q : Nat, 1 ≤ q ∧ (q ≤ N ∨ q = 1) ∧ i = .int .i64 q ∧ t = .int .i64 (fallK f q) ∧ Below w4.heap.size w4 w8) (fun _ i _ => 13 - (intOf i).toNat)
            case atStart => exact ⟨1, Nat.le_refl _, .inr rfl, rfl, by rw [fallK_one], HB7.out⟩
            case round =>
              obtain ⟨q, hq1, hqN, rfl, rfl, hB8⟩ := hrel
              rename World => w8
              have HB8 := Lib.hid hB8
              by_cases hqn : q < N
              · have hqi : (q : Int) < (N : Int) := by omega
                have hq0 : (0 : Int) ≤ (q : Int) := by omega
                have hq1' : (0 : Int) ≤ (q : Int) - 1 := by omega
                have hq1'' : (q : Int) - 1 < (N : Int) := by omega
                obtain ⟨b1, o1, rfl, l1, c0⟩ := HC4.out.at_ (show 0 < C.length by rw [HL4.out]; omega)
                have HCs : Hid (∀ j, j < N → w8.cell? ⟨b1, o1 + j, none⟩ = some (.int .i64 (f j))) := fun j hj => by
                  obtain ⟨b2, o2, e2, l2, cj⟩ := HC4.out.at_ (show j < C.length by rw [HL4.out]; exact hj)
                  cases e2
                  rw [HG.out j hj] at cj
                  exact (hB8.cell (p := ⟨b1, o1 + j, none⟩) l1).trans cj
                have d0 := HCs.out q hqn
                have d1 := HCs.out (q - 1) (by omega)
                have dd : ((q : Int) - 1).toNat = q - 1 := by omega
                obtain ⟨ht0, ht1⟩ := HTk.out q
                clear c0 hB8
                by_cases hup : f q < f (q - 1)
                · have Hst : Hid (fallK f (q + 1) = fallK f q + 1) := fallK_up hq1 hup
                  have hu2 : decide (f q < f (q - 1)) = true := decide_eq_true hup
                  generalize fallK f q = tq at *
                  generalize f q = z0 at *
                  generalize f (q - 1) = z1 at *
                  clear hqN
                  go_wp2
                  go_quiet (fail)
                  go_wp2
                  go_roundw
                  case rel => exact ⟨q + 1, by omega, .inl (by omega), by go_num, by rw [Hst.out], bdn HB8.out _⟩
                  case measure => simp [intOf]; omega
                · have Hst : Hid (fallK f (q + 1) = fallK f q) := fallK_same hup
                  have hu2 : decide (f q < f (q - 1)) = false := decide_eq_false hup
                  generalize fallK f q = tq at *
                  generalize f q = z0 at *
                  generalize f (q - 1) = z1 at *
                  clear hqN
                  go_wp2
                  go_quiet (fail)
                  go_wp2
                  go_roundw
                  case rel => exact ⟨q + 1, by omega, .inl (by omega), by go_num, by rw [Hst.out], bdn HB8.out _⟩
                  case measure => simp [intOf]; omega
              · have hqi : ¬ (q : Int) < (N : Int) := by omega
                have hle : fallK f q ≤ 1 := by
                  rcases hqN with h | h
                  · obtain rfl : q = N := by omega
                    exact HT.out
                  · rw [h, fallK_one]; omega
                generalize fallK f q = tq at *
                clear hB8 hqN
                go_wp2_with (go_at_call 12; refine (live_any _).mono ?_; rintro e w9 ⟨rfl, hb9⟩; have HB9 := Lib.hid (HB8.out.trans (hb9.mono HB8.out.size)); clear hb9)
                go_ret
                exact ⟨by simp [hle], HBw.out.trans ((HB4.out.trans (HB9.out.mono HB4.out.size)).mono HBw.out.size)⟩
end Go.Proofs.Ytpelocpjfmmceaa
