/- Whatever policy, track and deeds come in, ArmOnce returns true, and they read afterwards as before. No condition. Here: the walk of the law's text. -/
import Derived.Test.YtpelocpjfmmceaaSG
import Derived.Test.YtpelocpjfmmceaaA7
set_option linter.unusedVariables false
set_option linter.unusedSimpArgs false
namespace Go.Proofs.Ytpelocpjfmmceaa
open Go.RowKit
set_option maxRecDepth 100000 in
set_option maxHeartbeats 4000000 in
theorem ArmOnce.walk (p n : Int) (a2 : Option Addr) (len2 cap2 : Nat) (ds : List Dd) (W : World) (hp : (Lit.int .u8 p).wf = true) (hn : (Lit.int .u8 n).wf = true) (hd : IsDeeds W a2 len2 cap2 ds) :
    Calls Try.prog 5 #[.int .u8 p, .int .u8 n, .slice a2 len2 cap2] W fun e W' => e = .returned (.bool true) ∧ Below W.heap.size W W' := by
  obtain ⟨p0, p1⟩ := bounds_u8 hp
  obtain ⟨n0, n1⟩ := bounds_u8 hn
  obtain ⟨d1, d2, d3, d4⟩ := hd
  have HP := Lib.hid (play_any p n a2 len2 cap2 ds W p0 p1 n0 n1 d1 d2 d3 d4)
  obtain ⟨i0, hi0, hz0, hz1, hz2⟩ := info_parts infoI
  clear d1 d2 d3 d4 hn hp
  go_enter Try.func5, Try.ntmps5
  go_wp2_with fail
  refine HP.out.mono ?_
  rintro e w1 ⟨g, h, x, rfl, hT, hO, hB⟩
  obtain ⟨hBz, ⟨Ap, cp, hPp⟩, _⟩ := hT
  have HPp := Lib.hid hPp
  have HO := Lib.hid hO
  have HB := Lib.hid hB
  obtain ⟨N, hN⟩ : ∃ N, N = x.l.length := ⟨_, rfl⟩
  have hN24 : N ≤ 24 := by rw [hN]; exact hO.len
  have HW : Hid (∀ w2, Below w1.heap.size w1 w2 → Calls Try.prog 18 #[.pointer (some ⟨g, 0, none⟩)] w2 fun e w' => ∃ A' c', e = .returned (.slice A' N c') ∧ RowI w' w2.heap.size A' c' (blk x.l) ∧ Below w2.heap.size w2 w') := fun w2 h2 => by
    have := waiting_any W.heap.size g Ap cp x w2 (hPp.fresh h2) (by have := hO.len; omega)
    rwa [← hN] at this
  have HNx : Hid (∀ (k : Nat) w A c, PAt W.heap.size w g A c (stA x k) → W.heap.size ≤ w.heap.size → k < N → Calls Try.prog 19 #[.pointer (some ⟨g, 0, none⟩)] w fun e w' => e = .returned (.tuple #[.int .i64 (stA x k).choose.1, .bool true]) ∧ PWent W.heap.size w g A (stA x (k + 1)) w') := fun k w A c h1 h2 h3 => by
    obtain ⟨o1, o2⟩ := hO.st k (by omega)
    exact next_some W.heap.size g A c _ w o1 (by omega) h1 (by omega) h2
  have HN0 : Hid (∀ w A c, PAt W.heap.size w g A c (stA x N) → Calls Try.prog 19 #[.pointer (some ⟨g, 0, none⟩)] w fun e w' => e = .returned (.tuple #[.int .i64 0, .bool false]) ∧ w = w') := fun w A c h1 => by
    obtain ⟨o1, o2⟩ := hO.st N (by omega)
    exact next_none W.heap.size g A c _ w h1 (by omega)
  have HW0 : Hid (∀ w A c, PAt W.heap.size w g A c (stA x N) → Calls Try.prog 18 #[.pointer (some ⟨g, 0, none⟩)] w fun e w' => ∃ A' c', e = .returned (.slice A' 0 c') ∧ Below w.heap.size w w') := fun w A c h1 => by
    obtain ⟨o1, o2⟩ := hO.st N (by omega)
    have h0 : (stA x N).l.length = 0 := by omega
    have := waiting_any W.heap.size g A c _ w h1 (by omega)
    rw [h0] at this
    exact this.mono fun e w' ⟨a, b, e1, _, e3⟩ => ⟨a, b, e1, e3⟩
  have HOn : Hid (∀ k, k < N → cntK (goL x N) (inn (blk x.l) k) N = 1) := fun k hk => by
    rw [hN]
    exact goL_once hO (inn_mem (by rw [length_blk, ← hN]; exact hk))
  have Hbl : Hid ((blk x.l).length = N) := by unfold Hid; rw [length_blk, hN]
  clear hB hO hPp hN
  go_wp2_with (first
    | (go_at_call 12; refine (live_any _).mono ?_; rintro e w2 ⟨rfl, hb2⟩; have HB2 := Lib.hid hb2; clear hb2)
    | (go_at_call 18; refine (HW.out _ HB2.out).mono ?_; rintro e w3 ⟨Aw, cw, rfl, hr3, hb3⟩; have HR3 := Lib.hid hr3; have HP3 := Lib.hid ((HPp.out.fresh HB2.out).fresh hb3); have HB3 := Lib.hid (HB.out.trans ((HB2.out.trans (hb3.mono HB2.out.size)).mono HB.out.size)); clear hr3 hb3))
  have HLw : Hid (∀ k, own Aw = some k → k < w3.heap.size) := fun k e => (HR3.out.lt k e).2
  go_loopw [11, 12] (fun s i wr => ∃ (k : Nat) (A' : Option Addr) (c' : Nat) (A4 : Option Addr) (c4 : Nat), k ≤ N ∧ i = .int .i64 k ∧ s = .slice A' k c' ∧ Hid (wr.ownsRow w3.heap.size 3 1 (.slice A' k c') k (intsV (goL x k))) ∧ Hid (PAt W.heap.size wr g A4 c4 (stA x k)) ∧ Hid (RowI wr w2.heap.size Aw cw (blk x.l)) ∧ Hid (Below W.heap.size W wr) ∧ Hid (w3.heap.size ≤ wr.heap.size)) (fun _ i _ => 26 - (intOf i).toNat)
  case atStart => exact ⟨0, none, 0, Ap, cp, Nat.zero_le _, rfl, rfl, World.ownsRow_nil _ _ _ _, HP3.out, HR3.out, HB3.out, Nat.le_refl _⟩
  case round =>
    obtain ⟨k, A', c', A4, c4, hk, rfl, rfl, hrow, hP, hRw, hBw, hz⟩ := hrel
    rename World => wr
    have hk0 : (0 : Int) ≤ (k : Int) := by omega
    have hki : (k : Int) < 26 := by omega
    by_cases hlt : k < N
    · have Hst : Hid (intsV (goL x k) ++ [.int .i64 (stA x k).choose.1] = intsV (goL x (k + 1))) := by unfold Hid; rw [goL, intsV_append]; rfl
      have HNk := Lib.hid (HNx.out k wr A4 c4 hP.out hBw.out.size hlt)
      have Hrow : Hid (∀ w6, PWent W.heap.size wr g A4 (stA x (k + 1)) w6 → (w6.alloc (.cells #[.int .i64 (stA x k).choose.1] 3)).ownsRow w3.heap.size 3 1 (.slice A' k c') k (intsV (goL x k)) ∧ w3.heap.size ≤ w6.heap.size) := fun w6 ⟨A6, c6, h6, k6, o6⟩ => by
        have hI : RowI wr w3.heap.size A' c' (goL x k) := by unfold RowI; rw [length_goL]; exact hrow.out
        have h2 := hI.keep k6 (fun j e q => not_of hI hP.out (by decide) (by decide) j e q)
        unfold RowI at h2
        rw [length_goL] at h2
        exact ⟨h2.alloc _, Nat.le_trans hz.out k6.size⟩
      have Hnew : Hid (∀ (w6 : World) ad, some (⟨w6.heap.size, 0, none⟩ : Addr) = some ad → ∀ j u, [Value.int .i64 (stA x k).choose.1][j]? = some u → (w6.alloc (.cells #[.int .i64 (stA x k).choose.1] 3)).cell? (ad.add j) = some u) := fun w6 ad e j u hu => by
        cases e
        exact World.news_of_block (heap_alloc_new w6 (.cells #[.int .i64 (stA x k).choose.1] 3)) j u hu
      have Haft : Hid (∀ w6 A7 c7 w7, PWent W.heap.size wr g A4 (stA x (k + 1)) w6 → w7.ownsRow w3.heap.size 3 1 (.slice A7 (k + 1) c7) (k + 1) (intsV (goL x k) ++ [.int .i64 (stA x k).choose.1]) → (w6.alloc (.cells #[.int .i64 (stA x k).choose.1] 3)).grownBy w7 (Value.slice A' k c').ownBlock → ∃ A6 c6, PAt W.heap.size w7 g A6 c6 (stA x (k + 1)) ∧ RowI w7 w2.heap.size Aw cw (blk x.l) ∧ Below W.heap.size W w7 ∧ w3.heap.size ≤ w7.heap.size ∧ w7.ownsRow w3.heap.size 3 1 (.slice A7 (k + 1) c7) (k + 1) (intsV (goL x (k + 1)))) := fun w6 A7 c7 w7 hw h7 hg => by
        obtain ⟨A6, c6, h6, k6, o6⟩ := hw
        have hI : RowI wr w3.heap.size A' c' (goL x k) := by unfold RowI; rw [length_goL]; exact hrow.out
        have hI6 := hI.keep k6 (fun j e q => not_of hI hP.out (by decide) (by decide) j e q)
        have hb6 : Below w6.heap.size w6 (w6.alloc (.cells #[.int .i64 (stA x k).choose.1] 3)) := (Below.refl _ _).alloc (Nat.le_refl _) _
        have hI6a := hI6.fresh hb6
        have h6a := h6.fresh hb6
        have hR6 := (hRw.out.keep k6 (fun j e q => not_of hRw.out hP.out (by decide) (by decide) j e q)).fresh hb6
        have hB6 : Below W.heap.size W (w6.alloc (.cells #[.int .i64 (stA x k).choose.1] 3)) := (hBw.out.trans (Went.below hP.out hBw.out.size k6)).alloc (Nat.le_trans hBw.out.size k6.size) _
        have hk7 : Kept (w6.alloc (.cells #[.int .i64 (stA x k).choose.1] 3)) w7 (fun b => own A' = some b) := Kept.grown hg (fun j e => .inl (by rw [← own_eq A' k c']; exact e))
        have hzw : w3.heap.size ≤ (w6.alloc (.cells #[.int .i64 (stA x k).choose.1] 3)).heap.size := Nat.le_trans hz.out (Nat.le_trans k6.size hb6.size)
        refine ⟨A6, c6, h6a.keepOf hk7 (fun j q e => not_of hI6a h6a (by decide) (by decide) j e q), hR6.keep hk7 (fun j e q => ?_), hB6.grown hg (Nat.le_trans hBw.out.size (Nat.le_trans k6.size hb6.size)) (fun j e => ?_), Nat.le_trans hzw hk7.size, by rw [← Hst.out]; exact h7⟩
        · have a1 := HLw.out j e
          have a2 := (hI.lt j q).1
          omega
        · rw [own_eq] at e
          have := (hI.lt j e).1
          have := HB3.out.size
          omega
      generalize (stA x k).choose.1 = bb at *
      clear Hst
      go_wp2_with (first
        | (go_at_call 19; refine HNk.out.mono ?_; rintro e w6 ⟨rfl, hw6⟩; obtain ⟨hr6, hz6⟩ := Hrow.out w6 hw6; have HR6 := Lib.hid hr6; have HZ6 := Lib.hid hz6; have HN6 := Lib.hid (Hnew.out w6); have HA6 := Lib.hid (fun A7 c7 w7 => Haft.out w6 A7 c7 w7 hw6); clear hw6 hr6 hz6)
        | (at_builtin; refine wpList_append_src rfl (.tmp 45) (.tmp 47) 31 rfl w3.heap.size 3 i0 (.int .i64 0) 1 8 Try.underlying31 hi0 hz0 hz1 hz2 rfl (by decide) (.slice A' k c') k (intsV (goL x k)) rfl HR6.out (some ⟨w6.heap.size, 0, none⟩) 1 1 [.int .i64 bb] rfl rfl HN6.out (by intro h; cases h) (by intro u hu; simp at hu; subst hu; rfl) (by unfold maxLen; omega) (by omega) (by have := HZ6.out; simp; omega) (k + 1) rfl ?_; intro A7 c7 w7 ho7 hg7 hor7; obtain ⟨A8, c8, b1, b2, b3, b4, b5⟩ := HA6.out A7 c7 w7 ho7 hg7; have G1 := Lib.hid b1; have G2 := Lib.hid b2; have G3 := Lib.hid b3; have G4 := Lib.hid b4; have G5 := Lib.hid b5; clear ho7 hg7 hor7 b1 b2 b3 b4 b5))
      go_roundw
      case rel => exact ⟨k + 1, A7, c7, A8, c8, by omega, by go_num, rfl, G5.out, G1.out, G2.out, G3.out, G4.out⟩
      case measure => simp [intOf]; omega
    · obtain rfl : k = N := by omega
      have HI1 : Hid (Ints wr wr.heap.size A' (goL x k)) := by
        have hI : RowI wr w3.heap.size A' c' (goL x k) := by unfold RowI; rw [length_goL]; exact hrow.out
        exact hI.ints
      have HI2 : Hid (Ints wr wr.heap.size Aw (blk x.l)) := hRw.out.ints
      have HNn := Lib.hid (HN0.out wr A4 c4 hP.out)
      have Hgl := Lib.hid (length_goL x k)
      have HW1 := Lib.hid (fun w (hw : Below wr.heap.size wr w) => HW0.out w A4 c4 (hP.out.fresh hw))
      have hcw := own_cap hRw.out
      have hc' := own_cap hrow.out
      unfold maxLen at hcw hc'
      rw [Hbl.out] at hcw
      generalize goL x k = G at *
      generalize blk x.l = Bk at *
      clear hrow hP hRw HNx
      go_wp2_with (refine HNn.out.mono ?_; rintro e w' ⟨rfl, rfl⟩)
      go_loopw [15] (fun i w6 => ∃ j : Nat, j ≤ k ∧ i = .int .i64 j ∧ Below wr.heap.size wr w6) (fun i _ => k - (intOf i).toNat)
      case atStart => exact ⟨0, Nat.zero_le _, rfl, Below.refl _ _⟩
      case round =>
        obtain ⟨j, hj, rfl, hB6⟩ := hrel
        rename World => w6
        have HB6 := Lib.hid hB6
        have hj0 : (0 : Int) ≤ (j : Int) := by omega
        by_cases hjl : j < k
        · have hji : (j : Int) < (k : Int) := by omega
          have hone := HOn.out j hjl
          obtain ⟨b2, o2, hA2, l2, c2⟩ := HI2.out.at_ (show j < Bk.length by rw [Hbl.out]; exact hjl)
          generalize inn Bk j = y at *
          have HOne := Lib.hid hone
          clear hone hB6
          go_wp2
          go_loopw [16, 17] (fun t i w7 => ∃ q : Nat, q ≤ k ∧ i = .int .i64 q ∧ t = .int .i64 (cntK G y q : Nat) ∧ Below wr.heap.size wr w7) (fun _ i _ => k - (intOf i).toNat)
          case atStart => exact ⟨0, Nat.zero_le _, rfl, rfl, HB6.out⟩
          case round =>
            obtain ⟨q, hq, rfl, rfl, hB7⟩ := hrel
            rename World => w7
            have HB7 := Lib.hid hB7
            have hq0 : (0 : Int) ≤ (q : Int) := by omega
            by_cases hql : q < k
            · have hqi : (q : Int) < (k : Int) := by omega
              obtain ⟨b1, o1, hA1, l1, c1⟩ := HI1.out.at_ (show q < G.length by rw [Hgl.out]; exact hql)
              subst hA1
              subst hA2
              have d1 := (hB7.cell (p := ⟨b1, o1 + q, none⟩) l1).trans c1
              have d2 := (hB7.cell (p := ⟨b2, o2 + j, none⟩) l2).trans c2
              have hs : cntK G y (q + 1) = cntK G y q + (if inn G q = y then 1 else 0) := rfl
              have hle := cntK_le G y q
              generalize inn G q = z at *
              generalize cntK G y q = cc at *
              by_cases hzy : z = y
              · have Hs := Lib.hid (show cntK G y (q + 1) = cc + 1 by rw [hs, if_pos hzy])
                have hbz : (z == y) = true := by simpa using hzy
                clear hs hzy hB7 c1
                go_wp2
                go_quiet (fail)
                go_wp2
                go_roundw
                case rel => exact ⟨q + 1, by omega, by go_num, by rw [Hs.out]; go_num, bdn HB7.out _⟩
                case measure => simp [intOf]; omega
              · have Hs := Lib.hid (show cntK G y (q + 1) = cc by rw [hs, if_neg hzy]; rfl)
                have hbz : (z == y) = false := by simpa using hzy
                clear hs hzy hB7 c1
                go_wp2
                go_quiet (fail)
                go_wp2
                go_roundw
                case rel => exact ⟨q + 1, by omega, by go_num, by rw [Hs.out], bdn HB7.out _⟩
                case measure => simp [intOf]; omega
            · obtain rfl : q = k := by omega
              have hqi : ¬ (q : Int) < (q : Int) := by omega
              rw [HOne.out]
              clear hB7
              go_wp2
              go_roundw
              case rel => exact ⟨j + 1, by omega, by go_num, HB7.out⟩
              case measure => simp [intOf]; omega
        · obtain rfl : j = k := by omega
          have hji : ¬ (j : Int) < (j : Int) := by omega
          clear hB6
          go_wp2_with (refine (HW1.out w6 HB6.out).mono ?_; rintro e w7 ⟨A9, c9, rfl, hb7⟩; have HB7 := Lib.hid (HB6.out.trans (hb7.mono HB6.out.size)); clear hb7)
          go_ret
          exact ⟨by simp, hBw.out.trans (HB7.out.mono hBw.out.size)⟩
end Go.Proofs.Ytpelocpjfmmceaa
