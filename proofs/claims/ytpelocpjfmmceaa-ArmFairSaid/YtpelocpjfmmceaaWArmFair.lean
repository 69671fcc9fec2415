/- Whatever deeds, block and blocks come in, ArmFair returns true, and they read afterwards as before. No condition. Here: the walk of the law's text. -/
import Derived.Test.YtpelocpjfmmceaaSG
import Derived.Test.YtpelocpjfmmceaaSH
set_option linter.unusedVariables false
set_option linter.unusedSimpArgs false
namespace Go.Proofs.Ytpelocpjfmmceaa
open Go.RowKit
theorem next_has {x : Ar} {y : Int} (h : hasR x.l y = true) (hne : x.choose.1 ≠ y) : hasR x.next.l y = true := by
  rw [hasR_iff] at h ⊢
  show y ∈ blk (agedL (dropL x.l x.choose.1))
  rw [blk_aged, blk_drop]
  rw [List.mem_filter]
  exact ⟨h, by simpa using fun q => hne q.symm⟩
set_option maxRecDepth 100000 in
set_option maxHeartbeats 4000000 in
theorem ArmFair.walk (a0 : Option Addr) (len0 cap0 : Nat) (ds : List Dd) (b : Int) (a2 : Option Addr) (len2 cap2 : Nat) (ms : List Int) (W : World) (hd : IsDeeds W a0 len0 cap0 ds) (hb : (Lit.int .u16 b).wf = true) (hm : IsWords W a2 len2 cap2 ms) :
    Calls Try.prog 6 #[.slice a0 len0 cap0, .int .u16 b, .slice a2 len2 cap2] W fun e W' => e = .returned (.bool true) ∧ Below W.heap.size W W' := by
  obtain ⟨b0, b1⟩ := bounds_u16 hb
  obtain ⟨d1, d2, d3, d4⟩ := hd
  obtain ⟨e1, e2, e3, e4⟩ := hm
  subst e1
  unfold maxLen at e3
  have HM := Lib.hid e4
  obtain ⟨P, hP⟩ : ∃ P : Int, b % 4 = P := ⟨_, rfl⟩
  obtain ⟨Q, hQ⟩ : ∃ Q : Int, b / 256 = Q := ⟨_, rfl⟩
  have HPl := Lib.hid (play_fr P Q a0 len0 cap0 ds W (by omega) (by omega) (by omega) (by omega) d1 d2 d3 d4)
  have HPe := Lib.hid hP
  have HQe := Lib.hid hQ
  obtain ⟨y, hy⟩ : ∃ y : Int, b % 1024 = y := ⟨_, rfl⟩
  have hy0 : 0 ≤ y ∧ y < 1024 := by omega
  have Hy := Lib.hid hy
  have m0 : 0 ≤ b % 4 := by omega
  have m3 : b % 4 ≤ 3 := by omega
  have q0 : 0 ≤ b / 256 := by omega
  have q255 : b / 256 ≤ 255 := by omega
  have y0 : 0 ≤ b % 1024 := by omega
  have y1 : b % 1024 < 1024 := by omega
  clear d1 d2 d3 d4 hb e4 hP hQ hy
  go_enter Try.func6, Try.ntmps6
  go_wp2_with fail
  rw [HPe.out, HQe.out]
  refine HPl.out.mono ?_
  rintro e w1 ⟨g, h, x, rfl, hT, hO, hF, hB⟩
  obtain ⟨_, ⟨Ap, cp, hPp⟩, _⟩ := hT
  have HPp := Lib.hid hPp
  have HO := Lib.hid hO
  have HF := Lib.hid hF
  have HB := Lib.hid hB
  clear hB hF hO hPp
  go_wp2_with (go_at_call 12; refine (live_any _).mono ?_; rintro e w2 ⟨rfl, hb2⟩; have HP2 := Lib.hid (HPp.out.fresh hb2); have HB2 := Lib.hid (HB.out.trans (hb2.mono HB.out.size)); clear hb2)
  rw [Hy.out]
  refine (ask_any W.heap.size g Ap cp x w2 y HP2.out HO.out.len HO.out.n0 HO.out.n1 HB2.out.size).mono ?_
  rintro e w3 ⟨rfl, A3, c3, hP3, hk3, _⟩
  have HP3 := Lib.hid hP3
  have HB3 := Lib.hid (HB2.out.trans (Went.below HP2.out HB2.out.size hk3))
  have hoa := HO.out.ask y
  have HOa := Lib.hid hoa
  have HFa := Lib.hid (HF.out.ask HO.out y)
  clear hP3 hk3
  by_cases he : x.askE y = 0
  · have hhas : hasR (x.ask y).l y = true := by
      unfold Ar.ask
      rw [if_pos he, hasR_iff]
      show y ∈ blk (x.l ++ [⟨y, 0⟩])
      unfold blk
      simp
    have HH := Lib.hid hhas
    rw [he]
    generalize x.ask y = x0 at *
    clear hoa hhas he HO HF
    go_wp2_with fail
    go_loopw [14] (fun i wr => ∃ (k : Nat) (z : Ar) (A4 : Option Addr) (c4 : Nat), k ≤ ms.length ∧ k ≤ 80 ∧ i = .int .i64 k ∧ Hid (z.Ok (80 + k)) ∧ Hid (Fr z) ∧ Hid (hasR z.l y = true) ∧ Hid (PAt W.heap.size wr g A4 c4 z) ∧ Hid (Below W.heap.size W wr)) (fun i _ => 81 - (intOf i).toNat)
    case atStart => exact ⟨0, x0, A3, c3, Nat.zero_le _, by omega, rfl, HOa.out, HFa.out, HH.out, HP3.out, HB3.out⟩
    case round =>
      obtain ⟨k, z, A4, c4, hk, hk80, rfl, hOz, hFz, hHz, hPz, hBz⟩ := hrel
      rename World => wr
      have hk0 : (0 : Int) ≤ (k : Int) := by omega
      by_cases hlt : k < ms.length
      · have hki : (k : Int) < (ms.length : Int) := by omega
        by_cases h80 : k < 80
        · have hk8 : (k : Int) < 80 := by omega
          obtain ⟨q0, q1⟩ := HM.out.1 _ (inn_mem hlt)
          obtain ⟨bb, off, rfl, hbb, hcc⟩ := HM.out.2 (by omega)
          have hck := (hBz.out.cell (p := ⟨bb, off + k, none⟩) hbb).trans (hcc k hlt)
          generalize inn ms k = v at *
          obtain ⟨v2, hv⟩ : ∃ v2 : Int, v % 1024 = v2 := ⟨_, rfl⟩
          have r0 : 0 ≤ v % 1024 := by omega
          have r1 : v % 1024 < 1024 := by omega
          have Hv := Lib.hid hv
          have HAsk := Lib.hid (ask_any W.heap.size g A4 c4 z wr v2 hPz.out hOz.out.len hOz.out.n0 hOz.out.n1 hBz.out.size)
          have HOs := Lib.hid (hOz.out.ask v2)
          have HFs := Lib.hid (hFz.out.ask hOz.out v2)
          have hhs : hasR (z.ask v2).l y = true := by
            unfold Ar.ask
            by_cases hz : z.askE v2 = 0
            · rw [if_pos hz, hasR_iff]
              show y ∈ blk (z.l ++ [⟨v2, 0⟩])
              have := hasR_iff.1 hHz.out
              unfold blk at this ⊢
              rw [List.map_append]
              exact List.mem_append_left _ this
            · rw [if_neg hz]; exact hHz.out
          have HHs := Lib.hid hhs
          generalize z.ask v2 = z1 at *
          clear hv hcc hhs hOz hFz hHz
          go_wp2_with fail
          rw [Hv.out]
          refine HAsk.out.mono ?_
          rintro e w5 ⟨rfl, A5, c5, hP5, hk5, _⟩
          have HB5 := Lib.hid (hBz.out.trans (Went.below hPz.out hBz.out.size hk5))
          have HP5 := Lib.hid hP5
          have hl1 : 0 < z1.l.length := by
            have := hasR_iff.1 HHs.out
            rcases Nat.eq_zero_or_pos z1.l.length with q | q
            · rw [List.eq_nil_of_length_eq_zero q] at this
              cases this
            · exact q
          have HNx := Lib.hid (next_some W.heap.size g A5 c5 z1 w5 HOs.out (by omega) HP5.out hl1 HB5.out.size)
          have HOn := Lib.hid (show z1.next.Ok (80 + (k + 1)) from HOs.out.next hl1)
          have HFn := Lib.hid (HFs.out.next HOs.out hl1)
          have HHn : Hid (z1.choose.1 ≠ y → hasR z1.next.l y = true) := fun hne => next_has HHs.out hne
          have hgB := hPz.out.glt
          generalize z1.next = z2 at *
          generalize z1.choose.1 = cb at *
          clear hP5 hk5 HAsk hl1
          by_cases hcy : cb = y
          · subst hcy
            have hbc : (cb == cb) = true := by simp
            clear HHn
            go_wp2_with (go_at_call 19; refine HNx.out.mono ?_; rintro e w6 ⟨rfl, A6, c6, hP6, hk6, _⟩; have HB6 := Lib.hid (HB5.out.trans (Went.below HP5.out HB5.out.size hk6)); clear hP6 hk6)
            go_ret
            exact ⟨by simp, HB6.out⟩
          · have hbc : (cb == y) = false := by simpa using hcy
            have hHn := HHn.out hcy
            have HH2 := Lib.hid hHn
            have ha1 := HFn.out.age y
            have hl2 : z2.l.length ≤ 1000 := by have := HOn.out.len; omega
            have HAg : Hid (∀ w6 A6 c6, PAt W.heap.size w6 g A6 c6 z2 → Calls Try.prog 21 #[.pointer (some ⟨g, 0, none⟩), .int .i64 y] w6 fun e w' => e = .returned (.int .i64 (z2.age y)) ∧ Below w6.heap.size w6 w') := fun w6 A6 c6 h6 => age_any W.heap.size g A6 c6 z2 y w6 h6 hl2
            have ha3 : ¬ 36 < z2.age y := by omega
            have ha2 : z2.age y ≤ 36 := by omega
            generalize z2.age y = ay at *
            clear HHn hHn
            go_wp2_with (first
              | (go_at_call 19; refine HNx.out.mono ?_; rintro e w6 ⟨rfl, A6, c6, hP6, hk6, _⟩; have HB6 := Lib.hid (HB5.out.trans (Went.below HP5.out HB5.out.size hk6)); have HP6 := Lib.hid hP6; clear hP6 hk6)
              | (go_at_call 21; refine (HAg.out _ _ _ HP6.out).mono ?_; rintro e w7 ⟨rfl, hb7⟩; have HB7 := Lib.hid (HB6.out.trans (hb7.mono HB6.out.size)); have HP7 := Lib.hid (HP6.out.fresh hb7); clear hb7))
            go_roundw
            case rel => exact ⟨k + 1, z2, A6, c6, by omega, by omega, by go_num, HOn.out, HFn.out, HH2.out, HP7.out, HB7.out⟩
            case measure => simp [intOf]; omega
        · have hk8 : ¬ (k : Int) < 80 := by omega
          have hl2 : z.l.length ≤ 1000 := by have := hOz.out.len; omega
          have HAg := Lib.hid (age_any W.heap.size g A4 c4 z y wr hPz.out hl2)
          have ha := hOz.out.age_ge hHz.out
          generalize z.age y = ay at *
          clear hOz hFz hHz
          go_wp2_with (go_at_call 21; refine HAg.out.mono ?_; rintro e w7 ⟨rfl, hb7⟩; have HB7 := Lib.hid (hBz.out.trans (hb7.mono hBz.out.size)); clear hb7)
          go_ret
          exact ⟨by simp [ha], HB7.out⟩
      · have hki : ¬ (k : Int) < (ms.length : Int) := by omega
        have hl2 : z.l.length ≤ 1000 := by have := hOz.out.len; omega
        have HAg := Lib.hid (age_any W.heap.size g A4 c4 z y wr hPz.out hl2)
        have ha := hOz.out.age_ge hHz.out
        generalize z.age y = ay at *
        clear hOz hFz hHz
        go_wp2_with (go_at_call 21; refine HAg.out.mono ?_; rintro e w7 ⟨rfl, hb7⟩; have HB7 := Lib.hid (hBz.out.trans (hb7.mono hBz.out.size)); clear hb7)
        go_ret
        exact ⟨by simp [ha], HB7.out⟩
  · have hax : x.ask y = x := by unfold Ar.ask; rw [if_neg he]
    rw [hax] at HP3
    by_cases h6 : hasR x.l y = true
    · have e6 : x.askE y = 6 := by unfold Ar.askE; rw [if_neg (by omega), if_pos h6]
      have ha := HO.out.age_ge h6
      have HAg := Lib.hid (age_any W.heap.size g A3 c3 x y w3 HP3.out (by have := HO.out.len; omega))
      rw [e6]
      generalize x.age y = ay at *
      clear hoa he hax h6 e6
      go_wp2_with (go_at_call 21; refine HAg.out.mono ?_; rintro e w7 ⟨rfl, hb7⟩; have HB7 := Lib.hid (HB3.out.trans (hb7.mono HB3.out.size)); clear hb7)
      all_goals
        go_ret
        exact ⟨by simp [ha], HB7.out⟩
    · have h24 : 24 ≤ x.l.length := by
        rcases Nat.lt_or_ge x.l.length 24 with q | q
        · exact absurd (by unfold Ar.askE; rw [if_neg (by omega), if_neg h6, if_neg (by omega)]) he
        · exact q
      have e11 : x.askE y = 11 := by unfold Ar.askE; rw [if_neg (by omega), if_neg h6, if_pos h24]
      have hle := HO.out.len
      have HWt := Lib.hid (waiting_any W.heap.size g A3 c3 x w3 HP3.out (by omega))
      have hl24 : x.l.length = 24 := by omega
      rw [hl24] at HWt
      rw [e11]
      clear hoa he hax h6 e11
      go_wp2_with (go_at_call 18; refine HWt.out.mono ?_; rintro e w7 ⟨A7, c7, rfl, _, hb7⟩; have HB7 := Lib.hid (HB3.out.trans (hb7.mono HB3.out.size)); clear hb7)
      go_ret
      exact ⟨by simp, HB7.out⟩
end Go.Proofs.Ytpelocpjfmmceaa
