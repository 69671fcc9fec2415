/- BitsetFills is true of every bytes and bounds, and leaves its arguments as they are. Conditions: none. Here: the walk of the law's text. -/
import Derived.Test.YtceppcmcokkkoaaM
import Derived.WalkKit
import Derived.OpenShut
namespace Go.Proofs.Ytceppcmcokkkoaa.bitsetFills
open Go.RowKit
set_option maxRecDepth 100000 in
set_option maxHeartbeats 1000000 in
theorem walk (a0 : Option Addr) (len0 cap0 : Nat) (z0 : List Int) (a1 : Int) (a2 : Int) (w : World) (w0 : IsRow .u8 w a0 len0 cap0 z0) (w1 : (Lit.int .u8 a1).wf = true) (w2 : (Lit.int .u8 a2).wf = true) :
    Calls Try.prog 15 #[.slice a0 len0 cap0, .int .u8 a1, .int .u8 a2] w fun e w' => e = .returned (.bool true) ∧ Below w.heap.size w w' := by
  obtain ⟨l, hl, hlc, hcm, hb, hfew⟩ := few_row w0
  have hl1 : l.length ≤ 1000 := by omega
  have r1 := bounds_u8 w1
  have r2 := bounds_u8 w2
  obtain ⟨a, rfl⟩ := Int.eq_ofNat_of_zero_le r1.1
  obtain ⟨z, rfl⟩ := Int.eq_ofNat_of_zero_le r2.1
  have Hfew := Lib.hid hfew
  have hall := hb.1
  have hz255 : z ≤ 255 := by omega
  have ha255 : a ≤ 255 := by omega
  clear hfew w0 w1 w2
  go_enter Try.func15, Try.ntmps15
  go_wp2_with fail
  refine Hfew.out.mono ?_
  rintro e w' ⟨rfl, rfl⟩
  go_wp2
  go_loopw [9, 10] (fun t i wr => ∃ k : Nat, i = .int .i64 k ∧ t = .int .i64 (cnt (good l a z) k) ∧ a ≤ k ∧ (k = a ∨ k ≤ 8 * l.length) ∧ k ≤ 1000 ∧ Quiet w wr) (fun _ i _ => 1000 - (intOf i).toNat)
  case atStart =>
    refine ⟨a, rfl, ?_, Nat.le_refl _, .inl rfl, by omega, 0, rfl⟩
    rw [cnt_skip (n := 0) (Nat.zero_le _) (fun j _ h2 => good_no (by omega)), cnt_zero]
    rfl
  case round =>
    obtain ⟨k, rfl, rfl, hak, hk, hk1, hq⟩ := hrel
    have Hq := Lib.hid hq
    have Hk := Lib.hid hk
    have hcl := cnt_le (good l a z) k
    clear hq hk
    by_cases hlt : k < z ∧ k < 8 * l.length
    · obtain ⟨hz1, hz2⟩ := hlt
      have hi1 : (k : Int) < (z : Int) := by omega
      have hi2 : (k : Int) < 8 * (l.length : Int) := by omega
      have hbq := Hq.out.bts hb
      cases hv : bitN l k with
      | false =>
        have Hv := Lib.hid hv
        have hs : cnt (good l a z) (k + 1) = cnt (good l a z) k + 1 := by rw [cnt_succ, good_yes (by omega) (by omega) hv]; rfl
        have Hs := Lib.hid hs
        clear hv hs
        go_wp2_with (go_at_call 34; refine (get_in _ _ l k _ _ _ hbq hl1 (by omega) Hv.out).mono ?_; rintro e w2 ⟨rfl, hq2⟩)
        go_roundw
        case rel => exact ⟨k + 1, by go_num, by rw [Hs.out]; go_num, by omega, .inr (by omega), by omega, Hq.out.trans hq2⟩
        case measure => simp [intOf]; omega
      | true =>
        have Hv := Lib.hid hv
        have hs : cnt (good l a z) (k + 1) = cnt (good l a z) k := by rw [cnt_succ, good_no (by rw [hv]; simp)]; rfl
        have Hs := Lib.hid hs
        clear hv hs
        go_wp2_with (go_at_call 34; refine (get_in _ _ l k _ _ _ hbq hl1 (by omega) Hv.out).mono ?_; rintro e w2 ⟨rfl, hq2⟩)
        go_roundw
        case rel => exact ⟨k + 1, by go_num, by rw [Hs.out], by omega, .inr (by omega), by omega, Hq.out.trans hq2⟩
        case measure => simp [intOf]; omega
    · have hwant : cnt (good l a z) k = cnt (good l a z) (8 * l.length) := by
        rcases Nat.le_total k (8 * l.length) with h | h
        · exact (cnt_skip h (fun j h1 h2 => good_no (by omega))).symm
        · rcases Hk.out with h' | h'
          · exact cnt_skip h (fun j h1 h2 => good_no (by omega))
          · rw [show k = 8 * l.length from by omega]
      obtain ⟨want, hw⟩ : ∃ want, want = cnt (good l a z) k := ⟨_, rfl⟩
      have hwz : want ≤ z := by
        rw [hw, hwant]
        rcases Nat.le_total (8 * l.length) z with h | h
        · have := cnt_le (good l a z) (8 * l.length); omega
        · rw [cnt_skip h (fun j h1 h2 => good_no (by omega))]; exact cnt_le _ _
      rw [← hw] at hwant
      rw [← hw]
      have Hwant := Lib.hid hwant
      clear hwant hw hcl
      have hbq := Hq.out.bts hb
      have hor : (z : Int) ≤ (k : Int) ∨ ((k : Int) < (z : Int) ∧ 8 * (l.length : Int) ≤ (k : Int)) := by omega
      rename World => wr
      have hBw := Hq.out.below (Below.refl w.heap.size w)
      have hown0 := own_empty wr
      have hlen8 : 8 * l.length ≤ 640 := by omega
      clear hlt
      rcases hor with hor | ⟨hor1, hor2⟩
      all_goals
        go_wp2_with (at_builtin; refine wpList_append_bytes rfl _ _ rfl wr.heap.size _ _ _ rfl hown0 _ _ l cap0 l.length rfl rfl (hbq.below ((Below.refl _ wr).alloc (by have := hBw.size; omega) _)) ?c1 ?c2 ?_)
        case c1 => omega
        case c2 => simp
        intro v7 wa hown hgrow
        have hB1 : Below w.heap.size w wa := hBw.trans ((below_copy hgrow).mono hBw.size)
        obtain ⟨A7, c7, rfl, hc7, hcm7, hb7⟩ := OwnB.form hown hall
        have Hb7 := Lib.hid hb7
        have HB1 := Lib.hid hB1
        clear hown hgrow hown0 hbq hBw hb7 hB1
        go_wp2
        go_loopw [11, 12, 13] (fun x la i ws => ∃ (k : Nat) (lk : List Int) (A : Option Addr) (c : Nat) (last : Int), i = .int .i64 k ∧ x = .slice A l.length c ∧ la = .int .i64 last ∧ lk.length = l.length ∧ Bts ws ws.heap.size A lk ∧ k + cnt (good lk a z) (8 * l.length) = want ∧ -1 ≤ last ∧ (∀ j : Nat, a ≤ j → (j : Int) ≤ last → bitN lk j = true) ∧ Below w.heap.size w ws) (fun _ _ i _ => 300 - (intOf i).toNat)
        case atStart => exact ⟨0, l, A7, c7, -1, rfl, rfl, rfl, rfl, Hb7.out, by rw [Hwant.out]; omega, by omega, fun j _ h2 => by omega, HB1.out⟩
        case round =>
          obtain ⟨m, lk, A, c, last, rfl, rfl, rfl, hlk, hbk, hcnt, hlast, hset, hBs⟩ := hrel
          have hm255 : m ≤ 255 := by omega
          have hm300 : (m : Int) < 300 := by omega
          have hlk1 : lk.length ≤ 1000 := by omega
          have Hcnt := Lib.hid hcnt
          have Hset := Lib.hid hset
          have Hlk := Lib.hid hlk
          rename World => ws
          rw [← hlk]
          clear hcnt hset hlk
          cases hf : firstB lk a z with
          | none =>
            have HF := Lib.hid hf
            have hmw : ((m : Int) == (want : Int)) = true := by
              have h1 := cnt_none hf
              have h2 := Hcnt.out
              rw [← Hlk.out, h1] at h2
              simp; omega
            clear hf
            go_wp2_with fail
            refine (first_any _ _ lk _ _ _ _ hbk hlk1 (by omega) (by omega)).mono ?_
            rintro e w3 ⟨rfl, hq3⟩
            rw [HF.out]
            unfold foundV
            go_wp2_with fail
            refine (live_any _).mono ?_
            rintro e w4 ⟨rfl, hB4⟩
            go_wp2
            go_ret
            exact ⟨rfl, (hq3.below hBs).trans (hB4.mono (by have := hBs.size; have := hq3.size; omega))⟩
          | some i =>
            have HF := Lib.hid hf
            obtain ⟨hi1, hi2⟩ := find_out hf
            obtain ⟨g1, g2, g3⟩ := good_out hi2
            have hgt : last < (i : Int) := by
              by_cases h : last < (i : Int)
              · exact h
              · have := Hset.out i (by omega) (by omega)
                rw [this] at g3
                cases g3
            have hi8 : i / 8 < lk.length := by omega
            have hcl := cnt_less hi1 hi2 (good_setB lk hbk.1 a z i · hi8)
            have hcw : m + 1 + cnt (good (setB lk i true) a z) (8 * lk.length) = want := by
              have h2 := Hcnt.out
              rw [← Hlk.out] at h2
              omega
            have hns : ∀ j : Nat, a ≤ j → (j : Int) ≤ (i : Int) → bitN (setB lk i true) j = true := by
              intro j hj1 hj2
              rw [bitN_setB lk hbk.1 i j true hi8]
              by_cases e : j = i
              · rw [if_pos e]
              · rw [if_neg e]
                cases hb : bitN lk j with
                | true => rfl
                | false =>
                  have hjg : good lk a z j = true := good_yes (by omega) (by omega) hb
                  have hmin := List.find?_eq_some_iff_getElem.1 hf
                  obtain ⟨_, q, hq, hqe, hqn⟩ := hmin
                  simp only [List.getElem_range] at hqe
                  subst hqe
                  have := hqn j (by omega)
                  simp only [List.getElem_range] at this
                  rw [hjg] at this
                  cases this
            have hgi : ¬ (i : Int) ≤ last := by omega
            have hga : ¬ (i : Int) < (a : Int) := by omega
            have hgz : ¬ (z : Int) ≤ (i : Int) := by omega
            have Hcw := Lib.hid hcw
            have Hns := Lib.hid hns
            clear hf hi2 g3 hcl hcw hns
            go_wp2_with fail
            refine (first_any _ _ lk _ _ _ _ hbk hlk1 (by omega) (by omega)).mono ?_
            rintro e w3 ⟨rfl, hq3⟩
            rw [HF.out]
            unfold foundV
            have hbk3 := hq3.bts hbk
            rw [← hq3.size] at hbk3
            go_wp2_with fail
            refine (set_yes _ _ lk i true _ hbk3 hlk1 hi8).mono ?_
            rintro e w4 ⟨rfl, hB4, hblk⟩
            go_wp2
            go_roundw
            case rel =>
              refine ⟨m + 1, setB lk i true, _, _, (i : Int), by go_num, rfl, rfl, by rw [length_setB], hblk.bts (setB_all hbk.1 i true) hblk.lt, Hcw.out, by omega, Hns.out, (hq3.below hBs).trans (hB4.mono (by have := hBs.size; have := hq3.size; omega))⟩
            case measure => simp [intOf]; omega
end Go.Proofs.Ytceppcmcokkkoaa.bitsetFills
