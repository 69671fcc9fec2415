/- BitsetOthers is true of every bytes, two numbers and switch, and leaves its arguments as they are. Conditions: none. Here: the walk of the law's text. -/
import Derived.Test.YtceppcmcokkkoaaX
import Derived.WalkKit
import Derived.OpenShut
namespace Go.Proofs.Ytceppcmcokkkoaa.bitsetOthers
open Go.RowKit
set_option maxRecDepth 100000 in
set_option maxHeartbeats 1000000 in
theorem walk (a0 : Option Addr) (len0 cap0 : Nat) (z0 : List Int) (a1 a2 : Int) (a3 : Bool) (w : World) (w0 : IsRow .u8 w a0 len0 cap0 z0) (w1 : (Lit.int .i64 a1).wf = true) (w2 : (Lit.int .i64 a2).wf = true) :
    Calls Try.prog 13 #[.slice a0 len0 cap0, .agg #[.int .i64 a1, .int .i64 a2], .bool a3] w fun e w' => e = .returned (.bool true) ∧ Below w.heap.size w w' := by
  obtain ⟨l, hl, hlc, hcm, hb, hfew⟩ := few_row2 w0
  have hl1 : l.length ≤ 1000 := by omega
  have hl2 : l.length ≤ maxLen := by omega
  have r1 := bounds_i64 w1
  have r2 := bounds_i64 w2
  have hall := hb.1
  have Hfew := Lib.hid hfew
  have hB0 : Below w.heap.size w (w.alloc (.cells #[.int .i64 a1, .int .i64 a2] 51)) := (Below.refl _ w).alloc (Nat.le_refl _) _
  have hs0 : w.heap.size ≤ (w.alloc (.cells #[.int .i64 a1, .int .i64 a2] 51)).heap.size := by simp
  clear hfew w0 w1 w2
  cases hh : hasB l.length a1 with
  | false =>
    have HH := Lib.hid hh
    have hbf := bitI_not hh
    have Hbf := Lib.hid hbf
    clear hh hbf
    go_enter Try.func13, Try.ntmps13
    go_wp2_with fail
    go_quiet (fail)
    have hQ : Quiet (w.alloc (.cells #[.int .i64 a1, .int .i64 a2] 51)) ((w.alloc (.cells #[.int .i64 a1, .int .i64 a2] 51)).drewN nq) := ⟨nq, rfl⟩
    generalize (w.alloc (.cells #[.int .i64 a1, .int .i64 a2] 51)).drewN nq = wx at *
    have hBx := hQ.below hB0
    have hbx := hb.below hBx
    clear hQ hB0 hs0
    go_wp2_with fail
    refine (Hfew.out _).mono ?_
    rintro e w' ⟨rfl, rfl⟩
    go_wp2_with fail
    refine (set_no _ _ l _ _ _ r1 HH.out).mono ?_
    rintro e wb ⟨rfl, rfl⟩
    go_wp2_with fail
    refine (live_any _).mono ?_
    rintro e wc ⟨rfl, hB2⟩
    have hbc := hbx.below (hB2.mono hBx.size)
    go_wp2_with fail
    refine (get_any _ _ l _ _ _ hbc hl2 r1).mono ?_
    rintro e wd ⟨rfl, hq⟩
    have hq : Quiet wc wd := hq
    rw [Hbf.out]
    go_wp2
    go_ret
    exact ⟨rfl, hq.below (hBx.trans (hB2.mono hBx.size))⟩
  | true =>
    obtain ⟨h0, h1⟩ := hasB_out hh
    obtain ⟨k, rfl⟩ := Int.eq_ofNat_of_zero_le h0
    have hk : k / 8 < l.length := by omega
    have Hbs := Lib.hid (fun j => bitI_setB l hall k j a3 hk)
    clear hh h0 h1
    go_enter Try.func13, Try.ntmps13
    go_wp2_with fail
    go_quiet (fail)
    have hQ : Quiet (w.alloc (.cells #[.int .i64 (k : Int), .int .i64 a2] 51)) ((w.alloc (.cells #[.int .i64 (k : Int), .int .i64 a2] 51)).drewN nq) := ⟨nq, rfl⟩
    generalize (w.alloc (.cells #[.int .i64 (k : Int), .int .i64 a2] 51)).drewN nq = wx at *
    have hBx := hQ.below hB0
    have hbx := hb.below hBx
    clear hQ hB0 hs0
    go_wp2_with fail
    refine (Hfew.out _).mono ?_
    rintro e w' ⟨rfl, rfl⟩
    go_wp2_with fail
    refine (set_yes _ _ l k _ _ (hbx.more hBx.size) hl1 hk).mono ?_
    rintro e wb ⟨rfl, hB2, hblk⟩
    have hbb := hbx.below (hB2.mono hBx.size)
    have hby := hblk.bts (setB_all hall k a3) hblk.lt
    have hB02 := hBx.trans (hB2.mono hBx.size)
    clear hblk
    go_wp2_with fail
    refine (live_any _).mono ?_
    rintro e wc ⟨rfl, hB3⟩
    have hbc := hbb.below (hB3.mono (Nat.le_trans hBx.size hB2.size))
    have hbyc := hby.below hB3
    have hB03 := hB02.trans (hB3.mono hB02.size)
    have hls : (setB l k a3).length ≤ maxLen := by rw [length_setB]; exact hl2
    have HL : Hid ((setB l k a3).length = l.length) := length_setB l k a3
    go_wp2_with fail
    rw [← HL.out]
    refine (get_any _ _ (setB l k a3) _ _ _ hbyc hls r1).mono ?_
    rintro e wd ⟨rfl, hq⟩
    have hq : Quiet wc wd := hq
    rw [Hbs.out, if_pos rfl, HL.out]
    have hbd := hq.bts hbc
    have hbyd := hq.bts hbyc
    have hB04 := hq.below hB03
    by_cases hka : a2 = (k : Int)
    · subst hka
      go_wp2
      go_ret
      exact ⟨rfl, hB04⟩
    · have hne : (a2 == (k : Int)) = false := by simp [hka]
      have Hka := Lib.hid hka
      clear hka
      go_wp2_with fail
      rw [← HL.out]
      refine (get_any _ _ (setB l k a3) _ _ _ hbyd hls r2).mono ?_
      rintro e we ⟨rfl, hq5⟩
      have hq5 : Quiet wd we := hq5
      rw [Hbs.out, if_neg Hka.out, HL.out]
      go_wp2_with fail
      refine (get_any _ _ l _ _ _ (hq5.bts hbd) hl2 r2).mono ?_
      rintro e wf ⟨rfl, hq6⟩
      have hq6 : Quiet we wf := hq6
      go_wp2
      go_ret
      exact ⟨rfl, hq6.below (hq5.below hB04)⟩

end Go.Proofs.Ytceppcmcokkkoaa.bitsetOthers
