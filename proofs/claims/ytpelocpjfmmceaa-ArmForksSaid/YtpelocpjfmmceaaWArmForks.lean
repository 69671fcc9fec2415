/- Whatever policy and deeds come in, ArmForks returns true, and they read afterwards as before. No condition. Here: the walk of the law's text. -/
import Derived.Test.YtpelocpjfmmceaaSG
set_option linter.unusedVariables false
set_option linter.unusedSimpArgs false
namespace Go.Proofs.Ytpelocpjfmmceaa
open Go.RowKit
set_option maxRecDepth 100000 in
set_option maxHeartbeats 2000000 in
theorem ArmForks.walk (p : Int) (a1 : Option Addr) (len1 cap1 : Nat) (ds : List Dd) (a2 : Option Addr) (len2 cap2 : Nat) (es : List Dd) (W : World) (hp : (Lit.int .u8 p).wf = true) (hd : IsDeeds W a1 len1 cap1 ds) (he : IsDeeds W a2 len2 cap2 es) :
    Calls Try.prog 9 #[.int .u8 p, .slice a1 len1 cap1, .slice a2 len2 cap2] W fun e W' => e = .returned (.bool true) ∧ Below W.heap.size W W' := by
  obtain ⟨p0, p1⟩ := bounds_u8 hp
  obtain ⟨d1, d2, d3, d4⟩ := hd
  obtain ⟨e1, e2, e3, e4⟩ := he
  have HP := Lib.hid (play_any p 7 a1 len1 cap1 ds W p0 p1 (by decide) (by decide) d1 d2 d3 d4)
  have HD := Lib.hid e4
  subst e1
  unfold maxLen at e3
  clear d1 d2 d3 d4 hp e4
  go_enter Try.func9, Try.ntmps9
  go_wp2_with fail
  refine HP.out.mono ?_
  rintro e w1 ⟨g, h, x, rfl, hT, hO, hB⟩
  have HT := Lib.hid hT
  have HO := Lib.hid hO
  have HB := Lib.hid hB
  have hl : x.l.length ≤ 1000 := by have := hO.len; omega
  clear hT hO hB
  go_wp2_with (go_at_call 12; refine (live_any _).mono ?_; rintro e w2 ⟨rfl, hb2⟩; have HT2 := Lib.hid (HT.out.fresh hb2); have HB2 := Lib.hid (HB.out.trans (hb2.mono HB.out.size)); clear hb2)
  obtain ⟨_, ⟨Ap, cp, hPp⟩, Ar', cr, hRr⟩ := HT2.out
  refine (fork_any W.heap.size g Ap cp x w2 hPp hl).mono ?_
  rintro e w3 ⟨f, Af, cf, rfl, hPf, hb3⟩
  have HB3 := Lib.hid (HB2.out.trans (hb3.mono HB2.out.size))
  have HT3 := Lib.hid (HT2.out.fresh hb3)
  go_wp2_with fail
  refine (rfork_any W.heap.size h Ar' cr x w3 (hRr.fresh hb3) hl).mono ?_
  rintro e w4 ⟨h2, Ah, ch, rfl, hRh, hb4⟩
  have HB4 := Lib.hid (HB3.out.trans (hb4.mono HB3.out.size))
  have HT4 := Lib.hid (HT3.out.fresh hb4)
  have hF4 : Two w2.heap.size w4 f h2 x x := ⟨Nat.le_trans hb3.size hb4.size, ⟨Af, cf, hPf.fresh hb4⟩, Ah, ch, ⟨hRh.head, own_base hRh.row hb3.size, hRh.ne, Nat.le_trans hb3.size hRh.lo⟩⟩
  have HF4 := Lib.hid hF4
  have HL := Lib.hid (show (∀ k, Of g Ap k → k < w2.heap.size) ∧ (∀ k, Of h Ar' k → k < w2.heap.size) from ⟨hPp.lt, hRr.lt⟩)
  have HPp4 := Lib.hid ((hPp.fresh hb3).fresh hb4)
  have HRr4 := Lib.hid ((hRr.fresh hb3).fresh hb4)
  have Hz := Lib.hid (Nat.le_trans hb3.size hb4.size)
  clear hPp hRr hPf hRh hb3 hb4 hF4
  go_wp2
  go_loopw [12] (fun i wr => ∃ (k : Nat) (y : Ar), k ≤ es.length ∧ k ≤ 20 ∧ i = .int .i64 k ∧ Hid (Two w2.heap.size wr f h2 y y) ∧ Hid (y.Ok (80 + k)) ∧ Hid (Below w2.heap.size w4 wr)) (fun i _ => es.length - (intOf i).toNat)
  case atStart => exact ⟨0, x, Nat.zero_le _, Nat.zero_le _, rfl, HF4.out, HO.out, Below.refl _ _⟩
  case round =>
    obtain ⟨k, y, hk, hk20, rfl, hT, hOy, hB⟩ := hrel
    rename World => wr
    have hk0 : (0 : Int) ≤ (k : Int) := by omega
    have HBw : Hid (Below W.heap.size W wr) := HB4.out.trans (hB.out.mono HB2.out.size)
    by_cases hgo : k < es.length ∧ k < 20
    · obtain ⟨hlt, h20⟩ := hgo
      have hlti : (k : Int) < (es.length : Int) := by omega
      have h20i : (k : Int) < 20 := by omega
      obtain ⟨b, off, rfl, hb, hc⟩ := (HD.out.next HBw.out) (by omega)
      obtain ⟨c0, c1, c2, c3⟩ := hc k hlt
      have HDo := Lib.hid (do_any w2.heap.size f h2 y (ddn es k) c3 wr hOy.out (by omega) hT.out)
      have Hn := Lib.hid (hOy.out.deed (ddn es k))
      generalize ddn es k = d at *
      obtain ⟨dk, db, dx⟩ := d
      unfold Dd.v DoSays at HDo
      clear hc c3
      generalize y.deed ⟨dk, db, dx⟩ = y2 at *
      go_wp2_with ((with_reducible refine HDo.out.mono ?_); rintro e w5 ⟨rfl, t5, b5⟩; have T5 := Lib.hid t5; have B5 := Lib.hid (hB.out.trans b5); clear t5 b5)
      go_roundw
      case rel => exact ⟨k + 1, y2, by omega, by omega, by go_num, T5.out, Hn.out, B5.out⟩
      case measure => simp [intOf]; omega
    · have HKp : Hid (Kept w4 wr (fun b => w2.heap.size ≤ b)) := Kept.of_below hB.out (fun b hb => .inl hb)
      have HTg : Hid (Two W.heap.size wr g h x x) := ⟨Nat.le_trans HT4.out.1 hB.out.size, ⟨Ap, cp, HPp4.out.keepOf HKp.out (fun k q z => by have := HL.out.1 k q; omega)⟩, Ar', cr, HRr4.out.keepOf HKp.out (fun k q z => by have := HL.out.2 k q; omega)⟩
      have HS1 := Lib.hid (fun w t => same_any W.heap.size g h x w HO.out t)
      have HS2 := Lib.hid (fun w t => same_any w2.heap.size f h2 y w hOy.out t)
      by_cases hlt : k < es.length
      · have hlti : (k : Int) < (es.length : Int) := by omega
        obtain rfl : k = 20 := by omega
        clear hgo
        go_wp2_with (first
          | (go_at_call 13; (with_reducible refine (HS1.out _ HTg.out).mono ?_); rintro e w5 ⟨rfl, hb5⟩; have HF5 := Lib.hid (hT.out.fresh hb5); have HB5 := Lib.hid (HBw.out.trans (hb5.mono HBw.out.size)); clear hb5)
          | (go_at_call 13; (with_reducible refine (HS2.out _ HF5.out).mono ?_); rintro e w6 ⟨rfl, hb6⟩; have HB6 := Lib.hid (HB5.out.trans (hb6.mono HB5.out.size)); clear hb6))
        go_ret
        exact ⟨by simp, HB6.out⟩
      · have hlti : ¬ (k : Int) < (es.length : Int) := by omega
        clear hgo
        go_wp2_with (first
          | (go_at_call 13; (with_reducible refine (HS1.out _ HTg.out).mono ?_); rintro e w5 ⟨rfl, hb5⟩; have HF5 := Lib.hid (hT.out.fresh hb5); have HB5 := Lib.hid (HBw.out.trans (hb5.mono HBw.out.size)); clear hb5)
          | (go_at_call 13; (with_reducible refine (HS2.out _ HF5.out).mono ?_); rintro e w6 ⟨rfl, hb6⟩; have HB6 := Lib.hid (HB5.out.trans (hb6.mono HB5.out.size)); clear hb6))
        go_ret
        exact ⟨by simp, HB6.out⟩
end Go.Proofs.Ytpelocpjfmmceaa
