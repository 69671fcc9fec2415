/- Whatever deeds come in, GroupForks returns true, and they read afterwards as before. No condition. Here: the walk of the law's text. -/
import Derived.Test.YtdndchoghhllmaaSD
set_option linter.unusedVariables false
set_option linter.unusedSimpArgs false
namespace Go.Proofs.Ytdndchoghhllmaa
open Go.RowKit
set_option maxRecDepth 100000 in
set_option maxHeartbeats 4000000 in
theorem GroupForks.walk (a1 : Option Addr) (len1 cap1 : Nat) (ds : List Dd) (a2 : Option Addr) (len2 cap2 : Nat) (es : List Dd) (W : World) (hd : IsDeeds W a1 len1 cap1 ds) (he : IsDeeds W a2 len2 cap2 es) :
    Calls Try.prog 9 #[.slice a1 len1 cap1, .slice a2 len2 cap2] W fun e W' => e = .returned (.bool true) ∧ Below W.heap.size W W' := by
  obtain ⟨d1, d2, d3, d4⟩ := hd
  obtain ⟨e1, e2, e3, e4⟩ := he
  have HP := Lib.hid (play_any a1 len1 cap1 ds W d1 d2 d3 d4)
  have HD := Lib.hid e4
  subst e1
  unfold maxLen at e3
  clear d1 d2 d3 d4 e4
  go_enter Try.func9, Try.ntmps9
  go_wp2_with fail
  refine HP.out.mono ?_
  rintro e w1 ⟨g, h, x, rfl, hT, hO, hB⟩
  have HT := Lib.hid hT
  have HO := Lib.hid hO
  have HB := Lib.hid hB
  clear hT hO hB
  go_wp2_with (go_at_call 14; refine (live_any _).mono ?_; rintro e w2 ⟨rfl, hb2⟩; have HT2 := Lib.hid (HT.out.fresh hb2); have HB2 := Lib.hid (HB.out.trans (hb2.mono HB.out.size)); clear hb2)
  have hF : Calls Try.prog 23 #[.pointer (some ⟨g, 0, none⟩)] w2 fun e w' => ∃ f mb L, e = .returned (.pointer (some ⟨f, 0, none⟩)) ∧ PrgAt w2.heap.size (8 * 61) w' f mb L x.k ∧ gp L = x.l ∧ Below w2.heap.size w2 w' := by
    obtain ⟨_, ⟨mb, L, hPp, hg⟩, _⟩ := HT2.out
    have hl : L.length ≤ 8 := by have := HO.out.len; rw [← hg, length_gp] at this; exact this
    exact (fork_any W.heap.size (8 * 60) g mb L x.k w2 hPp (by omega) hl).mono fun e w' ⟨f, mf, L2, q1, q2, q3, q4⟩ => ⟨f, mf, L2, q1, q2, by rw [q3, hg], q4⟩
  refine hF.mono ?_
  rintro e w3 ⟨f, mf, Lf, rfl, hPf, hgf, hb3⟩
  have HPf := Lib.hid hPf
  have HGf := Lib.hid hgf
  have Hb3 := Lib.hid hb3
  have HB3 := Lib.hid (HB2.out.trans (hb3.mono HB2.out.size))
  have HT3 := Lib.hid (HT2.out.fresh hb3)
  clear hF hPf hgf hb3
  go_wp2_with fail
  have hF : Calls Try.prog 29 #[.pointer (some ⟨h, 0, none⟩)] w3 fun e w' => ∃ f A q L, e = .returned (.pointer (some ⟨f, 0, none⟩)) ∧ RefAt w3.heap.size w' f A q L x.k ∧ gs L = x.l ∧ Below w3.heap.size w3 w' := by
    obtain ⟨_, _, A, q, L, hR, hg⟩ := HT3.out
    refine (rfork_any W.heap.size h A q L x.k w3 hR (rlen hg HO.out) (fun z hz => ?_)).mono fun e w' ⟨f, Af, qf, L2, q1, q2, q3, q4⟩ => ⟨f, Af, qf, L2, q1, q2, by rw [q3, hg], q4⟩
    have hzl : z.g ∈ x.l := by rw [← hg]; exact List.mem_map.2 ⟨z, hz, rfl⟩
    have h1 := (HO.out.al z.g hzl).1
    have h2 := (HO.out.pr z.g hzl).2.1
    omega
  refine hF.mono ?_
  rintro e w4 ⟨h2, Ah, qh, Lh, rfl, hRh, hgh, hb4⟩
  have HB4 := Lib.hid (HB3.out.trans (hb4.mono HB3.out.size))
  have HT4 := Lib.hid (HT3.out.fresh hb4)
  have HF4 : Hid (Two w2.heap.size 61 w4 f h2 x x) := ⟨Nat.le_trans Hb3.out.size hb4.size, ⟨mf, Lf, HPf.out.fresh hb4, HGf.out⟩, Ah, qh, Lh, hRh.base Hb3.out.size, hgh⟩
  have HLow : Hid (∀ V, Below w2.heap.size w4 V → Two W.heap.size 60 V g h x x) := fun V hV => by
    obtain ⟨h0, ⟨mb, L, p1, p2⟩, A, q, L2, r1, r2⟩ := HT2.out
    have hb : Below w2.heap.size w2 V := (Hb3.out.trans (hb4.mono Hb3.out.size)).trans hV
    exact ⟨Nat.le_trans h0 hb.size, ⟨mb, L, p1.fresh hb, p2⟩, A, q, L2, r1.fresh hb, r2⟩
  clear hF hRh hgh hb4
  go_wp2
  go_loopw [10] (fun i wr => ∃ (k : Nat) (y : Gs), k ≤ es.length ∧ k ≤ 20 ∧ i = .int .i64 k ∧ Hid (Two w2.heap.size (61 + k) wr f h2 y y) ∧ Hid (y.Ok (61 + k)) ∧ Hid (Below w2.heap.size w4 wr)) (fun i _ => es.length - (intOf i).toNat)
  case atStart => exact ⟨0, x, Nat.zero_le _, Nat.zero_le _, rfl, HF4.out, HO.out.more (by omega), Below.refl _ _⟩
  case round =>
    obtain ⟨k, y, hk, hk20, rfl, hT, hOy, hB⟩ := hrel
    rename World => wr
    have hk0 : (0 : Int) ≤ (k : Int) := by omega
    have HBw : Hid (Below W.heap.size W wr) := HB4.out.trans (hB.out.mono HB2.out.size)
    by_cases hgo : k < es.length ∧ k < 20
    · obtain ⟨hlt, h20⟩ := hgo
      have hlti : (k : Int) < (es.length : Int) := by omega
      have h20i : (k : Int) < 20 := by omega
      obtain ⟨b, off, rfl, hb, hc⟩ := (HD.out.next HBw.out) (by omega)
      obtain ⟨c0, c1, c2, c3⟩ := hc k hlt
      have HDo := Lib.hid (do_any w2.heap.size f h2 y (ddn es k) c3.1 c3.2 wr hOy.out (by omega) hT.out)
      have Hn := Lib.hid (hOy.out.deed (ddn es k))
      generalize ddn es k = d at *
      obtain ⟨dk, db, dx⟩ := d
      unfold Dd.v DoSays at HDo
      clear hc c3
      generalize y.deed ⟨dk, db, dx⟩ = y2 at *
      go_wp2_with ((with_reducible refine HDo.out.mono ?_); rintro e w5 ⟨rfl, t5, b5, _⟩; have T5 := Lib.hid t5; have B5 := Lib.hid (hB.out.trans b5); clear t5 b5)
      go_roundw
      case rel => exact ⟨k + 1, y2, by omega, by omega, by go_num, T5.out, Hn.out, B5.out⟩
      case measure => simp [intOf]; omega
    · have HTg := Lib.hid (HLow.out wr hB.out)
      have HS1 := Lib.hid (fun w t => same_any W.heap.size g h x w HO.out (by omega) t)
      have HS2 := Lib.hid (fun w t => same_any w2.heap.size f h2 y w hOy.out (by omega) t)
      by_cases hlt : k < es.length
      · have hlti : (k : Int) < (es.length : Int) := by omega
        obtain rfl : k = 20 := by omega
        clear hgo
        go_wp2_with (first
          | (go_at_call 15; (with_reducible refine (HS1.out _ HTg.out).mono ?_); rintro e w5 ⟨rfl, hb5⟩; have HF5 := Lib.hid (hT.out.fresh hb5); have HB5 := Lib.hid (HBw.out.trans (hb5.mono HBw.out.size)); clear hb5)
          | (go_at_call 15; (with_reducible refine (HS2.out _ HF5.out).mono ?_); rintro e w6 ⟨rfl, hb6⟩; have HB6 := Lib.hid (HB5.out.trans (hb6.mono HB5.out.size)); clear hb6))
        go_ret
        exact ⟨by simp, HB6.out⟩
      · have hlti : ¬ (k : Int) < (es.length : Int) := by omega
        clear hgo
        go_wp2_with (first
          | (go_at_call 15; (with_reducible refine (HS1.out _ HTg.out).mono ?_); rintro e w5 ⟨rfl, hb5⟩; have HF5 := Lib.hid (hT.out.fresh hb5); have HB5 := Lib.hid (HBw.out.trans (hb5.mono HBw.out.size)); clear hb5)
          | (go_at_call 15; (with_reducible refine (HS2.out _ HF5.out).mono ?_); rintro e w6 ⟨rfl, hb6⟩; have HB6 := Lib.hid (HB5.out.trans (hb6.mono HB5.out.size)); clear hb6))
        go_ret
        exact ⟨by simp, HB6.out⟩
end Go.Proofs.Ytdndchoghhllmaa
