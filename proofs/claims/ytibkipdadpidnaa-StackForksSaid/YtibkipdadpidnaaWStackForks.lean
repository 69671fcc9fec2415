/- Whatever bytes and deeds come in, StackForks returns true, and they read afterwards as before. No condition. Here: the walk of the law's text. -/
import Derived.Test.YtibkipdadpidnaaSL
import Derived.Test.YtibkipdadpidnaaSE
set_option linter.unusedVariables false
set_option linter.unusedSimpArgs false
namespace Go.Proofs.Ytibkipdadpidnaa
open Go.RowKit
theorem Dd.ok.more {w : World} {B B' : Nat} {d : Dd} (h : d.ok w B) (hB : B ≤ B') : d.ok w B' := ⟨h.p, h.c, h.m, h.i.more hB, h.f⟩
set_option maxRecDepth 100000 in
set_option maxHeartbeats 2000000 in
theorem StackForks.walk (a1 : Option Addr) (len1 cap1 : Nat) (bs : List Int) (a2 : Option Addr) (len2 cap2 : Nat) (ds : List Dd) (a3 : Option Addr) (len3 cap3 : Nat) (dt : List Dd) (W : World) (hb : IsBytes W a1 len1 cap1 bs) (hd : IsDeeds W a2 len2 cap2 ds) (hl : IsDeeds W a3 len3 cap3 dt) :
    Calls Try.prog 9 #[.slice a1 len1 cap1, .slice a2 len2 cap2, .slice a3 len3 cap3] W fun e W' => e = .returned (.bool true) ∧ Below W.heap.size W W' := by
  obtain ⟨rfl, b2, b3, b4⟩ := hb
  obtain ⟨rfl, d2, d3, d4⟩ := hd
  obtain ⟨rfl, l2, l3, l4⟩ := hl
  have HP := Lib.hid (play_any a1 cap1 bs a2 cap2 ds W b4 d2 d3 d4)
  have HD := Lib.hid l4
  unfold maxLen at l3
  clear b2 b3 b4 d2 d3 d4 l4
  go_enter Try.func9, Try.ntmps9
  go_wp2_with fail
  refine HP.out.mono ?_
  rintro e w1 ⟨g, r, s, rfl, hT, hO, hB⟩
  have HO := Lib.hid hO
  have HS : Hid (∀ V, Two W.heap.size V g r s s → Calls Try.prog 13 #[.pointer (some ⟨g, 0, none⟩), .pointer (some ⟨r, 0, none⟩)] V fun e w' => e = .returned (.bool true) ∧ Below V.heap.size V w') := fun V t => same_any _ g r 30 s _ hO (by omega) t
  have HF1 : Hid (∀ V, Two W.heap.size V g r s s → Calls Try.prog 28 #[.pointer (some ⟨g, 0, none⟩)] V fun e w' => ∃ f, e = .returned (.pointer (some ⟨f, 0, none⟩)) ∧ (∃ L, StkAt V.heap.size w' f L s) ∧ Below V.heap.size V w') := fun V t => by
    obtain ⟨L, h⟩ := t.p
    exact (pfork_any _ g L s V h).mono fun e w' ⟨d, e1, e2, e3⟩ => ⟨d, e1, ⟨L, e2⟩, e3⟩
  have HF2 : Hid (∀ V, Two W.heap.size V g r s s → Calls Try.prog 29 #[.pointer (some ⟨r, 0, none⟩)] V fun e w' => ∃ f, e = .returned (.pointer (some ⟨f, 0, none⟩)) ∧ Rf V.heap.size w' f s ∧ Below V.heap.size V w') := fun V t => by
    obtain ⟨bA, bc, A, c', h⟩ := t.r
    have h2 := hO.len
    exact rfork_any _ r bA A bc c' s V h (by omega)
  have HN : Hid (∀ V V', Two W.heap.size V g r s s → Below W.heap.size W V → Below V.heap.size V V' → Two W.heap.size V' g r s s ∧ Below W.heap.size W V') := fun V V' t h k => ⟨t.fresh k, h.trans (k.mono h.size)⟩
  have H1 := Lib.hid (And.intro hT hB)
  clear hT hO hB
  go_wp2_with (first
    | (go_at_call 12; refine (live_any _).mono ?_; rintro e w2 ⟨rfl, hb2⟩; have H2 := Lib.hid (HN.out _ _ H1.out.1 H1.out.2 hb2); clear hb2)
    | (go_at_call 28; (with_reducible refine (HF1.out _ H2.out.1).mono ?_); rintro e w3 ⟨f, rfl, p3, hb3⟩; have P3 := Lib.hid p3; have H3 := Lib.hid (HN.out _ _ H2.out.1 H2.out.2 hb3); have B3 := Lib.hid hb3; clear p3 hb3)
    | (go_at_call 29; (with_reducible refine (HF2.out _ H3.out.1).mono ?_); rintro e w4 ⟨h, rfl, p4, hb4⟩; have P4 := Lib.hid p4; have B4 := Lib.hid hb4; clear p4 hb4))
  have HT : Hid (Two w2.heap.size w4 f h s s) := by
    obtain ⟨L, h3⟩ := P3.out
    exact ⟨Nat.le_trans B3.out.size B4.out.size, ⟨L, h3.fresh B4.out⟩, P4.out.base B3.out.size⟩
  have HB := Lib.hid (B3.out.trans (B4.out.mono B3.out.size))
  have HW2 : Hid (∀ V, Below w2.heap.size w2 V → Two W.heap.size V g r s s ∧ Below W.heap.size W V) := fun V k => HN.out _ _ H2.out.1 H2.out.2 k
  have hW2 := H2.out.2.size
  clear P3 P4 B3 B4 H3 HF1 HF2 H1 HN HP
  go_loopw [12] (fun i wr => ∃ (k : Nat) (z : Sk), k ≤ dt.length ∧ k ≤ 14 ∧ i = .int .i64 k ∧ Hid (Two w2.heap.size wr f h z z) ∧ Hid (Ok (30 + k) z) ∧ Hid (Below w2.heap.size w2 wr)) (fun i _ => dt.length - (intOf i).toNat)
  case atStart => exact ⟨0, s, Nat.zero_le _, Nat.zero_le _, rfl, HT.out, HO.out, HB.out⟩
  case round =>
    obtain ⟨k, z, hk, hk14, rfl, hT, hO, hB⟩ := hrel
    rename World => wr
    have hk0 : (0 : Int) ≤ (k : Int) := by omega
    by_cases hlt : k < dt.length ∧ k < 14
    · obtain ⟨hlt, h14⟩ := hlt
      have hlti : (k : Int) < (dt.length : Int) := by omega
      have h14i : (k : Int) < 14 := by omega
      obtain ⟨b, off, rfl, hb, hc⟩ := (HD.out.next (HW2.out _ hB.out).2) (by omega)
      obtain ⟨⟨x0, x1, x2, x3, x4, x5, x6⟩, hok⟩ := hc k hlt
      have HDo := Lib.hid (do_any w2.heap.size f h (30 + k) z (ddn dt k) wr (hok.more hW2) hO.out (by omega) hT.out)
      have Hn := Lib.hid (hO.out.deed (ddn dt k))
      have HBd : Hid (∀ V, KG f h wr V → Below w2.heap.size w2 V) := fun V q => Below.trans hB.out (hT.out.below q)
      generalize deed z (ddn dt k) = z2 at *
      generalize ddn dt k = d at *
      obtain ⟨dk, dn, dm, ⟨pb, po, ps⟩, dA, dl, dc⟩ := d
      unfold Dd.v Dd.cells DoSays at HDo
      simp only at HDo x0 x1 x2 x3 x4 x5 x6
      clear hc hok
      go_wp2_with (go_at_call 30; (with_reducible refine HDo.out.mono ?_); rintro e w3 ⟨rfl, t3, k3⟩; have T3 := Lib.hid t3; have B3 := Lib.hid (HBd.out _ k3); clear t3 k3)
      go_roundw
      case rel => exact ⟨k + 1, z2, by omega, by omega, by go_num, T3.out, Hn.out, B3.out⟩
      case measure => simp [intOf]; omega
    · have HS2 : Hid (∀ V, Two w2.heap.size V f h z z → Calls Try.prog 13 #[.pointer (some ⟨f, 0, none⟩), .pointer (some ⟨h, 0, none⟩)] V fun e w' => e = .returned (.bool true) ∧ Below V.heap.size V w') := fun V t => same_any _ f h (30 + k) z _ hO.out (by omega) t
      have H5 := Lib.hid (HW2.out _ hB.out)
      have HT6 : Hid (∀ V, Below wr.heap.size wr V → Two w2.heap.size V f h z z) := fun V q => hT.out.fresh q
      by_cases h14 : k < dt.length
      · obtain rfl : k = 14 := by omega
        have hlti : ((14 : Nat) : Int) < (dt.length : Int) := by omega
        go_wp2_with (first
          | (go_at_call 13; (with_reducible refine (HS.out _ H5.out.1).mono ?_); rintro e w6 ⟨rfl, hb6⟩; have B6 := Lib.hid hb6; clear hb6)
          | (go_at_call 13; (with_reducible refine (HS2.out _ (HT6.out _ B6.out)).mono ?_); rintro e w7 ⟨rfl, hb7⟩; have B7 := Lib.hid (B6.out.trans (hb7.mono B6.out.size)); clear hb7))
        go_ret
        exact ⟨by simp, H5.out.2.trans (B7.out.mono H5.out.2.size)⟩
      · have hlti : ¬ (k : Int) < (dt.length : Int) := by omega
        go_wp2_with (first
          | (go_at_call 13; (with_reducible refine (HS.out _ H5.out.1).mono ?_); rintro e w6 ⟨rfl, hb6⟩; have B6 := Lib.hid hb6; clear hb6)
          | (go_at_call 13; (with_reducible refine (HS2.out _ (HT6.out _ B6.out)).mono ?_); rintro e w7 ⟨rfl, hb7⟩; have B7 := Lib.hid (B6.out.trans (hb7.mono B6.out.size)); clear hb7))
        go_ret
        exact ⟨by simp, H5.out.2.trans (B7.out.mono H5.out.2.size)⟩
end Go.Proofs.Ytibkipdadpidnaa
