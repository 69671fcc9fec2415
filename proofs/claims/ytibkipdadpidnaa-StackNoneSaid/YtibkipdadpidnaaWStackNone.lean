/- Whatever deed and bytes come in, StackNone returns true, and they read afterwards as before. No condition. Here: the walk of the law's text. -/
import Derived.Test.YtibkipdadpidnaaSM
set_option linter.unusedVariables false
set_option linter.unusedSimpArgs false
namespace Go.Proofs.Ytibkipdadpidnaa
open Go.RowKit
open Pat (Pt AllB undoP nth)
theorem DdB.fresh {w w' : World} {b : Nat} {d : Dd} (h : DdB w b d) (hb : Below w.heap.size w w') : DdB w' b d := (hb.block b h.lt).trans h
set_option maxRecDepth 100000 in
set_option maxHeartbeats 8000000 in
theorem StackNone.walk (d : Dd) (a1 : Option Addr) (len1 cap1 : Nat) (bs : List Int) (W : World) (hd : d.ok W W.heap.size) (hb : IsBytes W a1 len1 cap1 bs) :
    Calls Try.prog 10 #[d.v, .slice a1 len1 cap1] W fun e W' => e = .returned (.bool true) ∧ Below W.heap.size W W' := by
  obtain ⟨rfl, b2, b3, b4⟩ := hb
  have H0 : Hid (Below W.heap.size W (W.alloc (.cells d.cells 48)) ∧ DdB (W.alloc (.cells d.cells 48)) W.heap.size d) := ⟨Pat.below_alloc1 W _, heap_alloc_new W _⟩
  have HN : Hid (∀ V V', Below W.heap.size W V ∧ DdB V W.heap.size d → Below V.heap.size V V' → Below W.heap.size W V' ∧ DdB V' W.heap.size d) := fun V V' h k => ⟨h.1.trans (k.mono h.1.size), h.2.fresh k⟩
  have hl5 : Hid (∀ V, Below W.heap.size W V → bs.length = 32 → Calls Try.prog 31 #[.slice a1 bs.length cap1] V fun e w' => ∃ g, e = .returned (.pointer (some ⟨g, 0, none⟩)) ∧ Below W.heap.size W w') := fun V h e => by
    rw [e]
    exact (pnew_any a1 cap1 bs V e ((b4.below h).more h.size)).mono fun e w' ⟨g, e1, _, e3⟩ => ⟨g, e1, h.trans (e3.mono h.size)⟩
  have hl6 : Hid (∀ V, Below W.heap.size W V → bs.length ≠ 32 → Calls Try.prog 31 #[.slice a1 bs.length cap1] V fun e w' => e = .returned (.pointer none) ∧ Below W.heap.size W w') := fun V h e => (pnew_short a1 bs.length cap1 V e).mono fun e w' q => ⟨q.1, by rw [← q.2]; exact h⟩
  clear b2 b3 b4 hd
  generalize bs.length = ll at *
  obtain ⟨dk, dn, dm, pp, dA, dl, dc⟩ := d
  have K1 := Lib.hid (fun V => npush V pp)
  have K2 := Lib.hid (fun V => npop V)
  have K3 := Lib.hid (fun V => nroll V dA dl.length dc)
  have K4 := Lib.hid (fun V => nunder V dn)
  have K5 := Lib.hid (fun V => nget V dn)
  have K6 := Lib.hid (fun V => nsettle V dA dl.length dc)
  have K7 := Lib.hid (fun V => nsquash V dn dm)
  have K8 := Lib.hid (fun V => nneeds V dn)
  obtain ⟨pb, po, ps⟩ := pp
  unfold Dd.v
  unfold Dd.cells at *
  unfold Pat.Pt.v at K1 K2 K5
  simp only [Pat.zeroP] at *
  by_cases hll : ll = 32
  · have K9 := Lib.hid (fun V h => hl5.out V h hll)
    have h1 : ((ll : Int) != 32) = false := by simpa using (show (ll : Int) = 32 by omega)
    clear hll hl5 hl6
    go_enter Try.func10, Try.ntmps10
    go_wp2_with (first
      | (go_at_call 18; (with_reducible refine (K1.out _).mono ?_); rintro e w1 ⟨rfl, b1⟩; have H1 := Lib.hid (HN.out _ _ H0.out b1); obtain ⟨_, x11, x12, x13, x14, x15, x16⟩ := H1.out.2.cl; have l1 := H1.out.2.lt; simp only at x11 x12 x13 x14 x15 x16; clear b1)
      | (go_at_call 20; (with_reducible refine (K2.out _).mono ?_); rintro e w2 ⟨rfl, b2⟩; have H2 := Lib.hid (HN.out _ _ H1.out b2); obtain ⟨_, x21, x22, x23, x24, x25, x26⟩ := H2.out.2.cl; have l2 := H2.out.2.lt; simp only at x21 x22 x23 x24 x25 x26; have H2a := Lib.hid (HN.out _ _ H2.out (Pat.below_alloc1 w2 (.cells #[.int .i64 0, .int .i64 0, .string ⟨#[]⟩] 38))); have P2 := Lib.hid (Pat.boxed1 w2 Pat.zeroP); clear b2)
      | (go_at_call 14; (with_reducible refine (K3.out _).mono ?_); rintro e w3 ⟨rfl, rfl⟩)
      | (go_at_call 19; (with_reducible refine (K4.out _).mono ?_); rintro e w4 ⟨rfl, b4⟩; have H4 := Lib.hid (HN.out _ _ H2a.out b4); obtain ⟨_, x41, x42, x43, x44, x45, x46⟩ := H4.out.2.cl; have l4 := H4.out.2.lt; simp only at x41 x42 x43 x44 x45 x46; have P4 := Lib.hid (P2.out.below b4 (Pat.BlkIs.lt P2.out)); clear b4)
      | (go_at_call 26; (with_reducible refine (K5.out _).mono ?_); rintro e w5 ⟨rfl, b5⟩; have H5 := Lib.hid (HN.out _ _ H4.out b5); have H5a := Lib.hid (HN.out _ _ H5.out (Pat.below_alloc1 w5 (.cells #[.int .i64 0, .int .i64 0, .string ⟨#[]⟩] 38))); have P5 := Lib.hid (P4.out.below b5 (Pat.BlkIs.lt P4.out)); have P5a := Lib.hid (P5.out.below (Pat.below_alloc1 w5 (.cells #[.int .i64 0, .int .i64 0, .string ⟨#[]⟩] 38)) (Pat.BlkIs.lt P5.out)); clear b5)
      | (go_at_call 12; (with_reducible refine (live_any _).mono ?_); rintro e w6 ⟨rfl, b6⟩; have H6 := Lib.hid (HN.out _ _ H5a.out b6); obtain ⟨_, x61, x62, x63, x64, x65, x66⟩ := H6.out.2.cl; have l6 := H6.out.2.lt; simp only at x61 x62 x63 x64 x65 x66; obtain ⟨p60, p61, p62⟩ := (P5a.out.below b6 (Pat.BlkIs.lt P5a.out)).cells; have p6l := Pat.BlkIs.lt (P5a.out.below b6 (Pat.BlkIs.lt P5a.out)); simp only [Pat.zeroP] at p60 p61 p62; clear b6)
      | (go_at_call 24; (with_reducible refine (K6.out _).mono ?_); rintro e w7 ⟨rfl, rfl⟩)
      | (go_at_call 23; (with_reducible refine (K7.out _).mono ?_); rintro e w8 ⟨rfl, rfl⟩)
      | (go_at_call 17; (with_reducible refine (nbytes _).mono ?_); rintro e w9 ⟨rfl, rfl⟩)
      | (go_at_call 22; (with_reducible refine (nbase _).mono ?_); rintro e w10 ⟨rfl, rfl⟩)
      | (go_at_call 21; (with_reducible refine (nwaiting _).mono ?_); rintro e w11 ⟨rfl, rfl⟩)
      | (go_at_call 25; (with_reducible refine (K8.out _).mono ?_); rintro e w12 ⟨rfl, rfl⟩)
      | (go_at_call 28; (with_reducible refine (nfork _).mono ?_); rintro e w13 ⟨rfl, rfl⟩)
      | (go_at_call 31; (with_reducible refine (K9.out _ H6.out.1).mono ?_); rintro e w14 ⟨g, rfl, b14⟩; have B14 := Lib.hid b14; clear b14))
    go_ret
    exact ⟨by simp, B14.out⟩
  · have K9 := Lib.hid (fun V h => hl6.out V h hll)
    have h1 : ((ll : Int) != 32) = true := by simpa using (show (ll : Int) ≠ 32 by omega)
    clear hll hl5 hl6
    go_enter Try.func10, Try.ntmps10
    go_wp2_with (first
      | (go_at_call 18; (with_reducible refine (K1.out _).mono ?_); rintro e w1 ⟨rfl, b1⟩; have H1 := Lib.hid (HN.out _ _ H0.out b1); obtain ⟨_, x11, x12, x13, x14, x15, x16⟩ := H1.out.2.cl; have l1 := H1.out.2.lt; simp only at x11 x12 x13 x14 x15 x16; clear b1)
      | (go_at_call 20; (with_reducible refine (K2.out _).mono ?_); rintro e w2 ⟨rfl, b2⟩; have H2 := Lib.hid (HN.out _ _ H1.out b2); obtain ⟨_, x21, x22, x23, x24, x25, x26⟩ := H2.out.2.cl; have l2 := H2.out.2.lt; simp only at x21 x22 x23 x24 x25 x26; have H2a := Lib.hid (HN.out _ _ H2.out (Pat.below_alloc1 w2 (.cells #[.int .i64 0, .int .i64 0, .string ⟨#[]⟩] 38))); have P2 := Lib.hid (Pat.boxed1 w2 Pat.zeroP); clear b2)
      | (go_at_call 14; (with_reducible refine (K3.out _).mono ?_); rintro e w3 ⟨rfl, rfl⟩)
      | (go_at_call 19; (with_reducible refine (K4.out _).mono ?_); rintro e w4 ⟨rfl, b4⟩; have H4 := Lib.hid (HN.out _ _ H2a.out b4); obtain ⟨_, x41, x42, x43, x44, x45, x46⟩ := H4.out.2.cl; have l4 := H4.out.2.lt; simp only at x41 x42 x43 x44 x45 x46; have P4 := Lib.hid (P2.out.below b4 (Pat.BlkIs.lt P2.out)); clear b4)
      | (go_at_call 26; (with_reducible refine (K5.out _).mono ?_); rintro e w5 ⟨rfl, b5⟩; have H5 := Lib.hid (HN.out _ _ H4.out b5); have H5a := Lib.hid (HN.out _ _ H5.out (Pat.below_alloc1 w5 (.cells #[.int .i64 0, .int .i64 0, .string ⟨#[]⟩] 38))); have P5 := Lib.hid (P4.out.below b5 (Pat.BlkIs.lt P4.out)); have P5a := Lib.hid (P5.out.below (Pat.below_alloc1 w5 (.cells #[.int .i64 0, .int .i64 0, .string ⟨#[]⟩] 38)) (Pat.BlkIs.lt P5.out)); clear b5)
      | (go_at_call 12; (with_reducible refine (live_any _).mono ?_); rintro e w6 ⟨rfl, b6⟩; have H6 := Lib.hid (HN.out _ _ H5a.out b6); obtain ⟨_, x61, x62, x63, x64, x65, x66⟩ := H6.out.2.cl; have l6 := H6.out.2.lt; simp only at x61 x62 x63 x64 x65 x66; obtain ⟨p60, p61, p62⟩ := (P5a.out.below b6 (Pat.BlkIs.lt P5a.out)).cells; have p6l := Pat.BlkIs.lt (P5a.out.below b6 (Pat.BlkIs.lt P5a.out)); simp only [Pat.zeroP] at p60 p61 p62; clear b6)
      | (go_at_call 24; (with_reducible refine (K6.out _).mono ?_); rintro e w7 ⟨rfl, rfl⟩)
      | (go_at_call 23; (with_reducible refine (K7.out _).mono ?_); rintro e w8 ⟨rfl, rfl⟩)
      | (go_at_call 17; (with_reducible refine (nbytes _).mono ?_); rintro e w9 ⟨rfl, rfl⟩)
      | (go_at_call 22; (with_reducible refine (nbase _).mono ?_); rintro e w10 ⟨rfl, rfl⟩)
      | (go_at_call 21; (with_reducible refine (nwaiting _).mono ?_); rintro e w11 ⟨rfl, rfl⟩)
      | (go_at_call 25; (with_reducible refine (K8.out _).mono ?_); rintro e w12 ⟨rfl, rfl⟩)
      | (go_at_call 28; (with_reducible refine (nfork _).mono ?_); rintro e w13 ⟨rfl, rfl⟩)
      | (go_at_call 31; (with_reducible refine (K9.out _ H6.out.1).mono ?_); rintro e w14 ⟨rfl, b14⟩; have B14 := Lib.hid b14; clear b14))
    go_ret
    exact ⟨by simp, B14.out⟩
end Go.Proofs.Ytibkipdadpidnaa
