/- PatchAlls is true of every bytes and patches, and leaves its arguments as they are. Conditions: none. Here: the walk of the law's text. -/
import Derived.Test.YtiblmdpgdlacaaaR
namespace Go.Proofs.Ytiblmdpgdlacaaa.patchAlls
open Go.RowKit
set_option maxRecDepth 100000 in
set_option maxHeartbeats 1000000 in
theorem walk (a : Option Addr) (len cap : Nat) (z : List Int) (a2 : Option Addr) (len2 cap2 : Nat) (z2 : List Pt) (w : World) (h0 : IsRow .u8 w a len cap z) (h1 : IsPats w a2 len2 cap2 z2) :
    Calls Try.prog 4 #[.slice a len cap, .slice a2 len2 cap2] w fun e w' => e = .returned (.bool true) ∧ Below w.heap.size w w' := by
  obtain ⟨l, hl, hc1, hc2, hb⟩ := few_row h0
  obtain ⟨ps, hp, hd1, hd2, hP, hok⟩ := some_pats h1
  have F := Lib.hid (fun W => few_any a len cap W hc1 hc2)
  have G := Lib.hid (fun W => some_any a2 len2 cap2 W hd1 hd2)
  rw [← hl] at F
  rw [← hp] at G
  have C1 := Lib.hid (fun W (h : Below w.heap.size w W) => all_uni (c := cap) (c2 := cap2) ((hb.below h).more h.size) rfl ((hP.below h).more h.size) rfl (by omega) hok)
  have C2 := Lib.hid (fun W (h : Below w.heap.size w W) => refall_uni (c := cap) (c2 := cap2) ((hb.below h).more h.size) rfl ((hP.below h).more h.size) rfl (by omega) hok)
  obtain ⟨r, hr⟩ : ∃ r, r = ansP l ps := ⟨_, rfl⟩
  rw [← hr] at C1 C2
  obtain ⟨n, hn⟩ : ∃ n, n = l.length := ⟨_, rfl⟩
  obtain ⟨m, hm⟩ : ∃ m, m = ps.length := ⟨_, rfl⟩
  rw [← hn] at F C1 C2
  rw [← hm] at G C1 C2
  clear hb hP hok hr hn hm hl hp h0 h1 hc1 hc2 hd1 hd2
  go_enter Try.func4, Try.ntmps4
  go_wp2_with (first
    | (go_at_call 11; (with_reducible refine (F.out _).mono ?_); rintro e w' ⟨rfl, rfl⟩)
    | (go_at_call 22; (with_reducible refine (G.out _).mono ?_); rintro e w' ⟨rfl, rfl⟩))
  refine (C1.out _ (Below.refl _ _)).mono ?_
  rintro e w1 h1
  obtain ⟨hB1, A1, n1, c1, rfl, -, -, x1, -, -⟩ := h1.form
  have X1 := Lib.hid x1
  have HB1 := Lib.hid hB1
  clear x1 hB1 h1
  go_wp2_with (first
    | (go_at_call 11; (with_reducible refine (F.out _).mono ?_); rintro e w' ⟨rfl, rfl⟩)
    | (go_at_call 22; (with_reducible refine (G.out _).mono ?_); rintro e w' ⟨rfl, rfl⟩))
  refine (C2.out _ HB1.out).mono ?_
  rintro e w2 h2
  obtain ⟨hB2, A2, n2, c2, rfl, -, -, x2, -, -⟩ := h2.form
  have X2 := Lib.hid x2
  have HB2 := Lib.hid hB2
  clear x2 hB2 h2
  go_wp2_with fail
  refine (live_any _).mono ?_
  rintro e w3 ⟨rfl, hB3⟩
  have y1 := X1.out w3 (HB2.out.trans (hB3.mono HB2.out.size))
  have y2 := X2.out w3 hB3
  have HF := Lib.hid (HB1.out.trans ((HB2.out.trans (hB3.mono HB2.out.size)).mono HB1.out.size))
  clear hB3
  go_wp2
  go_ret
  exact ⟨rfl, HF.out⟩
end Go.Proofs.Ytiblmdpgdlacaaa.patchAlls
