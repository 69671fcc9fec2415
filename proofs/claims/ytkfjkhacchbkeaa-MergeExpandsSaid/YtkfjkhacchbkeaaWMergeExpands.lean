/- MergeExpands holds whatever comes in. Here: the walk of the law's text. -/
import Derived.Test.YtkfjkhacchbkeaaDD
import Derived.Test.YtkfjkhacchbkeaaX
namespace Go.Proofs.Ytkfjkhacchbkeaa
set_option linter.unusedVariables false
set_option linter.unusedSimpArgs false
open Go.RowKit

set_option maxRecDepth 100000 in
set_option maxHeartbeats 4000000 in
theorem MergeExpands.walk (a0 : Option Addr) (len0 cap0 : Nat) (l0 : List It) (a1 : Option Addr) (len1 cap1 : Nat) (zs : List Int) (W : World) (h0 : IsItems W a0 len0 cap0 l0) (h1 : IsRow .i64 W a1 len1 cap1 zs) :
    Calls Try.prog 4 #[.slice a0 len0 cap0, .slice a1 len1 cap1] W fun e W' => e = .returned (.bool true) ∧ Below W.heap.size W W' := by
  have HF := Lib.hid (few_any a0 len0 cap0 l0 W h0)
  have HSm := Lib.hid (small_fewL h0)
  obtain ⟨s, hs, hI, hsome⟩ := some_row h1
  have HS := Lib.hid hsome
  have HI := Lib.hid hI
  have hs40 : s.length ≤ 40 := by omega
  have hl24 := length_fewL l0
  unfold FewSays at HF
  obtain ⟨l, hl⟩ : ∃ l, l = fewL l0 := ⟨_, rfl⟩
  rw [← hl] at HF HSm hl24
  have hln : l.length ≤ 24 := by omega
  obtain ⟨n, hn⟩ : ∃ n, n = l.length := ⟨_, rfl⟩
  rw [← hn] at hln HF
  have Hn := Lib.hid hn
  have hxl := expand_len l s
  obtain ⟨x, hx⟩ : ∃ x, x = expandL l s := ⟨_, rfl⟩
  have Hx := Lib.hid hx
  rw [← hx] at hxl
  clear hsome hI hs hl hl24 hn h0 h1 hx
  go_enter Try.func4, Try.ntmps4
  go_wp2_with fail
  refine HF.out.mono ?_
  rintro e w1 ⟨A, c, rfl, hI1, hB1⟩
  have HI1 := Lib.hid hI1
  have HA1 := Lib.hid (HI.out.next hB1)
  have HB1 := Lib.hid hB1
  clear hI1 hB1 HF HI
  go_wp2_with (first
    | (go_at_call 14; refine (live_any _).mono ?_; rintro e w3 ⟨rfl, hB3⟩; have HI3 := Lib.hid (HI1.out.next hB3); have HA3 := Lib.hid (HA1.out.next hB3); have HB3 := Lib.hid (HB1.out.trans (hB3.mono HB1.out.size)); clear hB3)
    | (go_at_call 24; refine (HS.out _).mono ?_; rintro e w' ⟨rfl, rfl⟩)
    | (go_at_call 23; refine (expand_any A c n l a1 cap1 _ s Hn.out rfl w3 (by rw [← Hn.out]; omega) (by omega) HSm.out HI3.out HA3.out).mono ?_; rintro e w4 ⟨A4, c4, rfl, hX4, hB4⟩; rw [← Hx.out] at hX4 ⊢; have HX4 := Lib.hid hX4; have HI4 := Lib.hid (HI3.out.next hB4); have HA4 := Lib.hid (HA3.out.next hB4); have HB4 := Lib.hid (HB3.out.trans (hB4.mono HB3.out.size)); clear hB4 hX4)
    | (go_at_call 25; refine (refexpand_any A c n l a1 cap1 _ s Hn.out rfl w4 (by rw [← Hn.out]; omega) (by omega) HSm.out HI4.out HA4.out).mono ?_; rintro e w5 ⟨A5, c5, rfl, hX5, hB5⟩; rw [← Hx.out] at hX5 ⊢; have HY5 := Lib.hid hX5; have HX5 := Lib.hid (HX4.out.next hB5); have HB5 := Lib.hid (HB4.out.trans (hB5.mono HB4.out.size)); clear hB5 hX5)
    | (go_at_call 22; refine (same_any A4 A5 c4 c5 x.length x.length (natsI x) w5 _ _ (length_natsI _).symm (length_natsI _).symm HX5.out HY5.out (by rw [length_natsI]; omega)).mono ?_; rintro e w6 ⟨rfl, hq6⟩; have HB6 := Lib.hid (hq6.below HB5.out); clear hq6))
  go_ret
  exact ⟨rfl, HB6.out⟩
end Go.Proofs.Ytkfjkhacchbkeaa
