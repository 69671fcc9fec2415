/- GraphTells holds whatever comes in. Here: the walk of the law's text. -/
import Derived.Test.YtmekffcpbjmffaaYD
import Derived.Test.YtmekffcpbjmffaaYE
import Derived.Test.YtmekffcpbjmffaaYC
import Derived.Test.YtmekffcpbjmffaaWGraphReadies
namespace Go.Proofs.Ytmekffcpbjmffaa
open Go.RowKit

set_option maxRecDepth 100000 in
set_option maxHeartbeats 2000000 in
theorem GraphTells.walk (a0 : Option Addr) (len0 cap0 : Nat) (R : List (List Int)) (A : Nat → Option Addr) (C : Nat → Nat) (a b : Int) (W : World) (h0 : IsMat W a0 len0 cap0 R A C) (_ : (Lit.int .i64 a).wf = true) (_ : (Lit.int .i64 b).wf = true) :
    Calls Try.prog 5 #[.slice a0 len0 cap0, .int .i64 a, .int .i64 b] W fun e W' => e = .returned (.bool true) ∧ Below W.heap.size W W' := by
  have HF := Lib.hid (few_any a0 len0 cap0 R A C _ h0)
  obtain ⟨hf1, hf2⟩ := few_bound R
  have Hf2 := Lib.hid hf2
  clear hf2 h0
  obtain ⟨F, hF⟩ : ∃ F, F = fewR R := ⟨_, rfl⟩
  unfold FewSays at HF
  rw [← hF] at HF hf1 Hf2
  clear hF
  go_enter Try.func5, Try.ntmps5
  go_wp2_with fail
  refine HF.out.mono ?_
  rintro e w1 ⟨Ad, cd, rfl, hM1, hB1⟩
  have HB : Hid (Below W.heap.size W w1) := hB1
  have Hm : Hid (Mat w1 w1.heap.size Ad F) := hM1
  clear hM1 hB1
  cases hok : okB F with
  | false =>
    have Hok := Lib.hid hok
    clear hok
    go_wp2_with (first
      | (go_at_call 15; refine (live_any _).mono ?_; rintro e w5 ⟨rfl, hB5⟩; replace Hm := Lib.hid (Mat.next Hm.out hB5); replace HB := Lib.hid (HB.out.trans (hB5.mono HB.out.size)); clear hB5)
      | (go_at_call 25; refine (before_out Ad cd _ F rfl Hok.out a b _ hf1 Hf2.out Hm.out).mono ?_; rintro e w' ⟨rfl, rfl⟩)
      | (go_at_call 26; refine (refbefore_no Ad cd _ F rfl Hok.out a b _ hf1 Hf2.out Hm.out).mono ?_; rintro e w5 ⟨rfl, hB5⟩; replace Hm := Lib.hid (Mat.next Hm.out hB5); replace HB := Lib.hid (HB.out.trans (hB5.mono HB.out.size)); clear hB5)
      | (go_at_call 27; refine (above_out Ad cd _ F rfl Hok.out a _ hf1 Hf2.out Hm.out).mono ?_; rintro e w' ⟨rfl, rfl⟩)
      | (go_at_call 28; refine (refabove_no Ad cd _ F rfl Hok.out a _ hf1 Hf2.out Hm.out).mono ?_; rintro e w' ⟨rfl, rfl⟩)
      | (go_at_call 20; refine (same_any none none 0 0 0 0 [] _ 0 0 rfl rfl Ints.nil Ints.nil (by simp)).mono ?_; rintro e w5 ⟨rfl, hq⟩; replace Hm := Lib.hid (Mat.next Hm.out hq.belowR); replace HB := Lib.hid (HB.out.trans hq.belowR); clear hq)
      | (go_at_call 29; refine (depth_out Ad cd _ F rfl Hok.out a _ hf1 Hf2.out Hm.out).mono ?_; rintro e w' ⟨rfl, rfl⟩)
      | (go_at_call 30; refine (refdepth_no Ad cd _ F rfl Hok.out a _ hf1 Hf2.out Hm.out).mono ?_; rintro e w' ⟨rfl, rfl⟩))
    go_ret
    exact ⟨rfl, HB.out⟩
  | true =>
    obtain ⟨D, hD, hOk⟩ := okB_out hok
    subst hD
    have Hok := Lib.hid hOk
    have hDl : (rowsI D).length = D.length := length_rowsI D
    obtain ⟨n, hn⟩ : ∃ n, n = (rowsI D).length := ⟨_, rfl⟩
    have HnD : Hid (n = D.length) := by unfold Hid; rw [hn, hDl]
    have Hal : Hid ((natsI (aboveL D a)).length ≤ 100000) := by
      unfold Hid; rw [length_natsI]; have := length_listM D.length (fun x => befB D a x); have := hOk.right.1; unfold aboveL; omega
    rw [← hn]
    clear hok hOk hDl hn hf1
    go_wp2_with (first
      | (go_at_call 15; refine (live_any _).mono ?_; rintro e w5 ⟨rfl, hB5⟩; replace Hm := Lib.hid (Mat.next Hm.out hB5); replace HB := Lib.hid (HB.out.trans (hB5.mono HB.out.size)); clear hB5)
      | (go_at_call 25; refine (before_yes Ad cd n D HnD.out Hok.out a b _ Hm.out).mono ?_; rintro e w5 ⟨rfl, hB5⟩; replace Hm := Lib.hid (Mat.next Hm.out hB5); replace HB := Lib.hid (HB.out.trans (hB5.mono HB.out.size)); clear hB5)
      | (go_at_call 26; refine (refbefore_yes Ad cd n D HnD.out Hok.out a b _ Hm.out).mono ?_; rintro e w5 ⟨rfl, hB5⟩; replace Hm := Lib.hid (Mat.next Hm.out hB5); replace HB := Lib.hid (HB.out.trans (hB5.mono HB.out.size)); clear hB5)
      | (go_at_call 27; refine (above_yes Ad cd n D HnD.out Hok.out a _ Hm.out).mono ?_; rintro e w5 ⟨A9, c9, rfl, hI9, hB5⟩; have HI9 := Lib.hid hI9; clear hI9; replace Hm := Lib.hid (Mat.next Hm.out hB5); replace HB := Lib.hid (HB.out.trans (hB5.mono HB.out.size)); clear hB5)
      | (go_at_call 28; refine (refabove_yes Ad cd n D HnD.out Hok.out a _ Hm.out).mono ?_; rintro e w5 ⟨A8, c8, rfl, hI8, hB5⟩; have HI8 := Lib.hid hI8; replace HI9 := Lib.hid (Ints.next HI9.out hB5); clear hI8; replace Hm := Lib.hid (Mat.next Hm.out hB5); replace HB := Lib.hid (HB.out.trans (hB5.mono HB.out.size)); clear hB5)
      | (go_at_call 20; refine (same_any A9 A8 c9 c8 _ _ (natsI (aboveL D a)) _ _ _ (length_natsI _).symm (length_natsI _).symm HI9.out HI8.out Hal.out).mono ?_; rintro e w5 ⟨rfl, hq⟩; replace Hm := Lib.hid (Mat.next Hm.out hq.belowR); replace HB := Lib.hid (HB.out.trans hq.belowR); clear hq)
      | (go_at_call 29; refine (depth_yes Ad cd n D HnD.out Hok.out a _ Hm.out).mono ?_; rintro e w5 ⟨rfl, hB5⟩; replace Hm := Lib.hid (Mat.next Hm.out hB5); replace HB := Lib.hid (HB.out.trans (hB5.mono HB.out.size)); clear hB5)
      | (go_at_call 30; refine (refdepth_yes Ad cd n D HnD.out Hok.out a _ Hm.out).mono ?_; rintro e w5 ⟨rfl, hB5⟩; replace Hm := Lib.hid (Mat.next Hm.out hB5); replace HB := Lib.hid (HB.out.trans (hB5.mono HB.out.size)); clear hB5))
    go_ret
    exact ⟨rfl, HB.out⟩
end Go.Proofs.Ytmekffcpbjmffaa
