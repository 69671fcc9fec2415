/- GraphThins holds whatever comes in. Here: the walk of the law's text. -/
import Derived.Test.YtmekffcpbjmffaaYH
import Derived.Test.YtmekffcpbjmffaaWGraphMore
namespace Go.Proofs.Ytmekffcpbjmffaa
open Go.RowKit

set_option maxRecDepth 100000 in
set_option maxHeartbeats 1000000 in
theorem thin_no (A : Option Addr) (c k : Nat) (R : List (List Int)) (hk : k = R.length) (hok : okB R = false) (w : World) (hl : R.length ≤ 1000) (hr : ∀ k, k < R.length → (rowI R k).length ≤ 1000) (hM : Mat w w.heap.size A R) :
    Calls Try.prog 31 #[.slice A k c] w fun e w' => e = .returned (.slice none 0 0) ∧ Below w.heap.size w w' := by
  have hw0 : Below w.heap.size w (w.alloc (.cells #[.slice A k c] 22)) := (Below.refl _ _).alloc (Nat.le_refl _) _
  have H := Lib.hid (right_no A c k R hk hok (w.alloc (.cells #[.slice A k c] 22)) hl hr (Mat.next hM hw0))
  have Hw0 := Lib.hid hw0
  clear hk hok hr hM hw0
  go_enter Try.func31, Try.ntmps31
  go_wp2_with (go_at_call 16; refine H.out.mono ?_; rintro e w' ⟨rfl, rfl⟩)
  go_ret
  exact ⟨rfl, Hw0.out⟩
theorem thinRow_len {D : List (List Nat)} (k : Nat) : (thinRow D k).length ≤ 256 := length_listM _ _

set_option maxRecDepth 100000 in
set_option maxHeartbeats 2000000 in
theorem GraphThins.walk (a0 : Option Addr) (len0 cap0 : Nat) (R : List (List Int)) (A : Nat → Option Addr) (C : Nat → Nat) (W : World) (h0 : IsMat W a0 len0 cap0 R A C) :
    Calls Try.prog 6 #[.slice a0 len0 cap0] W fun e W' => e = .returned (.bool true) ∧ Below W.heap.size W W' := by
  have H0 := Lib.hid h0
  obtain ⟨hf1, hf2⟩ := few_bound R
  obtain ⟨F, hF⟩ : ∃ F, F = fewR R := ⟨_, rfl⟩
  have HFr : Hid (fewR R = F) := hF.symm
  have HF0 := few_any a0 len0 cap0 R A C _ h0
  unfold FewSays at HF0
  rw [HFr.out] at HF0 hf1 hf2
  have HF1 := Lib.hid HF0
  have Hf2 := Lib.hid hf2
  have Z0 : Hid (0 = ([] : List (List Int)).length) := rfl
  have Z1 : Hid (([] : List (List Int)).length ≤ 1000) := Nat.zero_le _
  have Z2 : Hid (∀ k, k < ([] : List (List Int)).length → (rowI [] k).length ≤ 1000) := fun k hk => absurd hk (Nat.not_lt_zero _)
  clear hF HF0 hf2 h0
  go_enter Try.func6, Try.ntmps6
  go_wp2_with fail
  refine HF1.out.mono ?_
  rintro e w1 ⟨Ad, cd, rfl, hM1, hB1⟩
  have HB : Hid (Below W.heap.size W w1) := hB1
  have Hm : Hid (Mat w1 w1.heap.size Ad F) := hM1
  clear hM1 hB1
  cases hok : okB F with
  | false =>
    have Hok := Lib.hid hok
    clear hok
    go_wp2_with (first
      | (go_at_call 31; refine (thin_no Ad cd _ F rfl Hok.out _ hf1 Hf2.out Hm.out).mono ?_; rintro e w5 ⟨rfl, hB5⟩; replace Hm := Lib.hid (Mat.next Hm.out hB5); replace HB := Lib.hid (HB.out.trans (hB5.mono HB.out.size)); clear hB5)
      | (go_at_call 15; refine (live_any _).mono ?_; rintro e w5 ⟨rfl, hB5⟩; replace Hm := Lib.hid (Mat.next Hm.out hB5); replace HB := Lib.hid (HB.out.trans (hB5.mono HB.out.size)); clear hB5)
      | (go_at_call 33; refine (refthin_no Ad cd _ F rfl Hok.out _ hf1 Hf2.out Hm.out).mono ?_; rintro e w' ⟨rfl, rfl⟩)
      | (go_at_call 32; ((with_reducible refine (same_rows none none 0 0 0 0 [] _ Z0.out Z0.out Mat.nil Mat.nil Z1.out Z2.out).mono ?_); rintro e w5 ⟨rfl, hB5⟩; replace Hm := Lib.hid (Mat.next Hm.out hB5); replace HB := Lib.hid (HB.out.trans (hB5.mono HB.out.size)); clear hB5))
      | (go_at_call 13; have HF := few_any a0 len0 cap0 R A C _ (H0.out.below HB.out); unfold FewSays at HF; rw [HFr.out] at HF; refine HF.mono ?_; clear HF; rintro e w5 ⟨Ae, ce, rfl, hM5, hB5⟩; have He := Lib.hid hM5; clear hM5; replace Hm := Lib.hid (Mat.next Hm.out hB5); replace HB := Lib.hid (HB.out.trans (hB5.mono HB.out.size)); clear hB5)
      | (go_at_call 32; ((with_reducible refine (same_rows Ad Ae cd ce _ _ F _ rfl rfl Hm.out He.out hf1 Hf2.out).mono ?_); rintro e w5 ⟨rfl, hB5⟩; replace Hm := Lib.hid (Mat.next Hm.out hB5); replace HB := Lib.hid (HB.out.trans (hB5.mono HB.out.size)); clear hB5)))
    go_ret
    exact ⟨rfl, HB.out⟩
  | true =>
    obtain ⟨D, hD, hOk⟩ := okB_out hok
    subst hD
    have Hok := Lib.hid hOk
    have Hf1 := Lib.hid hf1
    have hDl : (rowsI D).length = D.length := length_rowsI D
    obtain ⟨n, hn⟩ : ∃ n, n = (rowsI D).length := ⟨_, rfl⟩
    have HnD : Hid (n = D.length) := by unfold Hid; rw [hn, hDl]
    have Hn := Lib.hid hn
    have Htl : Hid (D.length = (rowsI (thinL D)).length) := by unfold Hid; rw [length_rowsI, length_thinL]
    have Htb : Hid ((rowsI (thinL D)).length ≤ 1000) := by unfold Hid; rw [length_rowsI, length_thinL]; have := hOk.right.1; omega
    have Htr : Hid (∀ k, k < (rowsI (thinL D)).length → (rowI (rowsI (thinL D)) k).length ≤ 1000) := fun k hk => by
      rw [length_rowsI, length_thinL] at hk
      rw [rowI_rowsI, length_natsI, rowN_thinL hk]
      have := thinRow_len (D := D) k
      omega
    rw [← hn]
    clear hok hOk hDl hn hf1
    go_wp2_with (first
      | (go_at_call 31; refine (thin_any Ad cd n D HnD.out Hok.out _ Hm.out).mono ?_; rintro e w5 ⟨⟨At, ct, rfl, hMt⟩, hB5⟩; have Ht := Lib.hid hMt; clear hMt; replace Hm := Lib.hid (Mat.next Hm.out hB5); replace HB := Lib.hid (HB.out.trans (hB5.mono HB.out.size)); clear hB5)
      | (go_at_call 15; refine (live_any _).mono ?_; rintro e w5 ⟨rfl, hB5⟩; replace Ht := Lib.hid (Mat.next Ht.out hB5); replace Hm := Lib.hid (Mat.next Hm.out hB5); replace HB := Lib.hid (HB.out.trans (hB5.mono HB.out.size)); clear hB5)
      | (go_at_call 33; refine (refthin_yes Ad cd n D HnD.out Hok.out _ Hm.out).mono ?_; rintro e w5 ⟨⟨Au, cu, rfl, hMu⟩, hB5⟩; have Hu := Lib.hid hMu; clear hMu; replace Ht := Lib.hid (Mat.next Ht.out hB5); replace Hm := Lib.hid (Mat.next Hm.out hB5); replace HB := Lib.hid (HB.out.trans (hB5.mono HB.out.size)); clear hB5)
      | (go_at_call 32; ((with_reducible refine (same_rows At Au ct cu _ _ (rowsI (thinL D)) _ Htl.out Htl.out Ht.out Hu.out Htb.out Htr.out).mono ?_); rintro e w5 ⟨rfl, hB5⟩; replace Hm := Lib.hid (Mat.next Hm.out hB5); replace HB := Lib.hid (HB.out.trans (hB5.mono HB.out.size)); clear hB5))
      | (go_at_call 13; have HF := few_any a0 len0 cap0 R A C _ (H0.out.below HB.out); unfold FewSays at HF; rw [HFr.out] at HF; refine HF.mono ?_; clear HF; rintro e w5 ⟨Ae, ce, rfl, hM5, hB5⟩; have He := Lib.hid hM5; clear hM5; replace Hm := Lib.hid (Mat.next Hm.out hB5); replace HB := Lib.hid (HB.out.trans (hB5.mono HB.out.size)); clear hB5)
      | (go_at_call 32; ((with_reducible refine (same_rows Ad Ae cd ce _ _ (rowsI D) _ Hn.out rfl Hm.out He.out Hf1.out Hf2.out).mono ?_); rintro e w5 ⟨rfl, hB5⟩; replace Hm := Lib.hid (Mat.next Hm.out hB5); replace HB := Lib.hid (HB.out.trans (hB5.mono HB.out.size)); clear hB5)))
    go_ret
    exact ⟨rfl, HB.out⟩
end Go.Proofs.Ytmekffcpbjmffaa
