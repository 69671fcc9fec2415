/- MergeClosed holds whatever comes in. Here: the walk of the law's text. -/
import Derived.Test.YtkfjkhacchbkeaaX
namespace Go.Proofs.Ytkfjkhacchbkeaa
set_option linter.unusedVariables false
set_option linter.unusedSimpArgs false
open Go.RowKit

theorem expand_not {l : List It} (h : rightL l = false) (s : List Int) : expandL l s = [] := by
  unfold expandL groupsL
  rw [h]
  simp [amongL, listM, allOf, markI, natsI]

set_option maxRecDepth 100000 in
set_option maxHeartbeats 4000000 in
theorem MergeClosed.walk (a0 : Option Addr) (len0 cap0 : Nat) (l0 : List It) (a1 : Option Addr) (len1 cap1 : Nat) (zs : List Int) (W : World) (h0 : IsItems W a0 len0 cap0 l0) (h1 : IsRow .i64 W a1 len1 cap1 zs) :
    Calls Try.prog 8 #[.slice a0 len0 cap0, .slice a1 len1 cap1] W fun e W' => e = .returned (.bool true) ∧ Below W.heap.size W W' := by
  have HF := Lib.hid (few_any a0 len0 cap0 l0 W h0)
  have HSm := Lib.hid (small_fewL h0)
  obtain ⟨s, hs, hI, hsome⟩ := some_row h1
  have HS := Lib.hid hsome
  have HI := Lib.hid hI
  have hs40 : s.length ≤ 40 := by omega
  have hl24 := length_fewL l0
  unfold FewSays at HF
  obtain ⟨l, hl⟩ : ∃ l, l = fewL l0 := ⟨_, rfl⟩
  rw [← hl] at HF HSm hl24
  have hln : l.length ≤ 24 := by omega
  obtain ⟨n, hn⟩ : ∃ n, n = l.length := ⟨_, rfl⟩
  rw [← hn] at hln HF
  have Hn := Lib.hid hn
  clear hsome hI hs hl hl24 hn h0 h1
  go_enter Try.func8, Try.ntmps8
  go_wp2_with fail
  refine HF.out.mono ?_
  rintro e w1 ⟨A, c, rfl, hI1, hB1⟩
  have HI1 := Lib.hid hI1
  have HA1 := Lib.hid (HI.out.next hB1)
  have HB1 := Lib.hid hB1
  clear hI1 hB1 HF HI
  have hmr := mright_any A c n l Hn.out w1 (by rw [← Hn.out]; omega) HSm.out HI1.out
  cases hr : rightL l with
  | false =>
    rw [hr] at hmr
    have Hmr := Lib.hid hmr
    have Hx := Lib.hid (expand_not hr s)
    clear hmr hr
    go_wp2_with fail
    refine Hmr.out.mono ?_
    rintro e w2 ⟨rfl, hB2⟩
    have HI2 := Lib.hid (HI1.out.next hB2)
    have HA2 := Lib.hid (HA1.out.next hB2)
    have HB2 := Lib.hid (HB1.out.trans (hB2.mono HB1.out.size))
    clear hB2 HI1 HA1 HB1 Hmr
    go_wp2_with (first
      | (go_at_call 14; refine (live_any _).mono ?_; rintro e w3 ⟨rfl, hB3⟩; have HI3 := Lib.hid (HI2.out.next hB3); have HA3 := Lib.hid (HA2.out.next hB3); have HB3 := Lib.hid (HB2.out.trans (hB3.mono HB2.out.size)); clear hB3)
      | (go_at_call 24; refine (HS.out _).mono ?_; rintro e w' ⟨rfl, rfl⟩)
      | (go_at_call 23; refine (expand_any A c n l a1 cap1 _ s Hn.out rfl w3 (by rw [← Hn.out]; omega) (by omega) HSm.out HI3.out HA3.out).mono ?_; rintro e w4 ⟨A4, c4, rfl, _, hB4⟩; rw [Hx.out]; have HB4 := Lib.hid (HB3.out.trans (hB4.mono HB3.out.size)); clear hB4))
    go_ret
    exact ⟨rfl, HB4.out⟩
  | true =>
    rw [hr] at hmr
    have Hmr := Lib.hid hmr
    have HokD := Lib.hid (okD_mdeps hr)
    have HokI := Lib.hid (right_out hr).2.1
    have HdI := Lib.hid (right_out hr).1
    have HX := Lib.hid (expand_closed hr s)
    have hmore := @expand_more l hr (closeL (mdepsL l) s) (closeL_rising _ _) (fun g hg => by have := closeL_lt hg; rwa [length_mdepsL] at this)
    have hcl := length_closeL (mdepsL l) HokD.out s
    have hxl := expand_len l (natsI (closeL (mdepsL l) s))
    obtain ⟨cl, hcle⟩ : ∃ cl, cl = closeL (mdepsL l) s := ⟨_, rfl⟩
    have Hcle := Lib.hid hcle
    rw [← hcle] at HX hmore hcl hxl
    obtain ⟨x, hx⟩ : ∃ x, x = expandL l (natsI cl) := ⟨_, rfl⟩
    have Hx := Lib.hid hx
    rw [← hx] at HX hmore hxl
    obtain ⟨ng, hng⟩ : ∃ ng, ng = (mdepsL l).length := ⟨_, rfl⟩
    have Hng := Lib.hid hng
    have hgei : (cl.length : Int) ≤ (x.length : Int) := by omega
    have HDl : Hid (n = (depsN l).length) := by unfold Hid; rw [length_depsN]; exact Hn.out
    clear hmr hr hcle hx hng hmore
    go_wp2_with fail
    refine Hmr.out.mono ?_
    rintro e w2 ⟨rfl, hB2⟩
    have HI2 := Lib.hid (HI1.out.next hB2)
    have HA2 := Lib.hid (HA1.out.next hB2)
    have HB2 := Lib.hid (HB1.out.trans (hB2.mono HB1.out.size))
    clear hB2 HI1 HA1 HB1 Hmr
    go_wp2_with (first
      | (go_at_call 20; refine (deps_any A c n l Hn.out w2 (by rw [← Hn.out]; omega) HSm.out HI2.out).mono ?_; rintro e w3 ⟨A3, c3, rfl, hM3, hB3⟩; rw [← Hng.out]; have HM3 := Lib.hid hM3; have HI3 := Lib.hid (HI2.out.next hB3); have HA3 := Lib.hid (HA2.out.next hB3); have HB3 := Lib.hid (HB2.out.trans (hB3.mono HB2.out.size)); clear hB3 hM3)
      | (go_at_call 24; refine (HS.out _).mono ?_; rintro e w' ⟨rfl, rfl⟩)
      | (go_at_call 34; refine (close_at A3 c3 ng (mdepsL l) Hng.out HokD.out a1 cap1 _ s rfl (by omega) w3 HM3.out HA3.out).mono ?_; rintro e w4 ⟨A4, c4, rfl, hI4, hB4⟩; rw [← Hcle.out] at hI4 ⊢; have HC4 := Lib.hid hI4; have HI4 := Lib.hid (HI3.out.next hB4); have HB4 := Lib.hid (HB3.out.trans (hB4.mono HB3.out.size)); clear hB4 hI4)
      | (go_at_call 23; refine (expand_any A c n l A4 c4 cl.length (natsI cl) Hn.out (length_natsI _).symm w4 (by rw [← Hn.out]; omega) (by rw [length_natsI]; omega) HSm.out HI4.out HC4.out).mono ?_; rintro e w5 ⟨A5, c5, rfl, hI5, hB5⟩; rw [← Hx.out] at hI5 ⊢; have HX5 := Lib.hid hI5; have HI5 := Lib.hid (HI4.out.next hB5); have HB5 := Lib.hid (HB4.out.trans (hB5.mono HB4.out.size)); clear hB5 hI5)
      | (go_at_call 14; refine (live_any _).mono ?_; rintro e w6 ⟨rfl, hB6⟩; have HI6 := Lib.hid (HI5.out.next hB6); have HX6 := Lib.hid (HX5.out.next hB6); have HB6 := Lib.hid (HB5.out.trans (hB6.mono HB5.out.size)); clear hB6)
      | (go_at_call 36; refine (refDepsOf_any A c n l Hn.out w6 (by rw [← Hn.out]; omega) HI6.out).mono ?_; rintro e w7 ⟨A7, c7, rfl, hM7, hB7⟩; rw [HdI.out] at hM7; rw [← Hn.out]; have HM7 := Lib.hid hM7; have HX7 := Lib.hid (HX6.out.next hB7); have HB7 := Lib.hid (HB6.out.trans (hB7.mono HB6.out.size)); clear hM7 hB7)
      | (go_at_call 35; refine (closed_yes A7 c7 n (depsN l) HDl.out HokI.out A5 c5 x.length (natsI x) (length_natsI _).symm (by rw [length_natsI]; omega) w7 HM7.out HX7.out).mono ?_; rintro e w8 ⟨rfl, hB8⟩; rw [closedB_yes HX.out]; have HB8 := Lib.hid (HB7.out.trans (hB8.mono HB7.out.size)); clear hB8))
    go_ret
    exact ⟨rfl, HB8.out⟩
end Go.Proofs.Ytkfjkhacchbkeaa
