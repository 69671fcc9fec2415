/- GraphCloses holds whatever comes in. Here: the walk of the law's text. -/
import Derived.Test.YtmekffcpbjmffaaU
import Derived.Test.YtmekffcpbjmffaaO
namespace Go.Proofs.Ytmekffcpbjmffaa
open Go.RowKit

/-- deps and a set, in a world -/
def MI (W : World) (A : Option Addr) (R : List (List Int)) (A2 : Option Addr) (l : List Int) : Prop := Mat W W.heap.size A R ∧ Ints W W.heap.size A2 l
theorem MI.next {W W' : World} {A A2 : Option Addr} {R : List (List Int)} {l : List Int} (h : MI W A R A2 l) (hb : Below W.heap.size W W') : MI W' A R A2 l := ⟨(h.1.below hb).more hb.size, (h.2.below hb).more hb.size⟩
theorem Mat.next {W W' : World} {A : Option Addr} {R : List (List Int)} (h : Mat W W.heap.size A R) (hb : Below W.heap.size W W') : Mat W' W'.heap.size A R := (h.below hb).more hb.size
theorem Ints.next {W W' : World} {A : Option Addr} {l : List Int} (h : Ints W W.heap.size A l) (hb : Below W.heap.size W W') : Ints W' W'.heap.size A l := (h.below hb).more hb.size
theorem few_bound (R : List (List Int)) : (fewR R).length ≤ 1000 ∧ ∀ k, k < (fewR R).length → (rowI (fewR R) k).length ≤ 1000 :=
  ⟨by have := (fewR_small R).1; omega, fun k h => by have := (fewR_small R).2 k h; omega⟩
/-- 'some' of what came in, in whatever world -/
theorem some_row {w : World} {a : Option Addr} {len cap : Nat} {zs : List Int} (h : IsRow .i64 w a len cap zs) :
    ∃ l, l.length = min len 60 ∧ l = (zs.take len).take 60 ∧ Ints w w.heap.size a l ∧ ∀ W, Calls Try.prog 14 #[.slice a len cap] W fun e w' => e = .returned (.slice a l.length cap) ∧ W = w' := by
  obtain ⟨h1, h2, h3, h4⟩ := h.ints
  have hl : ((zs.take len).take 60).length = min len 60 := by rw [List.length_take, h4, Nat.min_comm]
  refine ⟨(zs.take len).take 60, hl, rfl, h3.take 60, fun W => ?_⟩
  rw [hl]
  exact some_any a len cap W h1 h2
theorem refclose_at (A : Option Addr) (c kD : Nat) (D : List (List Nat)) (hkD : kD = D.length) (hD : OkD D) (A2 : Option Addr) (c2 k2 : Nat) (l : List Int) (hk2 : k2 = l.length) (hl : l.length ≤ 100000) (w : World)
    (hM : Mat w w.heap.size A (rowsI D)) (hI : Ints w w.heap.size A2 l) :
    Calls Try.prog 22 #[.slice A kD c, .slice A2 k2 c2] w fun e w' => ∃ A' c', e = .returned (.slice A' (closeL D l).length c') ∧ Ints w' w'.heap.size A' (natsI (closeL D l)) ∧ Below w.heap.size w w' := by
  refine (refclose_yes A c kD D hkD hD A2 c2 k2 l hk2 hl w hM hI).mono ?_
  rintro e w' ⟨v, rfl, ho, hB⟩
  rw [natsV_intsV] at ho
  obtain ⟨A', c', rfl, _, _, hI'⟩ := own_ints ho
  exact ⟨A', c', by rw [length_natsI], hI', hB⟩
theorem closeL_small (D : List (List Nat)) (hD : OkD D) (l : List Int) : (natsI (closeL D l)).length ≤ 100000 := by
  rw [length_natsI]; have := length_listM D.length (upM D (markI D.length l) D.length); have := hD.right.1; unfold closeL; omega

set_option maxRecDepth 100000 in
set_option maxHeartbeats 1000000 in
theorem GraphCloses.walk (a0 : Option Addr) (len0 cap0 : Nat) (R : List (List Int)) (A : Nat → Option Addr) (C : Nat → Nat) (a1 : Option Addr) (len1 cap1 : Nat) (zs : List Int) (W : World) (h0 : IsMat W a0 len0 cap0 R A C) (h1 : IsRow .i64 W a1 len1 cap1 zs) :
    Calls Try.prog 3 #[.slice a0 len0 cap0, .slice a1 len1 cap1] W fun e W' => e = .returned (.bool true) ∧ Below W.heap.size W W' := by
  have HF := Lib.hid (few_any a0 len0 cap0 R A C W h0)
  obtain ⟨l, hl, hle, hI, hsome⟩ := some_row h1
  have HS := Lib.hid hsome
  have HI := Lib.hid hI
  have hl60 : l.length ≤ 60 := by omega
  obtain ⟨hf1, hf2⟩ := few_bound R
  have Hf2 := Lib.hid hf2
  clear hsome hI hl hle hf2 h0 h1
  obtain ⟨F, hF⟩ : ∃ F, F = fewR R := ⟨_, rfl⟩
  unfold FewSays at HF
  rw [← hF] at HF hf1 Hf2
  clear hF
  go_enter Try.func3, Try.ntmps3
  go_wp2_with fail
  refine HF.out.mono ?_
  rintro e w1 ⟨Ad, cd, rfl, hM1, hB1⟩
  have Hmi : Hid (MI w1 Ad F a1 l) := ⟨hM1, HI.out.next hB1⟩
  have HB1 := Lib.hid hB1
  clear hM1 hB1
  cases hok : okB F with
  | false =>
    have Hok := Lib.hid hok
    clear hok
    go_wp2_with (first
      | (go_at_call 14; refine (HS.out _).mono ?_; rintro e w' ⟨rfl, rfl⟩)
      | (go_at_call 15; refine (live_any _).mono ?_; rintro e w2 ⟨rfl, hB2⟩; replace Hmi := Lib.hid (Hmi.out.next hB2); have HB2 := Lib.hid hB2; clear hB2)
      | (go_at_call 16; refine (right_no Ad cd _ F rfl Hok.out w2 hf1 Hf2.out Hmi.out.1).mono ?_; rintro e w' ⟨rfl, rfl⟩)
      | (go_at_call 17; refine (refright_no Ad cd _ F rfl Hok.out w2 hf1 Hf2.out Hmi.out.1).mono ?_; rintro e w' ⟨rfl, rfl⟩)
      | (go_at_call 18; refine (closed_no Ad cd _ F rfl Hok.out _ w2 hf1 Hf2.out Hmi.out.1).mono ?_; rintro e w3 ⟨rfl, hB3⟩; replace Hmi := Lib.hid (Hmi.out.next hB3); have HB3 := Lib.hid hB3; clear hB3)
      | (go_at_call 19; refine (refclosed_no Ad cd _ F rfl Hok.out _ w3 hf1 Hf2.out Hmi.out.1).mono ?_; rintro e w' ⟨rfl, rfl⟩)
      | (go_at_call 21; refine (close_no Ad cd _ F rfl Hok.out _ w3 hf1 Hf2.out Hmi.out.1).mono ?_; rintro e w' ⟨rfl, rfl⟩)
      | (go_at_call 22; refine (refclose_no Ad cd _ F rfl Hok.out _ w3 hf1 Hf2.out Hmi.out.1).mono ?_; rintro e w' ⟨rfl, rfl⟩)
      | (go_at_call 20; refine (same_any none none 0 0 0 0 [] w3 0 0 rfl rfl Ints.nil Ints.nil (by simp)).mono ?_; rintro e w4 ⟨rfl, hq⟩; have HB4 := Lib.hid (hq.belowR (B := w3.heap.size)); clear hq))
    go_ret
    have k2 := HB1.out.trans (HB2.out.mono HB1.out.size)
    have k3 := k2.trans (HB3.out.mono k2.size)
    exact ⟨rfl, k3.trans (HB4.out.mono k3.size)⟩
  | true =>
    obtain ⟨D, hD, hOk⟩ := okB_out hok
    subst hD
    have Hok := Lib.hid hOk
    have hcs := closeL_small D hOk l
    clear hok hOk
    go_wp2_with (first
      | (go_at_call 14; refine (HS.out _).mono ?_; rintro e w' ⟨rfl, rfl⟩)
      | (go_at_call 15; refine (live_any _).mono ?_; rintro e w2 ⟨rfl, hB2⟩; replace Hmi := Lib.hid (Hmi.out.next hB2); have HB2 := Lib.hid hB2; clear hB2)
      | (go_at_call 16; refine (right_yes Ad cd _ D (length_rowsI D) Hok.out w2 Hmi.out.1).mono ?_; rintro e w' ⟨rfl, rfl⟩)
      | (go_at_call 17; refine (refright_yes Ad cd _ D (length_rowsI D) Hok.out w2 Hmi.out.1).mono ?_; rintro e w' ⟨rfl, rfl⟩)
      | (go_at_call 18; refine (closed_yes Ad cd _ D (length_rowsI D) Hok.out a1 cap1 _ l rfl (by omega) w2 Hmi.out.1 Hmi.out.2).mono ?_; rintro e w3 ⟨rfl, hB3⟩; replace Hmi := Lib.hid (Hmi.out.next hB3); have HB3 := Lib.hid hB3; clear hB3)
      | (go_at_call 19; refine (refclosed_yes Ad cd _ D (length_rowsI D) Hok.out a1 cap1 _ l rfl (by omega) w3 Hmi.out.1 Hmi.out.2).mono ?_; rintro e w4 ⟨rfl, hB4⟩; replace Hmi := Lib.hid (Hmi.out.next hB4); have HB4 := Lib.hid hB4; clear hB4)
      | (go_at_call 21; refine (close_at Ad cd _ D (length_rowsI D) Hok.out a1 cap1 _ l rfl (by omega) w4 Hmi.out.1 Hmi.out.2).mono ?_; rintro e w5 ⟨A5, c5, rfl, hI5, hB5⟩; replace Hmi := Lib.hid (Hmi.out.next hB5); have HB5 := Lib.hid hB5; have HI5 := Lib.hid hI5; clear hB5 hI5)
      | (go_at_call 22; refine (refclose_at Ad cd _ D (length_rowsI D) Hok.out a1 cap1 _ l rfl (by omega) w5 Hmi.out.1 Hmi.out.2).mono ?_; rintro e w6 ⟨A6, c6, rfl, hI6, hB6⟩; have HB6 := Lib.hid hB6; have HI6 := Lib.hid hI6; have HI5b := Lib.hid (HI5.out.next hB6); clear hB6 hI6)
      | (go_at_call 20; refine (same_any A5 A6 c5 c6 _ _ (natsI (closeL D l)) w6 _ _ (length_natsI _).symm (length_natsI _).symm HI5b.out HI6.out hcs).mono ?_; rintro e w7 ⟨rfl, hq⟩; have HB7 := Lib.hid (hq.belowR (B := w6.heap.size)); clear hq))
    go_ret
    have k2 := HB1.out.trans (HB2.out.mono HB1.out.size)
    have k3 := k2.trans (HB3.out.mono k2.size)
    have k4 := k3.trans (HB4.out.mono k3.size)
    have k5 := k4.trans (HB5.out.mono k4.size)
    have k6 := k5.trans (HB6.out.mono k5.size)
    exact ⟨rfl, k6.trans (HB7.out.mono k6.size)⟩
end Go.Proofs.Ytmekffcpbjmffaa
