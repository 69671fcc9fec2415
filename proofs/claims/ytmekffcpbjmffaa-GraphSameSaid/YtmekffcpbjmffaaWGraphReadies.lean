/- GraphReadies holds whatever comes in. Here: the walk of the law's text. -/
import Derived.Test.YtmekffcpbjmffaaX
import Derived.Test.YtmekffcpbjmffaaWGraphCloses
namespace Go.Proofs.Ytmekffcpbjmffaa
open Go.RowKit

/-- deps and two sets, in a world -/
def MII (W : World) (A : Option Addr) (R : List (List Int)) (A2 : Option Addr) (l : List Int) (A3 : Option Addr) (k : List Int) : Prop := Mat W W.heap.size A R ∧ Ints W W.heap.size A2 l ∧ Ints W W.heap.size A3 k
theorem MII.next {W W' : World} {A A2 A3 : Option Addr} {R : List (List Int)} {l k : List Int} (h : MII W A R A2 l A3 k) (hb : Below W.heap.size W W') : MII W' A R A2 l A3 k := ⟨h.1.next hb, h.2.1.next hb, h.2.2.next hb⟩
theorem refready_at (A : Option Addr) (c kD : Nat) (D : List (List Nat)) (hkD : kD = D.length) (hD : OkD D) (A2 : Option Addr) (c2 k2 : Nat) (l : List Int) (hk2 : k2 = l.length) (hl : l.length ≤ 100000)
    (A3 : Option Addr) (c3 k3 : Nat) (k : List Int) (hk3 : k3 = k.length) (hk : k.length ≤ 100000) (w : World)
    (hM : Mat w w.heap.size A (rowsI D)) (hI : Ints w w.heap.size A2 l) (hI3 : Ints w w.heap.size A3 k) :
    Calls Try.prog 24 #[.slice A kD c, .slice A2 k2 c2, .slice A3 k3 c3] w fun e w' => ∃ A' c', e = .returned (.slice A' (readyL D l k).length c') ∧ Ints w' w'.heap.size A' (natsI (readyL D l k)) ∧ Below w.heap.size w w' := by
  refine (refready_yes A c kD D hkD hD A2 c2 k2 l hk2 hl A3 c3 k3 k hk3 hk w hM hI hI3).mono ?_
  rintro e w' ⟨v, rfl, ho, hB⟩
  rw [natsV_intsV] at ho
  obtain ⟨A', c', rfl, _, _, hI'⟩ := own_ints ho
  exact ⟨A', c', by rw [length_natsI], hI', hB⟩
theorem readyL_small (D : List (List Nat)) (hD : OkD D) (l k : List Int) : (readyL D l k).length ≤ 256 := by
  rw [readyL_eq hD.right]; have := length_listM D.length (accD D l k); have := hD.right.1; omega

set_option maxRecDepth 100000 in
set_option maxHeartbeats 1000000 in
theorem GraphReadies.walk (a0 : Option Addr) (len0 cap0 : Nat) (R : List (List Int)) (A : Nat → Option Addr) (C : Nat → Nat) (a1 : Option Addr) (len1 cap1 : Nat) (zs : List Int) (a2 : Option Addr) (len2 cap2 : Nat) (zs2 : List Int) (W : World) (h0 : IsMat W a0 len0 cap0 R A C) (h1 : IsRow .i64 W a1 len1 cap1 zs) (h2 : IsRow .i64 W a2 len2 cap2 zs2) :
    Calls Try.prog 4 #[.slice a0 len0 cap0, .slice a1 len1 cap1, .slice a2 len2 cap2] W fun e W' => e = .returned (.bool true) ∧ Below W.heap.size W W' := by
  have HF := Lib.hid (few_any a0 len0 cap0 R A C W h0)
  obtain ⟨l, hl, hle, hI, hsome⟩ := some_row h1
  obtain ⟨k, hk, hke, hI2, hsome2⟩ := some_row h2
  have HS := Lib.hid hsome
  have HS2 := Lib.hid hsome2
  have HI := Lib.hid hI
  have HI2 := Lib.hid hI2
  have hl60 : l.length ≤ 60 := by omega
  have hk60 : k.length ≤ 60 := by omega
  obtain ⟨hf1, hf2⟩ := few_bound R
  have Hf2 := Lib.hid hf2
  clear hsome hsome2 hI hI2 hl hle hk hke hf2 h0 h1 h2
  obtain ⟨F, hF⟩ : ∃ F, F = fewR R := ⟨_, rfl⟩
  unfold FewSays at HF
  rw [← hF] at HF hf1 Hf2
  clear hF
  go_enter Try.func4, Try.ntmps4
  go_wp2_with fail
  refine HF.out.mono ?_
  rintro e w1 ⟨Ad, cd, rfl, hM1, hB1⟩
  have Hmi : Hid (MII w1 Ad F a1 l a2 k) := ⟨hM1, HI.out.next hB1, HI2.out.next hB1⟩
  have HB1 := Lib.hid hB1
  clear hM1 hB1
  cases hok : okB F with
  | false =>
    have Hok := Lib.hid hok
    clear hok
    go_wp2_with (first
      | (go_at_call 14; ((with_reducible refine (HS.out _).mono ?_); rintro e w' ⟨rfl, rfl⟩))
      | (go_at_call 14; ((with_reducible refine (HS2.out _).mono ?_); rintro e w' ⟨rfl, rfl⟩))
      | (go_at_call 15; refine (live_any _).mono ?_; rintro e w2 ⟨rfl, hB2⟩; replace Hmi := Lib.hid (Hmi.out.next hB2); have HB2 := Lib.hid hB2; clear hB2)
      | (go_at_call 23; refine (ready_no Ad cd _ F rfl Hok.out _ _ w2 hf1 Hf2.out Hmi.out.1).mono ?_; rintro e w3 ⟨rfl, hB3⟩; replace Hmi := Lib.hid (Hmi.out.next hB3); have HB3 := Lib.hid hB3; clear hB3)
      | (go_at_call 24; refine (refready_no Ad cd _ F rfl Hok.out _ _ w3 hf1 Hf2.out Hmi.out.1).mono ?_; rintro e w' ⟨rfl, rfl⟩)
      | (go_at_call 20; refine (same_any none none 0 0 0 0 [] w3 0 0 rfl rfl Ints.nil Ints.nil (by simp)).mono ?_; rintro e w4 ⟨rfl, hq⟩; have HB4 := Lib.hid (hq.belowR (B := w3.heap.size)); clear hq))
    go_ret
    have k2 := HB1.out.trans (HB2.out.mono HB1.out.size)
    have k3 := k2.trans (HB3.out.mono k2.size)
    exact ⟨rfl, k3.trans (HB4.out.mono k3.size)⟩
  | true =>
    obtain ⟨D, hD, hOk⟩ := okB_out hok
    subst hD
    have Hok := Lib.hid hOk
    have hcs := readyL_small D hOk l k
    clear hok hOk
    go_wp2_with (first
      | (go_at_call 14; ((with_reducible refine (HS.out _).mono ?_); rintro e w' ⟨rfl, rfl⟩))
      | (go_at_call 14; ((with_reducible refine (HS2.out _).mono ?_); rintro e w' ⟨rfl, rfl⟩))
      | (go_at_call 15; refine (live_any _).mono ?_; rintro e w2 ⟨rfl, hB2⟩; replace Hmi := Lib.hid (Hmi.out.next hB2); have HB2 := Lib.hid hB2; clear hB2)
      | (go_at_call 23; refine (ready_yes Ad cd _ D (length_rowsI D) Hok.out a1 cap1 _ l rfl (by omega) a2 cap2 _ k rfl (by omega) w2 Hmi.out.1 Hmi.out.2.1 Hmi.out.2.2).mono ?_; rintro e w5 ⟨A5, c5, rfl, hI5, hB5⟩; replace Hmi := Lib.hid (Hmi.out.next hB5); have HB5 := Lib.hid hB5; have HI5 := Lib.hid hI5; clear hB5 hI5)
      | (go_at_call 24; refine (refready_at Ad cd _ D (length_rowsI D) Hok.out a1 cap1 _ l rfl (by omega) a2 cap2 _ k rfl (by omega) w5 Hmi.out.1 Hmi.out.2.1 Hmi.out.2.2).mono ?_; rintro e w6 ⟨A6, c6, rfl, hI6, hB6⟩; have HB6 := Lib.hid hB6; have HI6 := Lib.hid hI6; have HI5b := Lib.hid (HI5.out.next hB6); clear hB6 hI6)
      | (go_at_call 20; refine (same_any A5 A6 c5 c6 _ _ (natsI (readyL D l k)) w6 _ _ (length_natsI _).symm (length_natsI _).symm HI5b.out HI6.out (by rw [length_natsI]; omega)).mono ?_; rintro e w7 ⟨rfl, hq⟩; have HB7 := Lib.hid (hq.belowR (B := w6.heap.size)); clear hq))
    go_ret
    have k2 := HB1.out.trans (HB2.out.mono HB1.out.size)
    have k5 := k2.trans (HB5.out.mono k2.size)
    have k6 := k5.trans (HB6.out.mono k5.size)
    exact ⟨rfl, k6.trans (HB7.out.mono k6.size)⟩
end Go.Proofs.Ytmekffcpbjmffaa
