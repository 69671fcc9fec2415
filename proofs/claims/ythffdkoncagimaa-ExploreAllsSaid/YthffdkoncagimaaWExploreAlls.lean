/- ExploreAlls holds whatever comes in. Here: the walk of the law's text. -/
import Derived.Test.YthffdkoncagimaaS
set_option linter.unusedVariables false
namespace Go.Proofs.Ythffdkoncagimaa
open Go.RowKit Go.Shelf
theorem rowLen_allL (L : List Nat) (k : Nat) (h : k < (allL L).length) : (rowI (allL L) k).length ≤ 1000 := by
  rw [length_allL] at h
  rw [rowI_allL L h, length_natsI]
  have : (memb (el (cloTo L (2 ^ L.length)) k)).length ≤ 14 := membTo_len _ 14
  omega
/-- what both give, the rows aside -/
def AllSays (w : World) (x : Int) (R3 : List (List Int)) (e : Ending) (w' : World) : Prop := ∃ A c, e = .returned (.tuple #[.slice A R3.length c, .int .i64 x]) ∧ Mat w' w'.heap.size A R3 ∧ Below w.heap.size w w'
theorem AllSays.nil {w w' : World} {x : Int} {e : Ending} (h : e = .returned (.tuple #[.slice none 0 0, .int .i64 x]) ∧ Below w.heap.size w w') : AllSays w x [] e w' := ⟨none, 0, h.1, Mat.nil, h.2⟩
theorem AllSays.of {w w' : World} {R3 : List (List Int)} {e : Ending} (h : GivesT w R3 e w') : AllSays w 0 R3 e w' := by
  obtain ⟨A, c, T, he, h1, h2, h3, hb⟩ := h
  exact ⟨A, c, he, GivesT.mat (w := w) (c := c) h1 h2 h3, hb⟩
theorem alls_both (F : List (List Int)) (hl : F.length ≤ 12) (hb : F.length ≤ 1000 ∧ ∀ k, k < F.length → (rowI F k).length ≤ 1000) (most : Int) : ∃ (x : Int) (R3 : List (List Int)), R3.length ≤ 20000 ∧ (∀ k, k < R3.length → (rowI R3 k).length ≤ 1000) ∧
    (∀ A c w, Mat w w.heap.size A F → Calls Try.prog 16 #[.slice A F.length c, .int .i64 most] w (AllSays w x R3)) ∧ (∀ A c w, Mat w w.heap.size A F → Calls Try.prog 17 #[.slice A F.length c, .int .i64 most] w (AllSays w x R3)) := by
  have h0 : ([] : List (List Int)).length ≤ 20000 ∧ (∀ k, k < ([] : List (List Int)).length → (rowI [] k).length ≤ 1000) := ⟨by simp, fun k h => by simp at h⟩
  cases hf : fitB F with
  | false => exact ⟨3, [], h0.1, h0.2, fun A c w hM => (all_no A c F most w hf hb.1 hb.2 hM).mono fun _ _ h => AllSays.nil h, fun A c w hM => (rall_no A c F most w hf hb.1 hb.2 hM).mono fun _ _ h => AllSays.nil h⟩
  | true =>
    obtain ⟨D, rfl, hD, hO⟩ := fit_out hf
    rw [length_rowsI]
    by_cases hm : 1 ≤ most ∧ most ≤ 4096
    · by_cases hc : ((countL (needsL D) : Nat) : Int) ≤ most
      · exact ⟨0, allL (needsL D), by rw [length_allL]; omega, rowLen_allL _, fun A c w hM => (all_yes A c D most w hD hO hM hm.1 hm.2 hc).mono fun _ _ h => AllSays.of h, fun A c w hM => (rall_yes A c D most w hD hO hM hm.1 hm.2 hc).mono fun _ _ h => AllSays.of h⟩
      · exact ⟨11, [], h0.1, h0.2, fun A c w hM => (all_full A c D most w hD hO hM hm.1 hm.2 (by omega)).mono fun _ _ h => AllSays.nil h, fun A c w hM => (rall_full A c D most w hD hO hM hm.1 hm.2 (by omega)).mono fun _ _ h => AllSays.nil h⟩
    · exact ⟨2, [], h0.1, h0.2, fun A c w hM => (all_range A c D most w hD hO hM hm).mono fun _ _ h => AllSays.nil h, fun A c w hM => (rall_range A c D most w hD hO hM hm).mono fun _ _ h => AllSays.nil h⟩
set_option maxRecDepth 100000 in
set_option maxHeartbeats 2000000 in
theorem ExploreAlls.walk (a : Option Addr) (len cap : Nat) (R : List (List Int)) (A : Nat → Option Addr) (C : Nat → Nat) (most : Int) (w : World) (h : IsMat w a len cap R A C) :
    Calls Try.prog 4 #[.slice a len cap, .int .i64 most] w fun e w' => e = .returned (.bool true) ∧ Below w.heap.size w w' := by
  have HF := Lib.hid (little_any a len cap R A C 12 w h (by decide))
  obtain ⟨hb9, hb1⟩ := lit_bound R 12
  unfold LitSays at HF
  obtain ⟨x, R3, hl3, hr3, hP, hQ⟩ := alls_both (litR R 12) hb9 hb1 most
  have HP := Lib.hid hP
  have HQ := Lib.hid hQ
  have Hr3 := Lib.hid hr3
  have Hl3 := Lib.hid hl3
  clear h hb9 hb1 hP hQ hr3 hl3
  unfold AllSays at HP HQ
  generalize litR R 12 = F at *
  go_enter Try.func4, Try.ntmps4
  go_wp2_with (first
    | (go_at_call 15; refine HF.out.mono ?_; rintro e w1 ⟨A1, c1, rfl, hM, hB⟩; have HM := Lib.hid hM; have HB := Lib.hid hB; clear hM hB)
    | (go_at_call 16; refine (HP.out _ _ _ HM.out).mono ?_; rintro e w2 ⟨A2, c2, rfl, hM2, hB2⟩; have HM2 := Lib.hid hM2; have HB2 := Lib.hid (HB.out.trans (hB2.mono HB.out.size)); have HMD := Lib.hid (HM.out.next hB2); clear hB2 hM2)
    | (go_at_call 17; refine (HQ.out _ _ _ HMD.out).mono ?_; rintro e w3 ⟨A3, c3, rfl, hM3, hB3⟩; have HM3 := Lib.hid hM3; have HM23 := Lib.hid (HM2.out.next hB3); have HB3 := Lib.hid (HB2.out.trans (hB3.mono HB2.out.size)); clear hB3 hM3)
    | (go_at_call 14; refine (live_any _).mono ?_; rintro e w4 ⟨rfl, hB4⟩; have HM4 := Lib.hid (HM3.out.next hB4); have HM24 := Lib.hid (HM23.out.next hB4); have HB4 := Lib.hid (HB3.out.trans (hB4.mono HB3.out.size)); clear hB4)
    | (go_at_call 18; refine (same_rowsB A2 A3 c2 c3 _ _ R3 _ rfl rfl HM24.out HM4.out Hl3.out Hr3.out).mono ?_; rintro e w5 ⟨rfl, hB5⟩; have HB5 := Lib.hid (HB4.out.trans (hB5.mono HB4.out.size)); clear hB5))
  go_ret
  exact ⟨rfl, HB5.out⟩
end Go.Proofs.Ythffdkoncagimaa
