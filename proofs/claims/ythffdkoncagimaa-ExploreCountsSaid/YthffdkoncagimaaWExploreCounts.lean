/- ExploreCounts holds whatever comes in. Here: the walk of the law's text. -/
import Derived.Test.YthffdkoncagimaaZA
import Derived.Test.YthffdkoncagimaaM
set_option linter.unusedVariables false
namespace Go.Proofs.Ythffdkoncagimaa
open Go.RowKit Go.Shelf
/-- what a call on rows F answers, wherever they lie -/
def Tells (f : Nat) (F : List (List Int)) (n e : Int) : Prop := ∀ A c w, Mat w w.heap.size A F → Calls Try.prog f #[.slice A F.length c] w fun r w' => r = .returned (.tuple #[.int .i64 n, .int .i64 e]) ∧ Below w.heap.size w w'
theorem tells_refl {w : World} {v : Value} {e : Ending} {w' : World} (h : e = .returned v ∧ w = w') : e = .returned v ∧ Below w.heap.size w w' := ⟨h.1, by rw [← h.2]; exact Below.refl _ _⟩
theorem counts_both (F : List (List Int)) (hb : F.length ≤ 1000 ∧ ∀ k, k < F.length → (rowI F k).length ≤ 1000) : ∃ n o m e : Int, Tells 8 F n e ∧ Tells 9 F n e ∧ Tells 10 F o e ∧ Tells 11 F o e ∧ Tells 12 F m e ∧ Tells 13 F m e := by
  cases hf : fitB F with
  | false => exact ⟨0, 0, 0, 3, fun A c w hM => (pcount_no A c F w hf hb.1 hb.2 hM).mono fun _ _ => tells_refl, fun A c w hM => (rcount_no A c F w hf hb.1 hb.2 hM).mono fun _ _ => tells_refl,
      fun A c w hM => porders_no A c F w hf hb.1 hb.2 hM, fun A c w hM => rorders_no A c F w hf hb.1 hb.2 hM, fun A c w hM => pwidest_no A c F w hf hb.1 hb.2 hM, fun A c w hM => rwidest_no A c F w hf hb.1 hb.2 hM⟩
  | true =>
    obtain ⟨D, rfl, hD, hO⟩ := fit_out hf
    refine ⟨((countL (needsL D) : Nat) : Int), orders (needsL D), ((widest (needsL D) : Nat) : Int), 0, fun A c w hM => ?_, fun A c w hM => ?_, fun A c w hM => ?_, fun A c w hM => ?_, fun A c w hM => ?_, fun A c w hM => ?_⟩ <;> rw [length_rowsI]
    · exact pcount_yes A c D w hD hO hM
    · exact rcount_yes A c D w hD hO hM
    · exact porders_yes A c D w hD hO hM
    · exact rorders_yes A c D w hD hO hM
    · exact pwidest_yes A c D w hD hO hM
    · exact rwidest_yes A c D w hD hO hM
set_option maxRecDepth 100000 in
set_option maxHeartbeats 2000000 in
theorem ExploreCounts.walk (a : Option Addr) (len cap : Nat) (R : List (List Int)) (A : Nat → Option Addr) (C : Nat → Nat) (w : World) (h : IsMat w a len cap R A C) :
    Calls Try.prog 3 #[.slice a len cap] w fun e w' => e = .returned (.bool true) ∧ Below w.heap.size w w' := by
  have HF := Lib.hid (few_any a len cap R A C w h)
  unfold FewSays at HF
  obtain ⟨n, o, m, x, h1, h2, h3, h4, h5, h6⟩ := counts_both (fewR R) (few_bound R)
  unfold Tells at h1 h2 h3 h4 h5 h6
  have H1 := Lib.hid h1
  have H2 := Lib.hid h2
  have H3 := Lib.hid h3
  have H4 := Lib.hid h4
  have H5 := Lib.hid h5
  have H6 := Lib.hid h6
  clear h h1 h2 h3 h4 h5 h6
  generalize fewR R = F at *
  go_enter Try.func3, Try.ntmps3
  go_wp2_with (first
    | (go_at_call 7; refine HF.out.mono ?_; rintro e w1 ⟨A1, c1, rfl, _, _, hM, hB⟩; have HM := Lib.hid hM; have HB := Lib.hid hB; clear hM hB)
    | (go_at_call 8; refine (H1.out _ _ _ HM.out).mono ?_; rintro e w2 ⟨rfl, b⟩; have HM2 := Lib.hid (HM.out.next b); have HB2 := Lib.hid (HB.out.trans (b.mono HB.out.size)); clear b)
    | (go_at_call 9; refine (H2.out _ _ _ HM2.out).mono ?_; rintro e w3 ⟨rfl, b⟩; have HM3 := Lib.hid (HM2.out.next b); have HB3 := Lib.hid (HB2.out.trans (b.mono HB2.out.size)); clear b)
    | (go_at_call 10; refine (H3.out _ _ _ HM3.out).mono ?_; rintro e w4 ⟨rfl, b⟩; have HM4 := Lib.hid (HM3.out.next b); have HB4 := Lib.hid (HB3.out.trans (b.mono HB3.out.size)); clear b)
    | (go_at_call 11; refine (H4.out _ _ _ HM4.out).mono ?_; rintro e w5 ⟨rfl, b⟩; have HM5 := Lib.hid (HM4.out.next b); have HB5 := Lib.hid (HB4.out.trans (b.mono HB4.out.size)); clear b)
    | (go_at_call 12; refine (H5.out _ _ _ HM5.out).mono ?_; rintro e w6 ⟨rfl, b⟩; have HM6 := Lib.hid (HM5.out.next b); have HB6 := Lib.hid (HB5.out.trans (b.mono HB5.out.size)); clear b)
    | (go_at_call 13; refine (H6.out _ _ _ HM6.out).mono ?_; rintro e w7 ⟨rfl, b⟩; have HB7 := Lib.hid (HB6.out.trans (b.mono HB6.out.size)); clear b)
    | (go_at_call 14; refine (live_any _).mono ?_; rintro e w8 ⟨rfl, b⟩; have HB8 := Lib.hid (HB7.out.trans (b.mono HB7.out.size)); clear b))
  go_ret
  exact ⟨by simp, HB8.out⟩
end Go.Proofs.Ythffdkoncagimaa
