/- ExploreLists: where deps are not right. -/
import Derived.Test.YthffdkoncagimaaM
set_option linter.unusedVariables false
set_option linter.unusedSimpArgs false
namespace Go.Proofs.Ythffdkoncagimaa
open Go.RowKit Go.Shelf
set_option maxRecDepth 100000 in
set_option maxHeartbeats 4000000 in
theorem lists_no (a : Option Addr) (len cap : Nat) (R : List (List Int)) (A : Nat → Option Addr) (C : Nat → Nat) (w : World) (h : IsMat w a len cap R A C) (hf : fitB (litR R 9) = false) :
    Calls Try.prog 5 #[.slice a len cap] w fun e w' => e = .returned (.bool true) ∧ Below w.heap.size w w' := by
  have HF := Lib.hid (little_any a len cap R A C 9 w h (by decide))
  obtain ⟨hb9, hb1, hb2⟩ := lit_bound R 9
  unfold LitSays at HF
  have Hb2 := Lib.hid hb2
  have Hf := Lib.hid hf
  clear h hb2 hf
  generalize litR R 9 = F at *
  go_enter Try.func5, Try.ntmps5
  go_wp2_with (first
    | (go_at_call 15; refine HF.out.mono ?_; rintro e w1 ⟨A1, c1, rfl, hM, hB⟩; have HM := Lib.hid hM; have HB := Lib.hid hB; clear hM hB)
    | (go_at_call 8; refine (pcount_no A1 c1 F w1 Hf.out hb1 Hb2.out HM.out).mono ?_; rintro e w' ⟨rfl, rfl⟩)
    | (go_at_call 16; refine (all_no A1 c1 F 4096 _ Hf.out hb1 Hb2.out HM.out).mono ?_; rintro e w2 ⟨rfl, hB2⟩; have HB2 := Lib.hid (HB.out.trans (hB2.mono HB.out.size)); clear hB2)
    | (go_at_call 14; refine (live_any _).mono ?_; rintro e w3 ⟨rfl, hB3⟩; have HB3 := Lib.hid (HB2.out.trans (hB3.mono HB2.out.size)); clear hB3))
  go_ret
  exact ⟨rfl, HB3.out⟩
end Go.Proofs.Ythffdkoncagimaa
