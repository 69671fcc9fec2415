/- Whatever bytes and deeds come in, StackPlays returns true, and they read afterwards as before. No condition. Here: the walk of the law's text. -/
import Derived.Test.YtibkipdadpidnaaSK
import Derived.Test.YtibkipdadpidnaaSE
set_option linter.unusedVariables false
set_option linter.unusedSimpArgs false
namespace Go.Proofs.Ytibkipdadpidnaa
open Go.RowKit
set_option maxRecDepth 100000 in
set_option maxHeartbeats 2000000 in
theorem StackPlays.walk (a1 : Option Addr) (len1 cap1 : Nat) (bs : List Int) (a2 : Option Addr) (len2 cap2 : Nat) (ds : List Dd) (W : World) (hb : IsBytes W a1 len1 cap1 bs) (hd : IsDeeds W a2 len2 cap2 ds) :
    Calls Try.prog 3 #[.slice a1 len1 cap1, .slice a2 len2 cap2] W fun e W' => e = .returned (.bool true) ∧ Below W.heap.size W W' := by
  obtain ⟨rfl, b2, b3, b4⟩ := hb
  obtain ⟨rfl, d2, d3, d4⟩ := hd
  have HP := Lib.hid (play_any a1 cap1 bs a2 cap2 ds W b4 d2 d3 d4)
  clear b2 b3 b4 d2 d3 d4
  go_enter Try.func3, Try.ntmps3
  go_wp2_with fail
  refine HP.out.mono ?_
  rintro e w1 ⟨g, r, s, rfl, hT, hO, hB⟩
  have HT := Lib.hid hT
  have HO := Lib.hid hO
  have HB := Lib.hid hB
  clear hT hO hB
  go_wp2_with (first
    | (go_at_call 12; refine (live_any _).mono ?_; rintro e w2 ⟨rfl, hb2⟩; have HT2 := Lib.hid (HT.out.fresh hb2); have HB2 := Lib.hid (HB.out.trans (hb2.mono HB.out.size)); clear hb2)
    | (go_at_call 13; refine (same_any _ g r 30 s _ HO.out (by omega) HT2.out).mono ?_; rintro e w3 ⟨rfl, hb3⟩; have HB3 := Lib.hid (HB2.out.trans (hb3.mono HB2.out.size)); clear hb3))
  go_ret
  exact ⟨by simp, HB3.out⟩
end Go.Proofs.Ytibkipdadpidnaa
