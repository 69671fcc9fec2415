/- Whatever size and deeds come in, CachePlays returns true, and they read afterwards as before. No condition. Here: the walk of the law's text. -/
import Derived.Test.YthibnnllecdpaaaO
namespace Go.Proofs.Ythibnnllecdpaaa
open Go.RowKit
set_option maxRecDepth 100000 in
set_option maxHeartbeats 1000000 in
theorem CachePlays.walk (n : Int) (a1 : Option Addr) (len1 cap1 : Nat) (ds : List D) (W : World) (hn : (Lit.int .u8 n).wf = true) (hd : IsDeeds W a1 len1 cap1 ds) :
    Calls Try.prog 3 #[.int .u8 n, .slice a1 len1 cap1] W fun e W' => e = .returned (.bool true) ∧ Below W.heap.size W W' := by
  obtain ⟨n0, n1⟩ := bounds_u8 hn
  obtain ⟨M, hM⟩ : ∃ M : Nat, n % 8 + 1 = (M : Int) := ⟨(n % 8 + 1).toNat, by omega⟩
  obtain ⟨d1, d2, d3, d4⟩ := hd
  have HP := Lib.hid (play_any n M a1 len1 cap1 ds W n0 n1 hM d1 d2 d3 d4)
  clear hM d1 d2 d3 d4 hn
  go_enter Try.func3, Try.ntmps3
  go_wp2_with fail
  refine HP.out.mono ?_
  rintro e w1 ⟨gc, vc, gr, vr, l, rfl, hT, hf, hnd, hB⟩
  have HT := Lib.hid hT
  have HB := Lib.hid hB
  clear hT hf hnd hB
  go_wp2_with (first
    | (go_at_call 12; refine (live_any _).mono ?_; rintro e w2 ⟨rfl, hb2⟩; have HT2 := Lib.hid (HT.out.fresh hb2); have HB2 := Lib.hid (HB.out.trans (hb2.mono HB.out.size)); clear hb2)
    | (go_at_call 13; refine (same_any _ gc gr M vc vr l _ HT2.out).mono ?_; rintro e w3 ⟨rfl, hb3⟩; have HB3 := Lib.hid (HB2.out.trans (hb3.mono HB2.out.size)); clear hb3))
  go_ret
  exact ⟨rfl, HB3.out⟩
end Go.Proofs.Ythibnnllecdpaaa
