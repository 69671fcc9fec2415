/- PlaceRoutes is true of every block, list of blocks and track, and leaves its arguments as they are. Conditions: none. Here: the walk of the law's text. -/
import Derived.Test.YtceppcmcokkkoaaFN
import Derived.WalkKit
import Derived.OpenShut
namespace Go.Proofs.Ytceppcmcokkkoaa.placeRoutes
open Go.RowKit
set_option maxRecDepth 100000 in
set_option maxHeartbeats 1000000 in
theorem walk (a0 : Int) (a1 : Option Addr) (len1 cap1 : Nat) (z1 : List Int) (a2 : Int) (w : World) (w0 : (Lit.int .i64 a0).wf = true) (w1 : IsRow .i64 w a1 len1 cap1 z1) (w2 : (Lit.int .i64 a2).wf = true) :
    Calls Try.prog 3 #[.int .i64 a0, .slice a1 len1 cap1, .int .i64 a2] w fun e w' => e = .returned (.bool true) ∧ Below w.heap.size w w' := by
  have r0 := bounds_i64 w0
  have r2 := bounds_i64 w2
  clear r0 r2
  obtain ⟨l, hl, hlc, hcm, hI, _, hfew⟩ := few_ints w1
  have hl1 : l.length ≤ 1000 := by omega
  have Hfew := Lib.hid hfew
  have H1 := Lib.hid (route_any a1 cap1 a0 a2 l w hl1 hI)
  have H2 := Lib.hid (fun W (hB : Below w.heap.size w W) => refroute_any a1 cap1 a0 a2 l W hl1 ((hI.below hB).more hB.size))
  have H3 := Lib.hid (fun W (hB : Below w.heap.size w W) => next_any a1 cap1 a0 a2 l W hl1 ((hI.below hB).more hB.size))
  have H4 := Lib.hid (fun W (hB : Below w.heap.size w W) => refnext_any a1 cap1 a0 a2 l W hl1 ((hI.below hB).more hB.size))
  have v1 := fun e W W' h => (RouteSays.val (w := W) (w' := W') (f := a0) (p := a2) (l := l) (e := e) h)
  have v2 := fun e W W' h => (NextSays.val (w := W) (w' := W') (f := a0) (p := a2) (l := l) (e := e) h)
  obtain ⟨R, hR⟩ : ∃ R : Int, R = (if fitB a0 l a2 = true then ((goes a0.toNat l a2.toNat l.length : Nat) : Int) else 0) := ⟨_, rfl⟩
  obtain ⟨E, hE⟩ : ∃ R : Int, R = (if fitB a0 l a2 = true then 0 else 2) := ⟨_, rfl⟩
  obtain ⟨N, hN⟩ : ∃ R : Int, R = (if fitB a0 l a2 = true ∧ l.length ≠ 0 then ((bestOf (farFrom a0.toNat l a2.toNat) l.length : Nat) : Int) else 0) := ⟨_, rfl⟩
  obtain ⟨T, hT⟩ : ∃ R : Bool, R = (decide (fitB a0 l a2 = true ∧ l.length ≠ 0)) := ⟨_, rfl⟩
  rw [← hR, ← hE] at v1
  rw [← hN, ← hT] at v2
  have V1 := Lib.hid v1
  have V2 := Lib.hid v2
  clear hfew hI w0 w1 w2 v1 v2 hR hE hN hT
  go_enter Try.func3, Try.ntmps3
  go_wp2_with fail
  refine Hfew.out.mono ?_
  rintro e w' ⟨rfl, rfl⟩
  go_wp2_with fail
  refine H1.out.mono ?_
  rintro e wa ha
  obtain rfl := V1.out _ _ _ ha
  have hBa := ha.1
  clear ha
  go_wp2_with fail
  refine (H2.out _ hBa).mono ?_
  rintro e wb hb
  obtain rfl := V1.out _ _ _ hb
  have hBb := hBa.trans (hb.1.mono hBa.size)
  clear hb
  go_wp2_with fail
  refine (H3.out _ hBb).mono ?_
  rintro e wc hc
  obtain rfl := V2.out _ _ _ hc
  have hBc := hBb.trans (hc.1.mono hBb.size)
  clear hc
  go_wp2_with fail
  refine (H4.out _ hBc).mono ?_
  rintro e wd hd
  obtain rfl := V2.out _ _ _ hd
  have hBd := hBc.trans (hd.1.mono hBc.size)
  clear hd
  go_wp2_with fail
  refine (live1_any _).mono ?_
  rintro e we ⟨rfl, hq⟩
  have hBe := hq.below hBd
  go_wp2
  go_ret
  exact ⟨rfl, hBe⟩
end Go.Proofs.Ytceppcmcokkkoaa.placeRoutes
