/- PlaceSweeps is true of every block, list of blocks and track, and leaves its arguments as they are. Conditions: none. Here: the walk of the law's text. -/
import Derived.Test.YtceppcmcokkkoaaSI
import Derived.WalkKit
import Derived.OpenShut
namespace Go.Proofs.Ytceppcmcokkkoaa.placeSweeps
open Go.RowKit
set_option maxRecDepth 100000 in
set_option maxHeartbeats 1000000 in
theorem walk (a0 : Int) (a1 : Option Addr) (len1 cap1 : Nat) (z1 : List Int) (a2 : Int) (w : World) (w0 : (Lit.int .i64 a0).wf = true) (w1 : IsRow .i64 w a1 len1 cap1 z1) (w2 : (Lit.int .i64 a2).wf = true) :
    Calls Try.prog 4 #[.int .i64 a0, .slice a1 len1 cap1, .int .i64 a2] w fun e w' => e = .returned (.bool true) ∧ Below w.heap.size w w' := by
  have r0 := bounds_i64 w0
  have r2 := bounds_i64 w2
  clear r0 r2
  obtain ⟨l, hl, hlc, hcm, hI, _, hfew⟩ := few_ints w1
  have hl1 : l.length ≤ 1000 := by omega
  have hown0 := own_empty_ints w
  obtain ⟨S, E, hSl, hs1, hs2⟩ := sweeps_any a0 a2 l hl1
  have Hfew := Lib.hid hfew
  have Hs1 := Lib.hid hs1
  have Hs2 := Lib.hid hs2
  clear hfew w0 w1 w2 hs1 hs2
  go_enter Try.func4, Try.ntmps4
  go_wp2_with fail
  refine Hfew.out.mono ?_
  rintro e w' ⟨rfl, rfl⟩
  go_wp2_with (at_builtin; refine wpList_append_ints rfl _ _ rfl w.heap.size _ _ _ rfl hown0 _ _ l cap1 l.length rfl rfl (hI.below ((Below.refl _ w).alloc (Nat.le_refl _) _)) ?c1 ?c2 ?_)
  case c1 => omega
  case c2 => simp
  intro v7 wa hown hgrow
  have hBa : Below w.heap.size w wa := below_copy_ints hgrow
  obtain ⟨A7, c7, rfl, _, _, hI7⟩ := own_ints hown
  have hIa := (hI.below hBa).more hBa.size
  clear hown hgrow hown0
  go_wp2_with fail
  refine (Hs1.out _ _ _ hI7).mono ?_
  rintro e wb ⟨hBb, A8, c8, rfl, hI8⟩
  have hB2 := hBa.trans (hBb.mono hBa.size)
  have hI7b := (hI7.below hBb).more hBb.size
  have hIb := (hIa.below hBb).more hBb.size
  go_wp2_with fail
  refine (Hs2.out _ _ _ hIb).mono ?_
  rintro e wc ⟨hBc, A9, c9, rfl, hI9⟩
  have hB3 := hB2.trans (hBc.mono hB2.size)
  have hI7c := (hI7b.below hBc).more hBc.size
  have hIc := (hIb.below hBc).more hBc.size
  have hI8c := (hI8.below hBc).more hBc.size
  go_wp2_with fail
  refine (live1_any _).mono ?_
  rintro e wd ⟨rfl, hq⟩
  have hB4 := hq.below hB3
  have hk := fun (p : Addr) (_ : p.block < wc.heap.size) => hq.cell p
  go_wp2_with fail
  refine (same_n A8 A9 c8 c9 S.length S.length (natsI S) wd _ _ (by rw [length_natsI]) (by rw [length_natsI]) (hI8c.keep hk) (hI9.keep hk) (by rw [length_natsI]; omega)).mono ?_
  rintro e we ⟨rfl, hqe⟩
  have hB5 := hqe.below hB4
  have hk2 := fun (p : Addr) (_ : p.block < wc.heap.size) => (hqe.cell p).trans (hq.cell p)
  go_wp2_with fail
  refine (same_n A7 a1 c7 cap1 l.length l.length l we _ _ rfl rfl (hI7c.keep hk2) (hIc.keep hk2) (by omega)).mono ?_
  rintro e wf ⟨rfl, hqf⟩
  have hB6 := hqf.below hB5
  clear hk hk2
  go_wp2
  go_ret
  exact ⟨rfl, hB6⟩
end Go.Proofs.Ytceppcmcokkkoaa.placeSweeps
