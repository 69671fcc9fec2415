/- HardNone. Here: the walk of the law's text. -/
import Derived.Test.YtkldiofleepkfaaGreatIE
import Derived.WalkKit
import Derived.OpenShut
set_option linter.unusedVariables false
set_option linter.unusedSimpArgs false
namespace Go.Proofs.YtkldiofleepkfaaGreat.HardNone
open Go.RowKit Hd
set_option maxRecDepth 100000 in
set_option maxHeartbeats 4000000 in
theorem walk (x : Dd) (w : World) (hx : DdIn w x) : Calls Tryz.prog 9 #[x.v] w fun e w' => e = .returned (.bool true) ∧ Below w.heap.size w w' := by
  obtain ⟨k, i, A, n, c, L, b⟩ := x
  unfold Dd.v
  dsimp only
  clear hx
  have HB0 : Hid (Below w.heap.size w (w.alloc (.cells #[.int .i64 k, .int .i64 i, .slice A n c, .bool b] 74))) := (Below.refl _ _).alloc (Nat.le_refl _) _
  have C0 : Hid (∀ W, Below w.heap.size.succ (w.alloc (.cells #[.int .i64 k, .int .i64 i, .slice A n c, .bool b] 74)) W → W.cell? ⟨w.heap.size, 1, none⟩ = some (.int .i64 i)) := fun W hW => by
    rw [hW.cell (p := ⟨w.heap.size, 1, none⟩) (Nat.lt_succ_self _)]; simp
  go_enter Tryz.func9, Tryz.ntmps9
  go_wp2_with (first
    | (go_at_call 17; refine (hadd_none _ _ _ _).mono ?_; rintro e w1 ⟨rfl, rfl⟩)
    | (go_at_call 23; refine (hblock_none _ _).mono ?_; rintro e w1 ⟨rfl, rfl⟩)
    | (go_at_call 19; refine (hwrite_none _ _).mono ?_; rintro e w1 ⟨rfl, rfl⟩)
    | (go_at_call 11; refine (live_any _).mono ?_; rintro e w1 ⟨rfl, hb1⟩; have HB1 := Lib.hid hb1; have c1 := C0.out w1 (hb1.mono (by simp)); clear hb1)
    | (go_at_call 21; refine (hflush_none _).mono ?_; rintro e w2 ⟨rfl, rfl⟩)
    | (go_at_call 25; refine (hsync_none _).mono ?_; rintro e w2 ⟨rfl, rfl⟩)
    | (go_at_call 38; refine (hspoil_none _ _ _).mono ?_; rintro e w2 ⟨rfl, rfl⟩)
    | (go_at_call 31; refine (hcrash_none _ _ _ _).mono ?_; rintro e w2 ⟨rfl, rfl⟩)
    | (go_at_call 27; refine (hwaiting_none _).mono ?_; rintro e w2 ⟨rfl, rfl⟩)
    | (go_at_call 33; refine (hunits_none _).mono ?_; rintro e w2 ⟨rfl, rfl⟩)
    | (go_at_call 34; refine (hof_none _ _).mono ?_; rintro e w2 ⟨rfl, rfl⟩)
    | (go_at_call 36; refine (hcounts_none _).mono ?_; rintro e w2 ⟨rfl, rfl⟩)
    | (go_at_call 40; refine (hdirty_none _).mono ?_; rintro e w2 ⟨rfl, rfl⟩)
    | (go_at_call 37; refine (hnext_none _).mono ?_; rintro e w2 ⟨rfl, rfl⟩)
    | (go_at_call 29; refine (hsize_none _).mono ?_; rintro e w2 ⟨rfl, rfl⟩)
    | (go_at_call 41; refine (hfork_none _).mono ?_; rintro e w2 ⟨rfl, rfl⟩)
    | (go_at_call 13; refine (hnew_none _).mono ?_; rintro e w2 ⟨rfl, rfl⟩))
  go_ret
  exact ⟨rfl, HB0.out.trans (HB1.out.mono (by simp))⟩
end Go.Proofs.YtkldiofleepkfaaGreat.HardNone
