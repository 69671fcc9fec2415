/- Whatever deed and number come in, CacheNone returns true, and they read afterwards as before. No condition. Here: the walk of the law's text. -/
import Derived.Test.YthibnnllecdpaaaO
namespace Go.Proofs.Ythibnnllecdpaaa
open Go.RowKit
set_option maxRecDepth 100000 in
set_option maxHeartbeats 1000000 in
theorem CacheNone.walk (k b : Int) (o : Bool) (n : Int) (W : World) (_hn : (Lit.int .i64 n).wf = true) :
    Calls Try.prog 9 #[.agg #[.int .i64 k, .int .i64 b, .bool o], .int .i64 n] W fun e W' => e = .returned (.bool true) ∧ Below W.heap.size W W' := by
  have hB0 : Below W.heap.size W (W.alloc (.cells #[.int .i64 k, .int .i64 b, .bool o] 50)) := (Below.refl _ _).alloc (Nat.le_refl _) _
  have HB0 := Lib.hid hB0
  clear hB0
  have hs : W.heap.size < W.heap.size + 1 := Nat.lt_succ_self _
  by_cases h : n < 1 ∨ 96 < n
  · have HN := Lib.hid (fun w => new_no n w h)
    have ht : (decide (n < 1) || decide (96 < n)) = true := by simpa using h
    rcases (show n < 1 ∨ (¬ n < 1 ∧ 96 < n) by omega) with h1 | ⟨h1, h2⟩
    all_goals
      clear h
      go_enter Try.func9, Try.ntmps9
      go_wp2_with (first
        | (go_at_call 14; refine (use_nil _ _).mono ?_; rintro e w' ⟨rfl, rfl⟩)
        | (go_at_call 12; refine (live_any _).mono ?_; rintro e w2 ⟨rfl, hb2⟩; obtain ⟨hcl, hfr⟩ := bcell hb2; have HB2 := Lib.hid hb2; clear hb2)
        | (go_at_call 16; refine (pin_nil _ _ _).mono ?_; rintro e w' ⟨rfl, rfl⟩)
        | (go_at_call 17; refine (dirty_nil _ _ _).mono ?_; rintro e w' ⟨rfl, rfl⟩)
        | (go_at_call 18; refine (drop_nil _ _).mono ?_; rintro e w' ⟨rfl, rfl⟩)
        | (go_at_call 15; refine (has_nil _ _).mono ?_; rintro e w' ⟨rfl, rfl⟩)
        | (go_at_call 22; refine (pins_nil _ _).mono ?_; rintro e w' ⟨rfl, rfl⟩)
        | (go_at_call 19; refine (list_nil _).mono ?_; rintro e w' ⟨rfl, rfl⟩)
        | (go_at_call 23; refine (fork_nil _).mono ?_; rintro e w' ⟨rfl, rfl⟩)
        | (go_at_call 21; refine (HN.out _).mono ?_; rintro e w' ⟨rfl, rfl⟩))
      go_ret
      exact ⟨by simp, HB0.out.trans (HB2.out.mono HB0.out.size)⟩
  · have h1 : 1 ≤ n := by omega
    have h2 : n ≤ 96 := by omega
    have h3 : ¬ n < 1 := by omega
    have h4 : ¬ 96 < n := by omega
    have HN := Lib.hid (fun w => new_yes n w h1 h2)
    clear h
    go_enter Try.func9, Try.ntmps9
    go_wp2_with (first
        | (go_at_call 14; refine (use_nil _ _).mono ?_; rintro e w' ⟨rfl, rfl⟩)
        | (go_at_call 12; refine (live_any _).mono ?_; rintro e w2 ⟨rfl, hb2⟩; obtain ⟨hcl, hfr⟩ := bcell hb2; have HB2 := Lib.hid hb2; clear hb2)
        | (go_at_call 16; refine (pin_nil _ _ _).mono ?_; rintro e w' ⟨rfl, rfl⟩)
        | (go_at_call 17; refine (dirty_nil _ _ _).mono ?_; rintro e w' ⟨rfl, rfl⟩)
        | (go_at_call 18; refine (drop_nil _ _).mono ?_; rintro e w' ⟨rfl, rfl⟩)
        | (go_at_call 15; refine (has_nil _ _).mono ?_; rintro e w' ⟨rfl, rfl⟩)
        | (go_at_call 22; refine (pins_nil _ _).mono ?_; rintro e w' ⟨rfl, rfl⟩)
        | (go_at_call 19; refine (list_nil _).mono ?_; rintro e w' ⟨rfl, rfl⟩)
        | (go_at_call 23; refine (fork_nil _).mono ?_; rintro e w' ⟨rfl, rfl⟩)
        | (go_at_call 21; refine (HN.out _).mono ?_; rintro e w3 ⟨rfl, _, hb3⟩; have HB3 := Lib.hid hb3; clear hb3))
    go_ret
    have k2 := HB0.out.trans (HB2.out.mono HB0.out.size)
    exact ⟨by simp [h1, h2], k2.trans (HB3.out.mono k2.size)⟩
end Go.Proofs.Ythibnnllecdpaaa
