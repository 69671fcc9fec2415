/- DiskPlays is true of every number and deeds, and leaves its arguments as they are. Here: the walk of the law's text. -/
import Derived.Test.YtieeibdhaoaeaaaLO
set_option linter.unusedVariables false
set_option linter.unusedSimpArgs false
namespace Go.Proofs.Ytieeibdhaoaeaaa
open Go.RowKit

theorem OwnB.same {w w1 : World} {d r n c : Nat} (h : OwnB w w1 d r n c) (hc : c < 100000) : Calls Try.prog 14 #[.pointer (some ⟨d, 0, none⟩), .pointer (some ⟨r, 0, none⟩)] w1 fun e w' => e = .returned (.bool true) ∧ OwnB w w' d r n c := by
  have h' := h
  obtain ⟨S, F, h1, h2, h3, h4⟩ := h
  refine (same_any h1 hc).mono ?_
  rintro e w' ⟨rfl, hB⟩
  exact ⟨rfl, h'.next hB⟩
theorem OwnB.live {w w1 : World} {d r n c : Nat} (h : OwnB w w1 d r n c) : Calls Try.prog 13 #[] w1 fun e w' => e = .returned (.bool true) ∧ OwnB w w' d r n c := by
  refine (live_any w1).mono ?_
  rintro e w' ⟨rfl, hB⟩
  exact ⟨rfl, h.next hB⟩
theorem OwnB.below {w w1 : World} {d r n c : Nat} (h : OwnB w w1 d r n c) : Below w.heap.size w w1 := by
  obtain ⟨S, F, h1, h2, h3, h4⟩ := h
  exact h4
end Go.Proofs.Ytieeibdhaoaeaaa
namespace Go.Proofs.Ytieeibdhaoaeaaa.DiskPlays
open Go.RowKit
set_option maxRecDepth 100000 in
set_option maxHeartbeats 1000000 in
theorem walk (m : Int) (A : Option Addr) (len cap : Nat) (L : List Dd) (w : World) (hm : (Lit.int .u8 m).wf = true) (hL : L.length = len ∧ DeedsAt w A L ∧ ∀ x ∈ L, DdIn w x) :
    Calls Try.prog 3 #[.int .u8 m, .slice A len cap] w fun e w' => e = .returned (.bool true) ∧ Below w.heap.size w w' := by
  obtain ⟨rfl, hA, hD⟩ := hL
  have PL := Lib.hid (play_any w m (bounds_u8 hm) A cap L hA hD)
  obtain ⟨n, hn⟩ : ∃ n, n = (m % 8).toNat + 1 := ⟨_, rfl⟩
  rw [← hn] at PL
  have LV : Hid (∀ w1 d r, OwnB w w1 d r n 60 → Calls Try.prog 13 #[] w1 fun e w' => e = .returned (.bool true) ∧ OwnB w w' d r n 60) := fun w1 d r h => h.live
  have SM : Hid (∀ w1 d r, OwnB w w1 d r n 60 → Calls Try.prog 14 #[.pointer (some ⟨d, 0, none⟩), .pointer (some ⟨r, 0, none⟩)] w1 fun e w' => e = .returned (.bool true) ∧ OwnB w w' d r n 60) := fun w1 d r h => h.same (by decide)
  clear hA hD hm hn
  go_enter Try.func3, Try.ntmps3
  go_wp2_with fail
  refine PL.out.mono ?_
  rintro e w1 ⟨d, r, rfl, h1⟩
  have H1 := Lib.hid h1
  clear h1
  go_wp2_with fail
  refine (LV.out _ _ _ H1.out).mono ?_
  rintro e w2 ⟨rfl, h2⟩
  have H2 := Lib.hid h2
  clear h2
  go_wp2_with fail
  refine (SM.out _ _ _ H2.out).mono ?_
  rintro e w3 ⟨rfl, h3⟩
  have H3 := Lib.hid h3
  clear h3
  go_wp2
  go_ret
  exact ⟨rfl, H3.out.below⟩
end Go.Proofs.Ytieeibdhaoaeaaa.DiskPlays
