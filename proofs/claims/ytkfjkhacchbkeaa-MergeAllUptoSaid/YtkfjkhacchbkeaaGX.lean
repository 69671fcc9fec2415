/- Contract of the document's own Ready; Ready anyhow. -/
import Derived.Test.YtkfjkhacchbkeaaGV
namespace Go.Proofs.Ytkfjkhacchbkeaa
set_option linter.unusedVariables false
set_option linter.unusedSimpArgs false
open Go.RowKit

theorem ready_yes (A : Option Addr) (c kD : Nat) (D : List (List Nat)) (hkD : kD = D.length) (hD : OkD D) (A2 : Option Addr) (c2 k2 : Nat) (l : List Int) (hk2 : k2 = l.length) (hl : l.length ≤ 100000)
    (A3 : Option Addr) (c3 k3 : Nat) (k : List Int) (hk3 : k3 = k.length) (hk : k.length ≤ 100000) (w : World)
    (hM : Mat w w.heap.size A (rowsI D)) (hI : Ints w w.heap.size A2 l) (hI3 : Ints w w.heap.size A3 k) :
    Calls Try.prog 39 #[.slice A kD c, .slice A2 k2 c2, .slice A3 k3 c3] w fun e w' => ∃ A' c', e = .returned (.slice A' (readyL D l k).length c') ∧ Ints w' w'.heap.size A' (natsI (readyL D l k)) ∧ Below w.heap.size w w' := by
  refine (callsIn_wide.1 (ready_in 4 (Nat.le_refl _) A c kD D hkD hD A2 c2 k2 l hk2 hl A3 c3 k3 k hk3 hk w hM hI hI3)).mono ?_
  rintro e w' ⟨v, rfl, ho, hB⟩
  rw [natsV_intsV] at ho
  obtain ⟨A', c', rfl, _, _, hI'⟩ := own_ints ho
  exact ⟨A', c', by rw [length_natsI], hI', hB⟩
set_option maxRecDepth 100000 in
set_option maxHeartbeats 1000000 in
theorem ready_no (A : Option Addr) (c k : Nat) (R : List (List Int)) (hk : k = R.length) (hok : okB R = false) (v2 v3 : Value) (w : World) (hl : R.length ≤ 1000) (hr : ∀ k, k < R.length → (rowI R k).length ≤ 1000) (hM : Mat w w.heap.size A R) :
    Calls Try.prog 39 #[.slice A k c, v2, v3] w fun e w' => e = .returned (.slice none 0 0) ∧ Below w.heap.size w w' := by
  have hw0 : Below w.heap.size w (w.alloc (.cells #[.slice A k c] 27)) := (Below.refl _ _).alloc (Nat.le_refl _) _
  have H := Lib.hid (right_no A c k R hk hok (w.alloc (.cells #[.slice A k c] 27)) hl hr ((hM.below hw0).more (by simp)))
  clear hk hok hr hM
  go_enter Try.func39, Try.ntmps39
  go_wp2_with fail
  refine wp_scope_straight ?_
  go_wp2_with (go_at_call 33; refine H.out.mono ?_; rintro e w' ⟨rfl, rfl⟩)
  rw [Exit.noGoto_ret]
  go_ret
  exact ⟨rfl, hw0⟩
end Go.Proofs.Ytkfjkhacchbkeaa
