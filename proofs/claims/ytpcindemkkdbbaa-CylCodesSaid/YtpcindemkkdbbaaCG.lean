/- What must be whatever is asked. -/
import Derived.Test.YtpcindemkkdbbaaCF
import Derived.Test.YtpcindemkkdbbaaBG
namespace Go.Proofs.Ytpcindemkkdbbaa
set_option linter.unusedVariables false
set_option linter.unusedSimpArgs false
open Go.RowKit

def lv0 : List Cy := [bare 0 4, bare 1 4]
def lv1 : List Cy := [⟨0, 4, 3, 16, 3, [2], []⟩, bare 1 4]
theorem lv_right0 : rightC (bare 0 4) = true := by decide +kernel
theorem lv_right1 : rightC (bare 1 4) = true := by decide +kernel
theorem lv_take : takeL lv0 0 2 = ⟨lv1, 0, 2, 0⟩ := by rfl
theorem lv_whole : wholeL lv1 = true := by decide +kernel
theorem lv_new (k : Int) (hr : rightC (bare k 4) = true) (W : World) :
    Calls Try.prog 19 #[.int .i64 k, .int .i64 4] W fun e w' => ∃ A c A2 d, e = .returned (.tuple #[.agg #[.int .i64 k, .int .i64 4, .int .i64 4, .int .i64 16, .int .i64 0, .slice A 0 c, .slice A2 0 d], .int .i64 0]) ∧ Below W.heap.size W w' := by
  refine (new_any k 4 W).mono ?_
  rw [if_pos hr, if_pos hr]
  rintro e w' ⟨A, c, A2, d, rfl, _, _, _, hB⟩
  exact ⟨A, c, A2, d, rfl, hB⟩
theorem lv_cyls (W : World) (A B A2 B2 : Option Addr) (a b c d : Nat) :
    Cyls (W.alloc (.cells #[.int .i64 0, .int .i64 4, .int .i64 4, .int .i64 16, .int .i64 0, .slice A 0 a, .slice B 0 b, .int .i64 1, .int .i64 4, .int .i64 4, .int .i64 16, .int .i64 0, .slice A2 0 c, .slice B2 0 d] 24)) (W.heap.size + 1) (some ⟨W.heap.size, 0, none⟩) lv0 := fun _ => by
  refine ⟨W.heap.size, 0, fun j => if j = 0 then A else A2, fun j => if j = 0 then a else c, fun j => if j = 0 then B else B2, fun j => if j = 0 then b else d, rfl, by omega, fun j hj => ?_⟩
  have hb := Go.heap_alloc_new W (.cells #[.int .i64 0, .int .i64 4, .int .i64 4, .int .i64 16, .int .i64 0, .slice A 0 a, .slice B 0 b, .int .i64 1, .int .i64 4, .int .i64 4, .int .i64 16, .int .i64 0, .slice A2 0 c, .slice B2 0 d] 24)
  have hj2 : j = 0 ∨ j = 1 := by have : lv0.length = 2 := rfl; omega
  rcases hj2 with rfl | rfl
  · exact ⟨by rw [cellAt_of hb]; rfl, by rw [cellAt_of hb]; rfl, by rw [cellAt_of hb]; rfl, by rw [cellAt_of hb]; rfl, by rw [cellAt_of hb]; rfl, by rw [cellAt_of hb]; rfl, by rw [cellAt_of hb]; rfl, Ints.nil, Ints.nil⟩
  · exact ⟨by rw [cellAt_of hb]; rfl, by rw [cellAt_of hb]; rfl, by rw [cellAt_of hb]; rfl, by rw [cellAt_of hb]; rfl, by rw [cellAt_of hb]; rfl, by rw [cellAt_of hb]; rfl, by rw [cellAt_of hb]; rfl, Ints.nil, Ints.nil⟩
theorem lv_small0 : SmallL lv0 := ⟨by decide, fun j hj => by
  have hj2 : j = 0 ∨ j = 1 := by have : lv0.length = 2 := rfl; omega
  rcases hj2 with rfl | rfl <;> exact ⟨by decide, by decide⟩⟩
theorem lv_small1 : SmallL lv1 := ⟨by decide, fun j hj => by
  have hj2 : j = 0 ∨ j = 1 := by have : lv1.length = 2 := rfl; omega
  rcases hj2 with rfl | rfl <;> exact ⟨by decide, by decide⟩⟩

set_option maxRecDepth 100000 in
set_option maxHeartbeats 2000000 in
theorem live_any (w : World) : Calls Try.prog 21 #[] w fun e w' => e = .returned (.bool true) ∧ Below w.heap.size w w' := by
  have HN0 := Lib.hid (lv_new 0 lv_right0)
  have HN1 := Lib.hid (lv_new 1 lv_right1)
  have HT : Hid (∀ (W : World) (A : Option Addr) (c : Nat), Cyls W W.heap.size A lv0 → Calls Try.prog 26 #[.slice A 2 c, .agg #[.int .i64 0, .int .i64 2]] W fun e w' => ∃ A' c', e = .returned (.tuple #[.slice A' 2 c', .agg #[.int .i64 0, .int .i64 2], .int .i64 0]) ∧ Cyls w' w'.heap.size A' lv1 ∧ Below W.heap.size W w') := fun W A c h => by
    have := take_any A c 2 lv0 0 2 rfl W lv_small0 h
    rw [lv_take] at this
    refine this.mono ?_
    rintro e w' ⟨A', c', rfl, hg, hB⟩
    exact ⟨A', c', rfl, hg.cyls, hB⟩
  have HW : Hid (∀ (W : World) (A : Option Addr) (c : Nat), Cyls W W.heap.size A lv1 → Calls Try.prog 31 #[.slice A 2 c] W fun e w' => e = .returned (.bool true) ∧ Below W.heap.size W w') := fun W A c h => by
    have := whole_any A c 2 lv1 rfl W lv_small1 h
    rw [lv_whole] at this
    exact this
  obtain ⟨Q, hQ⟩ : ∃ Q : Ending → World → Prop, Q = fun e w' => e = .returned (.bool true) ∧ Below w.heap.size w w' := ⟨_, rfl⟩
  have HQ : Hid (∀ w', Below w.heap.size w w' → Q (.returned (.bool true)) w') := by unfold Hid; rw [hQ]; exact fun w' h => ⟨rfl, h⟩
  rw [← hQ]
  clear hQ
  go_enter Try.func21, Try.ntmps21
  go_wp2_with fail
  refine (HN0.out _).mono ?_
  rintro e w1 ⟨A, a, B, b, rfl, hB1⟩
  have HB1 := Lib.hid hB1
  clear hB1
  go_wp2_with fail
  refine (HN1.out _).mono ?_
  rintro e w2 ⟨A2, c, B2, d, rfl, hB2⟩
  have hb1 := Go.heap_alloc_new w1 (.cells #[.int .i64 0, .int .i64 4, .int .i64 4, .int .i64 16, .int .i64 0, .slice A 0 a, .slice B 0 b] 24)
  have hx := (hB2.block w1.heap.size (by simp)).trans hb1
  have hs1 : w1.heap.size < w2.heap.size := lt_heap hx
  have HB2 : Hid (Below w.heap.size w w2) := (HB1.out.alloc HB1.out.size _).trans (hB2.mono (by have := HB1.out.size; simp; omega))
  obtain ⟨c0, c1, c2, c3, c4, c5, c6⟩ := seven hx
  clear hB2 hb1 hx
  go_wp2_with fail
  have hC := lv_cyls (w2.alloc (.cells #[.int .i64 1, .int .i64 4, .int .i64 4, .int .i64 16, .int .i64 0, .slice A2 0 c, .slice B2 0 d] 24)) A B A2 B2 a b c d
  rw [World.size_alloc] at hC
  refine (HT.out _ _ _ (by rw [World.size_alloc, World.size_alloc]; exact hC)).mono ?_
  rintro e w3 ⟨A', c', rfl, hC3, hB3⟩
  have HB3 : Hid (Below w.heap.size w w3) := ((HB2.out.alloc HB2.out.size _).alloc (by have := HB2.out.size; simp; omega) _).trans (hB3.mono (by have := HB2.out.size; simp; omega))
  obtain ⟨g, off, A3, c3', A4, c4', rfl, hg, hx⟩ := hC3.at_ (k := 0) (by decide)
  have k2 : w3.cell? ⟨g, off + 2, none⟩ = some (.int .i64 3) := by have := hx.c2; rw [Nat.zero_mul, Nat.add_zero] at this; exact this
  have k4 : w3.cell? ⟨g, off + 4, none⟩ = some (.int .i64 3) := by have := hx.c4; rw [Nat.zero_mul, Nat.add_zero] at this; exact this
  have HC3 := Lib.hid (hC3.next ((Below.refl _ w3).alloc (Nat.le_refl _) (.cells #[.int .i64 0, .int .i64 2] 41)))
  clear hC hC3 hB3 hx c0 c1 c2 c3 c4 c5 c6
  go_wp2_with fail
  refine (HW.out _ _ _ HC3.out).mono ?_
  rintro e w4 ⟨rfl, hB4⟩
  have HB4 : Hid (Below w.heap.size w w4) := (HB3.out.alloc HB3.out.size _).trans (hB4.mono (by have := HB3.out.size; simp; omega))
  clear hB4
  go_wp2_with fail
  exact HQ.out _ HB4.out
end Go.Proofs.Ytpcindemkkdbbaa
