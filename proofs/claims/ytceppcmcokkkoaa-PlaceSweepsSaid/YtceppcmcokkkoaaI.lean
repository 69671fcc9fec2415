/- What must be whatever is asked: the law's own 'live'. -/
import Derived.Test.YtceppcmcokkkoaaF
import Derived.Test.YtceppcmcokkkoaaH
namespace Go.Proofs.Ytceppcmcokkkoaa
open Go.RowKit Go.Shelf

theorem bts_new (w : World) (x : Int) (hx : 0 ≤ x ∧ x ≤ 255) : Bts (w.alloc (.cells #[.int .u8 x] 5)) (w.alloc (.cells #[.int .u8 x] 5)).heap.size (some ⟨w.heap.size, 0, none⟩) [x] :=
  BlkIs.bts (l := [x]) (heap_alloc_new w _) (fun y hy => by simp at hy; subst hy; exact hx) (by simp)

theorem set_live (b : Nat) (w : World) (hb : Bts w w.heap.size (some ⟨b, 0, none⟩) [0]) :
    Calls Try.prog 31 #[.slice (some ⟨b, 0, none⟩) 1 1, .int .i64 2, .bool true] w fun e w' => ∃ g, e = .returned (.tuple #[.slice (some ⟨g, 0, none⟩) 1 1, .int .i64 0]) ∧ Below w.heap.size w w' ∧ Bts w' w'.heap.size (some ⟨g, 0, none⟩) [4] ∧ w.heap.size ≤ g ∧ w'.cell? ⟨g, 0, none⟩ = some (.int .u8 4) := by
  have h := set_yes (some ⟨b, 0, none⟩) 1 [0] 2 true w hb (by decide) (by decide)
  refine h.mono ?_
  rintro e w' ⟨rfl, hB, hk⟩
  have e4 : bytesV (setB [0] 2 true) = bytesV [4] := by rw [show setB [0] 2 true = [4] from by decide]
  rw [show ((2 : Nat) : Int) = 2 from rfl] at *
  rw [e4] at hk
  exact ⟨w.heap.size, rfl, hB, hk.bts (by intro y hy; simp at hy; subst hy; decide) hk.lt, Nat.le_refl _, by rw [hk.cell]; rfl⟩

theorem runs_live (b : Nat) (w : World) (hb : Bts w w.heap.size (some ⟨b, 0, none⟩) [6]) :
    Calls Try.prog 36 #[.slice (some ⟨b, 0, none⟩) 1 1] w fun e w' => ∃ g cap, e = .returned (.slice (some ⟨g, 0, none⟩) 1 cap) ∧ Below w.heap.size w w' ∧ w.heap.size ≤ g ∧ w'.cell? ⟨g, 0, none⟩ = some (.int .i64 1) ∧ w'.cell? ⟨g, 1, none⟩ = some (.int .i64 2) := by
  refine (runs_any (some ⟨b, 0, none⟩) 1 [6] w (by decide) hb).mono ?_
  rintro e w' ⟨v, rfl, hr, hB⟩
  have e1 : rowsOf (ones [6]) = [(1, 2)] := by decide
  rw [e1] at hr
  obtain ⟨g, cap, rfl⟩ := ownsRow_succ hr
  exact ⟨g, cap, rfl, hB, (hr.lt g rfl).1, by rw [hr.cellAt 0 (by decide)]; rfl, by rw [hr.cellAt 1 (by decide)]; rfl⟩

theorem get_live (b B : Nat) (w : World) (hb : Bts w B (some ⟨b, 0, none⟩) [4]) :
    Calls Try.prog 34 #[.slice (some ⟨b, 0, none⟩) 1 1, .int .i64 2] w fun e w' => e = .returned (.bool true) ∧ Quiet w w' :=
  get_in (some ⟨b, 0, none⟩) 1 [4] 2 w B true hb (by decide) (by decide) (by decide)

theorem count_live (b B : Nat) (w : World) (hb : Bts w B (some ⟨b, 0, none⟩) [255]) :
    Calls Try.prog 40 #[.slice (some ⟨b, 0, none⟩) 1 1] w fun e w' => e = .returned (.int .i64 8) ∧ w = w' := by
  have h := count_any (some ⟨b, 0, none⟩) 1 [255] w B hb (by decide)
  have e1 : ((ones [255]).length : Int) = 8 := by decide
  rwa [e1] at h

set_option maxRecDepth 100000 in
set_option maxHeartbeats 1000000 in
theorem live_any (w : World) : Calls Try.prog 33 #[] w fun e w' => e = .returned (.bool true) ∧ Below w.heap.size w w' := by
  have heq : ∀ W, (Op.equalIn 10000 51 (.agg #[.int .i64 1, .int .i64 2]) (.agg #[.int .i64 1, .int .i64 2])).run Try.prog W = .ok true W := fun _ => by kernel_rfl
  go_enter Try.func33, Try.ntmps33
  go_wp2_with fail
  refine (set_live _ _ (bts_new w 0 (by decide))).mono ?_
  rintro e w1 ⟨g1, rfl, hB1, hb1, hg1, hc1⟩
  go_wp2_with fail
  refine (runs_live _ _ (bts_new w1 6 (by decide))).mono ?_
  rintro e w2 ⟨g2, cap, rfl, hB2, hg2, hc2, hd2⟩
  simp only [World.size_alloc] at hB1 hB2 hg1 hg2
  have hB12 : Below w1.heap.size w1 w2 := ((Below.refl _ w1).alloc (Nat.le_refl _) _).trans (hB2.mono (by omega))
  have hbw2 := hb1.below hB12
  have hcw2 : w2.cell? ⟨g1, 0, none⟩ = some (.int .u8 4) := (hB12.cell (p := ⟨g1, 0, none⟩) (by
    rcases Nat.lt_or_ge g1 w1.heap.size with h | h
    · exact h
    · exact absurd hc1 (by simp [World.cell?, Array.getElem?_eq_none h]))).trans hc1
  clear hc1
  go_wp2_with fail
  refine (get_live _ _ _ hbw2).mono ?_
  rintro e w3 ⟨rfl, hq⟩
  go_wp2_with fail
  refine (count_live _ _ _ (bts_new w3 255 (by decide))).mono ?_
  rintro e w4 ⟨rfl, rfl⟩
  go_wp2
  go_ret
  refine ⟨rfl, ?_⟩
  have h1 : Below w.heap.size w w1 := ((Below.refl _ w).alloc (Nat.le_refl _) _).trans (hB1.mono (by omega))
  have hs := hB1.size
  have h2 : Below w.heap.size w w2 := h1.trans (hB12.mono (by simp at hs; omega))
  have hs2 := hB12.size
  exact (hq.below h2).alloc (by rw [hq.size]; simp at hs; omega) _
end Go.Proofs.Ytceppcmcokkkoaa
