/- live. -/
import Derived.Test.YthffdkoncagimaaK
set_option linter.unusedVariables false
set_option linter.unusedSimpArgs false
namespace Go.Proofs.Ythffdkoncagimaa
open Go.RowKit Go.Shelf
theorem rowN_out {D : List (List Nat)} {k : Nat} (h : D.length ≤ k) : rowN D k = [] := by
  unfold rowN; rw [List.getD_eq_getElem?_getD, List.getElem?_eq_none h]; rfl
def okDec (D : List (List Nat)) : Bool := decide (D.length ≤ 14) && (List.range D.length).all fun k => (rowN D k).all (fun d => decide (d < k)) && decide ((rowN D k).length ≤ 256)
theorem ok_dec {D : List (List Nat)} (h : okDec D = true) : Sm D ∧ OkD D := by
  unfold okDec at h
  rw [Bool.and_eq_true, List.all_eq_true] at h
  have hn := of_decide_eq_true h.1
  have hr : ∀ k, (∀ d ∈ rowN D k, d < k) ∧ (rowN D k).length ≤ 256 := fun k => by
    rcases Nat.lt_or_ge k D.length with hk | hk
    · have := h.2 k (List.mem_range.2 hk)
      rw [Bool.and_eq_true, List.all_eq_true] at this
      exact ⟨fun d hd => of_decide_eq_true (this.1 d hd), of_decide_eq_true this.2⟩
    · rw [rowN_out hk]; exact ⟨fun d hd => (by cases hd), by simp⟩
  exact ⟨⟨hn, fun k => (hr k).1⟩, ⟨⟨by omega, fun k => (hr k).1⟩, fun k => (hr k).2⟩⟩
theorem fit_out {R : List (List Int)} (h : fitB R = true) : ∃ D, R = rowsI D ∧ Sm D ∧ OkD D := by
  unfold fitB at h
  rw [Bool.and_eq_true] at h
  obtain ⟨D, rfl, hD⟩ := okB_out h.2
  have hn := of_decide_eq_true h.1
  rw [length_rowsI] at hn
  exact ⟨D, rfl, ⟨hn, hD.right.2⟩, hD⟩
def D3 : List (List Nat) := [[], [0], []]
theorem ok3 : Sm D3 ∧ OkD D3 := ok_dec (by decide +kernel)
theorem mat3 (w : World) : Mat ((w.alloc (.cells #[.int .i64 0] 3)).alloc (.cells #[.slice none 0 0, .slice (some ⟨w.heap.size, 0, none⟩) 1 1, .slice none 0 0] 35)) ((w.alloc (.cells #[.int .i64 0] 3)).alloc (.cells #[.slice none 0 0, .slice (some ⟨w.heap.size, 0, none⟩) 1 1, .slice none 0 0] 35)).heap.size (some ⟨w.heap.size + 1, 0, none⟩) (rowsI D3) := fun _ => by
  have b1 := BlkIs.new (w.alloc (.cells #[.int .i64 0] 3)) 35 #[.slice none 0 0, .slice (some ⟨w.heap.size, 0, none⟩) 1 1, .slice none 0 0]
  simp only [World.size_alloc] at b1
  have hI := ((Ints.one w 0 (w.heap.size + 1) (by omega)).below (w' := ((w.alloc (.cells #[.int .i64 0] 3)).alloc (.cells #[.slice none 0 0, .slice (some ⟨w.heap.size, 0, none⟩) 1 1, .slice none 0 0] 35))) ((Below.refl _ _).alloc (by simp) _)).more (B' := w.heap.size + 1 + 1) (by omega)
  simp only [World.size_alloc]
  refine ⟨w.heap.size + 1, 0, rfl, by omega, fun j hj => ?_⟩
  rw [Nat.zero_add, BlkIs.cell b1 j]
  have hj' : j < 3 := hj
  rcases (by omega : j = 0 ∨ j = 1 ∨ j = 2) with rfl | rfl | rfl
  · exact ⟨none, 0, rfl, Ints.nil⟩
  · exact ⟨_, 1, rfl, hI⟩
  · exact ⟨none, 0, rfl, Ints.nil⟩
theorem live_count (A : Option Addr) (c : Nat) (W : World) (hM : Mat W W.heap.size A (rowsI D3)) : Calls Try.prog 8 #[.slice A 3 c] W fun e w' => e = .returned (.tuple #[.int .i64 6, .int .i64 0]) ∧ Below W.heap.size W w' := by
  have h := pcount_yes A c D3 W ok3.1 ok3.2 hM
  rw [show ((countL (needsL D3) : Nat) : Int) = 6 by decide +kernel] at h
  exact h
theorem live_orders (A : Option Addr) (c : Nat) (W : World) (hM : Mat W W.heap.size A (rowsI D3)) : Calls Try.prog 10 #[.slice A 3 c] W fun e w' => e = .returned (.tuple #[.int .i64 3, .int .i64 0]) ∧ Below W.heap.size W w' := by
  have h := porders_yes A c D3 W ok3.1 ok3.2 hM
  rw [show orders (needsL D3) = 3 by decide +kernel] at h
  exact h
theorem live_widest (A : Option Addr) (c : Nat) (W : World) (hM : Mat W W.heap.size A (rowsI D3)) : Calls Try.prog 12 #[.slice A 3 c] W fun e w' => e = .returned (.tuple #[.int .i64 2, .int .i64 0]) ∧ Below W.heap.size W w' := by
  have h := pwidest_yes A c D3 W ok3.1 ok3.2 hM
  rw [show ((widest (needsL D3) : Nat) : Int) = 2 by decide +kernel] at h
  exact h
theorem live_all (A : Option Addr) (c : Nat) (W : World) (hM : Mat W W.heap.size A (rowsI D3)) : Calls Try.prog 16 #[.slice A 3 c, .int .i64 6] W fun e w' => ∃ b off c' A1 c1, e = .returned (.tuple #[.slice (some ⟨b, off, none⟩) 6 c', .int .i64 0]) ∧ w'.cell? ⟨b, off + 1, none⟩ = some (.slice A1 1 c1) ∧ Below W.heap.size W w' := by
  have h := all_yes A c D3 6 W ok3.1 ok3.2 hM (by decide) (by decide) (by decide +kernel)
  refine h.mono ?_
  rintro e w' ⟨A', c', T, rfl, hT, h2, h3, hb⟩
  have hl : (allL (needsL D3)).length = 6 := by decide +kernel
  have hl1 : (rowI (allL (needsL D3)) 1).length = 1 := by decide +kernel
  have hm := GivesT.mat (w := W) (c := c') hT h2 h3
  obtain ⟨b, off, A1, c1, rfl, _, hc, _⟩ := hm.at_ (k := 1) (by omega)
  rw [hl1] at hc
  rw [hl]
  exact ⟨b, off, c', A1, c1, rfl, hc, hb⟩
set_option maxRecDepth 100000 in
set_option maxHeartbeats 1000000 in
theorem live_any (w : World) : Calls Try.prog 14 #[] w fun e w' => e = .returned (.bool true) ∧ Below w.heap.size w w' := by
  have HM := Lib.hid (mat3 w)
  have HB : Hid (Below w.heap.size w ((w.alloc (.cells #[.int .i64 0] 3)).alloc (.cells #[.slice none 0 0, .slice (some ⟨w.heap.size, 0, none⟩) 1 1, .slice none 0 0] 35))) := ((Below.refl _ _).alloc (Nat.le_refl _) _).alloc (by simp) _
  go_enter Try.func14, Try.ntmps14
  go_wp2_with (first
    | (go_at_call 8; (with_reducible refine (live_count _ _ _ HM.out).mono ?_); rintro e w1 ⟨rfl, b1⟩; have M1 := Lib.hid (HM.out.next b1); have B1 := Lib.hid (HB.out.trans (b1.mono HB.out.size)); clear b1)
    | (go_at_call 10; (with_reducible refine (live_orders _ _ _ M1.out).mono ?_); rintro e w2 ⟨rfl, b2⟩; have M2 := Lib.hid (M1.out.next b2); have B2 := Lib.hid (B1.out.trans (b2.mono B1.out.size)); clear b2)
    | (go_at_call 12; (with_reducible refine (live_widest _ _ _ M2.out).mono ?_); rintro e w3 ⟨rfl, b3⟩; have M3 := Lib.hid (M2.out.next b3); have B3 := Lib.hid (B2.out.trans (b3.mono B2.out.size)); clear b3)
    | (go_at_call 16; (with_reducible refine (live_all _ _ _ M3.out).mono ?_); rintro e w4 ⟨b, off, c', A1, c1, rfl, hc1, b4⟩; have B4 := Lib.hid (B3.out.trans (b4.mono B3.out.size)); clear b4))
  go_ret
  exact ⟨rfl, B4.out⟩
end Go.Proofs.Ythffdkoncagimaa
