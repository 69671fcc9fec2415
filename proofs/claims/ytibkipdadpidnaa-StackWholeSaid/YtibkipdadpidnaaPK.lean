/- The document's own 'Undo', 'Idle', 'All'. -/
import Derived.Test.YtibkipdadpidnaaPJ
namespace Go.Proofs.Ytibkipdadpidnaa.Pat
set_option linter.unusedVariables false
set_option linter.unusedSimpArgs false
set_option maxRecDepth 100000
open Go.RowKit

theorem refundo_short (A : Option Addr) (n c : Nat) (p : Pt) (w : World) (h : n ≠ 32) :
    Calls Try.prog 63 #[.slice A n c, p.v] w fun e w' => e = .returned (.tuple #[zeroP.v, .int .i64 3]) ∧ Below w.heap.size w w' := by
  have h0 : ((n : Int) == 32) = false := by rw [beq_eq_false_iff_ne]; omega
  have h1 : (n == 32) = false := by rw [beq_eq_false_iff_ne]; exact h
  have HB : Hid (Below w.heap.size w ((w.alloc (.cells p.cs.toArray 38)).alloc (.cells zeroP.cs.toArray 38))) := below_alloc2 w _ _
  have HB2 : Hid (Boxed ((w.alloc (.cells p.cs.toArray 38)).alloc (.cells zeroP.cs.toArray 38)) (w.heap.size + 1) zeroP) := (boxed2 w p zeroP).2
  obtain ⟨b, o, s⟩ := p
  unfold Pt.v at *
  simp only [Pt.cs] at *
  go_enter Try.func63, Try.ntmps63
  go_wp2
  refine bodyPost_ret (v := .tuple #[zeroP.v, .int .i64 3]) ?_ rfl ⟨rfl, HB.out⟩
  exact results_cell_row_tmp rfl _ _ (w.heap.size + 1) 38 zeroP.cs.toArray (0, 0) _ rfl HB2.out Try.underlying38 rfl info38 _ rfl

theorem refundo_no (A : Option Addr) (c : Nat) (p : Pt) (w : World) (hp : p.ok) (hr : p.right = false) :
    Calls Try.prog 63 #[.slice A 32 c, p.v] w fun e w' => e = .returned (.tuple #[zeroP.v, .int .i64 3]) ∧ Below w.heap.size w w' := by
  have R := Lib.hid (fun w => refright_any p w hp)
  rw [hr] at R
  have HN := Lib.hid (fun w1 hB => @Boxed.two w w1 p zeroP hB)
  clear hr hp
  obtain ⟨b, o, s⟩ := p
  unfold Pt.v at *
  simp only [Pt.cs] at *
  go_enter Try.func63, Try.ntmps63
  go_wp2_with fail
  refine (R.out _).mono ?_
  rintro e w1 ⟨rfl, hB1⟩
  have t1 := HN.out _ (by simpa [zeroP] using hB1)
  have T := Lib.hid t1
  clear t1 hB1
  obtain ⟨d0, d1, d2⟩ := T.out.2.2.cells
  have hfz := T.out.2.2.frozen
  simp only [zeroP] at d0 d1 d2
  go_wp2
  have hh : BlkIs (((w1.setCell ⟨w.heap.size + 1, 0, none⟩ (.int .i64 0)).setCell ⟨w.heap.size + 1, 1, none⟩ (.int .i64 0)).setCell ⟨w.heap.size + 1, 2, none⟩ (.string ⟨#[]⟩)) (w.heap.size + 1) 38 zeroP.cs := ((BlkIs.set_ T.out.2.2 0 _).set_ 1 _).set_ 2 _
  have hB := ((T.out.1.setCell (p := ⟨w.heap.size + 1, 0, none⟩) (by simp) (.int .i64 0)).setCell (p := ⟨w.heap.size + 1, 1, none⟩) (by simp) (.int .i64 0)).setCell (p := ⟨w.heap.size + 1, 2, none⟩) (by simp) (.string ⟨#[]⟩)
  refine bodyPost_ret (v := .tuple #[zeroP.v, .int .i64 3]) ?_ rfl ⟨rfl, hB⟩
  exact results_cell_row_tmp rfl _ _ (w.heap.size + 1) 38 zeroP.cs.toArray (0, 0) _ rfl hh Try.underlying38 rfl info38 _ rfl

set_option maxRecDepth 100000 in
set_option linter.unusedSimpArgs false in
set_option maxHeartbeats 1000000 in
theorem refundo_yes (A : Option Addr) (c : Nat) (l : List Int) (p : Pt) (w : World) (hb : Bts w w.heap.size A l) (hl : l.length = 32) (hc : 32 ≤ c) (hr : p.right = true) :
    Calls Try.prog 63 #[.slice A 32 c, p.v] w fun e w' => e = .returned (.tuple #[(undoP l p).v, .int .i64 0]) ∧ Below w.heap.size w w' := by
  obtain ⟨p1, p2, p3, p4, p5, p6⟩ := Pt.right_out hr
  obtain ⟨ba, off, rfl, hbb, _⟩ := hb.at_ (show 0 < l.length by omega)
  have hps : p.s.size ≤ 1000 := by omega
  have R := Lib.hid (fun W => refright_any p W ⟨by omega, by omega, by unfold maxLen; omega⟩)
  rw [hr] at R
  have HT := Lib.hid (fun w1 hB => @Boxed.two w w1 p zeroP hB)
  have HD : Hid (∀ W, St2 w p zeroP W → St2 w p zeroP W.drew) := fun W h => h.drew
  have conv : ∀ W, Below w.heap.size w W → (convert 22 9 (.slice (some ⟨ba, off + p.o.toNat, none⟩) p.s.size (c - p.o.toNat))).run Try.prog W = .ok (.string (undoP l p).s) W := by
    intro W h
    have := text_part (hb.below h) p.o.toNat (p.o.toNat + p.s.size) (c - p.o.toNat) (by omega) (by omega) 22 Try.underlying22
    rwa [show p.o.toNat + p.s.size - p.o.toNat = p.s.size by omega] at this
  have HC : Hid (∀ W, St2 w p zeroP W → W.cell? ⟨w.heap.size, 0, none⟩ = some (.int .i64 p.b) ∧ W.cell? ⟨w.heap.size, 1, none⟩ = some (.int .i64 p.o) ∧ W.cell? ⟨w.heap.size, 2, none⟩ = some (.string p.s) ∧
      (convert 22 9 (.slice (some ⟨ba, off + p.o.toNat, none⟩) p.s.size (c - p.o.toNat))).run Try.prog W = .ok (.string (undoP l p).s) W) := fun W h => by
    obtain ⟨x, y, z⟩ := h.2.1.cells
    exact ⟨x, y, z, conv W h.1⟩
  have HL : Hid (∀ W, St2 w p zeroP W → (W.setRow (w.heap.size + 1) (undoP l p).cs.toArray).cell? ⟨w.heap.size, 0, none⟩ = some (.int .i64 p.b) ∧ (W.setRow (w.heap.size + 1) (undoP l p).cs.toArray).cell? ⟨w.heap.size, 1, none⟩ = some (.int .i64 p.o) ∧ (W.setRow (w.heap.size + 1) (undoP l p).cs.toArray).cell? ⟨w.heap.size, 2, none⟩ = some (.string p.s) ∧
      (convert 22 9 (.slice (some ⟨ba, off + p.o.toNat, none⟩) p.s.size (c - p.o.toNat))).run Try.prog (W.setRow (w.heap.size + 1) (undoP l p).cs.toArray) = .ok (.string (undoP l p).s) (W.setRow (w.heap.size + 1) (undoP l p).cs.toArray)) := by
    intro W h
    have hk : Boxed (W.setRow (w.heap.size + 1) (undoP l p).cs.toArray) w.heap.size p := BlkIs.other h.2.1 (by omega) _
    obtain ⟨x, y, z⟩ := hk.cells
    exact ⟨x, y, z, conv _ (below_setRow h.1 (by omega) _)⟩
  clear conv hb hl hr
  obtain ⟨b, o, s⟩ := p
  obtain ⟨n, rfl⟩ := Int.eq_ofNat_of_zero_le p3
  simp only [Int.toNat_natCast] at *
  unfold Pt.v at *
  simp only [Pt.cs] at *
  have hn0 : (0 : Int) ≤ (n : Int) := by omega
  have hns : (n : Int) + (s.size : Int) ≤ (c : Int) := by omega
  have hnn : (n : Int) ≤ (n : Int) + (s.size : Int) := by omega
  have hx : ((n : Int) + (s.size : Int)).toNat = n + s.size := by omega
  have h0 : ¬ s.size = 0 := by omega
  have hcn : ¬ c = n := by omega
  have hwr : IntKind.i64.wrap ((n : Int) + (s.size : Int)) = (n : Int) + (s.size : Int) := IntWalk.i64_in _ (by omega)
  have h00 : 0 ≤ (n : Int) + (s.size : Int) := by omega
  go_enter Try.func63, Try.ntmps63
  go_wp2_with fail
  refine (R.out _).mono ?_
  rintro e w1 ⟨rfl, hB1⟩
  have HS := Lib.hid (HT.out _ (by simpa [zeroP] using hB1))
  replace HS := Lib.hid (HD.out _ HS.out)
  have X := Lib.hid (HC.out _ HS.out)
  clear hB1
  go_wp2_with fail
  refine wp_region_held_drew (S := (fun W =>
      W.cell? ⟨w.heap.size, 0, none⟩ = some (.int .i64 b) ∧ W.cell? ⟨w.heap.size, 1, none⟩ = some (.int .i64 (n : Int)) ∧ W.cell? ⟨w.heap.size, 2, none⟩ = some (.string s) ∧
      (convert 22 9 (.slice (some ⟨ba, off + n, none⟩) s.size (c - n))).run Try.prog W = .ok (.string (undoP l ⟨b, n, s⟩).s) W)) (by kernel_rfl) (X.out) (fun hHeld => ?_)
  refine takeH (i := 0) (some 15) (v := ?_) rfl rfl (by kernel_rfl) (by kernel_rfl) (by kernel_rfl) (fun _ _ _ h => h) (by rfl) ?_ (by assumption) ?_
  rotate_left
  · (intro w hSw; (try dsimp only at hSw); go_simp; try with_reducible rfl)
  simp only [Act.put, List.setIfInBounds_toArray, List.set_cons_zero, List.set_cons_succ]
  refine takeH (i := 1) (some 16) (v := ?_) rfl rfl (by kernel_rfl) (by kernel_rfl) (by kernel_rfl) (fun _ _ _ h => h) (by rfl) ?_ (by assumption) ?_
  rotate_left
  · (intro w hSw; (try dsimp only at hSw); go_simp; try with_reducible rfl)
  simp only [Act.put, List.setIfInBounds_toArray, List.set_cons_zero, List.set_cons_succ]
  refine takeH (i := 2) (some 17) (v := ?_) rfl rfl (by kernel_rfl) (by kernel_rfl) (by kernel_rfl) (fun _ _ _ h => h) (by rfl) ?_ (by assumption) ?_
  rotate_left
  · (intro w hSw; (try dsimp only at hSw); go_simp; try with_reducible rfl)
  simp only [Act.put, List.setIfInBounds_toArray, List.set_cons_zero, List.set_cons_succ]
  refine takeH (i := 3) (some 18) (v := ?_) rfl rfl (by kernel_rfl) (by kernel_rfl) (by kernel_rfl) (fun _ _ _ h => h) (by rfl) ?_ (by assumption) ?_
  rotate_left
  · (intro w hSw; (try dsimp only at hSw); go_simp; try with_reducible rfl)
  simp only [Act.put, List.setIfInBounds_toArray, List.set_cons_zero, List.set_cons_succ]
  refine takeH (i := 4) (some 19) (v := ?_) rfl rfl (by kernel_rfl) (by kernel_rfl) (by kernel_rfl) (fun _ _ _ h => h) (by rfl) ?_ (by assumption) ?_
  rotate_left
  · (intro w hSw; (try dsimp only at hSw); go_simp; try with_reducible rfl)
  simp only [Act.put, List.setIfInBounds_toArray, List.set_cons_zero, List.set_cons_succ]
  refine takeH (i := 5) (some 20) (v := ?_) rfl rfl (by kernel_rfl) (by kernel_rfl) (by kernel_rfl) (fun _ _ _ h => h) (by rfl) ?_ (by assumption) ?_
  rotate_left
  · (intro w hSw; (try dsimp only at hSw); go_simp; try with_reducible rfl)
  simp only [Act.put, List.setIfInBounds_toArray, List.set_cons_zero, List.set_cons_succ]
  refine takeH (i := 6) (some 21) (v := ?_) rfl rfl (by kernel_rfl) (by kernel_rfl) (by kernel_rfl) (fun _ _ _ h => h) (by rfl) ?_ (by assumption) ?_
  rotate_left
  · (intro w hSw; (try dsimp only at hSw); go_simp; try with_reducible rfl)
  simp only [Act.put, List.setIfInBounds_toArray, List.set_cons_zero, List.set_cons_succ]
  refine takeH (i := 7) (some 22) (v := ?_) rfl rfl (by kernel_rfl) (by kernel_rfl) (by kernel_rfl) (fun _ _ _ h => h) (by rfl) ?_ (by assumption) ?_
  rotate_left
  · (intro w hSw; (try dsimp only at hSw); go_simp; try with_reducible rfl)
  simp only [Act.put, List.setIfInBounds_toArray, List.set_cons_zero, List.set_cons_succ]
  refine takeH (i := 8) (some 23) (v := ?_) rfl rfl (by kernel_rfl) (by kernel_rfl) (by kernel_rfl) (fun _ _ _ h => h) (by rfl) ?_ (by assumption) ?_
  rotate_left
  · (intro w hSw; (try dsimp only at hSw); go_simp; try with_reducible rfl)
  simp only [Act.put, List.setIfInBounds_toArray, List.set_cons_zero, List.set_cons_succ]
  refine takeH (i := 9) (some 24) (v := ?_) rfl rfl (by kernel_rfl) (by kernel_rfl) (by kernel_rfl) (fun _ _ _ h => h) (by rfl) ?_ (by assumption) ?_
  rotate_left
  · (intro w hSw; (try dsimp only at hSw); go_simp; try with_reducible rfl)
  simp only [Act.put, List.setIfInBounds_toArray, List.set_cons_zero, List.set_cons_succ]
  refine takeH (i := 10) (some 25) (v := ?_) rfl rfl (by kernel_rfl) (by kernel_rfl) (by kernel_rfl) (fun _ _ _ h => h) (by rfl) ?_ (by assumption) ?_
  rotate_left
  · (intro w hSw; (try dsimp only at hSw); go_simp; try with_reducible rfl)
  simp only [Act.put, List.setIfInBounds_toArray, List.set_cons_zero, List.set_cons_succ]
  refine takeH (i := 11) (some 26) (v := ?_) rfl rfl (by kernel_rfl) (by kernel_rfl) (by kernel_rfl) (fun _ _ _ h => h) (by rfl) ?_ (by assumption) ?_
  rotate_left
  · (intro w hSw; (try dsimp only at hSw); go_simp; try with_reducible rfl)
  simp only [Act.put, List.setIfInBounds_toArray, List.set_cons_zero, List.set_cons_succ]
  refine takeH (i := 12) (some 27) (v := ?_) rfl rfl (by kernel_rfl) (by kernel_rfl) (by kernel_rfl) (fun _ _ _ h => h) (by rfl) ?_ (by assumption) ?_
  rotate_left
  · (intro w hSw; (try dsimp only at hSw); go_simp; try with_reducible rfl)
  simp only [Act.put, List.setIfInBounds_toArray, List.set_cons_zero, List.set_cons_succ]
  refine takeH (i := 13) (some 28) (v := ?_) rfl rfl (by kernel_rfl) (by kernel_rfl) (by kernel_rfl) (fun _ _ _ h => h) (by rfl) ?_ (by assumption) ?_
  rotate_left
  · (intro w hSw; (try dsimp only at hSw); go_simp; try with_reducible rfl)
  simp only [Act.put, List.setIfInBounds_toArray, List.set_cons_zero, List.set_cons_succ]
  refine takeH (i := 14) (some 29) (v := ?_) rfl rfl (by kernel_rfl) (by kernel_rfl) (by kernel_rfl) (fun _ _ _ h => h) (by rfl) ?_ (by assumption) ?_
  rotate_left
  · (intro w hSw; (try dsimp only at hSw); go_simp; try with_reducible rfl)
  simp only [Act.put, List.setIfInBounds_toArray, List.set_cons_zero, List.set_cons_succ]
  refine takeH (i := 15) (some 30) (v := ?_) rfl rfl (by kernel_rfl) (by kernel_rfl) (by kernel_rfl) (fun _ _ _ h => h) (by rfl) ?_ (by assumption) ?_
  rotate_left
  · (intro w hSw; (try dsimp only at hSw); go_simp; try with_reducible rfl)
  simp only [Act.put, List.setIfInBounds_toArray, List.set_cons_zero, List.set_cons_succ]
  refine wpAnyH_ready (rs := [16]) (by kernel_rfl) (by simp) ?_
  refine AllReadyH.cons rfl (fun K hK => ?_) AllReadyH.nil
  refine step_store_row rfl 38 (.tmp 4) (.tmp 30) rfl (w.heap.size + 1) (undoP l ⟨b, n, s⟩).cs.toArray rfl rfl 38 zeroP.cs.toArray HS.out.2.2 info38 rfl (Pt.cs_one _) ?_
  refine hK _ _ (HL.out _ HS.out) (fun hHeld => ?_)
  clear hK K
  try simp only [Act.put, List.setIfInBounds_toArray, List.set_cons_zero, List.set_cons_succ]
  refine takeH (i := 17) (some 5) (v := ?_) rfl rfl (by kernel_rfl) (by kernel_rfl) (by kernel_rfl) (fun _ _ _ h => h) (by rfl) ?_ (by assumption) ?_
  rotate_left
  · (intro w hSw; (try dsimp only at hSw); go_simp; try with_reducible rfl)
  simp only [Act.put, List.setIfInBounds_toArray, List.set_cons_zero, List.set_cons_succ]
  refine wpAnyH_done (by kernel_rfl) ?_ _
  go_wp2
  have hh := setRow_heap _ (w.heap.size + 1) zeroP.cs.toArray (undoP l ⟨b, n, s⟩).cs.toArray 38 (0, 0) HS.out.2.2
  refine bodyPost_ret (v := .tuple #[(undoP l ⟨b, n, s⟩).v, .int .i64 0]) ?_ rfl ⟨rfl, below_setRow HS.out.1 (by omega) _⟩
  exact results_cell_row_tmp rfl _ _ (w.heap.size + 1) 38 (undoP l ⟨b, n, s⟩).cs.toArray (0, 0) _ rfl hh Try.underlying38 rfl info38 _ rfl
end Go.Proofs.Ytibkipdadpidnaa.Pat
