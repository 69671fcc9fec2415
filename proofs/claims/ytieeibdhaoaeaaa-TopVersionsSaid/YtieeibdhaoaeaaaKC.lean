/- The contract of 'Write' of a block of which some versions wait, the last one the same. -/
import Derived.Test.YtieeibdhaoaeaaaKB
namespace Go.Proofs.Ytieeibdhaoaeaaa
open Go.RowKit

theorem setCell_grown (w : World) (a : Addr) (v : Value) : w.grownBy (w.setCell a v) (some a.block) :=
  ⟨rfl, rfl, rfl, by simp [World.setCell], fun k _ hne => by simp [World.setCell, Array.getElem?_modify]; intro e; exact absurd (by rw [e]) hne⟩
set_option maxRecDepth 100000 in
set_option linter.unusedSimpArgs false in
set_option maxHeartbeats 2000000 in
theorem write_same (g : Nat) (n : Int) (L : List Int) (B : List Bool) (mb i k : Nat) (D : DataW Value) (s : List Int) (w : World) (h : DiskAt w g n L B mb) (hi : (i : Int) < n) (hm : w.ownsMap Try.prog 3 RV mb k D)
    (gv q cap : Nat) (V0 : List Run) (x : Run) (hat : D.atKey (.int .i64 (i : Int)) (.held (.slice none 0 0)) = .held (.slice (some ⟨gv, 0, none⟩) (q + 1) cap))
    (hrow : w.ownsRow 0 83 33 (.slice (some ⟨gv, 0, none⟩) (q + 1) cap) (q + 1) (rowsV (V0 ++ [x]))) (hV : V0.length = q) (hok : OkV (V0 ++ [x])) (hbad : B.getD i false = false) (hq : q < 1000000000) (ht : x.2 < 1000000000) (hs : s.length = 32) (hxs : x.1 = s) :
    Calls Try.prog 17 #[.pointer (some ⟨g, 0, none⟩), .int .i64 (i : Int), secV s] w fun e w' => e = .returned (.int .i64 0) ∧ w'.ownsRow 0 83 33 (.slice (some ⟨gv, 0, none⟩) (q + 1) cap) (q + 1) (rowsV (V0 ++ [(x.1, x.2 + 1)])) ∧ Kept w w' (fun b => b = gv) := by
  have hgw : g < w.heap.size := h.blk.lt
  have hmw : mb < w.heap.size := hm.lt
  have hgvw : gv < w.heap.size := (hrow.lt gv rfl).2
  have hi96 : i < 96 := by have := h.hi; omega
  have hii0 : (0 : Int) ≤ (i : Int) := by omega
  have hii1 : (i : Int) < 96 := by omega
  have hq0 : (0 : Int) ≤ (q : Int) := by omega
  have hwq : IntKind.i64.wrap (q : Int) = (q : Int) := by simp [IntKind.wrap, IntKind.bits, IntKind.signed]; omega
  have hq2 : (q : Int) < (q : Int) + 1 := by omega
  have A := Lib.hid (fun W hc => ask_yes g n i W hc hi)
  have hx32 := (hok x (by simp)).1
  have hsz : Hid ((Try.prog.info? 36).map (·.size) = some (bytesV s).toArray.size) := by unfold Hid; rw [List.size_toArray, length_bytesV, hs]; exact size36
  have hszX : Hid ((Try.prog.info? 36).map (·.size) = some (bytesV x.1).length) := by unfold Hid; rw [length_bytesV, hx32]; exact size36
  have hcell : ∀ j, j < 33 → w.cell? ⟨gv, q * 33 + j, none⟩ = (rowL x.1 x.2)[j]? := fun j hj => by
    rw [hrow.cellAt _ (by omega), ← hV]
    exact rowsV_at (W := []) x hok hj
  have hRng : Hid (w.rangeAt gv (q * 33) (bytesV x.1)) := fun j u hj => by
    have hj' : j < 32 := by
      rcases Nat.lt_or_ge j 32 with h1 | h1
      · exact h1
      · rw [List.getElem?_eq_none (by rw [length_bytesV, hx32]; exact h1)] at hj; cases hj
    rw [hcell j (by omega), rowL, List.getElem?_append_left (by rw [length_bytesV, hx32]; exact hj')]
    exact hj
  have hTim : w.cell? ⟨gv, q * 33 + 32, none⟩ = some (.int .i64 x.2) := by
    rw [hcell 32 (by omega), rowL, List.getElem?_append_right (by rw [length_bytesV, hx32]; omega), length_bytesV, hx32]
    rfl
  have hFrz : w.frozen? ⟨gv, q * 33 + 32, none⟩ = false := hrow.frozenAt _
  have HTim := Lib.hid hTim
  have HFrz := Lib.hid hFrz
  have Hk := Lib.hid (key3 hi96)
  have Hat := Lib.hid hat
  have HRow := Lib.hid hrow
  have Hok := Lib.hid hok
  have HV := Lib.hid hV
  have HB : Hid (∀ W, Below w.heap.size w W → W.cell? ⟨g, 0, none⟩ = some (.int .i64 n) ∧ W.cell? ⟨g, 3073 + i, none⟩ = some (.bool false) ∧ W.ownsMap Try.prog 3 RV mb k D ∧ W.cell? ⟨g, 3169, none⟩ = some (.map (some mb))) := fun W hB => by
    have hd := h.below hB hgw
    refine ⟨hd.c0, by rw [hd.bad hi96, hbad], ?_, hd.cmap⟩
    obtain ⟨es, clock, hb, F, hs, hD⟩ := hm
    exact ⟨es, clock, (hB.block mb hmw).trans hb, F, hs, hD⟩
  have EQ : Hid (∀ (W : World) (o : Oper) (ev : Operand → Value), o.op = .binOp .eql 36 (.tmp 39) (.tmp 40) 36 → ev (.tmp 39) = .agg (bytesV x.1).toArray → ev (.tmp 40) = .agg (bytesV s).toArray → (execOp ev o).run Try.prog W = .ok (.value (.bool true)) W) := fun W o ev ho h1 h2 => by
    have := exec_eq (w := W) 36 36 _ _ ho Try.underlying36 x.1 s h1 h2 hx32 hs (by kernel_rfl)
    rw [this]
    simp [hxs]
  have ht0 : (0 : Int) ≤ (x.2 : Int) := by omega
  have ht1 : IntKind.i64.wrap ((x.2 : Int) + 1) = (x.2 : Int) + 1 := by simp [IntKind.wrap, IntKind.bits, IntKind.signed]; omega
  have HP : Hid ((rowsV (V0 ++ [x])).set (q * 33 + 32) (.int .i64 ((x.2 : Int) + 1)) = rowsV (V0 ++ [(x.1, x.2 + 1)])) := by
    have := rowsV_bump V0 x hok (x.2 + 1)
    rw [hV] at this
    rw [← this]; simp [Hid]
  have Hs := Lib.hid hs
  unfold secV
  obtain ⟨X0, hX0⟩ : ∃ X0, X0 = bytesV x.1 := ⟨_, rfl⟩
  rw [← hX0] at hszX hRng EQ
  obtain ⟨R0, hR0⟩ : ∃ R0, R0 = (bytesV s).toArray := ⟨_, rfl⟩
  rw [← hR0] at hsz EQ ⊢
  clear h hm hat hbad hs hok hV hrow hcell hTim hFrz hx32 hX0 hR0 hxs
  go_enter Try.func17, Try.ntmps17
  go_wp2_with (refine wpList_boxTo rfl 36 (.tmp 2) rfl (some 5) rfl w.heap.size rfl R0 rfl ?_)
  generalize hW : w.alloc (.cells R0 36) = w1
  have b1 : Hid (w1.heap[w.heap.size]? = some (.cells R0 36 (0, 0))) := by rw [← hW]; exact heap_alloc_new w _
  have B1 : Hid (Below w.heap.size w w1) := by rw [← hW]; exact below_alloc1 w _
  have s1 : Hid (w1.heap.size = w.heap.size + 1) := by rw [← hW]; exact size_alloc1 w _
  clear hW
  obtain ⟨c0, c1, m1, c2⟩ := HB.out w1 B1.out
  have M1 := Lib.hid m1
  clear m1
  refine (A.out _ c0).mono ?_
  rintro e w' ⟨rfl, rfl⟩
  go_wp2_with (refine wpList_lookup_held rfl (.tmp 26) (.tmp 27) 78 rfl 3 81 law3 Try.underlying78 (zero81 _) mb k D rfl M1.out _ _ rfl Hk.out _ Hat.out ?_)
  have X8 : Hid (w1.drew.rangeAt gv (q * 33) X0 ∧ w1.drew.heap[w.heap.size]? = some (.cells R0 36 (0, 0))) := ⟨fun j u hj => (World.cell?_of_block (B1.out.block gv hgvw)).trans (hRng.out j u hj), b1.out⟩
  refine wp_region_held_drew (S := (fun W => W.rangeAt gv (q * 33) X0 ∧ W.heap[w.heap.size]? = some (.cells R0 36 (0, 0)))) (by kernel_rfl) (X8.out) (fun hHeld => ?_)
  refine takeH (i := 0) (some 32) (v := ?_) rfl rfl (by kernel_rfl) (by kernel_rfl) (by kernel_rfl) (fun _ _ _ h => h) (by rfl) ?_ (by assumption) ?_
  rotate_left
  · (intro w hSw; (try dsimp only at hSw); go_simp; try with_reducible rfl)
  simp only [Act.put, List.setIfInBounds_toArray, List.set_cons_zero, List.set_cons_succ]
  refine takeH (i := 1) (some 33) (v := ?_) rfl rfl (by kernel_rfl) (by kernel_rfl) (by kernel_rfl) (fun _ _ _ h => h) (by rfl) ?_ (by assumption) ?_
  rotate_left
  · (intro w hSw; (try dsimp only at hSw); go_simp; try with_reducible rfl)
  simp only [Act.put, List.setIfInBounds_toArray, List.set_cons_zero, List.set_cons_succ]
  refine takeH (i := 2) (some 34) (v := ?_) rfl rfl (by kernel_rfl) (by kernel_rfl) (by kernel_rfl) (fun _ _ _ h => h) (by rfl) ?_ (by assumption) ?_
  rotate_left
  · (intro w hSw; (try dsimp only at hSw); go_simp; try with_reducible rfl)
  simp only [Act.put, List.setIfInBounds_toArray, List.set_cons_zero, List.set_cons_succ]
  refine takeH (i := 3) (some 35) (v := ?_) rfl rfl (by kernel_rfl) (by kernel_rfl) (by kernel_rfl) (fun _ _ _ h => h) (by rfl) ?_ (by assumption) ?_
  rotate_left
  · (intro w hSw; (try dsimp only at hSw); go_simp; try with_reducible rfl)
  simp only [Act.put, List.setIfInBounds_toArray, List.set_cons_zero, List.set_cons_succ]
  refine takeH (i := 4) (some 36) (v := ?_) rfl rfl (by kernel_rfl) (by kernel_rfl) (by kernel_rfl) (fun _ _ _ h => h) (by rfl) ?_ (by assumption) ?_
  rotate_left
  · (intro w hSw; (try dsimp only at hSw); go_simp; try with_reducible rfl)
  simp only [Act.put, List.setIfInBounds_toArray, List.set_cons_zero, List.set_cons_succ]
  refine takeH (i := 5) (some 37) (v := ?_) rfl rfl (by kernel_rfl) (by kernel_rfl) (by kernel_rfl) (fun _ _ _ h => h) (by rfl) ?_ (by assumption) ?_
  rotate_left
  · (intro w hSw; (try dsimp only at hSw); go_simp; try with_reducible rfl)
  simp only [Act.put, List.setIfInBounds_toArray, List.set_cons_zero, List.set_cons_succ]
  refine takeH (i := 6) (some 38) (v := ?_) rfl rfl (by kernel_rfl) (by kernel_rfl) (by kernel_rfl) (fun _ _ _ h => h) (by rfl) ?_ (by assumption) ?_
  rotate_left
  · (intro w hSw; (try dsimp only at hSw); go_simp; try with_reducible rfl)
  simp only [Act.put, List.setIfInBounds_toArray, List.set_cons_zero, List.set_cons_succ]
  refine takeH (i := 7) (some 39) (v := ?_) rfl rfl (by kernel_rfl) (by kernel_rfl) (by kernel_rfl) (fun _ _ _ h => h) (by rfl) ?_ (by assumption) ?_
  rotate_left
  · (intro w hSw; (refine exec_mid 36 (.tmp 38) ?_ gv (q * 33) ?_ X0 _ hSw.1 Try.underlying36 rfl hszX.out) <;> rfl)
  simp only [Act.put, List.setIfInBounds_toArray, List.set_cons_zero, List.set_cons_succ]
  refine takeH (i := 8) (some 40) (v := ?_) rfl rfl (by kernel_rfl) (by kernel_rfl) (by kernel_rfl) (fun _ _ _ h => h) (by rfl) ?_ (by assumption) ?_
  rotate_left
  · (intro w hSw; (refine exec_row 36 (.tmp 5) ?_ _ ?_ 36 R0 (0, 0) _ hSw.2 Try.underlying36 rfl hsz.out) <;> rfl)
  simp only [Act.put, List.setIfInBounds_toArray, List.set_cons_zero, List.set_cons_succ]
  refine takeH (i := 9) (some 41) (v := ?_) rfl rfl (by kernel_rfl) (by kernel_rfl) (by kernel_rfl) (fun _ _ _ h => h) (by rfl) ?_ (by assumption) ?_
  rotate_left
  · (intro w hSw; (refine EQ.out _ _ _ ?_ ?_ ?_) <;> rfl)
  simp only [Act.put, List.setIfInBounds_toArray, List.set_cons_zero, List.set_cons_succ]
  refine takeH (i := 10) (some 42) (v := ?_) rfl rfl (by kernel_rfl) (by kernel_rfl) (by kernel_rfl) (fun _ _ _ h => h) (by rfl) ?_ (by assumption) ?_
  rotate_left
  · (intro w hSw; (try dsimp only at hSw); go_simp; try with_reducible rfl)
  simp only [Act.put, List.setIfInBounds_toArray, List.set_cons_zero, List.set_cons_succ]
  refine wpAnyH_done (by kernel_rfl) ?_ _
  have c9 : w1.drew.cell? ⟨gv, q * 33 + 32, none⟩ = some (.int .i64 x.2) := (World.cell?_of_block (B1.out.block gv hgvw)).trans HTim.out
  have f9 : w1.drew.frozen? ⟨gv, q * 33 + 32, none⟩ = false := (World.frozen?_of_block (B1.out.block gv hgvw)).trans HFrz.out
  have O9 : Hid (w1.drew.ownsRow 0 83 33 (.slice (some ⟨gv, 0, none⟩) (q + 1) cap) (q + 1) (rowsV (V0 ++ [x]))) := (Kept.fresh (S := fun _ => False) B1.out.drew).row HRow.out (fun _ _ q => q)
  go_wp2
  go_ret
  refine ⟨rfl, ?_, ?_⟩
  · rw [← HP.out]
    exact (O9.out.stored (q * 33 + 32) _).1
  · exact (Kept.fresh (S := fun b => b = gv) B1.out.drew).trans (Kept.grown (S := fun b => b = gv) (setCell_grown w1.drew _ _) (fun k e => by cases e; exact .inl rfl)) (fun _ h => .inl h)
end Go.Proofs.Ytieeibdhaoaeaaa
