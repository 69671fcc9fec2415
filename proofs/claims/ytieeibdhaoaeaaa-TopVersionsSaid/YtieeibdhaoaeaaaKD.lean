/- The contract of 'Write' of a block of which some versions wait, the last one another one. -/
import Derived.Test.YtieeibdhaoaeaaaKC
set_option linter.unusedVariables false
set_option linter.unusedSimpArgs false
namespace Go.Proofs.Ytieeibdhaoaeaaa
open Go.RowKit

/-- what is behind a write that adds a row: the map has the block, with a row that may have moved -/
def Pushed (w w' : World) (gv mb k q i : Nat) (D : DataW Value) (V : List Run) : Prop :=
  ∃ gn cap, w'.ownsMap Try.prog 3 RV mb (k + 1) (D.put (.int .i64 (i : Int)) (.held (.slice (some ⟨gn, 0, none⟩) (q + 1 + 1) cap))) ∧ w'.ownsRow 0 83 33 (.slice (some ⟨gn, 0, none⟩) (q + 1 + 1) cap) (q + 1 + 1) (rowsV V) ∧ Kept w w' (fun b => b = gv ∨ b = mb) ∧ (gn = gv ∨ w.heap.size ≤ gn)
set_option maxRecDepth 100000 in
set_option linter.unusedSimpArgs false in
set_option maxHeartbeats 2000000 in
theorem write_more (g : Nat) (n : Int) (L : List Int) (B : List Bool) (mb i k : Nat) (D : DataW Value) (s : List Int) (w : World) (h : DiskAt w g n L B mb) (hi : (i : Int) < n) (hm : w.ownsMap Try.prog 3 RV mb k D)
    (gv q cap : Nat) (V0 : List Run) (x : Run) (hat : D.atKey (.int .i64 (i : Int)) (.held (.slice none 0 0)) = .held (.slice (some ⟨gv, 0, none⟩) (q + 1) cap))
    (hrow : w.ownsRow 0 83 33 (.slice (some ⟨gv, 0, none⟩) (q + 1) cap) (q + 1) (rowsV (V0 ++ [x]))) (hV : V0.length = q) (hok : OkV (V0 ++ [x])) (hbad : B.getD i false = false) (hq : q < 1000000000) (ht : x.2 < 1000000000) (hs : s.length = 32) (hxs : x.1 ≠ s) (hk : k < maxLen) (hgg : gv ≠ g) (hgvm : gv ≠ mb) (hgm : g ≠ mb) :
    Calls Try.prog 17 #[.pointer (some ⟨g, 0, none⟩), .int .i64 (i : Int), secV s] w fun e w' => e = .returned (.int .i64 0) ∧ Pushed w w' gv mb k q i D (V0 ++ [x] ++ [(s, 1)]) := by
  have hgw : g < w.heap.size := h.blk.lt
  have hmw : mb < w.heap.size := hm.lt
  have hgvw : gv < w.heap.size := (hrow.lt gv rfl).2
  have hi96 : i < 96 := by have := h.hi; omega
  have hii0 : (0 : Int) ≤ (i : Int) := by omega
  have hii1 : (i : Int) < 96 := by omega
  have hq0 : (0 : Int) ≤ (q : Int) := by omega
  have hwq : IntKind.i64.wrap (q : Int) = (q : Int) := by simp [IntKind.wrap, IntKind.bits, IntKind.signed]; omega
  have hq2 : (q : Int) < (q : Int) + 1 := by omega
  have A := Lib.hid (fun W hc => ask_yes g n i W hc hi)
  have hx32 := (hok x (by simp)).1
  have hsz : Hid ((Try.prog.info? 36).map (·.size) = some (bytesV s).toArray.size) := by unfold Hid; rw [List.size_toArray, length_bytesV, hs]; exact size36
  have hszX : Hid ((Try.prog.info? 36).map (·.size) = some (bytesV x.1).length) := by unfold Hid; rw [length_bytesV, hx32]; exact size36
  have hcell : ∀ j, j < 33 → w.cell? ⟨gv, q * 33 + j, none⟩ = (rowL x.1 x.2)[j]? := fun j hj => by
    rw [hrow.cellAt _ (by omega), ← hV]
    exact rowsV_at (W := []) x hok hj
  have hRng : Hid (w.rangeAt gv (q * 33) (bytesV x.1)) := fun j u hj => by
    have hj' : j < 32 := by
      rcases Nat.lt_or_ge j 32 with h1 | h1
      · exact h1
      · rw [List.getElem?_eq_none (by rw [length_bytesV, hx32]; exact h1)] at hj; cases hj
    rw [hcell j (by omega), rowL, List.getElem?_append_left (by rw [length_bytesV, hx32]; exact hj')]
    exact hj
  have hTim : w.cell? ⟨gv, q * 33 + 32, none⟩ = some (.int .i64 x.2) := by
    rw [hcell 32 (by omega), rowL, List.getElem?_append_right (by rw [length_bytesV, hx32]; omega), length_bytesV, hx32]
    rfl
  have hFrz : w.frozen? ⟨gv, q * 33 + 32, none⟩ = false := hrow.frozenAt _
  have HTim := Lib.hid hTim
  have HFrz := Lib.hid hFrz
  have Hk := Lib.hid (key3 hi96)
  have Hat := Lib.hid hat
  have HRow := Lib.hid hrow
  have Hok := Lib.hid hok
  have HV := Lib.hid hV
  have HB : Hid (∀ W, Below w.heap.size w W → W.cell? ⟨g, 0, none⟩ = some (.int .i64 n) ∧ W.cell? ⟨g, 3073 + i, none⟩ = some (.bool false) ∧ W.ownsMap Try.prog 3 RV mb k D ∧ W.cell? ⟨g, 3169, none⟩ = some (.map (some mb))) := fun W hB => by
    have hd := h.below hB hgw
    refine ⟨hd.c0, by rw [hd.bad hi96, hbad], ?_, hd.cmap⟩
    obtain ⟨es, clock, hb, F, hs, hD⟩ := hm
    exact ⟨es, clock, (hB.block mb hmw).trans hb, F, hs, hD⟩
  have EQ : Hid (∀ (W : World) (o : Oper) (ev : Operand → Value), o.op = .binOp .eql 36 (.tmp 39) (.tmp 40) 36 → ev (.tmp 39) = .agg (bytesV x.1).toArray → ev (.tmp 40) = .agg (bytesV s).toArray → (execOp ev o).run Try.prog W = .ok (.value (.bool false)) W) := fun W o ev ho h1 h2 => by
    have := exec_eq (w := W) 36 36 _ _ ho Try.underlying36 x.1 s h1 h2 hx32 hs (by kernel_rfl)
    rw [this]
    simp [hxs]
  obtain ⟨i0, hi0, hz0, hz1, hz2⟩ := info_parts info83
  have HKm := Lib.hid hk
  have B83 := Lib.hid (built83 1 s hs)
  have F83 := Lib.hid (fill83 1 s hs)
  have HNl : Hid ((rowL s 1).toArray.toList.length = 1 * 33) := by unfold Hid; rw [show (rowL s 1).toArray.toList = rowL s 1 from rfl, length_rowL hs]
  have HN1 : Hid (∀ u ∈ (rowL s 1).toArray.toList, u.oneCell' = true) := rowL_one s 1
  have HR : Hid (rowsV (V0 ++ [x]) ++ (rowL s 1).toArray.toList = rowsV (V0 ++ [x] ++ [(s, 1)])) := by unfold Hid; rw [rowsV_append (V0 ++ [x]), rowsV_one1]; rfl
  have Hs := Lib.hid hs
  unfold secV
  obtain ⟨X0, hX0⟩ : ∃ X0, X0 = bytesV x.1 := ⟨_, rfl⟩
  rw [← hX0] at hszX hRng EQ
  obtain ⟨R0, hR0⟩ : ∃ R0, R0 = (bytesV s).toArray := ⟨_, rfl⟩
  rw [← hR0] at hsz EQ B83 ⊢
  obtain ⟨N0, hN0⟩ : ∃ N0, N0 = (rowL s 1).toArray := ⟨_, rfl⟩
  rw [← hN0] at B83 F83 HNl HN1 HR
  obtain ⟨W9, hW9⟩ : ∃ W9, W9 = V0 ++ [x] ++ [(s, 1)] := ⟨_, rfl⟩
  rw [← hW9] at HR ⊢
  clear hN0 hW9 hk
  clear h hm hat hbad hs hok hV hrow hcell hTim hFrz hx32 hX0 hR0 hxs
  go_enter Try.func17, Try.ntmps17
  go_wp2_with (refine wpList_boxTo rfl 36 (.tmp 2) rfl (some 5) rfl w.heap.size rfl R0 rfl ?_)
  generalize hW : w.alloc (.cells R0 36) = w1
  have b1 : Hid (w1.heap[w.heap.size]? = some (.cells R0 36 (0, 0))) := by rw [← hW]; exact heap_alloc_new w _
  have B1 : Hid (Below w.heap.size w w1) := by rw [← hW]; exact below_alloc1 w _
  have s1 : Hid (w1.heap.size = w.heap.size + 1) := by rw [← hW]; exact size_alloc1 w _
  clear hW
  obtain ⟨c0, c1, m1, c2⟩ := HB.out w1 B1.out
  have M1 := Lib.hid m1
  clear m1
  refine (A.out _ c0).mono ?_
  rintro e w' ⟨rfl, rfl⟩
  go_wp2_with (refine wpList_lookup_held rfl (.tmp 26) (.tmp 27) 78 rfl 3 81 law3 Try.underlying78 (zero81 _) mb k D rfl M1.out _ _ rfl Hk.out _ Hat.out ?_)
  have X8 : Hid (w1.drew.rangeAt gv (q * 33) X0 ∧ w1.drew.heap[w.heap.size]? = some (.cells R0 36 (0, 0))) := ⟨fun j u hj => (World.cell?_of_block (B1.out.block gv hgvw)).trans (hRng.out j u hj), b1.out⟩
  refine wp_region_held_drew (S := (fun W => W.rangeAt gv (q * 33) X0 ∧ W.heap[w.heap.size]? = some (.cells R0 36 (0, 0)))) (by kernel_rfl) (X8.out) (fun hHeld => ?_)
  refine takeH (i := 0) (some 32) (v := ?_) rfl rfl (by kernel_rfl) (by kernel_rfl) (by kernel_rfl) (fun _ _ _ h => h) (by rfl) ?_ (by assumption) ?_
  rotate_left
  · (intro w hSw; (try dsimp only at hSw); go_simp; try with_reducible rfl)
  simp only [Act.put, List.setIfInBounds_toArray, List.set_cons_zero, List.set_cons_succ]
  refine takeH (i := 1) (some 33) (v := ?_) rfl rfl (by kernel_rfl) (by kernel_rfl) (by kernel_rfl) (fun _ _ _ h => h) (by rfl) ?_ (by assumption) ?_
  rotate_left
  · (intro w hSw; (try dsimp only at hSw); go_simp; try with_reducible rfl)
  simp only [Act.put, List.setIfInBounds_toArray, List.set_cons_zero, List.set_cons_succ]
  refine takeH (i := 2) (some 34) (v := ?_) rfl rfl (by kernel_rfl) (by kernel_rfl) (by kernel_rfl) (fun _ _ _ h => h) (by rfl) ?_ (by assumption) ?_
  rotate_left
  · (intro w hSw; (try dsimp only at hSw); go_simp; try with_reducible rfl)
  simp only [Act.put, List.setIfInBounds_toArray, List.set_cons_zero, List.set_cons_succ]
  refine takeH (i := 3) (some 35) (v := ?_) rfl rfl (by kernel_rfl) (by kernel_rfl) (by kernel_rfl) (fun _ _ _ h => h) (by rfl) ?_ (by assumption) ?_
  rotate_left
  · (intro w hSw; (try dsimp only at hSw); go_simp; try with_reducible rfl)
  simp only [Act.put, List.setIfInBounds_toArray, List.set_cons_zero, List.set_cons_succ]
  refine takeH (i := 4) (some 36) (v := ?_) rfl rfl (by kernel_rfl) (by kernel_rfl) (by kernel_rfl) (fun _ _ _ h => h) (by rfl) ?_ (by assumption) ?_
  rotate_left
  · (intro w hSw; (try dsimp only at hSw); go_simp; try with_reducible rfl)
  simp only [Act.put, List.setIfInBounds_toArray, List.set_cons_zero, List.set_cons_succ]
  refine takeH (i := 5) (some 37) (v := ?_) rfl rfl (by kernel_rfl) (by kernel_rfl) (by kernel_rfl) (fun _ _ _ h => h) (by rfl) ?_ (by assumption) ?_
  rotate_left
  · (intro w hSw; (try dsimp only at hSw); go_simp; try with_reducible rfl)
  simp only [Act.put, List.setIfInBounds_toArray, List.set_cons_zero, List.set_cons_succ]
  refine takeH (i := 6) (some 38) (v := ?_) rfl rfl (by kernel_rfl) (by kernel_rfl) (by kernel_rfl) (fun _ _ _ h => h) (by rfl) ?_ (by assumption) ?_
  rotate_left
  · (intro w hSw; (try dsimp only at hSw); go_simp; try with_reducible rfl)
  simp only [Act.put, List.setIfInBounds_toArray, List.set_cons_zero, List.set_cons_succ]
  refine takeH (i := 7) (some 39) (v := ?_) rfl rfl (by kernel_rfl) (by kernel_rfl) (by kernel_rfl) (fun _ _ _ h => h) (by rfl) ?_ (by assumption) ?_
  rotate_left
  · (intro w hSw; (refine exec_mid 36 (.tmp 38) ?_ gv (q * 33) ?_ X0 _ hSw.1 Try.underlying36 rfl hszX.out) <;> rfl)
  simp only [Act.put, List.setIfInBounds_toArray, List.set_cons_zero, List.set_cons_succ]
  refine takeH (i := 8) (some 40) (v := ?_) rfl rfl (by kernel_rfl) (by kernel_rfl) (by kernel_rfl) (fun _ _ _ h => h) (by rfl) ?_ (by assumption) ?_
  rotate_left
  · (intro w hSw; (refine exec_row 36 (.tmp 5) ?_ _ ?_ 36 R0 (0, 0) _ hSw.2 Try.underlying36 rfl hsz.out) <;> rfl)
  simp only [Act.put, List.setIfInBounds_toArray, List.set_cons_zero, List.set_cons_succ]
  refine takeH (i := 9) (some 41) (v := ?_) rfl rfl (by kernel_rfl) (by kernel_rfl) (by kernel_rfl) (fun _ _ _ h => h) (by rfl) ?_ (by assumption) ?_
  rotate_left
  · (intro w hSw; (refine EQ.out _ _ _ ?_ ?_ ?_) <;> rfl)
  simp only [Act.put, List.setIfInBounds_toArray, List.set_cons_zero, List.set_cons_succ]
  refine takeH (i := 10) (some 42) (v := ?_) rfl rfl (by kernel_rfl) (by kernel_rfl) (by kernel_rfl) (fun _ _ _ h => h) (by rfl) ?_ (by assumption) ?_
  rotate_left
  · (intro w hSw; (try dsimp only at hSw); go_simp; try with_reducible rfl)
  simp only [Act.put, List.setIfInBounds_toArray, List.set_cons_zero, List.set_cons_succ]
  refine wpAnyH_done (by kernel_rfl) ?_ _
  go_wp2_with fail
  obtain ⟨w2, hw2⟩ : ∃ w2, w2 = w1.drew := ⟨_, rfl⟩
  have B2 : Hid (Below w.heap.size w w2) := by rw [hw2]; exact B1.out.drew
  have b2 : Hid (w2.heap[w.heap.size]? = some (.cells R0 36 (0, 0))) := by rw [hw2]; exact b1.out
  have s2 : Hid (w2.heap.size = w.heap.size + 1) := by rw [hw2]; exact s1.out
  rw [← hw2]
  clear hw2 c0 c1 c2
  have X : Hid (w2.drew.heap[w.heap.size]? = some (.cells R0 36 (0, 0)) ∧ w2.drew.cell? ⟨g, 3169, none⟩ = some (.map (some mb))) := ⟨b2.out, (HB.out _ B2.out.drew).2.2.2⟩
  have BY : Hid (Below w.heap.size w (w2.drew.alloc (.cells N0 83))) := B2.out.drew.alloc (by have := s2.out; show w.heap.size ≤ w2.heap.size; omega) _
  have Y : Hid ((w2.drew.alloc (.cells N0 83)).cell? ⟨g, 3169, none⟩ = some (.map (some mb)) ∧ (∀ j u, N0.toList[j]? = some u → (w2.drew.alloc (.cells N0 83)).cell? ((⟨w2.heap.size, 0, none⟩ : Addr).add j) = some u) ∧ 0 ≤ (w2.drew.alloc (.cells N0 83)).heap.size ∧
      (w2.drew.alloc (.cells N0 83)).ownsRow 0 83 33 (.slice (some ⟨gv, 0, none⟩) (q + 1) cap) (q + 1) (rowsV (V0 ++ [x]))) :=
    ⟨(HB.out _ BY.out).2.2.2, fun j u hu => cells_new w2.drew N0.toList 83 j u hu, Nat.zero_le _, (Kept.fresh (S := fun _ => False) BY.out).row HRow.out (fun _ _ q => q)⟩
  have HZ : Hid (∀ w5 gn capn, w5.ownsRow 0 83 33 (.slice (some ⟨gn, 0, none⟩) (q + 1 + 1) capn) (q + 1 + 1) (rowsV (V0 ++ [x]) ++ N0.toList) → (w2.drew.alloc (.cells N0 83)).grownBy w5 (some gv) → (some gv = some gn ∨ gn = (w2.drew.alloc (.cells N0 83)).heap.size) →
      w5.cell? ⟨g, 3169, none⟩ = some (.map (some mb)) ∧ w5.ownsMap Try.prog 3 RV mb k D ∧
      ∀ w6, w6.ownsMap Try.prog 3 RV mb (k + 1) (D.put (.int .i64 (i : Int)) (.held (.slice (some ⟨gn, 0, none⟩) (q + 1 + 1) capn))) → w5.grownBy w6 (some mb) → w6.cell? ⟨g, 3169, none⟩ = some (.map (some mb)) ∧ Pushed w w6 gv mb k q i D W9) := by
    intro w5 gn capn ho hg hor
    have K5 : Kept w w5 (fun b => b = gv ∨ b = mb) := (Kept.fresh BY.out).trans (Kept.grown (S := fun b => b = gv ∨ b = mb) hg (fun k e => by cases e; exact .inl (.inl rfl))) (fun _ h => .inl h)
    have c5 : w5.cell? ⟨g, 3169, none⟩ = some (.map (some mb)) := by
      rw [← Y.out.1]
      exact World.cell?_of_block (hg.block g (Nat.lt_of_lt_of_le hgw BY.out.size) (by simpa using Ne.symm hgg))
    have m5 : w5.ownsMap Try.prog 3 RV mb k D := (HB.out _ BY.out).2.2.1.kept hg (by simpa using Ne.symm hgvm)
    have hgn : gn = gv ∨ w.heap.size ≤ gn := by
      rcases hor with e | e
      · cases e; exact .inl rfl
      · right; rw [e]; exact BY.out.size
    refine ⟨c5, m5, fun w6 hm6 hg6 => ⟨?_, gn, capn, hm6, ?_, ?_, hgn⟩⟩
    · rw [← c5]
      exact World.cell?_of_block (hg6.block g (Nat.lt_of_lt_of_le hgw K5.size) (by simpa using hgm))
    · rw [← HR.out]
      refine ho.kept hg6 (.inr ?_)
      rcases hgn with e | e
      · subst e; simpa [Value.ownBlock] using hgvm
      · simp [Value.ownBlock]; omega
    · exact K5.trans (Kept.grown (S := fun b => b = gv ∨ b = mb) hg6 (fun k e => by cases e; exact .inl (.inr rfl))) (fun _ h => .inl h)
  refine wp_region_held_drew (S := (fun W => W.cell? ⟨g, 3169, none⟩ = some (.map (some mb)))) (by kernel_rfl) (X.out.2) (fun hHeld => ?_)
  refine takeH (i := 0) (some 51) (v := ?_) rfl rfl (by kernel_rfl) (by kernel_rfl) (by kernel_rfl) (fun _ _ _ h => h) (by rfl) ?_ (by assumption) ?_
  rotate_left
  · (intro w hSw; (try dsimp only at hSw); go_simp; try with_reducible rfl)
  simp only [Act.put, List.setIfInBounds_toArray, List.set_cons_zero, List.set_cons_succ]
  refine takeH (i := 1) (some 52) (v := ?_) rfl rfl (by kernel_rfl) (by kernel_rfl) (by kernel_rfl) (fun _ _ _ h => h) (by rfl) ?_ (by assumption) ?_
  rotate_left
  · (intro w hSw; (try dsimp only at hSw); go_simp; try with_reducible rfl)
  simp only [Act.put, List.setIfInBounds_toArray, List.set_cons_zero, List.set_cons_succ]
  refine takeH (i := 2) (some 53) (v := ?_) rfl rfl (by kernel_rfl) (by kernel_rfl) (by kernel_rfl) (fun _ _ _ h => h) (by rfl) ?_ (by assumption) ?_
  rotate_left
  · (intro w hSw; (try dsimp only at hSw); go_simp; try with_reducible rfl)
  simp only [Act.put, List.setIfInBounds_toArray, List.set_cons_zero, List.set_cons_succ]
  refine takeH (i := 3) (some 54) (v := ?_) rfl rfl (by kernel_rfl) (by kernel_rfl) (by kernel_rfl) (fun _ _ _ h => h) (by rfl) ?_ (by assumption) ?_
  rotate_left
  · (intro w hSw; (try dsimp only at hSw); go_simp; try with_reducible rfl)
  simp only [Act.put, List.setIfInBounds_toArray, List.set_cons_zero, List.set_cons_succ]
  refine takeH (i := 4) (some 55) (v := ?_) rfl rfl (by kernel_rfl) (by kernel_rfl) (by kernel_rfl) (fun _ _ _ h => h) (by rfl) ?_ (by assumption) ?_
  rotate_left
  · (intro w hSw; (try dsimp only at hSw); go_simp; try with_reducible rfl)
  simp only [Act.put, List.setIfInBounds_toArray, List.set_cons_zero, List.set_cons_succ]
  refine takeH (i := 5) (some 56) (v := ?_) rfl rfl (by kernel_rfl) (by kernel_rfl) (by kernel_rfl) (fun _ _ _ h => h) (by rfl) ?_ (by assumption) ?_
  rotate_left
  · (intro w hSw; (try dsimp only at hSw); go_simp; try with_reducible rfl)
  simp only [Act.put, List.setIfInBounds_toArray, List.set_cons_zero, List.set_cons_succ]
  refine wpAnyH_ready (rs := [6]) (by kernel_rfl) (by simp) ?_
  refine AllReadyH.cons rfl (fun K hK => ?_) AllReadyH.nil
  refine step_of rfl (wp_load_row 36 (.tmp 5) rfl w.heap.size rfl 36 R0 (0, 0) _ X.out.1 Try.underlying36 rfl hsz.out ?_)
  refine hK _ _ (X.out.2) (fun hHeld => ?_)
  clear hK K
  try simp only [Act.put, List.setIfInBounds_toArray, List.set_cons_zero, List.set_cons_succ]
  refine wpAnyH_ready (rs := [7]) (by kernel_rfl) (by simp) ?_
  refine AllReadyH.cons rfl (fun K hK => ?_) AllReadyH.nil
  refine step_of rfl (wp_build_eq 83 [(0, .tmp 57), (1, .const (.int .i64 1))] rfl [(0, .agg R0), (1, .int .i64 1)] rfl N0 B83.out ?_)
  refine hK _ _ (X.out.2) (fun hHeld => ?_)
  clear hK K
  try simp only [Act.put, List.setIfInBounds_toArray, List.set_cons_zero, List.set_cons_succ]
  refine wpAnyH_ready (rs := [8]) (by kernel_rfl) (by simp) ?_
  refine AllReadyH.cons rfl (fun K hK => ?_) AllReadyH.nil
  refine step_of rfl (wp_slice83 (.tmp 58) 81 Try.underlying81 rfl N0 rfl i0 hi0 hz0 hz1 F83.out ?_)
  refine hK _ _ (Y.out.1) (fun hHeld => ?_)
  clear hK K
  try simp only [Act.put, List.setIfInBounds_toArray, List.set_cons_zero, List.set_cons_succ]
  refine wpAnyH_ready (rs := [9]) (by kernel_rfl) (by simp) ?_
  refine AllReadyH.cons rfl (fun K hK => ?_) AllReadyH.nil
  refine step_append_lies _ rfl (.tmp 56) (.tmp 59) 81 rfl 0 83 i0 _ 33 40 Try.underlying81 hi0 hz0 hz1 hz2 (by decide) (by decide) (.slice (some ⟨gv, 0, none⟩) (q + 1) cap) (q + 1) (rowsV (V0 ++ [x])) rfl Y.out.2.2.2 ⟨w2.heap.size, 0, none⟩ 1 1 N0.toList rfl HNl.out Y.out.2.1 HN1.out (by decide) (by unfold maxLen; omega) (by omega) Y.out.2.2.1 _ rfl ?_
  intro gn capn w5 hown5 hgrow5 hor5 hlt5
  have Z := Lib.hid (HZ.out w5 gn capn hown5 hgrow5 hor5)
  clear hgrow5 hor5
  refine hK _ _ (Z.out.1) (fun hHeld => ?_)
  clear hK K
  try simp only [Act.put, List.setIfInBounds_toArray, List.set_cons_zero, List.set_cons_succ]
  refine wpAnyH_ready (rs := [10]) (by kernel_rfl) (by simp) ?_
  refine AllReadyH.cons rfl (fun K hK => ?_) AllReadyH.nil
  refine step_of rfl (wp_update_held (.tmp 54) (.tmp 55) (.tmp 60) 78 rfl 3 81 law3 Try.underlying78 mb k D rfl Z.out.2.1 HKm.out _ _ _ rfl rfl Hk.out ?_)
  intro w6 hm6 hg6
  have U := Lib.hid (Z.out.2.2 w6 hm6 hg6)
  clear hm6 hg6
  refine hK _ _ (U.out.1) (fun hHeld => ?_)
  clear hK K
  try simp only [Act.put, List.setIfInBounds_toArray, List.set_cons_zero, List.set_cons_succ]
  refine wpAnyH_done (by kernel_rfl) ?_ _
  go_wp2
  go_ret
  exact ⟨rfl, U.out.2⟩
end Go.Proofs.Ytieeibdhaoaeaaa
