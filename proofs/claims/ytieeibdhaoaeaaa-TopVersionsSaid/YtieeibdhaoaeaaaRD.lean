/- The contract of 'Write' of the document's disk. -/
import Derived.Test.YtieeibdhaoaeaaaRC
import Derived.Test.YtieeibdhaoaeaaaHV
set_option linter.unusedVariables false
set_option linter.unusedSimpArgs false
namespace Go.Proofs.Ytieeibdhaoaeaaa
open Go.RowKit

theorem info53 : (Try.prog.info? 53).map (fun i => (i.zero, i.size, i.bytes)) = some (some (.agg (bytesV (List.replicate 32 0)).toArray), 32, 32) := by kernel_rfl
section
variable {P : Program} {o : Oper} {a : Act} {w : World} {K : Act → World → Prop} {Q : Exit → Act → World → Prop}
theorem wp_slice53 (x : Operand) (t : TypeId) (ht : P.underlying t = some (.slice 53)) (ho : o.op = .buildSlice t 1 #[(0, x)]) (R : Array Value) (hx : a.eval x = .agg R)
    (i0 : TypeInfo) (hi : P.info? 53 = some i0) (hz : i0.zero = some (.agg (bytesV (List.replicate 32 0)).toArray)) (hs : i0.size = 32)
    (hf : Instr.fill (fun i => some (i * 32, 32)) ((Array.range 32).map ((bytesV (List.replicate 32 0)).toArray[· % 32]!)) [(0, .agg R)] = some R)
    (h : K (a.put o.dst (.slice (some ⟨w.heap.size, 0, none⟩) 1 1)) (w.alloc (.cells R 53))) : o.wp P a w K Q := by
  refine wp_buildSlice t 53 1 #[(0, x)] ho R i0 _ ht hi hz (by rw [hs]; decide) (by rw [hs]; decide) ?_ h
  rw [hs]
  simpa [hx, Value.cells, bytesV] using hf
end
section
variable {w : World} {g n c : Nat} {S : Nat → Bk} {F : Nat → Prop}
set_option maxRecDepth 100000 in
theorem rwrite_no (h : Ref w g n S c F) (i : Int) (hi : ¬ (0 ≤ i ∧ i < n)) (s : List Int) : Calls Try.prog 43 #[.pointer (some ⟨g, 0, none⟩), .int .i64 i, secV s] w fun e w' => e = .returned (.int .i64 2) ∧ Below w.heap.size w w' := by
  unfold secV
  obtain ⟨R0, hR0⟩ : ∃ R0, R0 = (bytesV s).toArray := ⟨_, rfl⟩
  rw [← hR0]
  have B1 : Hid (Below w.heap.size w (w.alloc (.cells R0 53))) := below_alloc1 w _
  obtain ⟨_, _, gb, cp, hc⟩ := (h.fresh B1.out).size
  have M := Lib.hid (may_no i hc hi)
  clear h hi hR0
  go_enter Try.func43, Try.ntmps43
  go_wp2_with (first | (refine wpList_boxTo rfl 53 (.tmp 2) rfl (some 5) rfl w.heap.size rfl R0 rfl ?_))
  refine M.out.mono ?_
  rintro e w' ⟨rfl, rfl⟩
  go_wp2
  go_ret
  exact ⟨rfl, B1.out⟩
set_option maxRecDepth 100000 in
theorem rbad (h : Ref w g n S c F) {i : Nat} (hi : i < n) (hb : (S i).b = true) (s : List Int) : Calls Try.prog 43 #[.pointer (some ⟨g, 0, none⟩), .int .i64 (i : Int), secV s] w fun e w' => e = .returned (.int .i64 10) ∧ Below w.heap.size w w' := by
  unfold secV
  obtain ⟨R0, hR0⟩ : ∃ R0, R0 = (bytesV s).toArray := ⟨_, rfl⟩
  rw [← hR0]
  have B1 : Hid (Below w.heap.size w (w.alloc (.cells R0 53))) := below_alloc1 w _
  obtain ⟨gb, cp, A, C, h, rfl⟩ := h
  have hc := (h.fresh B1.out).c0
  have hbad := (h.fresh B1.out).cb hi
  rw [hb] at hbad
  have M := Lib.hid (may_yes i hc hi)
  have hi' : (i : Int) < (n : Int) := by omega
  have hi0 : (0 : Int) ≤ (i : Int) := by omega
  clear h hi hR0 hb
  go_enter Try.func43, Try.ntmps43
  go_wp2_with (first | (refine wpList_boxTo rfl 53 (.tmp 2) rfl (some 5) rfl w.heap.size rfl R0 rfl ?_))
  refine M.out.mono ?_
  rintro e w' ⟨rfl, rfl⟩
  go_wp2
  go_ret
  exact ⟨rfl, B1.out⟩
set_option maxRecDepth 100000 in
set_option linter.unusedSimpArgs false in
set_option maxHeartbeats 2000000 in
theorem rwrite (h : Ref w g n S c F) {i : Nat} (hi : i < n) {s : List Int} (hb : (S i).b = false) (hs : OkS s) (hc : c < 100000) :
    Calls Try.prog 43 #[.pointer (some ⟨g, 0, none⟩), .int .i64 (i : Int), secV s] w fun e w' => e = .returned (.int .i64 0) ∧ Went w w' F (Ref w' g n (upd S i ⟨(S i).s, (S i).v ++ [s], (S i).b⟩) (c + 1)) := by
  obtain ⟨i0, hi0, hz0, hz1, hz2⟩ := info_parts info53
  unfold secV
  obtain ⟨R0, hR0⟩ : ∃ R0, R0 = (bytesV s).toArray := ⟨_, rfl⟩
  rw [← hR0]
  have F53 : Hid (Instr.fill (fun i => some (i * 32, 32)) ((Array.range 32).map ((bytesV (List.replicate 32 0)).toArray[· % 32]!)) [(0, .agg R0)] = some R0) := by rw [hR0]; exact fill36 s hs.1
  have hsz : Hid ((Try.prog.info? 53).map (·.size) = some R0.size) := by unfold Hid; rw [hR0, List.size_toArray, length_bytesV, hs.1]; exact size53
  have HRl : Hid (R0.toList.length = 1 * 32) := by unfold Hid; rw [hR0]; simp [length_bytesV, hs.1]
  have HR1 : Hid (∀ u ∈ R0.toList, u.oneCell' = true) := by rw [hR0]; exact bytesV_one s
  obtain ⟨w1, hw1⟩ : ∃ w1, w1 = w.alloc (.cells R0 53) := ⟨_, rfl⟩
  have B1 : Hid (Below w.heap.size w w1) := by rw [hw1]; exact below_alloc1 w _
  have s1 : Hid (w1.heap.size = w.heap.size + 1) := by rw [hw1]; exact size_alloc1 w _
  have b1 : Hid (w1.heap[w.heap.size]? = some (.cells R0 53 (0, 0))) := by rw [hw1]; exact heap_alloc_new w _
  obtain ⟨gb, cp, A, C, h, rfl⟩ := h
  have h1 : Hid (RefAt w1 g n S c gb cp A C) := h.fresh B1.out
  have hv1 := h1.out.vers i hi
  obtain ⟨m, hm⟩ : ∃ m, m = (S i).v.length := ⟨_, rfl⟩
  obtain ⟨vold, hvold⟩ : ∃ v, v = (S i).v := ⟨_, rfl⟩
  obtain ⟨A0, hA0⟩ : ∃ x, x = A i := ⟨_, rfl⟩
  obtain ⟨cA, hcA⟩ : ∃ x, x = C i := ⟨_, rfl⟩
  have hfew := h.few i hi
  have hmc : m ≤ c := by rw [hm]; exact hfew
  have Hlen : Hid ((secsV vold).length = m * 32) := by rw [hm, hvold]; exact length_secsV (fun x hx => ((h.ok i hi).2 x hx).1)
  have Hone : Hid (∀ u ∈ secsV vold, u.oneCell' = true) := secsV_one _
  have HW : Hid (∀ W, Below w1.heap.size w1 W → W.cell? ⟨g, 0, none⟩ = some (.slice (some ⟨gb, 0, none⟩) n cp) ∧ W.heap[w.heap.size]? = some (.cells R0 53 (0, 0)) ∧ W.cell? ⟨gb, i * 34 + 32, none⟩ = some (.slice A0 m cA) ∧ W.frozen? ⟨gb, i * 34 + 32, none⟩ = false ∧
      (∀ ad, A0 = some ad → ∀ j u, (secsV vold)[j]? = some u → W.cell? (ad.add j) = some u) ∧ (A0 = none → m = 0)) := fun W hB => by
    have hW := h1.out.fresh hB
    have hr := row_src (hW.vers i hi)
    refine ⟨hW.c0, (hB.block _ (by have := s1.out; omega)).trans b1.out, by rw [hW.cv hi, hA0, hm, hcA], hW.frz _, ?_, ?_⟩
    · rw [hA0, hvold]; exact hr.1
    · rw [hA0, hm]; exact hr.2
  have HS : Hid (∀ W, Below w1.heap.size w1 W → W.cell? ⟨g, 0, none⟩ = some (.slice (some ⟨gb, 0, none⟩) n cp) ∧ W.heap[w.heap.size]? = some (.cells R0 53 (0, 0))) := fun W hB => ⟨(HW.out W hB).1, (HW.out W hB).2.1⟩
  have HF : Hid (∀ W u, Below w1.heap.size w1 W → (W.setCell ⟨gb, i * 34 + 32, none⟩ u).cell? ⟨g, 0, none⟩ = some (.slice (some ⟨gb, 0, none⟩) n cp) ∧ (W.setCell ⟨gb, i * 34 + 32, none⟩ u).heap[w.heap.size]? = some (.cells R0 53 (0, 0))) := fun W u hB => by
    have hg := setCell_grown W ⟨gb, i * 34 + 32, none⟩ u
    have hW := h1.out.fresh hB
    refine ⟨?_, ?_⟩
    · rw [← (HW.out W hB).1]
      exact World.cell?_of_block (hg.block g hW.glt (by simpa using hW.gne))
    · rw [← (HW.out W hB).2.1]
      refine hg.block _ (by have := hB.size; have := s1.out; omega) ?_
      have := h.blt
      simp; omega
  have HE : Hid (∀ W A2 c2, Below w1.heap.size w1 W → W.ownsRow w1.heap.size 53 32 (.slice A2 (m + 1) c2) (m + 1) (secsV vold ++ R0.toList) → Went w (W.setCell ⟨gb, i * 34 + 32, none⟩ (.slice A2 (m + 1) c2)) (footR g gb n A) (Ref (W.setCell ⟨gb, i * 34 + 32, none⟩ (.slice A2 (m + 1) c2)) g n (upd S i ⟨(S i).s, (S i).v ++ [s], (S i).b⟩) (c + 1))) := by
    intro W A2 c2 hB ho
    have hW := h1.out.fresh hB
    have hlow : ∀ b, own A2 = some b → w1.heap.size ≤ b := fun b hb => (ho.lt b (by rw [own_eq]; exact hb)).1
    have hlv : ((S i).v ++ [s]).length = m + 1 := by rw [hm]; simp
    have hsv : secsV ((S i).v ++ [s]) = secsV vold ++ R0.toList := by rw [hvold, hR0]; simp [secsV]
    have ht := hW.turn hi (a' := A2) (c' := c2) (c2 := c + 1) (v' := (S i).v ++ [s]) (by rw [hlv, hsv]; exact row_zero ho) (fun x hx => by
      rcases List.mem_append.1 hx with q | q
      · exact (h.ok i hi).2 x q
      · obtain rfl : x = s := by simpa using q
        exact hs) (by rw [hlv]; omega) (by omega) (fun j hj hji b hb e => by
        have h2 := hlow b e
        have h3 := h.vlt hj hb
        have := s1.out
        omega)
    rw [hlv] at ht
    refine ⟨_, ⟨gb, cp, _, _, ht, rfl⟩, ?_, ?_⟩
    · have k1 : Kept w W (footR g gb n A) := Kept.fresh (B1.out.trans (hB.mono B1.out.size))
      exact k1.trans (Kept.grown (S := footR g gb n A) (setCell_grown _ _ _) (fun b e => by cases e; exact .inl (.inr (.inl rfl)))) (fun _ h => .inl h)
    · rintro b (q | q | ⟨j, hj, q⟩)
      · exact .inl (.inl q)
      · exact .inl (.inr (.inl q))
      · by_cases e : j = i
        · subst e; simp only [if_true] at q; have := hlow b q; have := B1.out.size; exact .inr (by omega)
        · simp only [if_neg e] at q; exact .inl (.inr (.inr ⟨j, hj, q⟩))
  have hi' : (i : Int) < (n : Int) := by omega
  have hii0 : (0 : Int) ≤ (i : Int) := by omega
  have hc0 := h1.out.c0
  have hcb := h1.out.cb hi
  rw [hb] at hcb
  have M := Lib.hid (may_yes i hc0 hi)
  have Hw1 := Lib.hid hw1
  clear h h1 hv1 hm hvold hA0 hcA hfew hb hs hR0 hi hw1
  go_enter Try.func43, Try.ntmps43
  go_wp2_with (first | (refine wpList_boxTo rfl 53 (.tmp 2) rfl (some 5) rfl w.heap.size rfl R0 rfl ?_))
  rw [← Hw1.out]
  refine M.out.mono ?_
  rintro e w' ⟨rfl, rfl⟩
  go_wp2_with fail
  refine wp_region_held_drew (S := (fun W => W.cell? ⟨g, 0, none⟩ = some (.slice (some ⟨gb, 0, none⟩) n cp) ∧ W.heap[w.heap.size]? = some (.cells R0 53 (0, 0)))) (by kernel_rfl) (HS.out _ (Below.refl _ _).drew) (fun hHeld => ?_)
  have BX0 : Hid (Below w1.heap.size w1 w1.drew) := (Below.refl _ _).drew
  generalize w1.drew = wX0 at hHeld BX0 ⊢
  refine takeH (i := 0) (some 22) (v := ?_) rfl rfl (by kernel_rfl) (by kernel_rfl) (by kernel_rfl) (fun _ _ _ h => h) (by rfl) ?_ (by assumption) ?_
  rotate_left
  · (intro w hSw; (try dsimp only at hSw); obtain ⟨hS1, hS2⟩ := hSw; go_simp; try with_reducible rfl)
  simp only [Act.put, List.setIfInBounds_toArray, List.set_cons_zero, List.set_cons_succ]
  refine takeH (i := 1) (some 23) (v := ?_) rfl rfl (by kernel_rfl) (by kernel_rfl) (by kernel_rfl) (fun _ _ _ h => h) (by rfl) ?_ (by assumption) ?_
  rotate_left
  · (intro w hSw; (try dsimp only at hSw); obtain ⟨hS1, hS2⟩ := hSw; go_simp; try with_reducible rfl)
  simp only [Act.put, List.setIfInBounds_toArray, List.set_cons_zero, List.set_cons_succ]
  refine takeH (i := 2) (some 24) (v := ?_) rfl rfl (by kernel_rfl) (by kernel_rfl) (by kernel_rfl) (fun _ _ _ h => h) (by rfl) ?_ (by assumption) ?_
  rotate_left
  · (intro w hSw; (try dsimp only at hSw); obtain ⟨hS1, hS2⟩ := hSw; go_simp; try with_reducible rfl)
  simp only [Act.put, List.setIfInBounds_toArray, List.set_cons_zero, List.set_cons_succ]
  refine takeH (i := 3) (some 25) (v := ?_) rfl rfl (by kernel_rfl) (by kernel_rfl) (by kernel_rfl) (fun _ _ _ h => h) (by rfl) ?_ (by assumption) ?_
  rotate_left
  · (intro w hSw; (try dsimp only at hSw); obtain ⟨hS1, hS2⟩ := hSw; go_simp; try with_reducible rfl)
  simp only [Act.put, List.setIfInBounds_toArray, List.set_cons_zero, List.set_cons_succ]
  refine takeH (i := 4) (some 26) (v := ?_) rfl rfl (by kernel_rfl) (by kernel_rfl) (by kernel_rfl) (fun _ _ _ h => h) (by rfl) ?_ (by assumption) ?_
  rotate_left
  · (intro w hSw; (try dsimp only at hSw); obtain ⟨hS1, hS2⟩ := hSw; go_simp; try with_reducible rfl)
  simp only [Act.put, List.setIfInBounds_toArray, List.set_cons_zero, List.set_cons_succ]
  refine takeH (i := 6) (some 28) (v := ?_) rfl rfl (by kernel_rfl) (by kernel_rfl) (by kernel_rfl) (fun _ _ _ h => h) (by rfl) ?_ (by assumption) ?_
  rotate_left
  · (intro w hSw; (try dsimp only at hSw); obtain ⟨hS1, hS2⟩ := hSw; go_simp; try with_reducible rfl)
  simp only [Act.put, List.setIfInBounds_toArray, List.set_cons_zero, List.set_cons_succ]
  refine takeH (i := 7) (some 29) (v := ?_) rfl rfl (by kernel_rfl) (by kernel_rfl) (by kernel_rfl) (fun _ _ _ h => h) (by rfl) ?_ (by assumption) ?_
  rotate_left
  · (intro w hSw; (try dsimp only at hSw); obtain ⟨hS1, hS2⟩ := hSw; go_simp; try with_reducible rfl)
  simp only [Act.put, List.setIfInBounds_toArray, List.set_cons_zero, List.set_cons_succ]
  refine takeH (i := 8) (some 30) (v := ?_) rfl rfl (by kernel_rfl) (by kernel_rfl) (by kernel_rfl) (fun _ _ _ h => h) (by rfl) ?_ (by assumption) ?_
  rotate_left
  · (intro w hSw; (try dsimp only at hSw); obtain ⟨hS1, hS2⟩ := hSw; go_simp; try with_reducible rfl)
  simp only [Act.put, List.setIfInBounds_toArray, List.set_cons_zero, List.set_cons_succ]
  refine takeH (i := 9) (some 31) (v := ?_) rfl rfl (by kernel_rfl) (by kernel_rfl) (by kernel_rfl) (fun _ _ _ h => h) (by rfl) ?_ (by assumption) ?_
  rotate_left
  · (intro w hSw; (try dsimp only at hSw); obtain ⟨hS1, hS2⟩ := hSw; go_simp; try with_reducible rfl)
  simp only [Act.put, List.setIfInBounds_toArray, List.set_cons_zero, List.set_cons_succ]
  refine takeH (i := 10) (some 32) (v := ?_) rfl rfl (by kernel_rfl) (by kernel_rfl) (by kernel_rfl) (fun _ _ _ h => h) (by rfl) ?_ (by assumption) ?_
  rotate_left
  · (intro w hSw; (try dsimp only at hSw); obtain ⟨hS1, hS2⟩ := hSw; go_simp; try with_reducible rfl)
  simp only [Act.put, List.setIfInBounds_toArray, List.set_cons_zero, List.set_cons_succ]
  refine takeH (i := 11) (some 33) (v := ?_) rfl rfl (by kernel_rfl) (by kernel_rfl) (by kernel_rfl) (fun _ _ _ h => h) (by rfl) ?_ (by assumption) ?_
  rotate_left
  · (intro w hSw; (try dsimp only at hSw); obtain ⟨hS1, hS2⟩ := hSw; go_simp; try with_reducible rfl)
  simp only [Act.put, List.setIfInBounds_toArray, List.set_cons_zero, List.set_cons_succ]
  refine takeH (i := 12) (some 34) (v := ?_) rfl rfl (by kernel_rfl) (by kernel_rfl) (by kernel_rfl) (fun _ _ _ h => h) (by rfl) ?_ (by assumption) ?_
  rotate_left
  · (intro w hSw; (try dsimp only at hSw); obtain ⟨hS1, hS2⟩ := hSw; go_simp; try with_reducible rfl)
  simp only [Act.put, List.setIfInBounds_toArray, List.set_cons_zero, List.set_cons_succ]
  refine takeH (i := 15) (some 37) (v := ?_) rfl rfl (by kernel_rfl) (by kernel_rfl) (by kernel_rfl) (fun _ _ _ h => h) (by rfl) ?_ (by assumption) ?_
  rotate_left
  · (intro w hSw; (refine exec_row 53 (.tmp 5) ?_ _ ?_ 53 R0 (0, 0) _ hSw.2 Try.underlying53 rfl hsz.out) <;> rfl)
  simp only [Act.put, List.setIfInBounds_toArray, List.set_cons_zero, List.set_cons_succ]
  refine wpAnyH_ready (rs := [5, 13, 16]) (by kernel_rfl) (by simp) ?_
  refine AllReadyH.cons rfl (fun K hK => ?_) (AllReadyH.cons rfl (fun K hK => ?_) (AllReadyH.cons rfl (fun K hK => ?_) AllReadyH.nil))
  · go_simp
    obtain ⟨eb, heb⟩ : ∃ x, x = wX0.heap.size := ⟨_, rfl⟩
    obtain ⟨wX1, hX⟩ : ∃ x, x = wX0.alloc (.cells #[] 53) := ⟨_, rfl⟩
    have BX1 : Hid (Below w1.heap.size w1 wX1) := by rw [hX]; exact BX0.out.alloc BX0.out.size _
    have OE : Hid (wX1.ownsRow w1.heap.size 53 32 (.slice (some ⟨eb, 0, none⟩) 0 0) 0 []) := by rw [hX, heb]; exact World.ownsRow_made _ #[] 0 BX0.out.size (by simp) (by simp)
    have ebl : Hid (w1.heap.size ≤ eb) := by rw [heb]; exact BX0.out.size
    have ebw : Hid (eb < wX1.heap.size) := by rw [hX, heb]; simp [Hid]
    rw [← heb, ← hX]
    clear hX heb
    refine hK _ _ (HS.out _ BX1.out) (fun hHeld => ?_)
    clear hK K
    try simp only [Act.put, List.setIfInBounds_toArray, List.set_cons_zero, List.set_cons_succ]
    refine wpAnyH_ready (rs := [13, 16]) (by kernel_rfl) (by simp) ?_
    refine AllReadyH.cons rfl (fun K hK => ?_) (AllReadyH.cons rfl (fun K hK => ?_) AllReadyH.nil)
    · have hcv := (HW.out _ BX1.out).2.2.1
      go_simp
      clear hcv
      refine hK _ _ (HS.out _ BX1.out) (fun hHeld => ?_)
      clear hK K
      try simp only [Act.put, List.setIfInBounds_toArray, List.set_cons_zero, List.set_cons_succ]
      refine wpAnyH_ready (rs := [14, 16]) (by kernel_rfl) (by simp) ?_
      refine AllReadyH.cons rfl (fun K hK => ?_) (AllReadyH.cons rfl (fun K hK => ?_) AllReadyH.nil)
      · refine step_append_src rfl (.tmp 27) (.tmp 35) 52 rfl w1.heap.size 53 i0 _ 32 32 Try.underlying52 hi0 hz0 hz1 hz2 (by decide) (by decide) (.slice (some ⟨eb, 0, none⟩) 0 0) 0 [] rfl OE.out A0 m cA (secsV vold) rfl Hlen.out (HW.out _ BX1.out).2.2.2.2.1 (HW.out _ BX1.out).2.2.2.2.2 Hone.out (by unfold maxLen; omega) (by omega) BX1.out.size m (by omega) ?_
        intro A1 c1 wX3 ho hg hor
        have BX3 : Hid (Below w1.heap.size w1 wX3) := BX1.out.grown hg BX1.out.size (fun j e => by cases e; exact ebl.out)
        have OA : Hid (wX3.ownsRow w1.heap.size 53 32 (.slice A1 m c1) m (secsV vold)) := by rw [List.nil_append] at ho; exact ho
        clear ho hg hor
        refine hK _ _ (HS.out _ BX3.out) (fun hHeld => ?_)
        clear hK K
        try simp only [Act.put, List.setIfInBounds_toArray, List.set_cons_zero, List.set_cons_succ]
        refine wpAnyH_ready (rs := [16]) (by kernel_rfl) (by simp) ?_
        refine AllReadyH.cons rfl (fun K hK => ?_) AllReadyH.nil
        refine step_of rfl (wp_slice53 (.tmp 37) 52 Try.underlying52 rfl R0 rfl i0 hi0 hz0 hz1 F53.out ?_)
        obtain ⟨sb, hsb⟩ : ∃ x, x = wX3.heap.size := ⟨_, rfl⟩
        obtain ⟨wX4, hX⟩ : ∃ x, x = wX3.alloc (.cells R0 53) := ⟨_, rfl⟩
        have BX4 : Hid (Below w1.heap.size w1 wX4) := by rw [hX]; exact BX3.out.alloc BX3.out.size _
        have OA : Hid (wX4.ownsRow w1.heap.size 53 32 (.slice A1 m c1) m (secsV vold)) := by rw [hX]; exact OA.out.alloc _
        have SS : Hid (∀ j u, R0.toList[j]? = some u → wX4.cell? ((⟨sb, 0, none⟩ : Addr).add j) = some u) := by rw [hX, hsb]; exact fun j u hu => cells_new wX3 R0.toList 53 j u hu
        have sbl : Hid (sb < wX4.heap.size) := by rw [hX, hsb]; simp [Hid]
        rw [← hsb, ← hX]
        clear hX hsb
        refine hK _ _ (HS.out _ BX4.out) (fun hHeld => ?_)
        clear hK K
        try simp only [Act.put, List.setIfInBounds_toArray, List.set_cons_zero, List.set_cons_succ]
        refine wpAnyH_ready (rs := [17]) (by kernel_rfl) (by simp) ?_
        refine AllReadyH.cons rfl (fun K hK => ?_) AllReadyH.nil
        refine step_append_src rfl (.tmp 36) (.tmp 38) 52 rfl w1.heap.size 53 i0 _ 32 32 Try.underlying52 hi0 hz0 hz1 hz2 (by decide) (by decide) (.slice A1 m c1) m (secsV vold) rfl OA.out (some ⟨sb, 0, none⟩) 1 1 R0.toList rfl HRl.out (fun ad e => by cases e; exact SS.out) (fun e => by cases e) HR1.out (by unfold maxLen; omega) (by omega) BX4.out.size (m + 1) rfl ?_
        intro A2 c2 wX5 ho hg hor
        have BX5 : Hid (Below w1.heap.size w1 wX5) := BX4.out.grown hg BX4.out.size (fun j e => (OA.out.lt j e).1)
        have OB := Lib.hid ho
        clear ho hg hor
        refine hK _ _ (HS.out _ BX5.out) (fun hHeld => ?_)
        clear hK K
        try simp only [Act.put, List.setIfInBounds_toArray, List.set_cons_zero, List.set_cons_succ]
        refine takeH (i := 18) (some 40) (v := ?_) rfl rfl (by kernel_rfl) (by kernel_rfl) (by kernel_rfl) (fun _ _ _ h => h) (by rfl) ?_ (by assumption) ?_
        rotate_left
        · (intro w hSw; (try dsimp only at hSw); obtain ⟨hS1, hS2⟩ := hSw; go_simp; try with_reducible rfl)
        simp only [Act.put, List.setIfInBounds_toArray, List.set_cons_zero, List.set_cons_succ]
        refine takeH (i := 19) (some 41) (v := ?_) rfl rfl (by kernel_rfl) (by kernel_rfl) (by kernel_rfl) (fun _ _ _ h => h) (by rfl) ?_ (by assumption) ?_
        rotate_left
        · (intro w hSw; (try dsimp only at hSw); obtain ⟨hS1, hS2⟩ := hSw; go_simp; try with_reducible rfl)
        simp only [Act.put, List.setIfInBounds_toArray, List.set_cons_zero, List.set_cons_succ]
        refine wpAnyH_ready (rs := [20]) (by kernel_rfl) (by simp) ?_
        refine AllReadyH.cons rfl (fun K hK => ?_) AllReadyH.nil
        have hcv := (HW.out _ BX5.out).2.2.1
        have hfz := (HW.out _ BX5.out).2.2.2.1
        go_simp
        refine hK _ _ (HF.out _ _ BX5.out) (fun hHeld => ?_)
        clear hK K hcv hfz
        try simp only [Act.put, List.setIfInBounds_toArray, List.set_cons_zero, List.set_cons_succ]
        refine wpAnyH_done (by kernel_rfl) ?_ _
        go_wp2
        go_ret
        exact ⟨rfl, HE.out _ A2 c2 BX5.out OB.out⟩
      · refine step_of rfl (wp_slice53 (.tmp 37) 52 Try.underlying52 rfl R0 rfl i0 hi0 hz0 hz1 F53.out ?_)
        obtain ⟨sb, hsb⟩ : ∃ x, x = wX1.heap.size := ⟨_, rfl⟩
        obtain ⟨wX3, hX⟩ : ∃ x, x = wX1.alloc (.cells R0 53) := ⟨_, rfl⟩
        have BX3 : Hid (Below w1.heap.size w1 wX3) := by rw [hX]; exact BX1.out.alloc BX1.out.size _
        have OE : Hid (wX3.ownsRow w1.heap.size 53 32 (.slice (some ⟨eb, 0, none⟩) 0 0) 0 []) := by rw [hX]; exact OE.out.alloc _
        have SS : Hid (∀ j u, R0.toList[j]? = some u → wX3.cell? ((⟨sb, 0, none⟩ : Addr).add j) = some u) := by rw [hX, hsb]; exact fun j u hu => cells_new wX1 R0.toList 53 j u hu
        have sbl : Hid (sb < wX3.heap.size) := by rw [hX, hsb]; simp [Hid]
        have hne : Hid (sb ≠ eb) := by have := ebw.out; rw [hsb]; unfold Hid; omega
        rw [← hsb, ← hX]
        clear hX hsb
        refine hK _ _ (HS.out _ BX3.out) (fun hHeld => ?_)
        clear hK K
        try simp only [Act.put, List.setIfInBounds_toArray, List.set_cons_zero, List.set_cons_succ]
        refine wpAnyH_ready (rs := [14]) (by kernel_rfl) (by simp) ?_
        refine AllReadyH.cons rfl (fun K hK => ?_) AllReadyH.nil
        refine step_append_src rfl (.tmp 27) (.tmp 35) 52 rfl w1.heap.size 53 i0 _ 32 32 Try.underlying52 hi0 hz0 hz1 hz2 (by decide) (by decide) (.slice (some ⟨eb, 0, none⟩) 0 0) 0 [] rfl OE.out A0 m cA (secsV vold) rfl Hlen.out (HW.out _ BX3.out).2.2.2.2.1 (HW.out _ BX3.out).2.2.2.2.2 Hone.out (by unfold maxLen; omega) (by omega) BX3.out.size m (by omega) ?_
        intro A1 c1 wX4 ho hg hor
        have BX4 : Hid (Below w1.heap.size w1 wX4) := BX3.out.grown hg BX3.out.size (fun j e => by cases e; exact ebl.out)
        have OA : Hid (wX4.ownsRow w1.heap.size 53 32 (.slice A1 m c1) m (secsV vold)) := by rw [List.nil_append] at ho; exact ho
        have SS : Hid (∀ j u, R0.toList[j]? = some u → wX4.cell? ((⟨sb, 0, none⟩ : Addr).add j) = some u) := fun j u hu => by rw [add_plain', World.cell?_of_block (a := ⟨sb, 0 + j, none⟩) (hg.block sb sbl.out (by simp [Value.ownBlock]; exact hne.out)), ← add_plain']; exact SS.out j u hu
        have sbl : Hid (sb < wX4.heap.size) := Nat.lt_of_lt_of_le sbl.out hg.size
        clear ho hg hor
        refine hK _ _ (HS.out _ BX4.out) (fun hHeld => ?_)
        clear hK K
        try simp only [Act.put, List.setIfInBounds_toArray, List.set_cons_zero, List.set_cons_succ]
        refine wpAnyH_ready (rs := [17]) (by kernel_rfl) (by simp) ?_
        refine AllReadyH.cons rfl (fun K hK => ?_) AllReadyH.nil
        refine step_append_src rfl (.tmp 36) (.tmp 38) 52 rfl w1.heap.size 53 i0 _ 32 32 Try.underlying52 hi0 hz0 hz1 hz2 (by decide) (by decide) (.slice A1 m c1) m (secsV vold) rfl OA.out (some ⟨sb, 0, none⟩) 1 1 R0.toList rfl HRl.out (fun ad e => by cases e; exact SS.out) (fun e => by cases e) HR1.out (by unfold maxLen; omega) (by omega) BX4.out.size (m + 1) rfl ?_
        intro A2 c2 wX5 ho hg hor
        have BX5 : Hid (Below w1.heap.size w1 wX5) := BX4.out.grown hg BX4.out.size (fun j e => (OA.out.lt j e).1)
        have OB := Lib.hid ho
        clear ho hg hor
        refine hK _ _ (HS.out _ BX5.out) (fun hHeld => ?_)
        clear hK K
        try simp only [Act.put, List.setIfInBounds_toArray, List.set_cons_zero, List.set_cons_succ]
        refine takeH (i := 18) (some 40) (v := ?_) rfl rfl (by kernel_rfl) (by kernel_rfl) (by kernel_rfl) (fun _ _ _ h => h) (by rfl) ?_ (by assumption) ?_
        rotate_left
        · (intro w hSw; (try dsimp only at hSw); obtain ⟨hS1, hS2⟩ := hSw; go_simp; try with_reducible rfl)
        simp only [Act.put, List.setIfInBounds_toArray, List.set_cons_zero, List.set_cons_succ]
        refine takeH (i := 19) (some 41) (v := ?_) rfl rfl (by kernel_rfl) (by kernel_rfl) (by kernel_rfl) (fun _ _ _ h => h) (by rfl) ?_ (by assumption) ?_
        rotate_left
        · (intro w hSw; (try dsimp only at hSw); obtain ⟨hS1, hS2⟩ := hSw; go_simp; try with_reducible rfl)
        simp only [Act.put, List.setIfInBounds_toArray, List.set_cons_zero, List.set_cons_succ]
        refine wpAnyH_ready (rs := [20]) (by kernel_rfl) (by simp) ?_
        refine AllReadyH.cons rfl (fun K hK => ?_) AllReadyH.nil
        have hcv := (HW.out _ BX5.out).2.2.1
        have hfz := (HW.out _ BX5.out).2.2.2.1
        go_simp
        refine hK _ _ (HF.out _ _ BX5.out) (fun hHeld => ?_)
        clear hK K hcv hfz
        try simp only [Act.put, List.setIfInBounds_toArray, List.set_cons_zero, List.set_cons_succ]
        refine wpAnyH_done (by kernel_rfl) ?_ _
        go_wp2
        go_ret
        exact ⟨rfl, HE.out _ A2 c2 BX5.out OB.out⟩
    · refine step_of rfl (wp_slice53 (.tmp 37) 52 Try.underlying52 rfl R0 rfl i0 hi0 hz0 hz1 F53.out ?_)
      obtain ⟨sb, hsb⟩ : ∃ x, x = wX1.heap.size := ⟨_, rfl⟩
      obtain ⟨wX2, hX⟩ : ∃ x, x = wX1.alloc (.cells R0 53) := ⟨_, rfl⟩
      have BX2 : Hid (Below w1.heap.size w1 wX2) := by rw [hX]; exact BX1.out.alloc BX1.out.size _
      have OE : Hid (wX2.ownsRow w1.heap.size 53 32 (.slice (some ⟨eb, 0, none⟩) 0 0) 0 []) := by rw [hX]; exact OE.out.alloc _
      have SS : Hid (∀ j u, R0.toList[j]? = some u → wX2.cell? ((⟨sb, 0, none⟩ : Addr).add j) = some u) := by rw [hX, hsb]; exact fun j u hu => cells_new wX1 R0.toList 53 j u hu
      have sbl : Hid (sb < wX2.heap.size) := by rw [hX, hsb]; simp [Hid]
      have hne : Hid (sb ≠ eb) := by have := ebw.out; rw [hsb]; unfold Hid; omega
      rw [← hsb, ← hX]
      clear hX hsb
      refine hK _ _ (HS.out _ BX2.out) (fun hHeld => ?_)
      clear hK K
      try simp only [Act.put, List.setIfInBounds_toArray, List.set_cons_zero, List.set_cons_succ]
      refine wpAnyH_ready (rs := [13]) (by kernel_rfl) (by simp) ?_
      refine AllReadyH.cons rfl (fun K hK => ?_) AllReadyH.nil
      have hcv := (HW.out _ BX2.out).2.2.1
      go_simp
      clear hcv
      refine hK _ _ (HS.out _ BX2.out) (fun hHeld => ?_)
      clear hK K
      try simp only [Act.put, List.setIfInBounds_toArray, List.set_cons_zero, List.set_cons_succ]
      refine wpAnyH_ready (rs := [14]) (by kernel_rfl) (by simp) ?_
      refine AllReadyH.cons rfl (fun K hK => ?_) AllReadyH.nil
      refine step_append_src rfl (.tmp 27) (.tmp 35) 52 rfl w1.heap.size 53 i0 _ 32 32 Try.underlying52 hi0 hz0 hz1 hz2 (by decide) (by decide) (.slice (some ⟨eb, 0, none⟩) 0 0) 0 [] rfl OE.out A0 m cA (secsV vold) rfl Hlen.out (HW.out _ BX2.out).2.2.2.2.1 (HW.out _ BX2.out).2.2.2.2.2 Hone.out (by unfold maxLen; omega) (by omega) BX2.out.size m (by omega) ?_
      intro A1 c1 wX4 ho hg hor
      have BX4 : Hid (Below w1.heap.size w1 wX4) := BX2.out.grown hg BX2.out.size (fun j e => by cases e; exact ebl.out)
      have OA : Hid (wX4.ownsRow w1.heap.size 53 32 (.slice A1 m c1) m (secsV vold)) := by rw [List.nil_append] at ho; exact ho
      have SS : Hid (∀ j u, R0.toList[j]? = some u → wX4.cell? ((⟨sb, 0, none⟩ : Addr).add j) = some u) := fun j u hu => by rw [add_plain', World.cell?_of_block (a := ⟨sb, 0 + j, none⟩) (hg.block sb sbl.out (by simp [Value.ownBlock]; exact hne.out)), ← add_plain']; exact SS.out j u hu
      have sbl : Hid (sb < wX4.heap.size) := Nat.lt_of_lt_of_le sbl.out hg.size
      clear ho hg hor
      refine hK _ _ (HS.out _ BX4.out) (fun hHeld => ?_)
      clear hK K
      try simp only [Act.put, List.setIfInBounds_toArray, List.set_cons_zero, List.set_cons_succ]
      refine wpAnyH_ready (rs := [17]) (by kernel_rfl) (by simp) ?_
      refine AllReadyH.cons rfl (fun K hK => ?_) AllReadyH.nil
      refine step_append_src rfl (.tmp 36) (.tmp 38) 52 rfl w1.heap.size 53 i0 _ 32 32 Try.underlying52 hi0 hz0 hz1 hz2 (by decide) (by decide) (.slice A1 m c1) m (secsV vold) rfl OA.out (some ⟨sb, 0, none⟩) 1 1 R0.toList rfl HRl.out (fun ad e => by cases e; exact SS.out) (fun e => by cases e) HR1.out (by unfold maxLen; omega) (by omega) BX4.out.size (m + 1) rfl ?_
      intro A2 c2 wX5 ho hg hor
      have BX5 : Hid (Below w1.heap.size w1 wX5) := BX4.out.grown hg BX4.out.size (fun j e => (OA.out.lt j e).1)
      have OB := Lib.hid ho
      clear ho hg hor
      refine hK _ _ (HS.out _ BX5.out) (fun hHeld => ?_)
      clear hK K
      try simp only [Act.put, List.setIfInBounds_toArray, List.set_cons_zero, List.set_cons_succ]
      refine takeH (i := 18) (some 40) (v := ?_) rfl rfl (by kernel_rfl) (by kernel_rfl) (by kernel_rfl) (fun _ _ _ h => h) (by rfl) ?_ (by assumption) ?_
      rotate_left
      · (intro w hSw; (try dsimp only at hSw); obtain ⟨hS1, hS2⟩ := hSw; go_simp; try with_reducible rfl)
      simp only [Act.put, List.setIfInBounds_toArray, List.set_cons_zero, List.set_cons_succ]
      refine takeH (i := 19) (some 41) (v := ?_) rfl rfl (by kernel_rfl) (by kernel_rfl) (by kernel_rfl) (fun _ _ _ h => h) (by rfl) ?_ (by assumption) ?_
      rotate_left
      · (intro w hSw; (try dsimp only at hSw); obtain ⟨hS1, hS2⟩ := hSw; go_simp; try with_reducible rfl)
      simp only [Act.put, List.setIfInBounds_toArray, List.set_cons_zero, List.set_cons_succ]
      refine wpAnyH_ready (rs := [20]) (by kernel_rfl) (by simp) ?_
      refine AllReadyH.cons rfl (fun K hK => ?_) AllReadyH.nil
      have hcv := (HW.out _ BX5.out).2.2.1
      have hfz := (HW.out _ BX5.out).2.2.2.1
      go_simp
      refine hK _ _ (HF.out _ _ BX5.out) (fun hHeld => ?_)
      clear hK K hcv hfz
      try simp only [Act.put, List.setIfInBounds_toArray, List.set_cons_zero, List.set_cons_succ]
      refine wpAnyH_done (by kernel_rfl) ?_ _
      go_wp2
      go_ret
      exact ⟨rfl, HE.out _ A2 c2 BX5.out OB.out⟩
  · have hcv := (HW.out _ BX0.out).2.2.1
    go_simp
    clear hcv
    refine hK _ _ (HS.out _ BX0.out) (fun hHeld => ?_)
    clear hK K
    try simp only [Act.put, List.setIfInBounds_toArray, List.set_cons_zero, List.set_cons_succ]
    refine wpAnyH_ready (rs := [5, 16]) (by kernel_rfl) (by simp) ?_
    refine AllReadyH.cons rfl (fun K hK => ?_) (AllReadyH.cons rfl (fun K hK => ?_) AllReadyH.nil)
    · go_simp
      obtain ⟨eb, heb⟩ : ∃ x, x = wX0.heap.size := ⟨_, rfl⟩
      obtain ⟨wX2, hX⟩ : ∃ x, x = wX0.alloc (.cells #[] 53) := ⟨_, rfl⟩
      have BX2 : Hid (Below w1.heap.size w1 wX2) := by rw [hX]; exact BX0.out.alloc BX0.out.size _
      have OE : Hid (wX2.ownsRow w1.heap.size 53 32 (.slice (some ⟨eb, 0, none⟩) 0 0) 0 []) := by rw [hX, heb]; exact World.ownsRow_made _ #[] 0 BX0.out.size (by simp) (by simp)
      have ebl : Hid (w1.heap.size ≤ eb) := by rw [heb]; exact BX0.out.size
      have ebw : Hid (eb < wX2.heap.size) := by rw [hX, heb]; simp [Hid]
      rw [← heb, ← hX]
      clear hX heb
      refine hK _ _ (HS.out _ BX2.out) (fun hHeld => ?_)
      clear hK K
      try simp only [Act.put, List.setIfInBounds_toArray, List.set_cons_zero, List.set_cons_succ]
      refine wpAnyH_ready (rs := [14, 16]) (by kernel_rfl) (by simp) ?_
      refine AllReadyH.cons rfl (fun K hK => ?_) (AllReadyH.cons rfl (fun K hK => ?_) AllReadyH.nil)
      · refine step_append_src rfl (.tmp 27) (.tmp 35) 52 rfl w1.heap.size 53 i0 _ 32 32 Try.underlying52 hi0 hz0 hz1 hz2 (by decide) (by decide) (.slice (some ⟨eb, 0, none⟩) 0 0) 0 [] rfl OE.out A0 m cA (secsV vold) rfl Hlen.out (HW.out _ BX2.out).2.2.2.2.1 (HW.out _ BX2.out).2.2.2.2.2 Hone.out (by unfold maxLen; omega) (by omega) BX2.out.size m (by omega) ?_
        intro A1 c1 wX3 ho hg hor
        have BX3 : Hid (Below w1.heap.size w1 wX3) := BX2.out.grown hg BX2.out.size (fun j e => by cases e; exact ebl.out)
        have OA : Hid (wX3.ownsRow w1.heap.size 53 32 (.slice A1 m c1) m (secsV vold)) := by rw [List.nil_append] at ho; exact ho
        clear ho hg hor
        refine hK _ _ (HS.out _ BX3.out) (fun hHeld => ?_)
        clear hK K
        try simp only [Act.put, List.setIfInBounds_toArray, List.set_cons_zero, List.set_cons_succ]
        refine wpAnyH_ready (rs := [16]) (by kernel_rfl) (by simp) ?_
        refine AllReadyH.cons rfl (fun K hK => ?_) AllReadyH.nil
        refine step_of rfl (wp_slice53 (.tmp 37) 52 Try.underlying52 rfl R0 rfl i0 hi0 hz0 hz1 F53.out ?_)
        obtain ⟨sb, hsb⟩ : ∃ x, x = wX3.heap.size := ⟨_, rfl⟩
        obtain ⟨wX4, hX⟩ : ∃ x, x = wX3.alloc (.cells R0 53) := ⟨_, rfl⟩
        have BX4 : Hid (Below w1.heap.size w1 wX4) := by rw [hX]; exact BX3.out.alloc BX3.out.size _
        have OA : Hid (wX4.ownsRow w1.heap.size 53 32 (.slice A1 m c1) m (secsV vold)) := by rw [hX]; exact OA.out.alloc _
        have SS : Hid (∀ j u, R0.toList[j]? = some u → wX4.cell? ((⟨sb, 0, none⟩ : Addr).add j) = some u) := by rw [hX, hsb]; exact fun j u hu => cells_new wX3 R0.toList 53 j u hu
        have sbl : Hid (sb < wX4.heap.size) := by rw [hX, hsb]; simp [Hid]
        rw [← hsb, ← hX]
        clear hX hsb
        refine hK _ _ (HS.out _ BX4.out) (fun hHeld => ?_)
        clear hK K
        try simp only [Act.put, List.setIfInBounds_toArray, List.set_cons_zero, List.set_cons_succ]
        refine wpAnyH_ready (rs := [17]) (by kernel_rfl) (by simp) ?_
        refine AllReadyH.cons rfl (fun K hK => ?_) AllReadyH.nil
        refine step_append_src rfl (.tmp 36) (.tmp 38) 52 rfl w1.heap.size 53 i0 _ 32 32 Try.underlying52 hi0 hz0 hz1 hz2 (by decide) (by decide) (.slice A1 m c1) m (secsV vold) rfl OA.out (some ⟨sb, 0, none⟩) 1 1 R0.toList rfl HRl.out (fun ad e => by cases e; exact SS.out) (fun e => by cases e) HR1.out (by unfold maxLen; omega) (by omega) BX4.out.size (m + 1) rfl ?_
        intro A2 c2 wX5 ho hg hor
        have BX5 : Hid (Below w1.heap.size w1 wX5) := BX4.out.grown hg BX4.out.size (fun j e => (OA.out.lt j e).1)
        have OB := Lib.hid ho
        clear ho hg hor
        refine hK _ _ (HS.out _ BX5.out) (fun hHeld => ?_)
        clear hK K
        try simp only [Act.put, List.setIfInBounds_toArray, List.set_cons_zero, List.set_cons_succ]
        refine takeH (i := 18) (some 40) (v := ?_) rfl rfl (by kernel_rfl) (by kernel_rfl) (by kernel_rfl) (fun _ _ _ h => h) (by rfl) ?_ (by assumption) ?_
        rotate_left
        · (intro w hSw; (try dsimp only at hSw); obtain ⟨hS1, hS2⟩ := hSw; go_simp; try with_reducible rfl)
        simp only [Act.put, List.setIfInBounds_toArray, List.set_cons_zero, List.set_cons_succ]
        refine takeH (i := 19) (some 41) (v := ?_) rfl rfl (by kernel_rfl) (by kernel_rfl) (by kernel_rfl) (fun _ _ _ h => h) (by rfl) ?_ (by assumption) ?_
        rotate_left
        · (intro w hSw; (try dsimp only at hSw); obtain ⟨hS1, hS2⟩ := hSw; go_simp; try with_reducible rfl)
        simp only [Act.put, List.setIfInBounds_toArray, List.set_cons_zero, List.set_cons_succ]
        refine wpAnyH_ready (rs := [20]) (by kernel_rfl) (by simp) ?_
        refine AllReadyH.cons rfl (fun K hK => ?_) AllReadyH.nil
        have hcv := (HW.out _ BX5.out).2.2.1
        have hfz := (HW.out _ BX5.out).2.2.2.1
        go_simp
        refine hK _ _ (HF.out _ _ BX5.out) (fun hHeld => ?_)
        clear hK K hcv hfz
        try simp only [Act.put, List.setIfInBounds_toArray, List.set_cons_zero, List.set_cons_succ]
        refine wpAnyH_done (by kernel_rfl) ?_ _
        go_wp2
        go_ret
        exact ⟨rfl, HE.out _ A2 c2 BX5.out OB.out⟩
      · refine step_of rfl (wp_slice53 (.tmp 37) 52 Try.underlying52 rfl R0 rfl i0 hi0 hz0 hz1 F53.out ?_)
        obtain ⟨sb, hsb⟩ : ∃ x, x = wX2.heap.size := ⟨_, rfl⟩
        obtain ⟨wX3, hX⟩ : ∃ x, x = wX2.alloc (.cells R0 53) := ⟨_, rfl⟩
        have BX3 : Hid (Below w1.heap.size w1 wX3) := by rw [hX]; exact BX2.out.alloc BX2.out.size _
        have OE : Hid (wX3.ownsRow w1.heap.size 53 32 (.slice (some ⟨eb, 0, none⟩) 0 0) 0 []) := by rw [hX]; exact OE.out.alloc _
        have SS : Hid (∀ j u, R0.toList[j]? = some u → wX3.cell? ((⟨sb, 0, none⟩ : Addr).add j) = some u) := by rw [hX, hsb]; exact fun j u hu => cells_new wX2 R0.toList 53 j u hu
        have sbl : Hid (sb < wX3.heap.size) := by rw [hX, hsb]; simp [Hid]
        have hne : Hid (sb ≠ eb) := by have := ebw.out; rw [hsb]; unfold Hid; omega
        rw [← hsb, ← hX]
        clear hX hsb
        refine hK _ _ (HS.out _ BX3.out) (fun hHeld => ?_)
        clear hK K
        try simp only [Act.put, List.setIfInBounds_toArray, List.set_cons_zero, List.set_cons_succ]
        refine wpAnyH_ready (rs := [14]) (by kernel_rfl) (by simp) ?_
        refine AllReadyH.cons rfl (fun K hK => ?_) AllReadyH.nil
        refine step_append_src rfl (.tmp 27) (.tmp 35) 52 rfl w1.heap.size 53 i0 _ 32 32 Try.underlying52 hi0 hz0 hz1 hz2 (by decide) (by decide) (.slice (some ⟨eb, 0, none⟩) 0 0) 0 [] rfl OE.out A0 m cA (secsV vold) rfl Hlen.out (HW.out _ BX3.out).2.2.2.2.1 (HW.out _ BX3.out).2.2.2.2.2 Hone.out (by unfold maxLen; omega) (by omega) BX3.out.size m (by omega) ?_
        intro A1 c1 wX4 ho hg hor
        have BX4 : Hid (Below w1.heap.size w1 wX4) := BX3.out.grown hg BX3.out.size (fun j e => by cases e; exact ebl.out)
        have OA : Hid (wX4.ownsRow w1.heap.size 53 32 (.slice A1 m c1) m (secsV vold)) := by rw [List.nil_append] at ho; exact ho
        have SS : Hid (∀ j u, R0.toList[j]? = some u → wX4.cell? ((⟨sb, 0, none⟩ : Addr).add j) = some u) := fun j u hu => by rw [add_plain', World.cell?_of_block (a := ⟨sb, 0 + j, none⟩) (hg.block sb sbl.out (by simp [Value.ownBlock]; exact hne.out)), ← add_plain']; exact SS.out j u hu
        have sbl : Hid (sb < wX4.heap.size) := Nat.lt_of_lt_of_le sbl.out hg.size
        clear ho hg hor
        refine hK _ _ (HS.out _ BX4.out) (fun hHeld => ?_)
        clear hK K
        try simp only [Act.put, List.setIfInBounds_toArray, List.set_cons_zero, List.set_cons_succ]
        refine wpAnyH_ready (rs := [17]) (by kernel_rfl) (by simp) ?_
        refine AllReadyH.cons rfl (fun K hK => ?_) AllReadyH.nil
        refine step_append_src rfl (.tmp 36) (.tmp 38) 52 rfl w1.heap.size 53 i0 _ 32 32 Try.underlying52 hi0 hz0 hz1 hz2 (by decide) (by decide) (.slice A1 m c1) m (secsV vold) rfl OA.out (some ⟨sb, 0, none⟩) 1 1 R0.toList rfl HRl.out (fun ad e => by cases e; exact SS.out) (fun e => by cases e) HR1.out (by unfold maxLen; omega) (by omega) BX4.out.size (m + 1) rfl ?_
        intro A2 c2 wX5 ho hg hor
        have BX5 : Hid (Below w1.heap.size w1 wX5) := BX4.out.grown hg BX4.out.size (fun j e => (OA.out.lt j e).1)
        have OB := Lib.hid ho
        clear ho hg hor
        refine hK _ _ (HS.out _ BX5.out) (fun hHeld => ?_)
        clear hK K
        try simp only [Act.put, List.setIfInBounds_toArray, List.set_cons_zero, List.set_cons_succ]
        refine takeH (i := 18) (some 40) (v := ?_) rfl rfl (by kernel_rfl) (by kernel_rfl) (by kernel_rfl) (fun _ _ _ h => h) (by rfl) ?_ (by assumption) ?_
        rotate_left
        · (intro w hSw; (try dsimp only at hSw); obtain ⟨hS1, hS2⟩ := hSw; go_simp; try with_reducible rfl)
        simp only [Act.put, List.setIfInBounds_toArray, List.set_cons_zero, List.set_cons_succ]
        refine takeH (i := 19) (some 41) (v := ?_) rfl rfl (by kernel_rfl) (by kernel_rfl) (by kernel_rfl) (fun _ _ _ h => h) (by rfl) ?_ (by assumption) ?_
        rotate_left
        · (intro w hSw; (try dsimp only at hSw); obtain ⟨hS1, hS2⟩ := hSw; go_simp; try with_reducible rfl)
        simp only [Act.put, List.setIfInBounds_toArray, List.set_cons_zero, List.set_cons_succ]
        refine wpAnyH_ready (rs := [20]) (by kernel_rfl) (by simp) ?_
        refine AllReadyH.cons rfl (fun K hK => ?_) AllReadyH.nil
        have hcv := (HW.out _ BX5.out).2.2.1
        have hfz := (HW.out _ BX5.out).2.2.2.1
        go_simp
        refine hK _ _ (HF.out _ _ BX5.out) (fun hHeld => ?_)
        clear hK K hcv hfz
        try simp only [Act.put, List.setIfInBounds_toArray, List.set_cons_zero, List.set_cons_succ]
        refine wpAnyH_done (by kernel_rfl) ?_ _
        go_wp2
        go_ret
        exact ⟨rfl, HE.out _ A2 c2 BX5.out OB.out⟩
    · refine step_of rfl (wp_slice53 (.tmp 37) 52 Try.underlying52 rfl R0 rfl i0 hi0 hz0 hz1 F53.out ?_)
      obtain ⟨sb, hsb⟩ : ∃ x, x = wX0.heap.size := ⟨_, rfl⟩
      obtain ⟨wX2, hX⟩ : ∃ x, x = wX0.alloc (.cells R0 53) := ⟨_, rfl⟩
      have BX2 : Hid (Below w1.heap.size w1 wX2) := by rw [hX]; exact BX0.out.alloc BX0.out.size _
      have SS : Hid (∀ j u, R0.toList[j]? = some u → wX2.cell? ((⟨sb, 0, none⟩ : Addr).add j) = some u) := by rw [hX, hsb]; exact fun j u hu => cells_new wX0 R0.toList 53 j u hu
      have sbl : Hid (sb < wX2.heap.size) := by rw [hX, hsb]; simp [Hid]
      rw [← hsb, ← hX]
      clear hX hsb
      refine hK _ _ (HS.out _ BX2.out) (fun hHeld => ?_)
      clear hK K
      try simp only [Act.put, List.setIfInBounds_toArray, List.set_cons_zero, List.set_cons_succ]
      refine wpAnyH_ready (rs := [5]) (by kernel_rfl) (by simp) ?_
      refine AllReadyH.cons rfl (fun K hK => ?_) AllReadyH.nil
      have sbp : Hid (sb < wX2.heap.size) := sbl.out
      go_simp
      obtain ⟨eb, heb⟩ : ∃ x, x = wX2.heap.size := ⟨_, rfl⟩
      obtain ⟨wX3, hX⟩ : ∃ x, x = wX2.alloc (.cells #[] 53) := ⟨_, rfl⟩
      have BX3 : Hid (Below w1.heap.size w1 wX3) := by rw [hX]; exact BX2.out.alloc BX2.out.size _
      have SS : Hid (∀ j u, R0.toList[j]? = some u → wX3.cell? ((⟨sb, 0, none⟩ : Addr).add j) = some u) := fun j u hu => by rw [hX, add_plain', World.cell?_of_block (a := ⟨sb, 0 + j, none⟩) (heap_alloc_old wX2 _ sbl.out), ← add_plain']; exact SS.out j u hu
      have sbl : Hid (sb < wX3.heap.size) := by rw [hX]; have := sbl.out; simp [Hid]; omega
      have OE : Hid (wX3.ownsRow w1.heap.size 53 32 (.slice (some ⟨eb, 0, none⟩) 0 0) 0 []) := by rw [hX, heb]; exact World.ownsRow_made _ #[] 0 BX2.out.size (by simp) (by simp)
      have ebl : Hid (w1.heap.size ≤ eb) := by rw [heb]; exact BX2.out.size
      have ebw : Hid (eb < wX3.heap.size) := by rw [hX, heb]; simp [Hid]
      have hne : Hid (sb ≠ eb) := by have := sbp.out; rw [heb]; unfold Hid; omega
      rw [← heb, ← hX]
      clear hX heb
      refine hK _ _ (HS.out _ BX3.out) (fun hHeld => ?_)
      clear hK K
      try simp only [Act.put, List.setIfInBounds_toArray, List.set_cons_zero, List.set_cons_succ]
      refine wpAnyH_ready (rs := [14]) (by kernel_rfl) (by simp) ?_
      refine AllReadyH.cons rfl (fun K hK => ?_) AllReadyH.nil
      refine step_append_src rfl (.tmp 27) (.tmp 35) 52 rfl w1.heap.size 53 i0 _ 32 32 Try.underlying52 hi0 hz0 hz1 hz2 (by decide) (by decide) (.slice (some ⟨eb, 0, none⟩) 0 0) 0 [] rfl OE.out A0 m cA (secsV vold) rfl Hlen.out (HW.out _ BX3.out).2.2.2.2.1 (HW.out _ BX3.out).2.2.2.2.2 Hone.out (by unfold maxLen; omega) (by omega) BX3.out.size m (by omega) ?_
      intro A1 c1 wX4 ho hg hor
      have BX4 : Hid (Below w1.heap.size w1 wX4) := BX3.out.grown hg BX3.out.size (fun j e => by cases e; exact ebl.out)
      have OA : Hid (wX4.ownsRow w1.heap.size 53 32 (.slice A1 m c1) m (secsV vold)) := by rw [List.nil_append] at ho; exact ho
      have SS : Hid (∀ j u, R0.toList[j]? = some u → wX4.cell? ((⟨sb, 0, none⟩ : Addr).add j) = some u) := fun j u hu => by rw [add_plain', World.cell?_of_block (a := ⟨sb, 0 + j, none⟩) (hg.block sb sbl.out (by simp [Value.ownBlock]; exact hne.out)), ← add_plain']; exact SS.out j u hu
      have sbl : Hid (sb < wX4.heap.size) := Nat.lt_of_lt_of_le sbl.out hg.size
      clear ho hg hor
      refine hK _ _ (HS.out _ BX4.out) (fun hHeld => ?_)
      clear hK K
      try simp only [Act.put, List.setIfInBounds_toArray, List.set_cons_zero, List.set_cons_succ]
      refine wpAnyH_ready (rs := [17]) (by kernel_rfl) (by simp) ?_
      refine AllReadyH.cons rfl (fun K hK => ?_) AllReadyH.nil
      refine step_append_src rfl (.tmp 36) (.tmp 38) 52 rfl w1.heap.size 53 i0 _ 32 32 Try.underlying52 hi0 hz0 hz1 hz2 (by decide) (by decide) (.slice A1 m c1) m (secsV vold) rfl OA.out (some ⟨sb, 0, none⟩) 1 1 R0.toList rfl HRl.out (fun ad e => by cases e; exact SS.out) (fun e => by cases e) HR1.out (by unfold maxLen; omega) (by omega) BX4.out.size (m + 1) rfl ?_
      intro A2 c2 wX5 ho hg hor
      have BX5 : Hid (Below w1.heap.size w1 wX5) := BX4.out.grown hg BX4.out.size (fun j e => (OA.out.lt j e).1)
      have OB := Lib.hid ho
      clear ho hg hor
      refine hK _ _ (HS.out _ BX5.out) (fun hHeld => ?_)
      clear hK K
      try simp only [Act.put, List.setIfInBounds_toArray, List.set_cons_zero, List.set_cons_succ]
      refine takeH (i := 18) (some 40) (v := ?_) rfl rfl (by kernel_rfl) (by kernel_rfl) (by kernel_rfl) (fun _ _ _ h => h) (by rfl) ?_ (by assumption) ?_
      rotate_left
      · (intro w hSw; (try dsimp only at hSw); obtain ⟨hS1, hS2⟩ := hSw; go_simp; try with_reducible rfl)
      simp only [Act.put, List.setIfInBounds_toArray, List.set_cons_zero, List.set_cons_succ]
      refine takeH (i := 19) (some 41) (v := ?_) rfl rfl (by kernel_rfl) (by kernel_rfl) (by kernel_rfl) (fun _ _ _ h => h) (by rfl) ?_ (by assumption) ?_
      rotate_left
      · (intro w hSw; (try dsimp only at hSw); obtain ⟨hS1, hS2⟩ := hSw; go_simp; try with_reducible rfl)
      simp only [Act.put, List.setIfInBounds_toArray, List.set_cons_zero, List.set_cons_succ]
      refine wpAnyH_ready (rs := [20]) (by kernel_rfl) (by simp) ?_
      refine AllReadyH.cons rfl (fun K hK => ?_) AllReadyH.nil
      have hcv := (HW.out _ BX5.out).2.2.1
      have hfz := (HW.out _ BX5.out).2.2.2.1
      go_simp
      refine hK _ _ (HF.out _ _ BX5.out) (fun hHeld => ?_)
      clear hK K hcv hfz
      try simp only [Act.put, List.setIfInBounds_toArray, List.set_cons_zero, List.set_cons_succ]
      refine wpAnyH_done (by kernel_rfl) ?_ _
      go_wp2
      go_ret
      exact ⟨rfl, HE.out _ A2 c2 BX5.out OB.out⟩
  · refine step_of rfl (wp_slice53 (.tmp 37) 52 Try.underlying52 rfl R0 rfl i0 hi0 hz0 hz1 F53.out ?_)
    obtain ⟨sb, hsb⟩ : ∃ x, x = wX0.heap.size := ⟨_, rfl⟩
    obtain ⟨wX1, hX⟩ : ∃ x, x = wX0.alloc (.cells R0 53) := ⟨_, rfl⟩
    have BX1 : Hid (Below w1.heap.size w1 wX1) := by rw [hX]; exact BX0.out.alloc BX0.out.size _
    have SS : Hid (∀ j u, R0.toList[j]? = some u → wX1.cell? ((⟨sb, 0, none⟩ : Addr).add j) = some u) := by rw [hX, hsb]; exact fun j u hu => cells_new wX0 R0.toList 53 j u hu
    have sbl : Hid (sb < wX1.heap.size) := by rw [hX, hsb]; simp [Hid]
    rw [← hsb, ← hX]
    clear hX hsb
    refine hK _ _ (HS.out _ BX1.out) (fun hHeld => ?_)
    clear hK K
    try simp only [Act.put, List.setIfInBounds_toArray, List.set_cons_zero, List.set_cons_succ]
    refine wpAnyH_ready (rs := [5, 13]) (by kernel_rfl) (by simp) ?_
    refine AllReadyH.cons rfl (fun K hK => ?_) (AllReadyH.cons rfl (fun K hK => ?_) AllReadyH.nil)
    · have sbp : Hid (sb < wX1.heap.size) := sbl.out
      go_simp
      obtain ⟨eb, heb⟩ : ∃ x, x = wX1.heap.size := ⟨_, rfl⟩
      obtain ⟨wX2, hX⟩ : ∃ x, x = wX1.alloc (.cells #[] 53) := ⟨_, rfl⟩
      have BX2 : Hid (Below w1.heap.size w1 wX2) := by rw [hX]; exact BX1.out.alloc BX1.out.size _
      have SS : Hid (∀ j u, R0.toList[j]? = some u → wX2.cell? ((⟨sb, 0, none⟩ : Addr).add j) = some u) := fun j u hu => by rw [hX, add_plain', World.cell?_of_block (a := ⟨sb, 0 + j, none⟩) (heap_alloc_old wX1 _ sbl.out), ← add_plain']; exact SS.out j u hu
      have sbl : Hid (sb < wX2.heap.size) := by rw [hX]; have := sbl.out; simp [Hid]; omega
      have OE : Hid (wX2.ownsRow w1.heap.size 53 32 (.slice (some ⟨eb, 0, none⟩) 0 0) 0 []) := by rw [hX, heb]; exact World.ownsRow_made _ #[] 0 BX1.out.size (by simp) (by simp)
      have ebl : Hid (w1.heap.size ≤ eb) := by rw [heb]; exact BX1.out.size
      have ebw : Hid (eb < wX2.heap.size) := by rw [hX, heb]; simp [Hid]
      have hne : Hid (sb ≠ eb) := by have := sbp.out; rw [heb]; unfold Hid; omega
      rw [← heb, ← hX]
      clear hX heb
      refine hK _ _ (HS.out _ BX2.out) (fun hHeld => ?_)
      clear hK K
      try simp only [Act.put, List.setIfInBounds_toArray, List.set_cons_zero, List.set_cons_succ]
      refine wpAnyH_ready (rs := [13]) (by kernel_rfl) (by simp) ?_
      refine AllReadyH.cons rfl (fun K hK => ?_) AllReadyH.nil
      have hcv := (HW.out _ BX2.out).2.2.1
      go_simp
      clear hcv
      refine hK _ _ (HS.out _ BX2.out) (fun hHeld => ?_)
      clear hK K
      try simp only [Act.put, List.setIfInBounds_toArray, List.set_cons_zero, List.set_cons_succ]
      refine wpAnyH_ready (rs := [14]) (by kernel_rfl) (by simp) ?_
      refine AllReadyH.cons rfl (fun K hK => ?_) AllReadyH.nil
      refine step_append_src rfl (.tmp 27) (.tmp 35) 52 rfl w1.heap.size 53 i0 _ 32 32 Try.underlying52 hi0 hz0 hz1 hz2 (by decide) (by decide) (.slice (some ⟨eb, 0, none⟩) 0 0) 0 [] rfl OE.out A0 m cA (secsV vold) rfl Hlen.out (HW.out _ BX2.out).2.2.2.2.1 (HW.out _ BX2.out).2.2.2.2.2 Hone.out (by unfold maxLen; omega) (by omega) BX2.out.size m (by omega) ?_
      intro A1 c1 wX4 ho hg hor
      have BX4 : Hid (Below w1.heap.size w1 wX4) := BX2.out.grown hg BX2.out.size (fun j e => by cases e; exact ebl.out)
      have OA : Hid (wX4.ownsRow w1.heap.size 53 32 (.slice A1 m c1) m (secsV vold)) := by rw [List.nil_append] at ho; exact ho
      have SS : Hid (∀ j u, R0.toList[j]? = some u → wX4.cell? ((⟨sb, 0, none⟩ : Addr).add j) = some u) := fun j u hu => by rw [add_plain', World.cell?_of_block (a := ⟨sb, 0 + j, none⟩) (hg.block sb sbl.out (by simp [Value.ownBlock]; exact hne.out)), ← add_plain']; exact SS.out j u hu
      have sbl : Hid (sb < wX4.heap.size) := Nat.lt_of_lt_of_le sbl.out hg.size
      clear ho hg hor
      refine hK _ _ (HS.out _ BX4.out) (fun hHeld => ?_)
      clear hK K
      try simp only [Act.put, List.setIfInBounds_toArray, List.set_cons_zero, List.set_cons_succ]
      refine wpAnyH_ready (rs := [17]) (by kernel_rfl) (by simp) ?_
      refine AllReadyH.cons rfl (fun K hK => ?_) AllReadyH.nil
      refine step_append_src rfl (.tmp 36) (.tmp 38) 52 rfl w1.heap.size 53 i0 _ 32 32 Try.underlying52 hi0 hz0 hz1 hz2 (by decide) (by decide) (.slice A1 m c1) m (secsV vold) rfl OA.out (some ⟨sb, 0, none⟩) 1 1 R0.toList rfl HRl.out (fun ad e => by cases e; exact SS.out) (fun e => by cases e) HR1.out (by unfold maxLen; omega) (by omega) BX4.out.size (m + 1) rfl ?_
      intro A2 c2 wX5 ho hg hor
      have BX5 : Hid (Below w1.heap.size w1 wX5) := BX4.out.grown hg BX4.out.size (fun j e => (OA.out.lt j e).1)
      have OB := Lib.hid ho
      clear ho hg hor
      refine hK _ _ (HS.out _ BX5.out) (fun hHeld => ?_)
      clear hK K
      try simp only [Act.put, List.setIfInBounds_toArray, List.set_cons_zero, List.set_cons_succ]
      refine takeH (i := 18) (some 40) (v := ?_) rfl rfl (by kernel_rfl) (by kernel_rfl) (by kernel_rfl) (fun _ _ _ h => h) (by rfl) ?_ (by assumption) ?_
      rotate_left
      · (intro w hSw; (try dsimp only at hSw); obtain ⟨hS1, hS2⟩ := hSw; go_simp; try with_reducible rfl)
      simp only [Act.put, List.setIfInBounds_toArray, List.set_cons_zero, List.set_cons_succ]
      refine takeH (i := 19) (some 41) (v := ?_) rfl rfl (by kernel_rfl) (by kernel_rfl) (by kernel_rfl) (fun _ _ _ h => h) (by rfl) ?_ (by assumption) ?_
      rotate_left
      · (intro w hSw; (try dsimp only at hSw); obtain ⟨hS1, hS2⟩ := hSw; go_simp; try with_reducible rfl)
      simp only [Act.put, List.setIfInBounds_toArray, List.set_cons_zero, List.set_cons_succ]
      refine wpAnyH_ready (rs := [20]) (by kernel_rfl) (by simp) ?_
      refine AllReadyH.cons rfl (fun K hK => ?_) AllReadyH.nil
      have hcv := (HW.out _ BX5.out).2.2.1
      have hfz := (HW.out _ BX5.out).2.2.2.1
      go_simp
      refine hK _ _ (HF.out _ _ BX5.out) (fun hHeld => ?_)
      clear hK K hcv hfz
      try simp only [Act.put, List.setIfInBounds_toArray, List.set_cons_zero, List.set_cons_succ]
      refine wpAnyH_done (by kernel_rfl) ?_ _
      go_wp2
      go_ret
      exact ⟨rfl, HE.out _ A2 c2 BX5.out OB.out⟩
    · have hcv := (HW.out _ BX1.out).2.2.1
      go_simp
      clear hcv
      refine hK _ _ (HS.out _ BX1.out) (fun hHeld => ?_)
      clear hK K
      try simp only [Act.put, List.setIfInBounds_toArray, List.set_cons_zero, List.set_cons_succ]
      refine wpAnyH_ready (rs := [5]) (by kernel_rfl) (by simp) ?_
      refine AllReadyH.cons rfl (fun K hK => ?_) AllReadyH.nil
      have sbp : Hid (sb < wX1.heap.size) := sbl.out
      go_simp
      obtain ⟨eb, heb⟩ : ∃ x, x = wX1.heap.size := ⟨_, rfl⟩
      obtain ⟨wX3, hX⟩ : ∃ x, x = wX1.alloc (.cells #[] 53) := ⟨_, rfl⟩
      have BX3 : Hid (Below w1.heap.size w1 wX3) := by rw [hX]; exact BX1.out.alloc BX1.out.size _
      have SS : Hid (∀ j u, R0.toList[j]? = some u → wX3.cell? ((⟨sb, 0, none⟩ : Addr).add j) = some u) := fun j u hu => by rw [hX, add_plain', World.cell?_of_block (a := ⟨sb, 0 + j, none⟩) (heap_alloc_old wX1 _ sbl.out), ← add_plain']; exact SS.out j u hu
      have sbl : Hid (sb < wX3.heap.size) := by rw [hX]; have := sbl.out; simp [Hid]; omega
      have OE : Hid (wX3.ownsRow w1.heap.size 53 32 (.slice (some ⟨eb, 0, none⟩) 0 0) 0 []) := by rw [hX, heb]; exact World.ownsRow_made _ #[] 0 BX1.out.size (by simp) (by simp)
      have ebl : Hid (w1.heap.size ≤ eb) := by rw [heb]; exact BX1.out.size
      have ebw : Hid (eb < wX3.heap.size) := by rw [hX, heb]; simp [Hid]
      have hne : Hid (sb ≠ eb) := by have := sbp.out; rw [heb]; unfold Hid; omega
      rw [← heb, ← hX]
      clear hX heb
      refine hK _ _ (HS.out _ BX3.out) (fun hHeld => ?_)
      clear hK K
      try simp only [Act.put, List.setIfInBounds_toArray, List.set_cons_zero, List.set_cons_succ]
      refine wpAnyH_ready (rs := [14]) (by kernel_rfl) (by simp) ?_
      refine AllReadyH.cons rfl (fun K hK => ?_) AllReadyH.nil
      refine step_append_src rfl (.tmp 27) (.tmp 35) 52 rfl w1.heap.size 53 i0 _ 32 32 Try.underlying52 hi0 hz0 hz1 hz2 (by decide) (by decide) (.slice (some ⟨eb, 0, none⟩) 0 0) 0 [] rfl OE.out A0 m cA (secsV vold) rfl Hlen.out (HW.out _ BX3.out).2.2.2.2.1 (HW.out _ BX3.out).2.2.2.2.2 Hone.out (by unfold maxLen; omega) (by omega) BX3.out.size m (by omega) ?_
      intro A1 c1 wX4 ho hg hor
      have BX4 : Hid (Below w1.heap.size w1 wX4) := BX3.out.grown hg BX3.out.size (fun j e => by cases e; exact ebl.out)
      have OA : Hid (wX4.ownsRow w1.heap.size 53 32 (.slice A1 m c1) m (secsV vold)) := by rw [List.nil_append] at ho; exact ho
      have SS : Hid (∀ j u, R0.toList[j]? = some u → wX4.cell? ((⟨sb, 0, none⟩ : Addr).add j) = some u) := fun j u hu => by rw [add_plain', World.cell?_of_block (a := ⟨sb, 0 + j, none⟩) (hg.block sb sbl.out (by simp [Value.ownBlock]; exact hne.out)), ← add_plain']; exact SS.out j u hu
      have sbl : Hid (sb < wX4.heap.size) := Nat.lt_of_lt_of_le sbl.out hg.size
      clear ho hg hor
      refine hK _ _ (HS.out _ BX4.out) (fun hHeld => ?_)
      clear hK K
      try simp only [Act.put, List.setIfInBounds_toArray, List.set_cons_zero, List.set_cons_succ]
      refine wpAnyH_ready (rs := [17]) (by kernel_rfl) (by simp) ?_
      refine AllReadyH.cons rfl (fun K hK => ?_) AllReadyH.nil
      refine step_append_src rfl (.tmp 36) (.tmp 38) 52 rfl w1.heap.size 53 i0 _ 32 32 Try.underlying52 hi0 hz0 hz1 hz2 (by decide) (by decide) (.slice A1 m c1) m (secsV vold) rfl OA.out (some ⟨sb, 0, none⟩) 1 1 R0.toList rfl HRl.out (fun ad e => by cases e; exact SS.out) (fun e => by cases e) HR1.out (by unfold maxLen; omega) (by omega) BX4.out.size (m + 1) rfl ?_
      intro A2 c2 wX5 ho hg hor
      have BX5 : Hid (Below w1.heap.size w1 wX5) := BX4.out.grown hg BX4.out.size (fun j e => (OA.out.lt j e).1)
      have OB := Lib.hid ho
      clear ho hg hor
      refine hK _ _ (HS.out _ BX5.out) (fun hHeld => ?_)
      clear hK K
      try simp only [Act.put, List.setIfInBounds_toArray, List.set_cons_zero, List.set_cons_succ]
      refine takeH (i := 18) (some 40) (v := ?_) rfl rfl (by kernel_rfl) (by kernel_rfl) (by kernel_rfl) (fun _ _ _ h => h) (by rfl) ?_ (by assumption) ?_
      rotate_left
      · (intro w hSw; (try dsimp only at hSw); obtain ⟨hS1, hS2⟩ := hSw; go_simp; try with_reducible rfl)
      simp only [Act.put, List.setIfInBounds_toArray, List.set_cons_zero, List.set_cons_succ]
      refine takeH (i := 19) (some 41) (v := ?_) rfl rfl (by kernel_rfl) (by kernel_rfl) (by kernel_rfl) (fun _ _ _ h => h) (by rfl) ?_ (by assumption) ?_
      rotate_left
      · (intro w hSw; (try dsimp only at hSw); obtain ⟨hS1, hS2⟩ := hSw; go_simp; try with_reducible rfl)
      simp only [Act.put, List.setIfInBounds_toArray, List.set_cons_zero, List.set_cons_succ]
      refine wpAnyH_ready (rs := [20]) (by kernel_rfl) (by simp) ?_
      refine AllReadyH.cons rfl (fun K hK => ?_) AllReadyH.nil
      have hcv := (HW.out _ BX5.out).2.2.1
      have hfz := (HW.out _ BX5.out).2.2.2.1
      go_simp
      refine hK _ _ (HF.out _ _ BX5.out) (fun hHeld => ?_)
      clear hK K hcv hfz
      try simp only [Act.put, List.setIfInBounds_toArray, List.set_cons_zero, List.set_cons_succ]
      refine wpAnyH_done (by kernel_rfl) ?_ _
      go_wp2
      go_ret
      exact ⟨rfl, HE.out _ A2 c2 BX5.out OB.out⟩
end
end Go.Proofs.Ytieeibdhaoaeaaa
