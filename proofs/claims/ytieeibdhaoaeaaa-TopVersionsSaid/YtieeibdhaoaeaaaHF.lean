/- The contract of 'Write' of a block of which no version waits. -/
import Derived.Test.YtieeibdhaoaeaaaHE
namespace Go.Proofs.Ytieeibdhaoaeaaa
open Go.RowKit

/-- what is behind a write: the map has the block, with a row of its own -/
def Wrote (w w' : World) (mb k : Nat) (D : DataW Value) (i : Nat) (s : List Int) : Prop :=
  ∃ gv cap, w.heap.size ≤ gv ∧ w'.ownsMap Try.prog 3 RV mb (k + 1) (D.put (.int .i64 (i : Int)) (.held (.slice (some ⟨gv, 0, none⟩) 1 cap))) ∧ w'.ownsRow w.heap.size 83 33 (.slice (some ⟨gv, 0, none⟩) 1 cap) 1 (rowL s 1) ∧ w.grownBy w' (some mb)

set_option maxRecDepth 100000 in
set_option linter.unusedSimpArgs false in
set_option maxHeartbeats 2000000 in
theorem write_new (g : Nat) (n : Int) (L : List Int) (B : List Bool) (mb i k : Nat) (D : DataW Value) (s : List Int) (w : World) (h : DiskAt w g n L B mb) (hi : (i : Int) < n) (hm : w.ownsMap Try.prog 3 RV mb k D) (hk : k < maxLen) (hgm : g ≠ mb)
    (hat : D.atKey (.int .i64 (i : Int)) (.held (.slice none 0 0)) = .held (.slice none 0 0)) (hbad : B.getD i false = false) (hs : s.length = 32) :
    Calls Try.prog 17 #[.pointer (some ⟨g, 0, none⟩), .int .i64 (i : Int), secV s] w fun e w' => e = .returned (.int .i64 0) ∧ Wrote w w' mb k D i s := by
  obtain ⟨i0, hi0, hz0, hz1, hz2⟩ := info_parts info83
  have hgw : g < w.heap.size := h.blk.lt
  have hmw : mb < w.heap.size := hm.lt
  have hi96 : i < 96 := by have := h.hi; omega
  have hii0 : (0 : Int) ≤ (i : Int) := by omega
  have hii1 : (i : Int) < 96 := by omega
  have A := Lib.hid (fun W hc => ask_yes g n i W hc hi)
  have hsz : Hid ((Try.prog.info? 36).map (·.size) = some (bytesV s).toArray.size) := by unfold Hid; rw [List.size_toArray, length_bytesV, hs]; exact size36
  have Hk := Lib.hid (key3 hi96)
  have Hat := Lib.hid hat
  have HKm := Lib.hid hk
  have HB : Hid (∀ W, Below w.heap.size w W → W.cell? ⟨g, 0, none⟩ = some (.int .i64 n) ∧ W.cell? ⟨g, 3073 + i, none⟩ = some (.bool false) ∧ W.ownsMap Try.prog 3 RV mb k D ∧ W.cell? ⟨g, 3169, none⟩ = some (.map (some mb))) := fun W hB => by
    have hd := h.below hB hgw
    refine ⟨hd.c0, by rw [hd.bad hi96, hbad], ?_, hd.cmap⟩
    obtain ⟨es, clock, hb, F, hs, hD⟩ := hm
    exact ⟨es, clock, (hB.block mb hmw).trans hb, F, hs, hD⟩
  have B83 := Lib.hid (built83 1 s hs)
  have F83 := Lib.hid (fill83 1 s hs)
  have HNl : Hid ((rowL s 1).toArray.toList.length = 1 * 33) := by unfold Hid; rw [show (rowL s 1).toArray.toList = rowL s 1 from rfl, length_rowL hs]
  have HN1 : Hid (∀ u ∈ (rowL s 1).toArray.toList, u.oneCell' = true) := rowL_one s 1
  have HR : Hid ((rowL s 1).toArray.toList = rowL s 1) := rfl
  unfold Wrote
  unfold secV
  obtain ⟨N0, hN0⟩ : ∃ N0, N0 = (rowL s 1).toArray := ⟨_, rfl⟩
  rw [← hN0] at B83 F83 HNl HN1 HR
  obtain ⟨R0, hR0⟩ : ∃ R0, R0 = (bytesV s).toArray := ⟨_, rfl⟩
  rw [← hR0] at B83 hsz ⊢
  obtain ⟨N1, hN1⟩ : ∃ N1, N1 = rowL s 1 := ⟨_, rfl⟩
  rw [← hN1] at HR ⊢
  clear h hm hk hat hbad hs hN0 hR0 hN1
  go_enter Try.func17, Try.ntmps17
  go_wp2_with (refine wpList_boxTo rfl 36 (.tmp 2) rfl (some 5) rfl w.heap.size rfl R0 rfl ?_)
  generalize hW : w.alloc (.cells R0 36) = w1
  have b1 : Hid (w1.heap[w.heap.size]? = some (.cells R0 36 (0, 0))) := by rw [← hW]; exact heap_alloc_new w _
  have B1 : Hid (Below w.heap.size w w1) := by rw [← hW]; exact below_alloc1 w _
  have s1 : Hid (w1.heap.size = w.heap.size + 1) := by rw [← hW]; exact size_alloc1 w _
  clear hW
  obtain ⟨c0, c1, m1, c2⟩ := HB.out w1 B1.out
  have M1 := Lib.hid m1
  clear m1
  refine (A.out _ c0).mono ?_
  rintro e w' ⟨rfl, rfl⟩
  go_wp2_with (refine wpList_lookup_held rfl (.tmp 26) (.tmp 27) 78 rfl 3 81 law3 Try.underlying78 (zero81 _) mb k D rfl M1.out _ _ rfl Hk.out _ Hat.out ?_)
  have hdd : decide ((0 : Int) ≤ -1) = false := rfl
  go_quiet (fail)
  go_wp2_with fail
  obtain ⟨w2, hw2⟩ : ∃ w2, w2 = w1.drewN nq := ⟨_, rfl⟩
  have B2 : Hid (Below w.heap.size w w2) := by rw [hw2]; exact B1.out.trans (drewN_below _ w1 nq)
  have b2 : Hid (w2.heap[w.heap.size]? = some (.cells R0 36 (0, 0))) := by rw [hw2]; exact b1.out
  have s2 : Hid (w2.heap.size = w.heap.size + 1) := by rw [hw2]; exact s1.out
  rw [← hw2]
  clear hw2 c0 c1 c2 hdd
  have X : Hid (w2.drew.heap[w.heap.size]? = some (.cells R0 36 (0, 0)) ∧ w2.drew.cell? ⟨g, 3169, none⟩ = some (.map (some mb))) := ⟨b2.out, (HB.out _ B2.out.drew).2.2.2⟩
  have BY : Hid (Below w.heap.size w (w2.drew.alloc (.cells N0 83))) := B2.out.drew.alloc (by have := s2.out; show w.heap.size ≤ w2.heap.size; omega) _
  have Y : Hid ((w2.drew.alloc (.cells N0 83)).cell? ⟨g, 3169, none⟩ = some (.map (some mb)) ∧ (∀ j u, N0.toList[j]? = some u → (w2.drew.alloc (.cells N0 83)).cell? ((⟨w2.heap.size, 0, none⟩ : Addr).add j) = some u) ∧ w.heap.size ≤ (w2.drew.alloc (.cells N0 83)).heap.size) :=
    ⟨(HB.out _ BY.out).2.2.2, fun j u hu => cells_new w2.drew N0.toList 83 j u hu, BY.out.size⟩
  have HZ : Hid (∀ w5 gv cap, w5.ownsRow w.heap.size 83 33 (.slice (some ⟨gv, 0, none⟩) 1 cap) 1 N0.toList → (w2.drew.alloc (.cells N0 83)).grownBy w5 none → w5.cell? ⟨g, 3169, none⟩ = some (.map (some mb)) ∧ w5.ownsMap Try.prog 3 RV mb k D ∧
      ∀ w6, w6.ownsMap Try.prog 3 RV mb (k + 1) (D.put (.int .i64 (i : Int)) (.held (.slice (some ⟨gv, 0, none⟩) 1 cap))) → w5.grownBy w6 (some mb) → w6.cell? ⟨g, 3169, none⟩ = some (.map (some mb)) ∧
        ∃ gv cap, w.heap.size ≤ gv ∧ w6.ownsMap Try.prog 3 RV mb (k + 1) (D.put (.int .i64 (i : Int)) (.held (.slice (some ⟨gv, 0, none⟩) 1 cap))) ∧ w6.ownsRow w.heap.size 83 33 (.slice (some ⟨gv, 0, none⟩) 1 cap) 1 N1 ∧ w.grownBy w6 (some mb)) := by
    intro w5 gv cap ho hg
    have B5 : Below w.heap.size w w5 := BY.out.grown hg (by exact BY.out.size) (fun k hk => by cases hk)
    obtain ⟨_, _, hm5, hc5⟩ := HB.out w5 B5
    refine ⟨hc5, hm5, fun w6 hm6 hg6 => ⟨?_, gv, cap, (ho.lt gv rfl).1, hm6, ?_, ?_⟩⟩
    · rw [← hc5]
      exact World.cell?_of_block (hg6.block g (Nat.lt_of_lt_of_le hgw B5.size) (by simpa using hgm))
    · rw [← HR.out]
      exact ho.kept hg6 (.inr (by have := (ho.lt gv rfl).1; simp [Value.ownBlock]; omega))
    · exact World.grownBy.trans ⟨B5.os, B5.tape, B5.output, B5.size, fun j hj _ => B5.block j hj⟩ hg6
  refine wp_region_held_drew (S := (fun W => W.cell? ⟨g, 3169, none⟩ = some (.map (some mb)))) (by kernel_rfl) (X.out.2) (fun hHeld => ?_)
  refine takeH (i := 0) (some 51) (v := ?_) rfl rfl (by kernel_rfl) (by kernel_rfl) (by kernel_rfl) (fun _ _ _ h => h) (by rfl) ?_ (by assumption) ?_
  rotate_left
  · (intro w hSw; (try dsimp only at hSw); go_simp; try with_reducible rfl)
  simp only [Act.put, List.setIfInBounds_toArray, List.set_cons_zero, List.set_cons_succ]
  refine takeH (i := 1) (some 52) (v := ?_) rfl rfl (by kernel_rfl) (by kernel_rfl) (by kernel_rfl) (fun _ _ _ h => h) (by rfl) ?_ (by assumption) ?_
  rotate_left
  · (intro w hSw; (try dsimp only at hSw); go_simp; try with_reducible rfl)
  simp only [Act.put, List.setIfInBounds_toArray, List.set_cons_zero, List.set_cons_succ]
  refine takeH (i := 2) (some 53) (v := ?_) rfl rfl (by kernel_rfl) (by kernel_rfl) (by kernel_rfl) (fun _ _ _ h => h) (by rfl) ?_ (by assumption) ?_
  rotate_left
  · (intro w hSw; (try dsimp only at hSw); go_simp; try with_reducible rfl)
  simp only [Act.put, List.setIfInBounds_toArray, List.set_cons_zero, List.set_cons_succ]
  refine takeH (i := 3) (some 54) (v := ?_) rfl rfl (by kernel_rfl) (by kernel_rfl) (by kernel_rfl) (fun _ _ _ h => h) (by rfl) ?_ (by assumption) ?_
  rotate_left
  · (intro w hSw; (try dsimp only at hSw); go_simp; try with_reducible rfl)
  simp only [Act.put, List.setIfInBounds_toArray, List.set_cons_zero, List.set_cons_succ]
  refine takeH (i := 4) (some 55) (v := ?_) rfl rfl (by kernel_rfl) (by kernel_rfl) (by kernel_rfl) (fun _ _ _ h => h) (by rfl) ?_ (by assumption) ?_
  rotate_left
  · (intro w hSw; (try dsimp only at hSw); go_simp; try with_reducible rfl)
  simp only [Act.put, List.setIfInBounds_toArray, List.set_cons_zero, List.set_cons_succ]
  refine takeH (i := 5) (some 56) (v := ?_) rfl rfl (by kernel_rfl) (by kernel_rfl) (by kernel_rfl) (fun _ _ _ h => h) (by rfl) ?_ (by assumption) ?_
  rotate_left
  · (intro w hSw; (try dsimp only at hSw); go_simp; try with_reducible rfl)
  simp only [Act.put, List.setIfInBounds_toArray, List.set_cons_zero, List.set_cons_succ]
  refine wpAnyH_ready (rs := [6]) (by kernel_rfl) (by simp) ?_
  refine AllReadyH.cons rfl (fun K hK => ?_) AllReadyH.nil
  refine step_of rfl (wp_load_row 36 (.tmp 5) rfl w.heap.size rfl 36 R0 (0, 0) _ X.out.1 Try.underlying36 rfl hsz.out ?_)
  refine hK _ _ (X.out.2) (fun hHeld => ?_)
  clear hK K
  try simp only [Act.put, List.setIfInBounds_toArray, List.set_cons_zero, List.set_cons_succ]
  refine wpAnyH_ready (rs := [7]) (by kernel_rfl) (by simp) ?_
  refine AllReadyH.cons rfl (fun K hK => ?_) AllReadyH.nil
  refine step_of rfl (wp_build_eq 83 [(0, .tmp 57), (1, .const (.int .i64 1))] rfl [(0, .agg R0), (1, .int .i64 1)] rfl N0 B83.out ?_)
  refine hK _ _ (X.out.2) (fun hHeld => ?_)
  clear hK K
  try simp only [Act.put, List.setIfInBounds_toArray, List.set_cons_zero, List.set_cons_succ]
  refine wpAnyH_ready (rs := [8]) (by kernel_rfl) (by simp) ?_
  refine AllReadyH.cons rfl (fun K hK => ?_) AllReadyH.nil
  refine step_of rfl (wp_slice83 (.tmp 58) 81 Try.underlying81 rfl N0 rfl i0 hi0 hz0 hz1 F83.out ?_)
  refine hK _ _ (Y.out.1) (fun hHeld => ?_)
  clear hK K
  try simp only [Act.put, List.setIfInBounds_toArray, List.set_cons_zero, List.set_cons_succ]
  refine wpAnyH_ready (rs := [9]) (by kernel_rfl) (by simp) ?_
  refine AllReadyH.cons rfl (fun K hK => ?_) AllReadyH.nil
  refine step_append_lies _ rfl (.tmp 56) (.tmp 59) 81 rfl w.heap.size 83 i0 _ 33 40 Try.underlying81 hi0 hz0 hz1 hz2 (by decide) (by decide) (.slice none 0 0) 0 [] rfl (World.ownsRow_nil _ _ _ _) ⟨w2.heap.size, 0, none⟩ 1 1 N0.toList rfl HNl.out Y.out.2.1 HN1.out (by decide) (by decide) (by decide) Y.out.2.2 _ rfl ?_
  intro gv cap w5 hown5 hgrow5 _ hlt5
  have Z := Lib.hid (HZ.out w5 gv cap hown5 hgrow5)
  clear hgrow5
  refine hK _ _ (Z.out.1) (fun hHeld => ?_)
  clear hK K
  try simp only [Act.put, List.setIfInBounds_toArray, List.set_cons_zero, List.set_cons_succ]
  refine wpAnyH_ready (rs := [10]) (by kernel_rfl) (by simp) ?_
  refine AllReadyH.cons rfl (fun K hK => ?_) AllReadyH.nil
  refine step_of rfl (wp_update_held (.tmp 54) (.tmp 55) (.tmp 60) 78 rfl 3 81 law3 Try.underlying78 mb k D rfl Z.out.2.1 HKm.out _ _ _ rfl rfl Hk.out ?_)
  intro w6 hm6 hg6
  have U := Lib.hid (Z.out.2.2 w6 hm6 hg6)
  clear hm6 hg6
  refine hK _ _ (U.out.1) (fun hHeld => ?_)
  clear hK K
  try simp only [Act.put, List.setIfInBounds_toArray, List.set_cons_zero, List.set_cons_succ]
  refine wpAnyH_done (by kernel_rfl) ?_ _
  go_wp2
  go_ret
  exact ⟨rfl, U.out.2⟩
end Go.Proofs.Ytieeibdhaoaeaaa
