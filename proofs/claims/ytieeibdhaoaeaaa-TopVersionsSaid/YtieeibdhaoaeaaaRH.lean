/- Fork of the document's disk. -/
import Derived.Test.YtieeibdhaoaeaaaRG
set_option linter.unusedVariables false
set_option linter.unusedSimpArgs false
namespace Go.Proofs.Ytieeibdhaoaeaaa
open Go.RowKit

theorem blksL_one (n : Nat) (S : Nat → Bk) (A : Nat → Option Addr) (C : Nat → Nat) : ∀ u ∈ blksL (List.range n) S A C, u.oneCell' = true := by
  intro u hu
  obtain ⟨i, _, hx⟩ := List.mem_flatMap.1 hu
  rcases List.mem_append.1 hx with h | h
  · exact bytesV_one _ u h
  · simp at h
    rcases h with rfl | rfl <;> rfl
theorem upd_at {S : Nat → Bk} {i : Nat} (b : Bk) (h : b = S i) : upd S i b = S := by subst h; exact upd_self S i
/-- a copy of the document's disk under way -/
def RkS (w wr : World) (h n c gb cp : Nat) (S : Nat → Bk) (A : Nat → Option Addr) (C : Nat → Nat) (k : Nat) : Prop :=
  ∃ A2 C2, RefAt wr h n S c gb cp A2 C2 ∧ Below w.heap.size w wr ∧ (∀ j, j < k → ∀ b, own (A2 j) = some b → w.heap.size ≤ b) ∧ ∀ j, k ≤ j → A2 j = A j ∧ C2 j = C j
set_option maxRecDepth 100000 in
set_option linter.unusedSimpArgs false in
set_option maxHeartbeats 2000000 in
theorem rfork {w : World} {g n c : Nat} {S : Nat → Bk} {F : Nat → Prop} (hR : Ref w g n S c F) (hc : c < 100000) :
    Calls Try.prog 27 #[.pointer (some ⟨g, 0, none⟩)] w fun e w' => ∃ h F', e = .returned (.pointer (some ⟨h, 0, none⟩)) ∧ Ref w' h n S c F' ∧ (∀ b, F' b → w.heap.size ≤ b) ∧ Below w.heap.size w w' := by
  obtain ⟨gb0, cp0, A, C, hA, rfl⟩ := hR
  obtain ⟨i0, hi0, hz0, hz1, hz2⟩ := info_parts info93
  obtain ⟨i3, hi3, hz3, hz31, hz32⟩ := info_parts info53
  have hc0 := hA.c0
  have hn96 := hA.n96
  have hn1 := hA.n1
  have HA := Lib.hid hA
  have Hown0 : Hid ((w.alloc (.cells #[] 93)).ownsRow w.heap.size 93 34 (.slice (some ⟨w.heap.size, 0, none⟩) 0 0) 0 []) := World.ownsRow_made w #[] 0 (Nat.le_refl _) (by simp) (by simp)
  have hB0 : Below w.heap.size w (w.alloc (.cells #[] 93)) := below_alloc1 w _
  have Hsrc0 := Lib.hid (row_src (hA.fresh hB0).row)
  have Hlen0 : Hid ((blksL (List.range n) S A C).length = n * 34) := hA.row.1
  have Hone0 := Lib.hid (blksL_one n S A C)
  have HB0 := Lib.hid hB0
  have HS1 : Hid (∀ w1 gb c1, w1.ownsRow w.heap.size 93 34 (.slice (some ⟨gb, 0, none⟩) n c1) n (blksL (List.range n) S A C) → Below w.heap.size w w1 → RkS w (w1.alloc (.cells #[.slice (some ⟨gb, 0, none⟩) n c1] 96)) w1.heap.size n c gb c1 S A C 0) := by
    intro w1 gb c1 ho hB
    have hB2 : Below w.heap.size w (w1.alloc (.cells #[.slice (some ⟨gb, 0, none⟩) n c1] 96)) := hB.alloc hB.size _
    have hf := HA.out.fresh hB2
    exact ⟨A, C, ⟨heap_alloc_new w1 _, row_zero (ho.alloc _), hf.vers, hf.ok, hf.n1, hf.n96, hf.few, hf.apart⟩, hB2, fun j hj => by omega, fun j _ => ⟨rfl, rfl⟩⟩
  have hcE : (w.alloc (.cells #[] 93)).cell? ⟨g, 0, none⟩ = some (.slice (some ⟨gb0, 0, none⟩) n cp0) := (HA.out.fresh HB0.out).c0
  clear hA hB0
  go_enter Try.func27, Try.ntmps27
  go_wp2_with (refine wpList_append_src rfl (.tmp 7) (.tmp 11) 94 rfl w.heap.size 93 i0 _ 34 64 Try.underlying94 hi0 hz0 hz1 hz2 rfl (by decide) _ 0 [] rfl Hown0.out (some ⟨gb0, 0, none⟩) n cp0 (blksL (List.range n) S A C) rfl Hlen0.out Hsrc0.out.1 (fun e => by cases e) Hone0.out (by unfold maxLen; omega) (by omega) (by simp) n (by omega) ?_
               intro A1 cp w1 ho1 hg1 hor1
               obtain ⟨gb, cp', he1, hgbl, _⟩ := ho1.form (by omega)
               obtain ⟨rfl, _, rfl⟩ := Value.slice.inj he1
               have HB1 := Lib.hid (HB0.out.grown hg1 (by simp) (fun j e => by cases e; exact Nat.le_refl _))
               rw [List.nil_append] at ho1
               have HR0 := Lib.hid (HS1.out w1 gb _ ho1 HB1.out)
               have Hgb := Lib.hid hgbl
               clear ho1 hg1 hor1 he1 hgbl)
  obtain ⟨h, hh⟩ : ∃ h, h = w1.heap.size := ⟨_, rfl⟩
  have Hh : Hid (w.heap.size ≤ h) := by rw [hh]; exact HB1.out.size
  rw [← hh] at HR0 ⊢
  clear hh hc0 hcE
  go_loopw [4] (fun i wr => ∃ k : Nat, k ≤ n ∧ i = .int .i64 k ∧ RkS w wr h n c gb cp S A C k) (fun i _ => n - (intOf i).toNat)
  case atStart => exact ⟨0, Nat.zero_le _, rfl, HR0.out⟩
  case round =>
    obtain ⟨k, hk, rfl, hRk⟩ := hrel
    rename World => w1
    have HRk := Lib.hid hRk
    obtain ⟨A2, C2, hA2, hB2, hnew, hold⟩ := hRk
    have hc2 := hA2.c0
    by_cases hlt : k < n
    · have hlt' : (k : Int) < (n : Int) := by omega
      have hk0 : (0 : Int) ≤ (k : Int) := by omega
      have hwk : IntKind.i64.wrap ((k : Int) + 1) = (k : Int) + 1 := by simp [IntKind.wrap, IntKind.bits, IntKind.signed]; omega
      obtain ⟨m, hm⟩ : ∃ m, m = (S k).v.length := ⟨_, rfl⟩
      obtain ⟨vold, hvold⟩ : ∃ v, v = (S k).v := ⟨_, rfl⟩
      obtain ⟨A0, hA0⟩ : ∃ x, x = A2 k := ⟨_, rfl⟩
      obtain ⟨cA, hcA⟩ : ∃ x, x = C2 k := ⟨_, rfl⟩
      have hmc : m ≤ c := by rw [hm]; exact hA2.few k hlt
      have Hlen : Hid ((secsV vold).length = m * 32) := by rw [hm, hvold]; exact length_secsV (fun x hx => ((hA2.ok k hlt).2 x hx).1)
      have Hone : Hid (∀ u ∈ secsV vold, u.oneCell' = true) := secsV_one _
      have HA2 := Lib.hid hA2
      have HW : Hid (∀ W, Below w1.heap.size w1 W → W.cell? ⟨h, 0, none⟩ = some (.slice (some ⟨gb, 0, none⟩) n cp) ∧ W.cell? ⟨gb, k * 34 + 32, none⟩ = some (.slice A0 m cA) ∧ W.frozen? ⟨gb, k * 34 + 32, none⟩ = false ∧
          (∀ ad, A0 = some ad → ∀ j u, (secsV vold)[j]? = some u → W.cell? (ad.add j) = some u) ∧ (A0 = none → m = 0)) := fun W hB => by
        have hW := HA2.out.fresh hB
        have hr := row_src (hW.vers k hlt)
        refine ⟨hW.c0, by rw [hW.cv hlt, hA0, hm, hcA], hW.frz _, ?_, ?_⟩
        · rw [hA0, hvold]; exact hr.1
        · rw [hA0, hm]; exact hr.2
      have HS : Hid (∀ W, Below w1.heap.size w1 W → W.cell? ⟨h, 0, none⟩ = some (.slice (some ⟨gb, 0, none⟩) n cp)) := fun W hB => (HW.out W hB).1
      have HF : Hid (∀ W u, Below w1.heap.size w1 W → (W.setCell ⟨gb, k * 34 + 32, none⟩ u).cell? ⟨h, 0, none⟩ = some (.slice (some ⟨gb, 0, none⟩) n cp)) := fun W u hB => by
        have hg := setCell_grown W ⟨gb, k * 34 + 32, none⟩ u
        have hW := HA2.out.fresh hB
        rw [← (HW.out W hB).1]
        exact World.cell?_of_block (hg.block h hW.glt (by simpa using hW.gne))
      have HE : Hid (∀ W A1 c1, Below w1.heap.size w1 W → W.ownsRow w1.heap.size 53 32 (.slice A1 m c1) m (secsV vold) → (W.setCell ⟨gb, k * 34 + 32, none⟩ (.slice A1 m c1)).cell? ⟨h, 0, none⟩ = some (.slice (some ⟨gb, 0, none⟩) n cp) ∧
          RkS w (W.setCell ⟨gb, k * 34 + 32, none⟩ (.slice A1 m c1)) h n c gb cp S A C (k + 1)) := by
        intro W A1 c1 hB ho
        have hW := HA2.out.fresh hB
        have hlow : ∀ b, own A1 = some b → w1.heap.size ≤ b := fun b hb => (ho.lt b (by rw [own_eq]; exact hb)).1
        have ht := hW.turn hlt (a' := A1) (c' := c1) (c2 := c) (v' := (S k).v) (by rw [← hm, ← hvold]; exact row_zero ho) (hW.ok k hlt).2 (hW.few k hlt) (Nat.le_refl _) (fun j hj hjk b hb e => by
          have h2 := hlow b e
          have h3 := HA2.out.vlt hj hb
          omega)
        rw [← hm, upd_at _ rfl] at ht
        have hB' : Below w.heap.size w W := hB2.trans (hB.mono hB2.size)
        refine ⟨ht.c0, _, _, ht, ?_, ?_, ?_⟩
        · exact ((Kept.fresh (S := fun b => b = gb) hB').trans (Kept.grown (S := fun b => b = gb) (setCell_grown _ _ _) (fun b e => by cases e; exact .inl rfl)) (fun _ h => .inl h)).below (fun b e => by rw [e]; exact Hgb.out) (Nat.le_refl _)
        · intro j hj b hb
          by_cases e : j = k
          · subst e; simp only [if_true] at hb; have := hlow b hb; have := hB2.size; omega
          · simp only [if_neg e] at hb; exact hnew j (by omega) b hb
        · intro j hj
          have e : j ≠ k := by omega
          simp only [if_neg e]
          exact hold j (by omega)
      obtain ⟨i0, hi0, hz0, hz1, hz2⟩ : ∃ i0, Try.prog.info? 53 = some i0 ∧ i0.zero = some (.agg (bytesV (List.replicate 32 0)).toArray) ∧ i0.size = 32 ∧ i0.bytes = 32 := ⟨i3, hi3, hz3, hz31, hz32⟩
      clear hA2 hB2 hnew hold hm hvold hA0 hcA
      go_wp2_with fail
      refine wp_region_held_drew (S := (fun W => W.cell? ⟨h, 0, none⟩ = some (.slice (some ⟨gb, 0, none⟩) n cp))) (by kernel_rfl) (HS.out _ (Below.refl _ _).drew) (fun hHeld => ?_)
      have BX0 : Hid (Below w1.heap.size w1 w1.drew) := (Below.refl _ _).drew
      generalize w1.drew = wX0 at hHeld BX0 ⊢
      refine takeH (i := 0) (some 24) (v := ?_) rfl rfl (by kernel_rfl) (by kernel_rfl) (by kernel_rfl) (fun _ _ _ h => h) (by rfl) ?_ (by assumption) ?_
      rotate_left
      · (intro w hSw; (try dsimp only at hSw); go_simp; try with_reducible rfl)
      simp only [Act.put, List.setIfInBounds_toArray, List.set_cons_zero, List.set_cons_succ]
      refine takeH (i := 1) (some 25) (v := ?_) rfl rfl (by kernel_rfl) (by kernel_rfl) (by kernel_rfl) (fun _ _ _ h => h) (by rfl) ?_ (by assumption) ?_
      rotate_left
      · (intro w hSw; (try dsimp only at hSw); go_simp; try with_reducible rfl)
      simp only [Act.put, List.setIfInBounds_toArray, List.set_cons_zero, List.set_cons_succ]
      refine takeH (i := 2) (some 26) (v := ?_) rfl rfl (by kernel_rfl) (by kernel_rfl) (by kernel_rfl) (fun _ _ _ h => h) (by rfl) ?_ (by assumption) ?_
      rotate_left
      · (intro w hSw; (try dsimp only at hSw); go_simp; try with_reducible rfl)
      simp only [Act.put, List.setIfInBounds_toArray, List.set_cons_zero, List.set_cons_succ]
      refine takeH (i := 3) (some 27) (v := ?_) rfl rfl (by kernel_rfl) (by kernel_rfl) (by kernel_rfl) (fun _ _ _ h => h) (by rfl) ?_ (by assumption) ?_
      rotate_left
      · (intro w hSw; (try dsimp only at hSw); go_simp; try with_reducible rfl)
      simp only [Act.put, List.setIfInBounds_toArray, List.set_cons_zero, List.set_cons_succ]
      refine takeH (i := 4) (some 28) (v := ?_) rfl rfl (by kernel_rfl) (by kernel_rfl) (by kernel_rfl) (fun _ _ _ h => h) (by rfl) ?_ (by assumption) ?_
      rotate_left
      · (intro w hSw; (try dsimp only at hSw); go_simp; try with_reducible rfl)
      simp only [Act.put, List.setIfInBounds_toArray, List.set_cons_zero, List.set_cons_succ]
      refine takeH (i := 6) (some 30) (v := ?_) rfl rfl (by kernel_rfl) (by kernel_rfl) (by kernel_rfl) (fun _ _ _ h => h) (by rfl) ?_ (by assumption) ?_
      rotate_left
      · (intro w hSw; (try dsimp only at hSw); go_simp; try with_reducible rfl)
      simp only [Act.put, List.setIfInBounds_toArray, List.set_cons_zero, List.set_cons_succ]
      refine takeH (i := 7) (some 31) (v := ?_) rfl rfl (by kernel_rfl) (by kernel_rfl) (by kernel_rfl) (fun _ _ _ h => h) (by rfl) ?_ (by assumption) ?_
      rotate_left
      · (intro w hSw; (try dsimp only at hSw); go_simp; try with_reducible rfl)
      simp only [Act.put, List.setIfInBounds_toArray, List.set_cons_zero, List.set_cons_succ]
      refine takeH (i := 8) (some 32) (v := ?_) rfl rfl (by kernel_rfl) (by kernel_rfl) (by kernel_rfl) (fun _ _ _ h => h) (by rfl) ?_ (by assumption) ?_
      rotate_left
      · (intro w hSw; (try dsimp only at hSw); go_simp; try with_reducible rfl)
      simp only [Act.put, List.setIfInBounds_toArray, List.set_cons_zero, List.set_cons_succ]
      refine takeH (i := 9) (some 33) (v := ?_) rfl rfl (by kernel_rfl) (by kernel_rfl) (by kernel_rfl) (fun _ _ _ h => h) (by rfl) ?_ (by assumption) ?_
      rotate_left
      · (intro w hSw; (try dsimp only at hSw); go_simp; try with_reducible rfl)
      simp only [Act.put, List.setIfInBounds_toArray, List.set_cons_zero, List.set_cons_succ]
      refine takeH (i := 10) (some 34) (v := ?_) rfl rfl (by kernel_rfl) (by kernel_rfl) (by kernel_rfl) (fun _ _ _ h => h) (by rfl) ?_ (by assumption) ?_
      rotate_left
      · (intro w hSw; (try dsimp only at hSw); go_simp; try with_reducible rfl)
      simp only [Act.put, List.setIfInBounds_toArray, List.set_cons_zero, List.set_cons_succ]
      refine takeH (i := 11) (some 35) (v := ?_) rfl rfl (by kernel_rfl) (by kernel_rfl) (by kernel_rfl) (fun _ _ _ h => h) (by rfl) ?_ (by assumption) ?_
      rotate_left
      · (intro w hSw; (try dsimp only at hSw); go_simp; try with_reducible rfl)
      simp only [Act.put, List.setIfInBounds_toArray, List.set_cons_zero, List.set_cons_succ]
      refine takeH (i := 12) (some 36) (v := ?_) rfl rfl (by kernel_rfl) (by kernel_rfl) (by kernel_rfl) (fun _ _ _ h => h) (by rfl) ?_ (by assumption) ?_
      rotate_left
      · (intro w hSw; (try dsimp only at hSw); go_simp; try with_reducible rfl)
      simp only [Act.put, List.setIfInBounds_toArray, List.set_cons_zero, List.set_cons_succ]
      refine wpAnyH_ready (rs := [5, 13]) (by kernel_rfl) (by simp) ?_
      refine AllReadyH.cons rfl (fun K hK => ?_) (AllReadyH.cons rfl (fun K hK => ?_) AllReadyH.nil)
      · go_simp
        obtain ⟨eb, heb⟩ : ∃ x, x = wX0.heap.size := ⟨_, rfl⟩
        obtain ⟨wX1, hX⟩ : ∃ x, x = wX0.alloc (.cells #[] 53) := ⟨_, rfl⟩
        have BX1 : Hid (Below w1.heap.size w1 wX1) := by rw [hX]; exact BX0.out.alloc BX0.out.size _
        have OE : Hid (wX1.ownsRow w1.heap.size 53 32 (.slice (some ⟨eb, 0, none⟩) 0 0) 0 []) := by rw [hX, heb]; exact World.ownsRow_made _ #[] 0 BX0.out.size (by simp) (by simp)
        have ebl : Hid (w1.heap.size ≤ eb) := by rw [heb]; exact BX0.out.size
        have ebw : Hid (eb < wX1.heap.size) := by rw [hX, heb]; simp [Hid]
        rw [← heb, ← hX]
        clear hX heb
        refine hK _ _ (HS.out _ BX1.out) (fun hHeld => ?_)
        clear hK K
        try simp only [Act.put, List.setIfInBounds_toArray, List.set_cons_zero, List.set_cons_succ]
        refine wpAnyH_ready (rs := [13]) (by kernel_rfl) (by simp) ?_
        refine AllReadyH.cons rfl (fun K hK => ?_) AllReadyH.nil
        have hcv := (HW.out _ BX1.out).2.1
        go_simp
        clear hcv
        refine hK _ _ (HS.out _ BX1.out) (fun hHeld => ?_)
        clear hK K
        try simp only [Act.put, List.setIfInBounds_toArray, List.set_cons_zero, List.set_cons_succ]
        refine wpAnyH_ready (rs := [14]) (by kernel_rfl) (by simp) ?_
        refine AllReadyH.cons rfl (fun K hK => ?_) AllReadyH.nil
        refine step_append_src rfl (.tmp 29) (.tmp 37) 52 rfl w1.heap.size 53 i0 _ 32 32 Try.underlying52 hi0 hz0 hz1 hz2 (by decide) (by decide) (.slice (some ⟨eb, 0, none⟩) 0 0) 0 [] rfl OE.out A0 m cA (secsV vold) rfl Hlen.out (HW.out _ BX1.out).2.2.2.1 (HW.out _ BX1.out).2.2.2.2 Hone.out (by unfold maxLen; omega) (by omega) BX1.out.size m (by omega) ?_
        intro A1 c1 wX3 ho hg hor
        have BX3 : Hid (Below w1.heap.size w1 wX3) := BX1.out.grown hg BX1.out.size (fun j e => by cases e; exact ebl.out)
        have OA : Hid (wX3.ownsRow w1.heap.size 53 32 (.slice A1 m c1) m (secsV vold)) := by rw [List.nil_append] at ho; exact ho
        clear ho hg hor
        refine hK _ _ (HS.out _ BX3.out) (fun hHeld => ?_)
        clear hK K
        try simp only [Act.put, List.setIfInBounds_toArray, List.set_cons_zero, List.set_cons_succ]
        refine takeH (i := 15) (some 39) (v := ?_) rfl rfl (by kernel_rfl) (by kernel_rfl) (by kernel_rfl) (fun _ _ _ h => h) (by rfl) ?_ (by assumption) ?_
        rotate_left
        · (intro w hSw; (try dsimp only at hSw); go_simp; try with_reducible rfl)
        simp only [Act.put, List.setIfInBounds_toArray, List.set_cons_zero, List.set_cons_succ]
        refine takeH (i := 16) (some 40) (v := ?_) rfl rfl (by kernel_rfl) (by kernel_rfl) (by kernel_rfl) (fun _ _ _ h => h) (by rfl) ?_ (by assumption) ?_
        rotate_left
        · (intro w hSw; (try dsimp only at hSw); go_simp; try with_reducible rfl)
        simp only [Act.put, List.setIfInBounds_toArray, List.set_cons_zero, List.set_cons_succ]
        refine wpAnyH_ready (rs := [17]) (by kernel_rfl) (by simp) ?_
        refine AllReadyH.cons rfl (fun K hK => ?_) AllReadyH.nil
        have hcv := (HW.out _ BX3.out).2.1
        have hfz := (HW.out _ BX3.out).2.2.1
        go_simp
        refine hK _ _ (HF.out _ _ BX3.out) (fun hHeld => ?_)
        clear hK K hcv hfz
        try simp only [Act.put, List.setIfInBounds_toArray, List.set_cons_zero, List.set_cons_succ]
        refine wpAnyH_done (by kernel_rfl) ?_ _
        obtain ⟨hc9, hR9⟩ := HE.out _ A1 c1 BX3.out OA.out
        have HR9 := Lib.hid hR9
        clear hR9
        go_wp2_with fail
        go_roundw
        case rel => exact ⟨k + 1, by omega, rfl, HR9.out⟩
        case measure => simp [intOf]; omega
      · have hcv := (HW.out _ BX0.out).2.1
        go_simp
        clear hcv
        refine hK _ _ (HS.out _ BX0.out) (fun hHeld => ?_)
        clear hK K
        try simp only [Act.put, List.setIfInBounds_toArray, List.set_cons_zero, List.set_cons_succ]
        refine wpAnyH_ready (rs := [5]) (by kernel_rfl) (by simp) ?_
        refine AllReadyH.cons rfl (fun K hK => ?_) AllReadyH.nil
        go_simp
        obtain ⟨eb, heb⟩ : ∃ x, x = wX0.heap.size := ⟨_, rfl⟩
        obtain ⟨wX2, hX⟩ : ∃ x, x = wX0.alloc (.cells #[] 53) := ⟨_, rfl⟩
        have BX2 : Hid (Below w1.heap.size w1 wX2) := by rw [hX]; exact BX0.out.alloc BX0.out.size _
        have OE : Hid (wX2.ownsRow w1.heap.size 53 32 (.slice (some ⟨eb, 0, none⟩) 0 0) 0 []) := by rw [hX, heb]; exact World.ownsRow_made _ #[] 0 BX0.out.size (by simp) (by simp)
        have ebl : Hid (w1.heap.size ≤ eb) := by rw [heb]; exact BX0.out.size
        have ebw : Hid (eb < wX2.heap.size) := by rw [hX, heb]; simp [Hid]
        rw [← heb, ← hX]
        clear hX heb
        refine hK _ _ (HS.out _ BX2.out) (fun hHeld => ?_)
        clear hK K
        try simp only [Act.put, List.setIfInBounds_toArray, List.set_cons_zero, List.set_cons_succ]
        refine wpAnyH_ready (rs := [14]) (by kernel_rfl) (by simp) ?_
        refine AllReadyH.cons rfl (fun K hK => ?_) AllReadyH.nil
        refine step_append_src rfl (.tmp 29) (.tmp 37) 52 rfl w1.heap.size 53 i0 _ 32 32 Try.underlying52 hi0 hz0 hz1 hz2 (by decide) (by decide) (.slice (some ⟨eb, 0, none⟩) 0 0) 0 [] rfl OE.out A0 m cA (secsV vold) rfl Hlen.out (HW.out _ BX2.out).2.2.2.1 (HW.out _ BX2.out).2.2.2.2 Hone.out (by unfold maxLen; omega) (by omega) BX2.out.size m (by omega) ?_
        intro A1 c1 wX3 ho hg hor
        have BX3 : Hid (Below w1.heap.size w1 wX3) := BX2.out.grown hg BX2.out.size (fun j e => by cases e; exact ebl.out)
        have OA : Hid (wX3.ownsRow w1.heap.size 53 32 (.slice A1 m c1) m (secsV vold)) := by rw [List.nil_append] at ho; exact ho
        clear ho hg hor
        refine hK _ _ (HS.out _ BX3.out) (fun hHeld => ?_)
        clear hK K
        try simp only [Act.put, List.setIfInBounds_toArray, List.set_cons_zero, List.set_cons_succ]
        refine takeH (i := 15) (some 39) (v := ?_) rfl rfl (by kernel_rfl) (by kernel_rfl) (by kernel_rfl) (fun _ _ _ h => h) (by rfl) ?_ (by assumption) ?_
        rotate_left
        · (intro w hSw; (try dsimp only at hSw); go_simp; try with_reducible rfl)
        simp only [Act.put, List.setIfInBounds_toArray, List.set_cons_zero, List.set_cons_succ]
        refine takeH (i := 16) (some 40) (v := ?_) rfl rfl (by kernel_rfl) (by kernel_rfl) (by kernel_rfl) (fun _ _ _ h => h) (by rfl) ?_ (by assumption) ?_
        rotate_left
        · (intro w hSw; (try dsimp only at hSw); go_simp; try with_reducible rfl)
        simp only [Act.put, List.setIfInBounds_toArray, List.set_cons_zero, List.set_cons_succ]
        refine wpAnyH_ready (rs := [17]) (by kernel_rfl) (by simp) ?_
        refine AllReadyH.cons rfl (fun K hK => ?_) AllReadyH.nil
        have hcv := (HW.out _ BX3.out).2.1
        have hfz := (HW.out _ BX3.out).2.2.1
        go_simp
        refine hK _ _ (HF.out _ _ BX3.out) (fun hHeld => ?_)
        clear hK K hcv hfz
        try simp only [Act.put, List.setIfInBounds_toArray, List.set_cons_zero, List.set_cons_succ]
        refine wpAnyH_done (by kernel_rfl) ?_ _
        obtain ⟨hc9, hR9⟩ := HE.out _ A1 c1 BX3.out OA.out
        have HR9 := Lib.hid hR9
        clear hR9
        go_wp2_with fail
        go_roundw
        case rel => exact ⟨k + 1, by omega, rfl, HR9.out⟩
        case measure => simp [intOf]; omega
    · obtain rfl : k = n := by omega
      have hnn : ¬ ((k : Int) < (k : Int)) := by omega
      clear hA2 hB2 hnew hold
      go_wp2
      go_ret
      obtain ⟨A2, C2, hA2, hB2, hnew, _⟩ := HRk.out
      refine ⟨_, rfl, _, ⟨gb, cp, A2, C2, hA2, rfl⟩, ?_, hB2⟩
      rintro b (q | q | ⟨j, hj, q⟩)
      · rw [q]; exact Hh.out
      · rw [q]; exact Hgb.out
      · exact hnew j hj b q
end Go.Proofs.Ytieeibdhaoaeaaa
