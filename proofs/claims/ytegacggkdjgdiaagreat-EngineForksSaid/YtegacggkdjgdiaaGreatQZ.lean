/- A deed on both engines: Add, Spoil; every deed. -/
import Derived.Test.YtegacggkdjgdiaaGreatH8
import Derived.Test.YtegacggkdjgdiaaGreatQV
set_option linter.unusedVariables false
set_option linter.unusedSimpArgs false
namespace Go.Proofs.YtegacggkdjgdiaaGreat
open Go.RowKit

theorem few_its {w : World} {F : Nat → Prop} {x : Dd} {its : List It} (hi : its = fewL x.L) (h : DdG w F x) (hF : ∀ b, F b → b < w.heap.size) : Calls Tryz.prog 18 #[.slice x.A x.n x.c] w fun e w' => ∃ A' c', e = .returned (.slice A' its.length c') ∧ ItemsF w' F A' its ∧ Below w.heap.size w w' := by
  subst hi; exact few_g h hF
theorem DdG.keep {w w' : World} {F F' G : Nat → Prop} {x : Dd} (h : DdG w F x) (hk : Kept w w' G) (hG : ∀ b, G b → F b) (hF : ∀ b, F' b → F b ∨ w.heap.size ≤ b) : DdG w' F' x :=
  ⟨h.k64, h.i64, h.len, h.nc, h.cm, h.wf, h.cap.keep hk hG hF⟩
theorem DdG.fresh {w w' : World} {F : Nat → Prop} {x : Dd} (h : DdG w F x) (hB : Below w.heap.size w w') : DdG w' F x := h.keep (G := fun _ => False) (Kept.fresh hB) (fun _ q => q.elim) (fun _ q => .inl q)
section
variable {w : World} {e r : Nat} {S : Nat → Bk} {l : List Wr} {lv : List Vr} {t : List Tr} {k : Int} {m cc : Nat} {F1 F2 : Nat → Prop}
set_option maxRecDepth 100000 in
set_option maxHeartbeats 2000000 in
theorem do_spoil (h : PairAt w e r S l lv t k m cc F1 F2) (hm : m ≤ 40) (x : Dd) (hk : x.kind = 4) (hi : 0 ≤ x.i ∧ x.i < 5) : Calls Tryz.prog 23 #[.pointer (some ⟨e, 0, none⟩), .pointer (some ⟨r, 0, none⟩), x.v] w (DoS w e r m F1 F2) := by
  obtain ⟨kind, xi, A, n, c, L, bad⟩ := x
  dsimp only at hk hi
  subst hk
  obtain ⟨i, hxi⟩ : ∃ i : Nat, xi = (i : Int) := ⟨xi.toNat, by omega⟩
  have hi5 : i < 5 := by omega
  have HE := Lib.hid (fun W (hB : Below w.heap.size w W) => espoil (h.eng.fresh hB) hi5 bad)
  have HQ := Lib.hid (fun W hq => @qspoil W r 5 cc S k lv t F2 hq i hi5 bad)
  rw [← hxi] at HE HQ
  have Hsep := Lib.hid h.sep
  clear hi hxi
  have HP := Lib.hid h
  have Hlt1 := Lib.hid h.eng.lt
  have Hlt2 := Lib.hid h.ref.lt
  clear h
  unfold Dd.v
  dsimp only
  have HBx : Hid (Below w.heap.size w (w.alloc (.cells #[.int .i64 4, .int .i64 xi, .slice A n c, .bool bad] 54))) := (Below.refl _ _).alloc (Nat.le_refl _) _
  have Hpx : Hid ((w.alloc (.cells #[.int .i64 4, .int .i64 xi, .slice A n c, .bool bad] 54)).heap[w.heap.size]? = some (.cells #[.int .i64 4, .int .i64 xi, .slice A n c, .bool bad] 54 (0, 0))) := heap_alloc_new w _
  have hF1x : Hid (¬ F1 w.heap.size) := fun q => Nat.lt_irrefl _ (Hlt1.out _ q)
  have hF2x : Hid (¬ F2 w.heap.size) := fun q => Nat.lt_irrefl _ (Hlt2.out _ q)
  go_enter Tryz.func23, Tryz.ntmps23
  have Hpd : Hid ((w.alloc (.cells #[.int .i64 4, .int .i64 xi, .slice A n c, .bool bad] 54)).drew.heap[w.heap.size]? = some (.cells #[.int .i64 4, .int .i64 xi, .slice A n c, .bool bad] 54 (0, 0))) := Hpx.out
  have HXk : Hid (∀ (W1 W2 : World) {G : Nat → Prop}, Kept W1 W2 G → W1.heap[w.heap.size]? = some (.cells #[.int .i64 4, .int .i64 xi, .slice A n c, .bool bad] 54 (0, 0)) → ¬ G w.heap.size → W2.heap[w.heap.size]? = some (.cells #[.int .i64 4, .int .i64 xi, .slice A n c, .bool bad] 54 (0, 0)) ∧ W2.cell? ⟨w.heap.size, 1, none⟩ = some (.int .i64 xi) ∧ W2.cell? ⟨w.heap.size, 3, none⟩ = some (.bool bad)) := fun W1 W2 G hk hp hG => by
    have h := box_cell (x := ⟨0, 0, none, 0, 0, [], false⟩) hp hk hG
    exact ⟨h, cell_of_row _ _ 1 _ 54 (0, 0) h, cell_of_row _ _ 3 _ 54 (0, 0) h⟩
  have X1 : Hid ((w.alloc (.cells #[.int .i64 4, .int .i64 xi, .slice A n c, .bool bad] 54)).drew.cell? ⟨w.heap.size, 1, none⟩ = some (.int .i64 xi) ∧ (w.alloc (.cells #[.int .i64 4, .int .i64 xi, .slice A n c, .bool bad] 54)).drew.cell? ⟨w.heap.size, 3, none⟩ = some (.bool bad)) := (HXk.out _ _ (Kept.refl _ (fun _ => False)) Hpd.out (fun q => q)).2
  go_wp2
  refine wp_region_held_drew (S := (fun W => W.cell? ⟨w.heap.size, 1, none⟩ = some (.int .i64 xi) ∧ W.cell? ⟨w.heap.size, 3, none⟩ = some (.bool bad))) (by kernel_rfl) (X1.out) (fun hHeld => ?_)
  refine takeH (i := 0) (some 83) (v := ?_) rfl rfl (by kernel_rfl) (by kernel_rfl) (by kernel_rfl) (fun _ _ _ h => h) (by rfl) ?_ (by assumption) ?_
  rotate_left
  · (intro w hSw; (try dsimp only at hSw); go_simp; try with_reducible rfl)
  simp only [Act.put, List.setIfInBounds_toArray, List.set_cons_zero, List.set_cons_succ]
  refine takeH (i := 1) (some 84) (v := ?_) rfl rfl (by kernel_rfl) (by kernel_rfl) (by kernel_rfl) (fun _ _ _ h => h) (by rfl) ?_ (by assumption) ?_
  rotate_left
  · (intro w hSw; (try dsimp only at hSw); go_simp; try with_reducible rfl)
  simp only [Act.put, List.setIfInBounds_toArray, List.set_cons_zero, List.set_cons_succ]
  refine takeH (i := 2) (some 85) (v := ?_) rfl rfl (by kernel_rfl) (by kernel_rfl) (by kernel_rfl) (fun _ _ _ h => h) (by rfl) ?_ (by assumption) ?_
  rotate_left
  · (intro w hSw; (try dsimp only at hSw); go_simp; try with_reducible rfl)
  simp only [Act.put, List.setIfInBounds_toArray, List.set_cons_zero, List.set_cons_succ]
  refine takeH (i := 3) (some 86) (v := ?_) rfl rfl (by kernel_rfl) (by kernel_rfl) (by kernel_rfl) (fun _ _ _ h => h) (by rfl) ?_ (by assumption) ?_
  rotate_left
  · (intro w hSw; (try dsimp only at hSw); go_simp; try with_reducible rfl)
  simp only [Act.put, List.setIfInBounds_toArray, List.set_cons_zero, List.set_cons_succ]
  refine takeH (i := 4) (some 87) (v := ?_) rfl rfl (by kernel_rfl) (by kernel_rfl) (by kernel_rfl) (fun _ _ _ h => h) (by rfl) ?_ (by assumption) ?_
  rotate_left
  · (intro w hSw; (try dsimp only at hSw); go_simp; try with_reducible rfl)
  simp only [Act.put, List.setIfInBounds_toArray, List.set_cons_zero, List.set_cons_succ]
  refine takeH (i := 6) (some 89) (v := ?_) rfl rfl (by kernel_rfl) (by kernel_rfl) (by kernel_rfl) (fun _ _ _ h => h) (by rfl) ?_ (by assumption) ?_
  rotate_left
  · (intro w hSw; (try dsimp only at hSw); go_simp; try with_reducible rfl)
  simp only [Act.put, List.setIfInBounds_toArray, List.set_cons_zero, List.set_cons_succ]
  refine takeH (i := 7) (some 90) (v := ?_) rfl rfl (by kernel_rfl) (by kernel_rfl) (by kernel_rfl) (fun _ _ _ h => h) (by rfl) ?_ (by assumption) ?_
  rotate_left
  · (intro w hSw; (try dsimp only at hSw); go_simp; try with_reducible rfl)
  simp only [Act.put, List.setIfInBounds_toArray, List.set_cons_zero, List.set_cons_succ]
  refine takeH (i := 8) (some 91) (v := ?_) rfl rfl (by kernel_rfl) (by kernel_rfl) (by kernel_rfl) (fun _ _ _ h => h) (by rfl) ?_ (by assumption) ?_
  rotate_left
  · (intro w hSw; (try dsimp only at hSw); go_simp; try with_reducible rfl)
  simp only [Act.put, List.setIfInBounds_toArray, List.set_cons_zero, List.set_cons_succ]
  refine takeH (i := 9) (some 92) (v := ?_) rfl rfl (by kernel_rfl) (by kernel_rfl) (by kernel_rfl) (fun _ _ _ h => h) (by rfl) ?_ (by assumption) ?_
  rotate_left
  · (intro w hSw; (try dsimp only at hSw); go_simp; try with_reducible rfl)
  simp only [Act.put, List.setIfInBounds_toArray, List.set_cons_zero, List.set_cons_succ]
  refine takeH (i := 10) (some 93) (v := ?_) rfl rfl (by kernel_rfl) (by kernel_rfl) (by kernel_rfl) (fun _ _ _ h => h) (by rfl) ?_ (by assumption) ?_
  rotate_left
  · (intro w hSw; (try dsimp only at hSw); go_simp; try with_reducible rfl)
  simp only [Act.put, List.setIfInBounds_toArray, List.set_cons_zero, List.set_cons_succ]
  refine wpAnyH_ready (rs := [5]) (by kernel_rfl) (by simp) ?_
  refine AllReadyH.cons rfl (fun K hK => ?_) AllReadyH.nil
  go_simp
  refine (HE.out _ (HBx.out.drew)).mono ?_
  rintro en w2 ⟨rfl, F1', he, hk1, hf1⟩
  have HE2 := Lib.hid he
  have HK1 := Lib.hid hk1
  have HF1 := Lib.hid hf1
  have X2 := Lib.hid (HXk.out _ _ hk1 Hpd.out hF1x.out)
  have HQ2 := Lib.hid (HQ.out w2 ((HP.out.ref.fresh HBx.out.drew).keep hk1 (fun b q1 q2 => Hsep.out b q2 q1) (HP.out.eng.fresh HBx.out.drew).ni))
  clear he hk1 hf1
  refine hK _ _ (X2.out.2) (fun hHeld => ?_)
  clear hK K
  try simp only [Act.put, List.setIfInBounds_toArray, List.set_cons_zero, List.set_cons_succ]
  refine wpAnyH_ready (rs := [11]) (by kernel_rfl) (by simp) ?_
  refine AllReadyH.cons rfl (fun K hK => ?_) AllReadyH.nil
  go_simp
  refine HQ2.out.mono ?_
  rintro en w3 ⟨rfl, F2', hq, hk2, hf2⟩
  have HQ3 := Lib.hid hq
  have HK2 := Lib.hid hk2
  have HF2 := Lib.hid hf2
  have X3 := Lib.hid (HXk.out _ _ hk2 X2.out.1 hF2x.out)
  clear hq hk2 hf2
  refine hK _ _ (X3.out.2) (fun hHeld => ?_)
  clear hK K
  try simp only [Act.put, List.setIfInBounds_toArray, List.set_cons_zero, List.set_cons_succ]
  refine takeH (i := 12) (some 95) (v := ?_) rfl rfl (by kernel_rfl) (by kernel_rfl) (by kernel_rfl) (fun _ _ _ h => h) (by rfl) ?_ (by assumption) ?_
  rotate_left
  · (intro w hSw; (try dsimp only at hSw); go_simp; try with_reducible rfl)
  simp only [Act.put, List.setIfInBounds_toArray, List.set_cons_zero, List.set_cons_succ]
  refine takeH (i := 13) (some 6) (v := ?_) rfl rfl (by kernel_rfl) (by kernel_rfl) (by kernel_rfl) (fun _ _ _ h => h) (by rfl) ?_ (by assumption) ?_
  rotate_left
  · (intro w hSw; (try dsimp only at hSw); go_simp; try with_reducible rfl)
  simp only [Act.put, List.setIfInBounds_toArray, List.set_cons_zero, List.set_cons_succ]
  refine wpAnyH_done (by kernel_rfl) ?_ _
  go_wp2
  go_ret
  refine ⟨rfl, Pair.join HP.out HBx.out.drew HE2.out HK1.out HF1.out (Below.refl _ _) HQ3.out HK2.out HF2.out HP.out.tie HP.out.ds HP.out.ts (by have := HP.out.tl; omega) HP.out.k0 (by have := HP.out.kb; omega) (by have := HP.out.cb; omega) (HP.out.fine.spoil i bad)⟩
set_option maxRecDepth 100000 in
set_option maxHeartbeats 2000000 in
theorem do_spoil_no (h : PairAt w e r S l lv t k m cc F1 F2) (hm : m ≤ 40) (x : Dd) (hk : x.kind = 4) (hi : ¬ (0 ≤ x.i ∧ x.i < 5)) : Calls Tryz.prog 23 #[.pointer (some ⟨e, 0, none⟩), .pointer (some ⟨r, 0, none⟩), x.v] w (DoS w e r m F1 F2) := by
  obtain ⟨kind, xi, A, n, c, L, bad⟩ := x
  dsimp only at hk hi
  subst hk
  have HE := Lib.hid (fun W (hB : Below w.heap.size w W) => espoil_no (h.eng.fresh hB) xi (by omega) bad)
  have HQ := Lib.hid (fun W (hB : Below w.heap.size w W) => qspoil_no (h.ref.fresh hB) xi (by omega) bad)
  clear hi
  have HP := Lib.hid h
  have Hlt1 := Lib.hid h.eng.lt
  have Hlt2 := Lib.hid h.ref.lt
  clear h
  unfold Dd.v
  dsimp only
  have HBx : Hid (Below w.heap.size w (w.alloc (.cells #[.int .i64 4, .int .i64 xi, .slice A n c, .bool bad] 54))) := (Below.refl _ _).alloc (Nat.le_refl _) _
  have Hpx : Hid ((w.alloc (.cells #[.int .i64 4, .int .i64 xi, .slice A n c, .bool bad] 54)).heap[w.heap.size]? = some (.cells #[.int .i64 4, .int .i64 xi, .slice A n c, .bool bad] 54 (0, 0))) := heap_alloc_new w _
  have hF1x : Hid (¬ F1 w.heap.size) := fun q => Nat.lt_irrefl _ (Hlt1.out _ q)
  have hF2x : Hid (¬ F2 w.heap.size) := fun q => Nat.lt_irrefl _ (Hlt2.out _ q)
  go_enter Tryz.func23, Tryz.ntmps23
  have Hpd : Hid ((w.alloc (.cells #[.int .i64 4, .int .i64 xi, .slice A n c, .bool bad] 54)).drew.heap[w.heap.size]? = some (.cells #[.int .i64 4, .int .i64 xi, .slice A n c, .bool bad] 54 (0, 0))) := Hpx.out
  have HXk : Hid (∀ (W1 W2 : World) {G : Nat → Prop}, Kept W1 W2 G → W1.heap[w.heap.size]? = some (.cells #[.int .i64 4, .int .i64 xi, .slice A n c, .bool bad] 54 (0, 0)) → ¬ G w.heap.size → W2.heap[w.heap.size]? = some (.cells #[.int .i64 4, .int .i64 xi, .slice A n c, .bool bad] 54 (0, 0)) ∧ W2.cell? ⟨w.heap.size, 1, none⟩ = some (.int .i64 xi) ∧ W2.cell? ⟨w.heap.size, 3, none⟩ = some (.bool bad)) := fun W1 W2 G hk hp hG => by
    have h := box_cell (x := ⟨0, 0, none, 0, 0, [], false⟩) hp hk hG
    exact ⟨h, cell_of_row _ _ 1 _ 54 (0, 0) h, cell_of_row _ _ 3 _ 54 (0, 0) h⟩
  have X1 : Hid ((w.alloc (.cells #[.int .i64 4, .int .i64 xi, .slice A n c, .bool bad] 54)).drew.cell? ⟨w.heap.size, 1, none⟩ = some (.int .i64 xi) ∧ (w.alloc (.cells #[.int .i64 4, .int .i64 xi, .slice A n c, .bool bad] 54)).drew.cell? ⟨w.heap.size, 3, none⟩ = some (.bool bad)) := (HXk.out _ _ (Kept.refl _ (fun _ => False)) Hpd.out (fun q => q)).2
  go_wp2
  refine wp_region_held_drew (S := (fun W => W.cell? ⟨w.heap.size, 1, none⟩ = some (.int .i64 xi) ∧ W.cell? ⟨w.heap.size, 3, none⟩ = some (.bool bad))) (by kernel_rfl) (X1.out) (fun hHeld => ?_)
  refine takeH (i := 0) (some 83) (v := ?_) rfl rfl (by kernel_rfl) (by kernel_rfl) (by kernel_rfl) (fun _ _ _ h => h) (by rfl) ?_ (by assumption) ?_
  rotate_left
  · (intro w hSw; (try dsimp only at hSw); go_simp; try with_reducible rfl)
  simp only [Act.put, List.setIfInBounds_toArray, List.set_cons_zero, List.set_cons_succ]
  refine takeH (i := 1) (some 84) (v := ?_) rfl rfl (by kernel_rfl) (by kernel_rfl) (by kernel_rfl) (fun _ _ _ h => h) (by rfl) ?_ (by assumption) ?_
  rotate_left
  · (intro w hSw; (try dsimp only at hSw); go_simp; try with_reducible rfl)
  simp only [Act.put, List.setIfInBounds_toArray, List.set_cons_zero, List.set_cons_succ]
  refine takeH (i := 2) (some 85) (v := ?_) rfl rfl (by kernel_rfl) (by kernel_rfl) (by kernel_rfl) (fun _ _ _ h => h) (by rfl) ?_ (by assumption) ?_
  rotate_left
  · (intro w hSw; (try dsimp only at hSw); go_simp; try with_reducible rfl)
  simp only [Act.put, List.setIfInBounds_toArray, List.set_cons_zero, List.set_cons_succ]
  refine takeH (i := 3) (some 86) (v := ?_) rfl rfl (by kernel_rfl) (by kernel_rfl) (by kernel_rfl) (fun _ _ _ h => h) (by rfl) ?_ (by assumption) ?_
  rotate_left
  · (intro w hSw; (try dsimp only at hSw); go_simp; try with_reducible rfl)
  simp only [Act.put, List.setIfInBounds_toArray, List.set_cons_zero, List.set_cons_succ]
  refine takeH (i := 4) (some 87) (v := ?_) rfl rfl (by kernel_rfl) (by kernel_rfl) (by kernel_rfl) (fun _ _ _ h => h) (by rfl) ?_ (by assumption) ?_
  rotate_left
  · (intro w hSw; (try dsimp only at hSw); go_simp; try with_reducible rfl)
  simp only [Act.put, List.setIfInBounds_toArray, List.set_cons_zero, List.set_cons_succ]
  refine takeH (i := 6) (some 89) (v := ?_) rfl rfl (by kernel_rfl) (by kernel_rfl) (by kernel_rfl) (fun _ _ _ h => h) (by rfl) ?_ (by assumption) ?_
  rotate_left
  · (intro w hSw; (try dsimp only at hSw); go_simp; try with_reducible rfl)
  simp only [Act.put, List.setIfInBounds_toArray, List.set_cons_zero, List.set_cons_succ]
  refine takeH (i := 7) (some 90) (v := ?_) rfl rfl (by kernel_rfl) (by kernel_rfl) (by kernel_rfl) (fun _ _ _ h => h) (by rfl) ?_ (by assumption) ?_
  rotate_left
  · (intro w hSw; (try dsimp only at hSw); go_simp; try with_reducible rfl)
  simp only [Act.put, List.setIfInBounds_toArray, List.set_cons_zero, List.set_cons_succ]
  refine takeH (i := 8) (some 91) (v := ?_) rfl rfl (by kernel_rfl) (by kernel_rfl) (by kernel_rfl) (fun _ _ _ h => h) (by rfl) ?_ (by assumption) ?_
  rotate_left
  · (intro w hSw; (try dsimp only at hSw); go_simp; try with_reducible rfl)
  simp only [Act.put, List.setIfInBounds_toArray, List.set_cons_zero, List.set_cons_succ]
  refine takeH (i := 9) (some 92) (v := ?_) rfl rfl (by kernel_rfl) (by kernel_rfl) (by kernel_rfl) (fun _ _ _ h => h) (by rfl) ?_ (by assumption) ?_
  rotate_left
  · (intro w hSw; (try dsimp only at hSw); go_simp; try with_reducible rfl)
  simp only [Act.put, List.setIfInBounds_toArray, List.set_cons_zero, List.set_cons_succ]
  refine takeH (i := 10) (some 93) (v := ?_) rfl rfl (by kernel_rfl) (by kernel_rfl) (by kernel_rfl) (fun _ _ _ h => h) (by rfl) ?_ (by assumption) ?_
  rotate_left
  · (intro w hSw; (try dsimp only at hSw); go_simp; try with_reducible rfl)
  simp only [Act.put, List.setIfInBounds_toArray, List.set_cons_zero, List.set_cons_succ]
  refine wpAnyH_ready (rs := [5]) (by kernel_rfl) (by simp) ?_
  refine AllReadyH.cons rfl (fun K hK => ?_) AllReadyH.nil
  go_simp
  refine (HE.out _ (HBx.out.drew)).mono ?_
  rintro en w2 ⟨rfl, rfl⟩
  refine hK _ _ (X1.out) (fun hHeld => ?_)
  clear hK K
  try simp only [Act.put, List.setIfInBounds_toArray, List.set_cons_zero, List.set_cons_succ]
  refine wpAnyH_ready (rs := [11]) (by kernel_rfl) (by simp) ?_
  refine AllReadyH.cons rfl (fun K hK => ?_) AllReadyH.nil
  go_simp
  refine (HQ.out _ (HBx.out.drew)).mono ?_
  rintro en w3 ⟨rfl, rfl⟩
  refine hK _ _ (X1.out) (fun hHeld => ?_)
  clear hK K
  try simp only [Act.put, List.setIfInBounds_toArray, List.set_cons_zero, List.set_cons_succ]
  refine takeH (i := 12) (some 95) (v := ?_) rfl rfl (by kernel_rfl) (by kernel_rfl) (by kernel_rfl) (fun _ _ _ h => h) (by rfl) ?_ (by assumption) ?_
  rotate_left
  · (intro w hSw; (try dsimp only at hSw); go_simp; try with_reducible rfl)
  simp only [Act.put, List.setIfInBounds_toArray, List.set_cons_zero, List.set_cons_succ]
  refine takeH (i := 13) (some 6) (v := ?_) rfl rfl (by kernel_rfl) (by kernel_rfl) (by kernel_rfl) (fun _ _ _ h => h) (by rfl) ?_ (by assumption) ?_
  rotate_left
  · (intro w hSw; (try dsimp only at hSw); go_simp; try with_reducible rfl)
  simp only [Act.put, List.setIfInBounds_toArray, List.set_cons_zero, List.set_cons_succ]
  refine wpAnyH_done (by kernel_rfl) ?_ _
  go_wp2
  go_ret
  exact ⟨rfl, HP.out.still HBx.out.drew⟩
set_option maxRecDepth 100000 in
set_option maxHeartbeats 2000000 in
theorem do_add (h : PairAt w e r S l lv t k m cc F1 F2) (hm : m ≤ 40) (x : Dd) (hk : x.kind = 0) (hd : DdG w (fun b => F1 b ∨ F2 b) x) (hr : refusesE 5 k l.length (fewL x.L) = 0) : Calls Tryz.prog 23 #[.pointer (some ⟨e, 0, none⟩), .pointer (some ⟨r, 0, none⟩), x.v] w (DoS w e r m F1 F2) := by
  obtain ⟨kind, xi, A, n, c, L, bad⟩ := x
  dsimp only at hk hd hr
  subst hk
  have HDx := Lib.hid hd
  have HFl := Lib.hid (Pair.lt ⟨S, l, lv, t, k, cc, F1, F2, h, rfl⟩)
  obtain ⟨its, hits⟩ : ∃ its, its = fewL L := ⟨_, rfl⟩
  have Hits := Lib.hid hits
  have Hsm : Hid (SmallI its) := by unfold Hid; rw [hits]; exact small_fewL hd.wf
  have hil : its.length ≤ 12 := by rw [hits, length_fewL]; omega
  have T1 : Hid True := trivial
  have Hsep := Lib.hid h.sep
  have Hlen := Lib.hid h.tie.tw.len
  clear hits hd
  have Hr : Hid (refusesE 5 k l.length its = 0) := by unfold Hid; rw [Hits.out]; exact hr
  clear hr
  have HP := Lib.hid h
  have Hlt1 := Lib.hid h.eng.lt
  have Hlt2 := Lib.hid h.ref.lt
  clear h
  unfold Dd.v
  dsimp only
  have HBx : Hid (Below w.heap.size w (w.alloc (.cells #[.int .i64 0, .int .i64 xi, .slice A n c, .bool bad] 54))) := (Below.refl _ _).alloc (Nat.le_refl _) _
  have Hpx : Hid ((w.alloc (.cells #[.int .i64 0, .int .i64 xi, .slice A n c, .bool bad] 54)).heap[w.heap.size]? = some (.cells #[.int .i64 0, .int .i64 xi, .slice A n c, .bool bad] 54 (0, 0))) := heap_alloc_new w _
  have hF1x : Hid (¬ F1 w.heap.size) := fun q => Nat.lt_irrefl _ (Hlt1.out _ q)
  have hF2x : Hid (¬ F2 w.heap.size) := fun q => Nat.lt_irrefl _ (Hlt2.out _ q)
  go_enter Tryz.func23, Tryz.ntmps23
  go_wp2_with (first
    | (go_at_call 18; have _t := T1; clear _t T1; refine (few_its (x := ⟨0, xi, A, n, c, L, bad⟩) Hits.out (HDx.out.fresh HBx.out) (fun b q => Nat.lt_of_lt_of_le (HFl.out b q) HBx.out.size)).mono ?_; rintro en w2 ⟨A2, c2, rfl, hi2, hb2⟩; have HB2 : Hid (Below w.heap.size w w2) := HBx.out.trans (hb2.mono HBx.out.size); have Hp2 : Hid (w2.heap[w.heap.size]? = some (.cells #[.int .i64 0, .int .i64 xi, .slice A n c, .bool bad] 54 (0, 0))) := (hb2.block _ (Array.getElem?_eq_some_iff.1 Hpx.out).1).trans Hpx.out; have HI2 := Lib.hid (hi2.sub (F' := F1) (fun b q => .inl q)); clear hi2 hb2)
    | (go_at_call 17; refine (eadd (HP.out.eng.fresh HB2.out) A2 c2 its HI2.out Hsm.out HP.out.k0 (by have := HP.out.kb; omega) Hr.out).mono ?_; rintro en w3 ⟨rfl, F1', ⟨l', ha, he⟩, hk1, hf1⟩; have HA3 := Lib.hid ha; have HE3 := Lib.hid he; have HK1 := Lib.hid hk1; have HF1 := Lib.hid hf1; have hp2 := box_cell (x := ⟨0, 0, none, 0, 0, [], false⟩) Hp2.out hk1 hF1x.out; have g1 : w3.cell? ⟨w.heap.size, 2, none⟩ = some (.slice A n c) := cell_of_row w3 _ 2 _ 54 (0, 0) hp2; have g2 : w.heap.size < w3.heap.size := (Array.getElem?_eq_some_iff.1 hp2).1; have Hp3 := Lib.hid hp2; clear hp2; have HQr3 := Lib.hid ((HP.out.ref.fresh HB2.out).keep hk1 (fun b q1 q2 => Hsep.out b q2 q1) (HP.out.eng.fresh HB2.out).ni); have HD3 := Lib.hid ((HDx.out.fresh HB2.out).keep (F' := fun b => F1 b ∨ F2 b) hk1 (fun b q => .inl q) (fun b q => .inl q)); have T2 : Hid True := trivial; have hs3 : w.heap.size ≤ w3.heap.size := Nat.le_trans HB2.out.size hk1.size; clear ha he hk1 hf1)
    | (go_at_call 18; have _t := T2; clear _t T2; refine (few_its (x := ⟨0, xi, A, n, c, L, bad⟩) Hits.out HD3.out (fun b q => Nat.lt_of_lt_of_le (HFl.out b q) hs3)).mono ?_; rintro en w4 ⟨A4, c4, rfl, hi4, hb4⟩; have HB4 := Lib.hid hb4; have HI4 := Lib.hid (hi4.sub (F' := F2) (fun b q => .inr q)); have HQr4 := Lib.hid (HQr3.out.fresh hb4); clear hi4 hb4)
    | (go_at_call 54; refine (qadd HQr4.out HP.out.vlen HP.out.vr A4 c4 its HI4.out Hsm.out (by omega) HP.out.k0 (by have := HP.out.kb; omega)).mono ?_; rintro en w5 hs; obtain ⟨rfl, F2', ⟨lv', hqa, hq⟩, hk2, hf2⟩ : en = .returned (.tuple #[.int .i64 k, .int .i64 0]) ∧ Went w4 w5 F2 (fun F' => ∃ l', QAdded k lv k its l' ∧ Qe w5 r 5 S cc (k + its.length) l' t F') := (by rcases hs with ⟨hne, _⟩ | ⟨_, h1, h2⟩; exact absurd (by rw [Hlen.out]; exact Hr.out) hne; exact ⟨h1, h2⟩); have HQA := Lib.hid hqa; have HQ5 := Lib.hid hq; have HK2 := Lib.hid hk2; have HF2 := Lib.hid hf2; clear hs hqa hq hk2 hf2))
  go_ret
  have hok := refuses_ok Hr.out
  have hbl : ∀ x ∈ its, ∃ j : Nat, x.p.b = j := fun x hx => by
    have := Pt.right_out (hok.1 x hx).1
    exact ⟨x.p.b.toNat, by omega⟩
  refine ⟨rfl, Pair.join HP.out HB2.out HE3.out HK1.out HF1.out HB4.out HQ5.out HK2.out HF2.out (HP.out.tie.added HA3.out HQA.out (fun z hz => (HP.out.eng.rights.2.2.1 z hz).2) hbl hok.2.1) (HQA.out.dsl HP.out.ds (fun x hx => (Hsm.out x hx).2.1) (by have := HQA.out.length; have := HP.out.vlen; omega)) HP.out.ts (by have := HP.out.tl; omega) (by have := HP.out.k0; omega) (by have := HP.out.kb; omega) (by have := HP.out.cb; omega) (HP.out.fine.added HP.out.tie HA3.out HQA.out (fun z hz => (HP.out.eng.rights.2.2.1 z hz).2) hbl hok.2.1)⟩
set_option maxRecDepth 100000 in
set_option maxHeartbeats 2000000 in
theorem do_add_no (h : PairAt w e r S l lv t k m cc F1 F2) (hm : m ≤ 40) (x : Dd) (hk : x.kind = 0) (hd : DdG w (fun b => F1 b ∨ F2 b) x) (hr : refusesE 5 k l.length (fewL x.L) ≠ 0) : Calls Tryz.prog 23 #[.pointer (some ⟨e, 0, none⟩), .pointer (some ⟨r, 0, none⟩), x.v] w (DoS w e r m F1 F2) := by
  obtain ⟨kind, xi, A, n, c, L, bad⟩ := x
  dsimp only at hk hd hr
  subst hk
  have HDx := Lib.hid hd
  have HFl := Lib.hid (Pair.lt ⟨S, l, lv, t, k, cc, F1, F2, h, rfl⟩)
  obtain ⟨its, hits⟩ : ∃ its, its = fewL L := ⟨_, rfl⟩
  have Hits := Lib.hid hits
  have Hsm : Hid (SmallI its) := by unfold Hid; rw [hits]; exact small_fewL hd.wf
  have hil : its.length ≤ 12 := by rw [hits, length_fewL]; omega
  have T1 : Hid True := trivial
  have Hsep := Lib.hid h.sep
  have Hlen := Lib.hid h.tie.tw.len
  clear hits hd
  have Hr : Hid (refusesE 5 k l.length its ≠ 0) := by unfold Hid; rw [Hits.out]; exact hr
  clear hr
  have HP := Lib.hid h
  have Hlt1 := Lib.hid h.eng.lt
  have Hlt2 := Lib.hid h.ref.lt
  clear h
  unfold Dd.v
  dsimp only
  have HBx : Hid (Below w.heap.size w (w.alloc (.cells #[.int .i64 0, .int .i64 xi, .slice A n c, .bool bad] 54))) := (Below.refl _ _).alloc (Nat.le_refl _) _
  have Hpx : Hid ((w.alloc (.cells #[.int .i64 0, .int .i64 xi, .slice A n c, .bool bad] 54)).heap[w.heap.size]? = some (.cells #[.int .i64 0, .int .i64 xi, .slice A n c, .bool bad] 54 (0, 0))) := heap_alloc_new w _
  have hF1x : Hid (¬ F1 w.heap.size) := fun q => Nat.lt_irrefl _ (Hlt1.out _ q)
  have hF2x : Hid (¬ F2 w.heap.size) := fun q => Nat.lt_irrefl _ (Hlt2.out _ q)
  go_enter Tryz.func23, Tryz.ntmps23
  obtain ⟨rE, hrE⟩ : ∃ rE, rE = refusesE 5 k l.length its := ⟨_, rfl⟩
  have HrE : Hid (refusesE 5 k l.length its = rE) := hrE.symm
  clear hrE
  go_wp2_with (first
    | (go_at_call 18; have _t := T1; clear _t T1; refine (few_its (x := ⟨0, xi, A, n, c, L, bad⟩) Hits.out (HDx.out.fresh HBx.out) (fun b q => Nat.lt_of_lt_of_le (HFl.out b q) HBx.out.size)).mono ?_; rintro en w2 ⟨A2, c2, rfl, hi2, hb2⟩; have HB2 : Hid (Below w.heap.size w w2) := HBx.out.trans (hb2.mono HBx.out.size); have Hp2 : Hid (w2.heap[w.heap.size]? = some (.cells #[.int .i64 0, .int .i64 xi, .slice A n c, .bool bad] 54 (0, 0))) := (hb2.block _ (Array.getElem?_eq_some_iff.1 Hpx.out).1).trans Hpx.out; have HI2 := Lib.hid (hi2.sub (F' := F1) (fun b q => .inl q)); clear hi2 hb2)
    | (go_at_call 17; refine (eadd_no (HP.out.eng.fresh HB2.out) A2 c2 its HI2.out Hsm.out (by omega) Hr.out).mono ?_; rw [HrE.out]; rintro en w3 ⟨rfl, hb3⟩; have HB3 : Hid (Below w.heap.size w w3) := HB2.out.trans (hb3.mono HB2.out.size); have hp2 := (hb3.block _ (Array.getElem?_eq_some_iff.1 Hp2.out).1).trans Hp2.out; have g1 : w3.cell? ⟨w.heap.size, 2, none⟩ = some (.slice A n c) := cell_of_row w3 _ 2 _ 54 (0, 0) hp2; have g2 : w.heap.size < w3.heap.size := (Array.getElem?_eq_some_iff.1 hp2).1; have HQr3 := Lib.hid (HP.out.ref.fresh HB3.out); have HD3 := Lib.hid (HDx.out.fresh HB3.out); have T2 : Hid True := trivial; have hs3 : w.heap.size ≤ w3.heap.size := HB3.out.size; clear hb3 hp2)
    | (go_at_call 18; have _t := T2; clear _t T2; refine (few_its (x := ⟨0, xi, A, n, c, L, bad⟩) Hits.out HD3.out (fun b q => Nat.lt_of_lt_of_le (HFl.out b q) hs3)).mono ?_; rintro en w4 ⟨A4, c4, rfl, hi4, hb4⟩; have HB4 := Lib.hid hb4; have HI4 := Lib.hid (hi4.sub (F' := F2) (fun b q => .inr q)); have HQr4 := Lib.hid (HQr3.out.fresh hb4); clear hi4 hb4)
    | (go_at_call 54; refine (qadd HQr4.out HP.out.vlen HP.out.vr A4 c4 its HI4.out Hsm.out (by omega) HP.out.k0 (by have := HP.out.kb; omega)).mono ?_; rintro en w5 hs; obtain ⟨rfl, hb5⟩ : en = .returned (.tuple #[.int .i64 0, .int .i64 rE]) ∧ Below w4.heap.size w4 w5 := (by rw [← HrE.out]; rcases hs with ⟨_, h1, h2⟩ | ⟨hz, _⟩; exact ⟨by rw [h1, Hlen.out], h2⟩; exact absurd (by rw [← Hlen.out]; exact hz) Hr.out); have HB5 := Lib.hid hb5; clear hs hb5))
  go_ret
  exact ⟨rfl, HP.out.still (HB3.out.trans ((HB4.out.trans (HB5.out.mono HB4.out.size)).mono HB3.out.size))⟩
end
/-- a deed on both -/
theorem do_any {w : World} {e r m : Nat} {F : Nat → Prop} (h : Pair w e r m F) (hm : m ≤ 40) (x : Dd) (hd : DdG w F x) : Calls Tryz.prog 23 #[.pointer (some ⟨e, 0, none⟩), .pointer (some ⟨r, 0, none⟩), x.v] w fun en w' => en = .returned (.bool true) ∧ Went w w' F (Pair w' e r (m + 1)) := by
  obtain ⟨S, l, lv, t, k, cc, F1, F2, h, rfl⟩ := h
  by_cases k0 : x.kind = 0
  · by_cases hr : refusesE 5 k l.length (fewL x.L) = 0
    · exact do_add h hm x k0 hd hr
    · exact do_add_no h hm x k0 hd hr
  · by_cases k1 : x.kind = 1
    · by_cases hi : 0 ≤ x.i ∧ x.i < 5
      · exact do_write h hm x k1 hi
      · exact do_write_no h hm x k1 hi
    · by_cases k2 : x.kind = 2
      · exact do_flush h hm x k2
      · by_cases k3 : x.kind = 3
        · exact do_sync h hm x k3
        · by_cases k4 : x.kind = 4
          · by_cases hi : 0 ≤ x.i ∧ x.i < 5
            · exact do_spoil h hm x k4 hi
            · exact do_spoil_no h hm x k4 hi
          · exact do_none h x k0 k1 k2 k3 k4
end Go.Proofs.YtegacggkdjgdiaaGreat
