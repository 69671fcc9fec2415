/- Contract of use. -/
import Derived.Test.YtpcindemkkdbbaaZ
namespace Go.Proofs.Ytpcindemkkdbbaa
set_option linter.unusedVariables false
set_option linter.unusedSimpArgs false
open Go.RowKit

theorem rem_pos {a m : Int} (h0 : 0 ≤ a) (hm : 0 < m) : a.tmod m = a % m := Int.tmod_eq_emod_of_nonneg h0
set_option maxRecDepth 100000 in
set_option maxHeartbeats 2000000 in
theorem use_any (A : Option Addr) (c n : Nat) (l : List Cy) (j b : Nat) (hn : n = l.length) (w : World) (hs : SmallL l) (hI : Cyls w w.heap.size A l) (hj : j < l.length) (hR : RightC (cyN l j)) (hb : (b : Int) < (cyN l j).bl) :
    Calls Try.prog 56 #[.slice A n c, .int .i64 j, .int .i64 b] w (AnSays w ⟨l.set j (useC (cyN l j) b), j, b, 0⟩) := by
  have HF : Hid (∀ W, Below w.heap.size w W → Calls Try.prog 60 #[.slice A n c] W (ForksSays W l)) := fun W hW => forks_any A c n l hn W hs (hI.next hW)
  have hjn : (j : Int) < (n : Int) := by omega
  have hj0 : (0 : Int) ≤ (j : Int) := by omega
  have Hj := Lib.hid hj
  have HS := Lib.hid hs
  have HR := Lib.hid hR
  have Hn := Lib.hid hn
  have hn1 : n ≤ 1000 := by have := hs.1; omega
  have hb1 : (cyN l j).bl ≤ 64 := hR.bl.2
  have hb2 : 1 ≤ (cyN l j).bl := hR.bl.1
  have hf1 : (cyN l j).fb ≤ 64 := by have := hR.fb; omega
  have hf2 : -1000 ≤ (cyN l j).fb := by have := hR.fb; have := (hs.2 j hj).1; omega
  clear hI hs hR hn
  obtain ⟨Q, hQ⟩ : ∃ Q, Q = AnSays w ⟨l.set j (useC (cyN l j) b), j, b, 0⟩ := ⟨_, rfl⟩
  have HQ : Hid (∀ e w', AnSays w ⟨l.set j (useC (cyN l j) b), j, b, 0⟩ e w' → Q e w') := by unfold Hid; rw [hQ]; exact fun _ _ h => h
  rw [← hQ]
  clear hQ
  go_enter Try.func56, Try.ntmps56
  go_wp2_with fail
  generalize hzx : Obj.cells #[.int .i64 0, .int .i64 0] 41 = zx
  have hB0 : Below w.heap.size w (w.alloc zx) := (Below.refl _ w).alloc (Nat.le_refl _) _
  have hs0 : (w.alloc zx).heap.size = w.heap.size + 1 := by simp
  have h00 := Go.heap_alloc_new w zx
  generalize w.alloc zx = W0 at hB0 hs0 h00 ⊢
  subst hzx
  refine (HF.out _ hB0).mono ?_
  rintro e w1 ⟨R, C, rfl, hG, hB1⟩
  rw [← Hn.out]
  have h10 := (hB1.block _ (by omega)).trans h00
  have hg : W0.heap.size = w.heap.size + 1 := hs0
  rw [hg] at hG ⊢
  have hB1' : Below w.heap.size w w1 := hB0.trans (hB1.mono (by omega))
  have hc : ∀ i, i < 7 → w1.cell? ⟨w.heap.size + 1, j * 7 + i, none⟩ = (cellsC l R C j)[i]? := fun i hi => hG.cell Hj.out hi
  have z5 := hc 5 (by omega)
  have hus := hG.rows.row (2 * j) (by have := Hj.out; omega)
  rw [rowC_us] at hus
  have HW : Hid (Calls Try.prog 72 #[.slice (R (2 * j)) (cyN l j).us.length (C (2 * j)), .int .i64 b] w1 (Turned w1 (w.heap.size + 1) (R (2 * j)) (withI (cyN l j).us b))) := with_any _ _ _ _ _ w1 (HS.out.2 j Hj.out).1 (Nat.le_of_lt hG.lt) hus HR.out.us.2
  have HG := Lib.hid hG
  have H10 := Lib.hid h10
  have HB1 := Lib.hid hB1'
  have hz1 : w.heap.size + 1 < w1.heap.size := hG.lt
  have z5' : w1.cell? ⟨w.heap.size + 1, j * 7 + 5, none⟩ = some (.slice (R (2 * j)) (cyN l j).us.length (C (2 * j))) := z5
  clear hG h10 hB1 hB1' hus z5 hc hs0 hB0 h00
  go_wp2_with fail
  refine HW.out.mono ?_
  rintro e w2 ⟨A', c', rfl, hr, hk, ho⟩
  have hAg : own (R (2 * j)) ≠ some (w.heap.size + 1) := by
    have := HG.out.rows.row (2 * j) (by have := Hj.out; omega)
    exact this.typed HG.out.blk (by decide)
  have h2g : w2.heap[w.heap.size + 1]? = some (.cells (flat7 l.length (cellsC l R C)).toArray 24 (0, 0)) := (hk.block _ HG.out.lt (fun q => hAg q)).trans HG.out.blk
  have h20 : w2.heap[w.heap.size]? = some (.cells #[.int .i64 0, .int .i64 0] 41 (0, 0)) := (hk.block _ (by omega) (fun q => by
    have := HG.out.rows.row (2 * j) (by have := Hj.out; omega)
    have := (this.lt q).1
    omega)).trans H10.out
  have hc : ∀ i, i < 7 → w2.cell? ⟨w.heap.size + 1, j * 7 + i, none⟩ = (cellsC l R C j)[i]? := fun i hi => by rw [cellAt_of h2g, List.getElem?_toArray, at_flat7 (length_cellsC l R C) Hj.out hi]
  have z1 := hc 1 (by omega)
  have z2 := hc 2 (by omega)
  have z4 := hc 4 (by omega)
  have z5 := hc 5 (by omega)
  simp only [cellsC, cy7, List.getElem?_cons_zero, List.getElem?_cons_succ] at z1 z2 z4 z5
  have g2 := frozen_of_row w2 _ (j * 7 + 2) _ 24 h2g
  have g4 := frozen_of_row w2 _ (j * 7 + 4) _ 24 h2g
  have g5 := frozen_of_row w2 _ (j * 7 + 5) _ 24 h2g
  have r0 : w2.cell? ⟨w.heap.size, 0, none⟩ = some (.int .i64 0) := by rw [cellAt_of h20]; rfl
  have r1 : w2.cell? ⟨w.heap.size, 1, none⟩ = some (.int .i64 0) := by rw [cellAt_of h20]; rfl
  have k0 := frozen_of_row w2 _ 0 _ 41 h20
  have k1 := frozen_of_row w2 _ 1 _ 41 h20
  have hz2 : w1.heap.size ≤ w2.heap.size := hk.size
  have HC : Hid (∀ v5 v2 v4, ∃ f, ((((w2.setCell ⟨w.heap.size + 1, j * 7 + 5, none⟩ v5).setCell ⟨w.heap.size + 1, j * 7 + 2, none⟩ v2).setCell ⟨w.heap.size + 1, j * 7 + 4, none⟩ v4).heap[w.heap.size + 1]? = some (.cells (flat7 l.length f).toArray 24 (0, 0)) ∧ ∀ i, f i = if i = j then (((cellsC l R C j).set 5 v5).set 2 v2).set 4 v4 else cellsC l R C i)) := fun v5 v2 v4 => by
    have p1 := piece_set h2g (length_cellsC l R C) Hj.out (show 5 < 7 by omega) v5
    have p2 := piece_set p1.1 p1.2 Hj.out (show 2 < 7 by omega) v2
    have p3 := piece_set p2.1 p2.2 Hj.out (show 4 < 7 by omega) v4
    refine ⟨_, p3.1, fun i => ?_⟩
    by_cases e : i = j
    · simp [e]
    · simp [e]
  have Hr := Lib.hid hr
  have Hk := Lib.hid hk
  have Ho := Lib.hid ho
  have HAg := Lib.hid hAg
  obtain ⟨x, hx⟩ : ∃ x, x = cyN l j := ⟨_, rfl⟩
  rw [← hx] at z1 z2 z4 z5 hb hb1 hb2 hf1 hf2
  have Hx := Lib.hid hx
  have hb0 : 0 < x.bl := by omega
  clear hr hk ho h2g h20 hc hx hj hAg z5' HW HF
  go_wp2_with fail
  obtain ⟨f, hf1, hf2⟩ := HC.out (.slice A' (withI (cyN l j).us b).length c') (.int .i64 (x.fb - 1)) (.int .i64 ((b + 1) % x.bl))
  have hk2 : Kept w2 (((w2.setCell ⟨w.heap.size + 1, j * 7 + 5, none⟩ (.slice A' (withI (cyN l j).us b).length c')).setCell ⟨w.heap.size + 1, j * 7 + 2, none⟩ (.int .i64 (x.fb - 1))).setCell ⟨w.heap.size + 1, j * 7 + 4, none⟩ (.int .i64 ((b + 1) % x.bl))) (fun k => k = w.heap.size + 1) :=
    (((Kept.refl w2 (fun k => k = w.heap.size + 1)).set (.inl rfl)).set (.inl rfl)).set (.inl rfl)
  have hG := HG.out.put Hj.out (show 0 < 2 by omega) (useC (cyN l j) b) (A := A') (c := c') rfl Hr.out Hk.out Ho.out hk2 (by
    rw [hf1]
    congr 3
    refine flat7_congr fun i hi => ?_
    rw [hf2]
    by_cases e : i = j
    · rw [if_pos e, if_pos e, if_pos rfl, Hx.out]; rfl
    · rw [if_neg e, if_neg e])
  have hlow : ∀ b, own (R (2 * j)) = some b → w.heap.size ≤ b := fun b q => by
    have := ((HG.out.rows.row (2 * j) (by have := Hj.out; omega)).lt q).1; omega
  generalize ((w2.setCell ⟨w.heap.size + 1, j * 7 + 5, none⟩ (.slice A' (withI (cyN l j).us b).length c')).setCell ⟨w.heap.size + 1, j * 7 + 2, none⟩ (.int .i64 (x.fb - 1))).setCell ⟨w.heap.size + 1, j * 7 + 4, none⟩ (.int .i64 ((b + 1) % x.bl)) = w3 at hk2 hG ⊢
  have q0 : w3.cell? ⟨w.heap.size, 0, none⟩ = some (.int .i64 0) := (hk2.cell (a := ⟨w.heap.size, 0, none⟩) (by show w.heap.size < _; omega) (fun q => by have : w.heap.size = w.heap.size + 1 := q; omega)).trans r0
  have q1 : w3.cell? ⟨w.heap.size, 1, none⟩ = some (.int .i64 0) := (hk2.cell (a := ⟨w.heap.size, 1, none⟩) (by show w.heap.size < _; omega) (fun q => by have : w.heap.size = w.heap.size + 1 := q; omega)).trans r1
  have hk3 : Kept w3 ((w3.setCell ⟨w.heap.size, 0, none⟩ (.int .i64 j)).setCell ⟨w.heap.size, 1, none⟩ (.int .i64 b)) (fun k => k = w.heap.size) := ((Kept.refl w3 (fun k => k = w.heap.size)).set (.inl rfl)).set (.inl rfl)
  refine bodyPost_ret (v := .tuple #[.slice (some ⟨w.heap.size + 1, 0, none⟩) n n, .agg #[.int .i64 j, .int .i64 b], .int .i64 0]) (by simp [results, Try.results56, go_sem, q0, q1]) rfl (HQ.out _ _ ⟨some ⟨w.heap.size + 1, 0, none⟩, n, by simp [Hn.out], .inr ⟨w.heap.size + 1, _, _, rfl, by simp [Hn.out], (hG.keep hk3 (fun b q => by omega)).more (by omega)⟩, ?_⟩)
  exact ((HB1.out.trans (Hk.out.below (fun b q => hlow b q) (by omega))).trans (hk2.below (fun b q => by omega) (by omega))).trans (hk3.below (fun b q => by omega) (by have := hk2.size; omega))
end Go.Proofs.Ytpcindemkkdbbaa
