/- Contract of inode. -/
import Derived.Test.YtpcindemkkdbbaaIP
import Derived.Test.YtpcindemkkdbbaaMA
namespace Go.Proofs.Ytpcindemkkdbbaa
set_option linter.unusedVariables false
set_option linter.unusedSimpArgs false
open Go.RowKit

set_option maxRecDepth 100000 in
set_option maxHeartbeats 2000000 in
theorem inode_any (A : Option Addr) (c n : Nat) (l : List Cy) (j : Nat) (hn : n = l.length) (w : World) (hs : SmallL l) (hI : Cyls w w.heap.size A l) (hj : j < l.length) (hR : RightC (cyN l j)) :
    Calls Try.prog 64 #[.slice A n c, .int .i64 j] w (AnSays w (inodeG l j)) := by
  have HF : Hid (∀ W, Below w.heap.size w W → Calls Try.prog 60 #[.slice A n c] W (ForksSays W l)) := fun W hW => forks_any A c n l hn W hs (hI.next hW)
  have hjn : (j : Int) < (n : Int) := by omega
  have hj0 : (0 : Int) ≤ (j : Int) := by omega
  obtain ⟨gb, off, Ak, ck, A2k, c2k, hA, hgb, hx⟩ := hI.at_ hj
  have HC6 : Hid (∀ W, Below w.heap.size w W → W.cell? ⟨gb, off + j * 7 + 6, none⟩ = some (.slice A2k (cyN l j).is.length c2k)) := fun W hB => (hB.cell (p := ⟨gb, off + j * 7 + 6, none⟩) hgb).trans hx.c6
  have hV := hx.is
  have hsm := hs.2 j hj
  have HHas : Hid (∀ W, Below w.heap.size w W → ∀ i : Nat, Calls Try.prog 55 #[.slice A2k (cyN l j).is.length c2k, .int .i64 (i : Int)] W fun e w' => e = .returned (.bool ((cyN l j).is.contains (i : Int))) ∧ ∃ q, w' = W.drewN q) := fun W hB i => has_any A2k c2k (cyN l j).is i W hsm.2 (hV.next hB) hR.is.2
  have Hj := Lib.hid hj
  have HS := Lib.hid hs
  have HR := Lib.hid hR
  have Hn := Lib.hid hn
  have hn1 : n ≤ 1000 := by have := hs.1; omega
  have hf1 : (cyN l j).fi ≤ 16 := hR.fi_in.2
  have hf2 : 0 ≤ (cyN l j).fi := hR.fi_in.1
  obtain ⟨n1, hn1'⟩ : ∃ n1, n1 = (cyN l j).is.length := ⟨_, rfl⟩
  have Hn1 := Lib.hid hn1'
  rw [← hn1'] at HC6 HHas
  clear hI hs hR hn hV hx hsm hj hn1'
  subst hA
  obtain ⟨Q, hQ⟩ : ∃ Q, Q = AnSays w (inodeG l j) := ⟨_, rfl⟩
  have HQ : Hid (∀ e w', AnSays w (inodeG l j) e w' → Q e w') := by unfold Hid; rw [hQ]; exact fun _ _ h => h
  rw [← hQ]
  clear hQ
  go_enter Try.func64, Try.ntmps64
  go_wp2_with fail
  have hB0 : Below w.heap.size w (w.alloc (.cells #[.int .i64 0, .int .i64 0] 41)) := (Below.refl _ w).alloc (Nat.le_refl _) _
  have hX0 : Blk (w.alloc (.cells #[.int .i64 0, .int .i64 0] 41)) w.heap.size 41 #[.int .i64 0, .int .i64 0] := Go.heap_alloc_new w _
  generalize w.alloc (.cells #[.int .i64 0, .int .i64 0] 41) = Wa at hB0 hX0 ⊢
  have HB0 := Lib.hid hB0
  have HX0 := Lib.hid hX0
  clear hB0 hX0
  go_loopw [10] (fun i wr => ∃ k : Nat, k ≤ 16 ∧ i = .int .i64 k ∧ (∀ i, i < k → (cyN l j).is.contains ((i : Nat) : Int) = true) ∧ Blk wr w.heap.size 41 #[.int .i64 0, .int .i64 0] ∧ Below w.heap.size w wr) (fun i _ => 16 - (intOf i).toNat)
  case atStart => exact ⟨0, Nat.zero_le _, rfl, (fun i hi => by omega), HX0.out, HB0.out⟩
  case round =>
    obtain ⟨k, hk, rfl, hp, hX, hB⟩ := hrel
    rename World => wr
    have Hp := Lib.hid hp
    have HX := Lib.hid hX
    have HB := Lib.hid hB
    have hk0 : (0 : Int) ≤ (k : Int) := by omega
    have hsz : w.heap.size < wr.heap.size := lt_heap hX
    by_cases hlt : k < 16
    · have hlti : (k : Int) < 16 := by omega
      have c6 := HC6.out wr hB
      have hgw : gb < wr.heap.size := by omega
      obtain ⟨t, ht⟩ : ∃ t, t = (cyN l j).is.contains ((k : Nat) : Int) := ⟨_, rfl⟩
      have HH := Lib.hid (HHas.out wr hB k)
      rw [← ht] at HH
      have Ht := Lib.hid ht
      clear hp hX hB ht
      go_wp2_with fail
      refine HH.out.mono ?_
      rintro e wa ⟨rfl, q, rfl⟩
      cases t with
      | true =>
        go_wp2_with fail
        go_roundw
        case rel => exact ⟨k + 1, by omega, by go_num, (fun i hi => by
          rcases Nat.lt_or_ge i k with h | h
          · exact Hp.out i h
          · obtain rfl : i = k := by omega
            exact Ht.out.symm), HX.out, bdn HB.out _⟩
        case measure => simp [intOf]; omega
      | false =>
        have Hin : Hid (inodeG l j = ⟨l.set j (takeI (cyN l j) k), j, k, 0⟩) := inodeG_some (inodeAt_some hlt Hp.out Ht.out.symm)
        have hBd : Below w.heap.size w (wr.drewN q) := bdn HB.out _
        have hXd : Blk (wr.drewN q) w.heap.size 41 #[.int .i64 0, .int .i64 0] := HX.out
        have hszd : w.heap.size < (wr.drewN q).heap.size := hsz
        generalize wr.drewN q = W0 at hBd hXd hszd ⊢
        have HBd := Lib.hid hBd
        have HXd := Lib.hid hXd
        have HFd := Lib.hid (HF.out _ hBd)
        clear hBd hXd c6 hgw HH
        go_wp2_with fail
        refine HFd.out.mono ?_
        rintro e w1 ⟨R, C, rfl, hG, hB1⟩
        rw [← Hn.out]
        have h10 := (hB1.block _ hszd).trans HXd.out
        have hB1' : Below w.heap.size w w1 := HBd.out.trans (hB1.mono HBd.out.size)
        have hc : ∀ i, i < 7 → w1.cell? ⟨W0.heap.size, j * 7 + i, none⟩ = (cellsC l R C j)[i]? := fun i hi => hG.cell Hj.out hi
        have hus := hG.rows.row (2 * j + 1) (by have := Hj.out; omega)
        rw [rowC_is] at hus
        have z6 : w1.cell? ⟨W0.heap.size, j * 7 + 6, none⟩ = some (.slice (R (2 * j + 1)) n1 (C (2 * j + 1))) := by rw [hc 6 (by omega), Hn1.out]; rfl
        have HW : Hid (Calls Try.prog 72 #[.slice (R (2 * j + 1)) n1 (C (2 * j + 1)), .int .i64 k] w1 (Turned w1 W0.heap.size (R (2 * j + 1)) (withI (cyN l j).is k))) := by
          have := with_any (R (2 * j + 1)) (C (2 * j + 1)) (cyN l j).is k W0.heap.size w1 (HS.out.2 j Hj.out).2 (Nat.le_of_lt hG.lt) hus HR.out.is.2
          rw [← Hn1.out] at this; exact this
        have HG := Lib.hid hG
        have H10 := Lib.hid h10
        have HB1 := Lib.hid hB1'
        have hz1 : W0.heap.size < w1.heap.size := hG.lt
        clear hG h10 hB1 hB1' hus hc
        go_wp2_with fail
        refine HW.out.mono ?_
        rintro e w2 ⟨A', c', rfl, hr, hk, ho⟩
        have hAg : own (R (2 * j + 1)) ≠ some W0.heap.size := (HG.out.rows.row (2 * j + 1) (by have := Hj.out; omega)).typed HG.out.blk (by decide)
        have h2g : w2.heap[W0.heap.size]? = some (.cells (flat7 l.length (cellsC l R C)).toArray 24 (0, 0)) := (hk.block _ HG.out.lt (fun q => hAg q)).trans HG.out.blk
        have h20 : w2.heap[w.heap.size]? = some (.cells #[.int .i64 0, .int .i64 0] 41 (0, 0)) := (hk.block _ (by omega) (fun q => by
          have := HG.out.rows.row (2 * j + 1) (by have := Hj.out; omega)
          have := (this.lt q).1
          omega)).trans H10.out
        have hc : ∀ i, i < 7 → w2.cell? ⟨W0.heap.size, j * 7 + i, none⟩ = (cellsC l R C j)[i]? := fun i hi => by rw [cellAt_of h2g, List.getElem?_toArray, at_flat7 (length_cellsC l R C) Hj.out hi]
        have z3 := hc 3 (by omega)
        have z6' := hc 6 (by omega)
        simp only [cellsC, cy7, List.getElem?_cons_zero, List.getElem?_cons_succ] at z3 z6'
        have g3 := frozen_of_row w2 _ (j * 7 + 3) _ 24 h2g
        have g6 := frozen_of_row w2 _ (j * 7 + 6) _ 24 h2g
        have r0 : w2.cell? ⟨w.heap.size, 0, none⟩ = some (.int .i64 0) := by rw [cellAt_of h20]; rfl
        have r1 : w2.cell? ⟨w.heap.size, 1, none⟩ = some (.int .i64 0) := by rw [cellAt_of h20]; rfl
        have k0 := frozen_of_row w2 _ 0 _ 41 h20
        have k1 := frozen_of_row w2 _ 1 _ 41 h20
        have hz2 : w1.heap.size ≤ w2.heap.size := hk.size
        have HC : Hid (∀ v6 v3, ∃ f, (((w2.setCell ⟨W0.heap.size, j * 7 + 6, none⟩ v6).setCell ⟨W0.heap.size, j * 7 + 3, none⟩ v3).heap[W0.heap.size]? = some (.cells (flat7 l.length f).toArray 24 (0, 0)) ∧ ∀ i, f i = if i = j then ((cellsC l R C j).set 6 v6).set 3 v3 else cellsC l R C i)) := fun v6 v3 => by
          have p1 := piece_set h2g (length_cellsC l R C) Hj.out (show 6 < 7 by omega) v6
          have p2 := piece_set p1.1 p1.2 Hj.out (show 3 < 7 by omega) v3
          refine ⟨_, p2.1, fun i => ?_⟩
          by_cases e : i = j
          · simp [e]
          · simp [e]
        have Hr := Lib.hid hr
        have Hk := Lib.hid hk
        have Ho := Lib.hid ho
        obtain ⟨fi, hfi⟩ : ∃ fi, fi = (cyN l j).fi := ⟨_, rfl⟩
        rw [← hfi] at z3 hf1 hf2
        have Hfi := Lib.hid hfi
        clear hr hk ho h2g h20 hc hfi hAg z6 HW HF
        go_wp2_with fail
        obtain ⟨f, hg1, hg2⟩ := HC.out (.slice A' (withI (cyN l j).is k).length c') (.int .i64 (fi - 1))
        have hk2 : Kept w2 ((w2.setCell ⟨W0.heap.size, j * 7 + 6, none⟩ (.slice A' (withI (cyN l j).is k).length c')).setCell ⟨W0.heap.size, j * 7 + 3, none⟩ (.int .i64 (fi - 1))) (fun k => k = W0.heap.size) :=
          ((Kept.refl w2 (fun k => k = W0.heap.size)).set (.inl rfl)).set (.inl rfl)
        have hG := HG.out.put Hj.out (show 1 < 2 by omega) (takeI (cyN l j) k) (A := A') (c := c') rfl Hr.out Hk.out Ho.out hk2 (by
          rw [hg1]
          congr 3
          refine flat7_congr fun i hi => ?_
          rw [hg2]
          by_cases e : i = j
          · rw [if_pos e, if_pos e, if_neg (by omega), Hfi.out]; rfl
          · rw [if_neg e, if_neg e])
        have hlow : ∀ b, own (R (2 * j + 1)) = some b → W0.heap.size ≤ b := fun b q => ((HG.out.rows.row (2 * j + 1) (by have := Hj.out; omega)).lt q).1
        generalize (w2.setCell ⟨W0.heap.size, j * 7 + 6, none⟩ (.slice A' (withI (cyN l j).is k).length c')).setCell ⟨W0.heap.size, j * 7 + 3, none⟩ (.int .i64 (fi - 1)) = w3 at hk2 hG ⊢
        have q0 : w3.cell? ⟨w.heap.size, 0, none⟩ = some (.int .i64 0) := (hk2.cell (a := ⟨w.heap.size, 0, none⟩) (by show w.heap.size < _; omega) (fun q => by have : w.heap.size = W0.heap.size := q; omega)).trans r0
        have q1 : w3.cell? ⟨w.heap.size, 1, none⟩ = some (.int .i64 0) := (hk2.cell (a := ⟨w.heap.size, 1, none⟩) (by show w.heap.size < _; omega) (fun q => by have : w.heap.size = W0.heap.size := q; omega)).trans r1
        have hk3 : Kept w3 ((w3.setCell ⟨w.heap.size, 0, none⟩ (.int .i64 j)).setCell ⟨w.heap.size, 1, none⟩ (.int .i64 k)) (fun k => k = w.heap.size) := ((Kept.refl w3 (fun k => k = w.heap.size)).set (.inl rfl)).set (.inl rfl)
        refine bodyPost_ret (v := .tuple #[.slice (some ⟨W0.heap.size, 0, none⟩) n n, .agg #[.int .i64 j, .int .i64 k], .int .i64 0]) (by simp [results, Try.results64, go_sem, q0, q1]) rfl (HQ.out _ _ (by
          rw [Hin.out]
          refine ⟨some ⟨W0.heap.size, 0, none⟩, n, by simp [Hn.out], .inr ⟨W0.heap.size, _, _, rfl, by simp [Hn.out], (hG.keep hk3 (fun b q => by have q' : b = w.heap.size := q; omega)).more (by omega)⟩, ?_⟩
          exact ((HB1.out.trans (Hk.out.below (fun b q => by have := hlow b q; omega) (by omega))).trans (hk2.below (fun b q => by have q' : b = W0.heap.size := q; omega) (by omega))).trans (hk3.below (fun b q => by have q' : b = w.heap.size := q; omega) (by have := hk2.size; omega))))
    · have hlti : ¬ (k : Int) < 16 := by omega
      have Hin : Hid (inodeG l j = ⟨[], 0, 0, 4⟩) := inodeG_none (inodeAt_none (fun i hi => Hp.out i (by omega)))
      have r0 : wr.cell? ⟨w.heap.size, 0, none⟩ = some (.int .i64 0) := by rw [cellAt_of hX]; rfl
      have r1 : wr.cell? ⟨w.heap.size, 1, none⟩ = some (.int .i64 0) := by rw [cellAt_of hX]; rfl
      have k0 := frozen_of_row wr _ 0 _ 41 hX
      have k1 := frozen_of_row wr _ 1 _ 41 hX
      clear hp hX hB
      go_wp2_with fail
      have hk3 : Kept wr ((wr.setCell ⟨w.heap.size, 0, none⟩ (.int .i64 0)).setCell ⟨w.heap.size, 1, none⟩ (.int .i64 0)) (fun k => k = w.heap.size) := ((Kept.refl wr (fun k => k = w.heap.size)).set (.inl rfl)).set (.inl rfl)
      refine bodyPost_ret (v := .tuple #[.slice none 0 0, .agg #[.int .i64 0, .int .i64 0], .int .i64 4]) (by simp [results, Try.results64, go_sem, r0, r1]) rfl (HQ.out _ _ (by
        rw [Hin.out]
        exact ⟨none, 0, rfl, .inl ⟨rfl, rfl, rfl⟩, HB.out.trans (hk3.below (fun b q => by have q' : b = w.heap.size := q; omega) (by omega))⟩))
end Go.Proofs.Ytpcindemkkdbbaa
