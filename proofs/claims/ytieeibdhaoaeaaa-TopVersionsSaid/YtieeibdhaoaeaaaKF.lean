/- Write to a bad block; Lasting, Read, Spoil, Size, Flush. -/
import Derived.Test.YtieeibdhaoaeaaaKE
set_option linter.unusedVariables false
set_option linter.unusedSimpArgs false
namespace Go.Proofs.Ytieeibdhaoaeaaa
open Go.RowKit

set_option maxRecDepth 100000 in
set_option maxHeartbeats 1000000 in
theorem write_bad (g : Nat) (n : Int) (L : List Int) (B : List Bool) (mb i : Nat) (s : List Int) (w : World) (h : DiskAt w g n L B mb) (hi : (i : Int) < n) (hbad : B.getD i false = true) :
    Calls Try.prog 17 #[.pointer (some ⟨g, 0, none⟩), .int .i64 (i : Int), secV s] w fun e w' => e = .returned (.int .i64 10) ∧ Below w.heap.size w w' := by
  have hgw : g < w.heap.size := h.blk.lt
  have hi96 : i < 96 := by have := h.hi; omega
  have hii0 : (0 : Int) ≤ (i : Int) := by omega
  have hii1 : (i : Int) < 96 := by omega
  have A := Lib.hid (fun W hc => ask_yes g n i W hc hi)
  have HB : Hid (∀ W, Below w.heap.size w W → W.cell? ⟨g, 0, none⟩ = some (.int .i64 n) ∧ W.cell? ⟨g, 3073 + i, none⟩ = some (.bool true)) := fun W hB => by
    have hd := h.below hB hgw
    exact ⟨hd.c0, by rw [hd.bad hi96, hbad]⟩
  unfold secV
  obtain ⟨R0, hR0⟩ : ∃ R0, R0 = (bytesV s).toArray := ⟨_, rfl⟩
  rw [← hR0]
  clear h hbad hR0
  go_enter Try.func17, Try.ntmps17
  go_wp2_with (refine wpList_boxTo rfl 36 (.tmp 2) rfl (some 5) rfl w.heap.size rfl R0 rfl ?_)
  generalize hW : w.alloc (.cells R0 36) = w1
  have B1 : Hid (Below w.heap.size w w1) := by rw [← hW]; exact below_alloc1 w _
  clear hW
  obtain ⟨c0, c1⟩ := HB.out w1 B1.out
  refine (A.out _ c0).mono ?_
  rintro e w' ⟨rfl, rfl⟩
  go_wp2
  go_ret
  exact ⟨rfl, B1.out⟩

set_option maxRecDepth 100000 in
set_option maxHeartbeats 1000000 in
theorem read_some (g : Nat) (n : Int) (L : List Int) (B : List Bool) (mb i k : Nat) (D : DataW Value) (w : World) (h : DiskAt w g n L B mb) (hi : (i : Int) < n) (hm : w.ownsMap Try.prog 3 RV mb k D)
    (gv q cap : Nat) (x : List Int) (hat : D.atKey (.int .i64 (i : Int)) (.held (.slice none 0 0)) = .held (.slice (some ⟨gv, 0, none⟩) (q + 1) cap)) (hR : w.rangeAt gv (q * 33) (bytesV x)) (hx : x.length = 32) (hgv : gv < w.heap.size) (hq : q < 1000000000) :
    Calls Try.prog 20 #[.pointer (some ⟨g, 0, none⟩), .int .i64 (i : Int)] w fun e w' => e = .returned (.tuple #[secV x, .int .i64 0]) ∧ Below w.heap.size w w' := by
  have hgw : g < w.heap.size := h.blk.lt
  have hmw : mb < w.heap.size := hm.lt
  have hi96 : i < 96 := by have := h.hi; omega
  have hq0 : (0 : Int) ≤ (q : Int) := by omega
  have hq3 : (0 : Int) < (q : Int) + 1 := by omega
  have hwq : IntKind.i64.wrap (q : Int) = (q : Int) := by simp [IntKind.wrap, IntKind.bits, IntKind.signed]; omega
  have hq2 : (q : Int) < (q : Int) + 1 := by omega
  have A := Lib.hid (fun W hd => lasting_yes g n L B mb i W hd hi)
  have hsl := length_sec h.lenL (i := i) hi96
  have hsz : Hid ((Try.prog.info? 36).map (·.size) = some (bytesV (sec L i)).toArray.size) := by unfold Hid; rw [List.size_toArray, length_bytesV, hsl]; exact size36
  have hone : Hid ((bytesV (sec L i)).toArray.all (·.oneCell') = true) := all_oneCell_toArray (bytesV_one _)
  have h32 : Hid (32 = (bytesV (sec L i)).toArray.size) := by unfold Hid; rw [List.size_toArray, length_bytesV, hsl]
  have hszx : Hid ((Try.prog.info? 36).map (·.size) = some (bytesV x).length) := by unfold Hid; rw [length_bytesV, hx]; exact size36
  have hszx' : Hid ((Try.prog.info? 36).map (·.size) = some (bytesV x).toArray.size) := by unfold Hid; rw [List.size_toArray, length_bytesV, hx]; exact size36
  have honex : Hid ((bytesV x).toArray.all (·.oneCell') = true) := all_oneCell_toArray (bytesV_one _)
  have holdR : Hid ((bytesV (sec L i)).toArray.size = (bytesV x).toArray.size) := by unfold Hid; rw [List.size_toArray, List.size_toArray, length_bytesV, length_bytesV, hsl, hx]
  have holdZ : Hid ((bytesV (List.replicate 32 0)).toArray.size = (bytesV x).toArray.size) := by unfold Hid; rw [List.size_toArray, List.size_toArray, length_bytesV, length_bytesV, hx]; rfl
  have HB : Hid (∀ W, Below w.heap.size w W → DiskAt W g n L B mb ∧ W.ownsMap Try.prog 3 RV mb k D ∧ W.cell? ⟨g, 3169, none⟩ = some (.map (some mb)) ∧ W.rangeAt gv (q * 33) (bytesV x)) := fun W hB => by
    have hd := h.below hB hgw
    refine ⟨hd, ?_, hd.cmap, fun j u hj => (World.cell?_of_block (hB.block gv hgv)).trans (hR j u hj)⟩
    obtain ⟨es, clock, hb, F, hs, hD⟩ := hm
    exact ⟨es, clock, (hB.block mb hmw).trans hb, F, hs, hD⟩
  have Hat := Lib.hid hat
  have Hk := Lib.hid (key3 hi96)
  unfold secV at A ⊢
  obtain ⟨R0, hR0⟩ : ∃ R0, R0 = (bytesV (sec L i)).toArray := ⟨_, rfl⟩
  rw [← hR0] at A hsz hone h32 holdR
  obtain ⟨Z0, hZ0⟩ : ∃ Z0, Z0 = (bytesV (List.replicate 32 0)).toArray := ⟨_, rfl⟩
  have HZ := Lib.hid hZ0
  rw [← hZ0] at holdZ
  obtain ⟨X0, hX0⟩ : ∃ X0, X0 = bytesV x := ⟨_, rfl⟩
  rw [← hX0] at hszx hszx' honex holdR holdZ HB ⊢
  clear h hR0 hZ0 hsl hat hm hR hX0 hx hgv
  go_enter Try.func20, Try.ntmps20
  go_wp2_with fail
  generalize hW : w.alloc (Obj.cells _ 36) = w1
  have b1 : Hid (w1.heap[w.heap.size]? = some (.cells Z0 36 (0, 0))) := by rw [← hW, HZ.out]; exact heap_alloc_new w _
  have B1 : Hid (Below w.heap.size w w1) := by rw [← hW]; exact below_alloc1 w _
  have s1 : Hid (w1.heap.size = w.heap.size + 1) := by rw [← hW]; exact size_alloc1 w _
  clear hW
  refine (A.out _ (HB.out w1 B1.out).1).mono ?_
  rintro e w2 ⟨rfl, hB2⟩
  have b2 : Hid (w2.heap[w.heap.size]? = some (.cells Z0 36 (0, 0))) := (hB2.block _ (by rw [s1.out]; omega)).trans b1.out
  have B2 : Hid (Below w.heap.size w w2) := B1.out.trans (hB2.mono (by rw [s1.out]; omega))
  have s2 : Hid (w.heap.size < w2.heap.size) := by have := hB2.size; have := s1.out; unfold Hid; omega
  clear hB2
  go_wp2_with (first
    | (refine wpList_store_row rfl 36 (.tmp 6) (.tmp 13) rfl w2.heap.size R0 rfl rfl 36 _ (heap_alloc_new w2 _) hsz.out h32.out hone.out ?_
       generalize hW : World.setRow (w2.alloc (Obj.cells _ 36)) _ R0 = w3
       have B3' : Hid (Below w2.heap.size w2 w3) := by rw [← hW]; exact below_setRow (below_alloc1 w2 _) (Nat.le_refl _) _
       have b3 : Hid (w3.heap[w2.heap.size]? = some (.cells R0 36 (0, 0))) := by rw [← hW]; exact setRow_heap _ _ _ _ _ _ (heap_alloc_new w2 _)
       have b4 : Hid (w3.heap[w.heap.size]? = some (.cells Z0 36 (0, 0))) := (B3'.out.block _ s2.out).trans b2.out
       have B3 : Hid (Below w.heap.size w w3) := B2.out.trans (B3'.out.mono (Nat.le_of_lt s2.out))
       obtain ⟨hd3, hm3, hc3, hr3⟩ := HB.out w3 B3.out
       have Hm3 := Lib.hid hm3
       have Hr3 := Lib.hid hr3
       clear hd3 hm3 hr3 hW)
    | (refine wpList_lookup_held rfl (.tmp 22) (.tmp 23) 78 rfl 3 81 law3 Try.underlying78 (zero81 _) mb k D rfl Hm3.out _ _ rfl Hk.out _ Hat.out ?_)
    | (refine wpList_load_mid rfl 36 (.tmp 33) rfl gv (q * 33) rfl X0 _ Hr3.out Try.underlying36 rfl hszx.out ?_)
    | (refine wpList_store_row rfl 36 (.tmp 6) (.tmp 34) rfl w2.heap.size X0.toArray rfl rfl 36 R0 b3.out hszx'.out holdR.out honex.out ?_
       generalize hW : World.setRow w3 _ X0.toArray = w5
       have B5 : Hid (Below w.heap.size w w5) := by rw [← hW]; exact below_setRow B3.out (Nat.le_of_lt s2.out) _
       have b5 : Hid (w5.heap[w2.heap.size]? = some (.cells X0.toArray 36 (0, 0))) := by rw [← hW]; exact setRow_heap _ _ _ _ _ _ b3.out
       have b6 : Hid (w5.heap[w.heap.size]? = some (.cells Z0 36 (0, 0))) := by rw [← hW]; exact (setRow_other _ _ _ _ (by have := s2.out; omega)).trans b4.out
       have hfin := Lib.hid (setRow_heap w5 w.heap.size Z0 X0.toArray 36 (0, 0) b6.out)
       have hbfin := Lib.hid (below_setRow B5.out (Nat.le_refl _) X0.toArray)
       clear hW)
    | (refine wpList_load_row rfl 36 (.tmp 6) rfl w2.heap.size rfl 36 X0.toArray (0, 0) _ b5.out Try.underlying36 rfl hszx'.out ?_)
    | (refine wpList_store_row rfl 36 (.tmp 4) (.tmp 35) rfl w.heap.size X0.toArray rfl rfl 36 Z0 b6.out hszx'.out holdZ.out honex.out ?_))
  refine bodyPost_ret (v := .tuple #[.agg X0.toArray, .int .i64 0]) ?_ rfl ⟨rfl, hbfin.out⟩
  exact results_cell_row_tmp rfl _ _ w.heap.size 36 X0.toArray (0, 0) _ rfl hfin.out Try.underlying36 rfl hszx'.out _ rfl
end Go.Proofs.Ytieeibdhaoaeaaa
