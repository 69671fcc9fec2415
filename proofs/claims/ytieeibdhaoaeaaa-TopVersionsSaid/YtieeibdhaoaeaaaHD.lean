/- The contract of 'Read' of a block of which no version waits. -/
import Derived.Test.YtieeibdhaoaeaaaHC
namespace Go.Proofs.Ytieeibdhaoaeaaa
open Go.RowKit
open Go.Maps (Keyed)

theorem law3 : Keyed Try.prog 3 := Go.Maps.int_keyed Try.underlying3
theorem key3 {i : Nat} (hi : i < 96) : keyOf Try.prog 3 (.int .i64 (i : Int)) = some (.int .i64 (i : Int)) := Go.Maps.keyOf_int_mk Try.underlying3 (WalkArith.wf_i64 ⟨by omega, by omega⟩)

theorem size_alloc1 (w : World) (o : Obj) : (w.alloc o).heap.size = w.heap.size + 1 := by simp
/-- a look-up in a map whose elements read as they stand -/
theorem wpList_lookup_held {P : Program} {ops : Array Oper} {rest : List Oper} {o : Oper} {a : Act} {w : World} {Q : Exit → Act → World → Prop} (hg : o.guard = none) (m x : Operand) (t : TypeId) (hop : o.op = Op.lookup t m x false)
    (k e : TypeId) (K : Keyed P k) (ht : P.underlying t = some (.map k e)) {z : Value} (hz : (zeroValue e).run P w = .ok z w) (b n : Nat) (D : DataW Value)
    (hm : a.eval m = .map (some b)) (hown : w.ownsMap P k RV b n D) (key : Value) (kl : Lit) (hx : a.eval x = key) (hkey : keyOf P k key = some kl) (v : Value) (hat : D.atKey kl (.held z) = .held v)
    (h : wpList P ops Q rest (a.put o.dst v) w) : wpList P ops Q (o :: rest) a w := by
  refine wpList_plain hg fun K' hK' => ?_
  obtain ⟨u, ps, hrun, hv⟩ := hown.lookup K ht hz (zd := .held z) (zp := []) rfl hkey
  have : u = v := by
    rw [hat] at hv
    simp [RV] at hv
    exact hv.1
  subst this
  unfold Oper.wp
  simp [execOp, hop, hm, hx, hrun, Result.andThen]
  exact hK' _ _ h

theorem zero81 (w : World) : (zeroValue 81).run Try.prog w = .ok (.slice none 0 0) w := by
  have := (by kernel_rfl : (Try.prog.info? 81).map (·.zero) = some (some (.slice none 0 0)))
  cases hq : Try.prog.info? 81 with
  | none => simp [hq] at this
  | some i => simp [hq] at this; simp [zeroValue, typeInfo, hq, this]

set_option maxRecDepth 100000 in
set_option maxHeartbeats 1000000 in
theorem read_none (g : Nat) (n : Int) (L : List Int) (B : List Bool) (mb i k : Nat) (D : DataW Value) (w : World) (h : DiskAt w g n L B mb) (hi : (i : Int) < n) (hm : w.ownsMap Try.prog 3 RV mb k D)
    (hat : D.atKey (.int .i64 (i : Int)) (.held (.slice none 0 0)) = .held (.slice none 0 0)) :
    Calls Try.prog 20 #[.pointer (some ⟨g, 0, none⟩), .int .i64 (i : Int)] w fun e w' => e = .returned (.tuple #[secV (sec L i), .int .i64 0]) ∧ Below w.heap.size w w' := by
  have hgw : g < w.heap.size := h.blk.lt
  have hmw : mb < w.heap.size := hm.lt
  have hi96 : i < 96 := by have := h.hi; omega
  have A := Lib.hid (fun W hd => lasting_yes g n L B mb i W hd hi)
  have hsl := length_sec h.lenL (i := i) hi96
  have hsz : Hid ((Try.prog.info? 36).map (·.size) = some (bytesV (sec L i)).toArray.size) := by unfold Hid; rw [List.size_toArray, length_bytesV, hsl]; exact size36
  have hone : Hid ((bytesV (sec L i)).toArray.all (·.oneCell') = true) := all_oneCell_toArray (bytesV_one _)
  have hold : Hid ((bytesV (List.replicate 32 0)).toArray.size = (bytesV (sec L i)).toArray.size) := by unfold Hid; rw [List.size_toArray, List.size_toArray, length_bytesV, length_bytesV, hsl]; rfl
  have h32 : Hid (32 = (bytesV (sec L i)).toArray.size) := by unfold Hid; rw [List.size_toArray, length_bytesV, hsl]
  have HB : Hid (∀ W, Below w.heap.size w W → DiskAt W g n L B mb ∧ W.ownsMap Try.prog 3 RV mb k D ∧ W.cell? ⟨g, 3169, none⟩ = some (.map (some mb))) := fun W hB => by
    have hd := h.below hB hgw
    refine ⟨hd, ?_, hd.cmap⟩
    obtain ⟨es, clock, hb, F, hs, hD⟩ := hm
    exact ⟨es, clock, (hB.block mb hmw).trans hb, F, hs, hD⟩
  have Hat := Lib.hid hat
  have Hk := Lib.hid (key3 hi96)
  unfold secV at A ⊢
  obtain ⟨R0, hR0⟩ : ∃ R0, R0 = (bytesV (sec L i)).toArray := ⟨_, rfl⟩
  rw [← hR0] at A hsz hone hold h32 ⊢
  obtain ⟨Z0, hZ0⟩ : ∃ Z0, Z0 = (bytesV (List.replicate 32 0)).toArray := ⟨_, rfl⟩
  have HZ := Lib.hid hZ0
  rw [← hZ0] at hold
  clear h hR0 hZ0 hsl hat hm
  go_enter Try.func20, Try.ntmps20
  go_wp2_with fail
  generalize hW : w.alloc (Obj.cells _ 36) = w1
  have b1 : Hid (w1.heap[w.heap.size]? = some (.cells Z0 36 (0, 0))) := by rw [← hW, HZ.out]; exact heap_alloc_new w _
  have B1 : Hid (Below w.heap.size w w1) := by rw [← hW]; exact below_alloc1 w _
  have s1 : Hid (w1.heap.size = w.heap.size + 1) := by rw [← hW]; exact size_alloc1 w _
  clear hW
  refine (A.out _ (HB.out w1 B1.out).1).mono ?_
  rintro e w2 ⟨rfl, hB2⟩
  have B2' := Lib.hid hB2
  have b2 : Hid (w2.heap[w.heap.size]? = some (.cells Z0 36 (0, 0))) := (hB2.block _ (by rw [s1.out]; omega)).trans b1.out
  have B2 : Hid (Below w.heap.size w w2) := B1.out.trans (hB2.mono (by rw [s1.out]; omega))
  have s2 : Hid (w.heap.size < w2.heap.size) := by have := hB2.size; have := s1.out; unfold Hid; omega
  clear hB2
  have h32 : Hid (32 = R0.size) := h32.out
  go_wp2_with (first
    | (refine wpList_store_row rfl 36 (.tmp 6) (.tmp 13) rfl w2.heap.size R0 rfl rfl 36 _ (heap_alloc_new w2 _) hsz.out h32.out hone.out ?_
       generalize hW : World.setRow (w2.alloc (Obj.cells _ 36)) _ R0 = w3
       have B3' : Hid (Below w2.heap.size w2 w3) := by rw [← hW]; exact below_setRow (below_alloc1 w2 _) (Nat.le_refl _) _
       have b3 : Hid (w3.heap[w2.heap.size]? = some (.cells R0 36 (0, 0))) := by rw [← hW]; exact setRow_heap _ _ _ _ _ _ (heap_alloc_new w2 _)
       have b4 : Hid (w3.heap[w.heap.size]? = some (.cells Z0 36 (0, 0))) := (B3'.out.block _ s2.out).trans b2.out
       have B3 : Hid (Below w.heap.size w w3) := B2.out.trans (B3'.out.mono (Nat.le_of_lt s2.out))
       obtain ⟨hd3, hm3, hc3⟩ := HB.out w3 B3.out
       have Hm3 := Lib.hid hm3
       have hfin := Lib.hid (setRow_heap w3 w.heap.size Z0 R0 36 (0, 0) b4.out)
       have hbfin := Lib.hid (below_setRow B3.out (Nat.le_refl _) R0)
       clear hd3 hm3 hW)
    | (refine wpList_lookup_held rfl (.tmp 22) (.tmp 23) 78 rfl 3 81 law3 Try.underlying78 (zero81 _) mb k D rfl Hm3.out _ _ rfl Hk.out _ Hat.out ?_)
    | (refine wpList_load_row rfl 36 (.tmp 6) rfl w2.heap.size rfl 36 R0 (0, 0) _ b3.out Try.underlying36 rfl hsz.out ?_)
    | (refine wpList_store_row rfl 36 (.tmp 4) (.tmp 35) rfl w.heap.size R0 rfl rfl 36 Z0 b4.out hsz.out hold.out hone.out ?_))
  refine bodyPost_ret (v := .tuple #[.agg R0, .int .i64 0]) ?_ rfl ⟨rfl, hbfin.out⟩
  exact results_cell_row_tmp rfl _ _ w.heap.size 36 R0 (0, 0) _ rfl hfin.out Try.underlying36 rfl hsz.out _ rfl
end Go.Proofs.Ytieeibdhaoaeaaa
