/- The contracts of 'ask' and 'Lasting'. -/
import Derived.Test.YtieeibdhaoaeaaaHA
namespace Go.Proofs.Ytieeibdhaoaeaaa
open Go.RowKit

/-- a disk at a block: how many blocks, what lasts, what is bad, the map -/
structure DiskAt (w : World) (g : Nat) (n : Int) (L : List Int) (B : List Bool) (mb : Nat) : Prop where
  blk : BlkIs w g 80 (diskL n L B mb)
  lo : 1 ≤ n
  hi : n ≤ 96
  lenL : L.length = 3072
  lenB : B.length = 96
  allL : AllB L
/-- what the i-th block lasts as -/
def sec (L : List Int) (i : Nat) : List Int := part L (i * 32) (i * 32 + 32)
section
variable {w w' : World} {g : Nat} {n : Int} {L : List Int} {B : List Bool} {mb : Nat}
theorem DiskAt.below {b : Nat} (h : DiskAt w g n L B mb) (hB : Below b w w') (hg : g < b) : DiskAt w' g n L B mb := ⟨h.blk.below hB hg, h.lo, h.hi, h.lenL, h.lenB, h.allL⟩
theorem DiskAt.c0 (h : DiskAt w g n L B mb) : w.cell? ⟨g, 0, none⟩ = some (.int .i64 n) := h.blk.cell 0
theorem DiskAt.cmap (h : DiskAt w g n L B mb) : w.cell? ⟨g, 3169, none⟩ = some (.map (some mb)) := by
  rw [h.blk.cell, diskL, List.getElem?_append_right (by rw [length_heldL n L B h.lenL h.lenB]; omega), length_heldL n L B h.lenL h.lenB]
  rfl
theorem DiskAt.byte (h : DiskAt w g n L B mb) {j : Nat} (hj : j < 3072) : w.cell? ⟨g, 1 + j, none⟩ = some (byteV (nth L j)) := by
  have h1 : (diskL n L B mb)[1 + j]? = (bytesV L)[j]? := by
    unfold diskL heldL
    rw [List.append_assoc, List.append_assoc, List.getElem?_append_right (by simp)]
    simp only [List.length_singleton]
    rw [List.getElem?_append_left (by rw [length_bytesV, h.lenL]; omega), show 1 + j - 1 = j by omega]
  rw [h.blk.cell, h1, bytesV, List.getElem?_map, List.getElem?_eq_getElem (by rw [h.lenL]; exact hj), nth_lt (by rw [h.lenL]; exact hj)]
  rfl
theorem DiskAt.bad (h : DiskAt w g n L B mb) {j : Nat} (hj : j < 96) : w.cell? ⟨g, 3073 + j, none⟩ = some (.bool (B.getD j false)) := by
  have h1 : (diskL n L B mb)[3073 + j]? = (B.map Value.bool)[j]? := by
    unfold diskL heldL
    rw [List.append_assoc, List.getElem?_append_right (by simp [length_bytesV, h.lenL])]
    rw [List.getElem?_append_left (by simp [length_bytesV, h.lenL, h.lenB]; exact hj)]
    simp [length_bytesV, h.lenL]
  rw [h.blk.cell, h1, List.getElem?_map, List.getElem?_eq_getElem (by rw [h.lenB]; exact hj), List.getD_eq_getElem?_getD, List.getElem?_eq_getElem (by rw [h.lenB]; exact hj)]
  rfl
theorem DiskAt.sector (h : DiskAt w g n L B mb) {i : Nat} (hi : i < 96) : w.rangeAt g (1 + i * 32) (bytesV (sec L i)) := by
  have hl : (sec L i).length = 32 := by unfold sec; rw [length_part _ _ _ (by rw [h.lenL]; omega)]; omega
  intro j v hj
  have hj' : j < 32 := by
    rcases Nat.lt_or_ge j 32 with h1 | h1
    · exact h1
    · rw [List.getElem?_eq_none (by rw [length_bytesV, hl]; exact h1)] at hj; cases hj
  have e := h.byte (j := i * 32 + j) (by omega)
  rw [Nat.add_assoc, e, ← hj, bytesV, List.getElem?_map, List.getElem?_eq_getElem (by rw [hl]; exact hj'), ← nth_lt (by rw [hl]; exact hj')]
  unfold sec
  rw [nth_part _ _ _ _ (by omega)]
  rfl
end
theorem length_sec {L : List Int} (hL : L.length = 3072) {i : Nat} (hi : i < 96) : (sec L i).length = 32 := by unfold sec; rw [length_part _ _ _ (by rw [hL]; omega)]; omega
theorem sec_all {L : List Int} (h : AllB L) (i : Nat) : AllB (sec L i) := part_all h _ _

theorem ask_nil (i : Int) (w : World) : Calls Try.prog 38 #[.pointer none, .int .i64 i] w fun e w' => e = .returned (.int .i64 1) ∧ w = w' := by
  go_enter Try.func38, Try.ntmps38
  go_wp2
  go_ret
  exact ⟨rfl, rfl⟩
theorem ask_yes (g : Nat) (n : Int) (i : Nat) (w : World) (h : w.cell? ⟨g, 0, none⟩ = some (.int .i64 n)) (hi : (i : Int) < n) :
    Calls Try.prog 38 #[.pointer (some ⟨g, 0, none⟩), .int .i64 (i : Int)] w fun e w' => e = .returned (.int .i64 0) ∧ w = w' := by
  have h0 : ¬ (i : Int) < 0 := by omega
  have h1 : ¬ n ≤ (i : Int) := by omega
  go_enter Try.func38, Try.ntmps38
  go_wp2
  go_ret
  exact ⟨rfl, rfl⟩
theorem ask_no (g : Nat) (n i : Int) (w : World) (h : w.cell? ⟨g, 0, none⟩ = some (.int .i64 n)) (hi : i < 0 ∨ n ≤ i) :
    Calls Try.prog 38 #[.pointer (some ⟨g, 0, none⟩), .int .i64 i] w fun e w' => e = .returned (.int .i64 2) ∧ w = w' := by
  by_cases h0 : i < 0
  · go_enter Try.func38, Try.ntmps38
    go_wp2
    go_ret
    exact ⟨rfl, rfl⟩
  · have h1 : n ≤ i := by omega
    clear hi
    go_enter Try.func38, Try.ntmps38
    go_wp2
    go_ret
    exact ⟨rfl, rfl⟩

/-- a result that lies in a block, beside one that does not -/
theorem results_cell_row_tmp {P : Program} {fn : Func} {p u : Tmp} {ty : TypeId} (h : fn.results = #[.cell p ty, .tmp u]) (tmps : Array Value) (w : World) (g : Nat) (t : TypeId) (cs : Array Value) (fr : Nat × Nat) (d : TypeDesc)
    (hp : tmps.getD p undef = .pointer (some ⟨g, 0, none⟩)) (hg : w.heap[g]? = some (.cells cs t fr))
    (hu : P.underlying ty = some d) (hd : (match d with | .struct _ | .array _ _ => true | _ => false) = true) (hi : (P.info? ty).map (·.size) = some cs.size) (v : Value) (hv : tmps.getD u undef = v) :
    (results fn tmps).run P w = .ok (.tuple #[.agg cs, v]) w := by
  subst hv
  have hp' : tmps[p]?.getD undef = .pointer (some ⟨g, 0, none⟩) := by simpa using hp
  rw [results_cell_tmp h, hp]
  simp [asAddr, Result.andThen, run_loadVar_row w g t ty cs fr d hg hu hd hi]

def secV (l : List Int) : Value := .agg (bytesV l).toArray
set_option maxRecDepth 100000 in
set_option maxHeartbeats 1000000 in
theorem lasting_yes (g : Nat) (n : Int) (L : List Int) (B : List Bool) (mb i : Nat) (w : World) (h : DiskAt w g n L B mb) (hi : (i : Int) < n) :
    Calls Try.prog 16 #[.pointer (some ⟨g, 0, none⟩), .int .i64 (i : Int)] w fun e w' => e = .returned (.tuple #[secV (sec L i), .int .i64 0]) ∧ Below w.heap.size w w' := by
  have hgw : g < w.heap.size := h.blk.lt
  have hi96 : (i : Int) < 96 := by have := h.hi; omega
  have hi0 : (0 : Int) ≤ (i : Int) := by omega
  have A := Lib.hid (fun W hc => ask_yes g n i W hc hi)
  have hsl := length_sec h.lenL (i := i) (by omega)
  have hsz : Hid ((Try.prog.info? 36).map (·.size) = some (bytesV (sec L i)).length) := by unfold Hid; rw [length_bytesV, hsl]; exact size36
  have hsz2 : Hid ((Try.prog.info? 36).map (·.size) = some (bytesV (sec L i)).toArray.size) := by unfold Hid; rw [List.size_toArray, length_bytesV, hsl]; exact size36
  have hone : Hid ((bytesV (sec L i)).toArray.all (·.oneCell') = true) := all_oneCell_toArray (bytesV_one _)
  have hold : Hid ((bytesV (List.replicate 32 0)).toArray.size = (bytesV (sec L i)).toArray.size) := by unfold Hid; rw [List.size_toArray, List.size_toArray, length_bytesV, length_bytesV, hsl]; rfl
  have HR : Hid (∀ W, Below w.heap.size w W → W.cell? ⟨g, 0, none⟩ = some (.int .i64 n) ∧ W.rangeAt g (1 + i * 32) (bytesV (sec L i))) := fun W hB => ⟨(h.below hB hgw).c0, (h.below hB hgw).sector (by omega)⟩
  unfold secV
  obtain ⟨R0, hR0⟩ : ∃ R0, R0 = bytesV (sec L i) := ⟨_, rfl⟩
  rw [← hR0] at hsz hsz2 hone hold HR ⊢
  obtain ⟨Z0, hZ0⟩ : ∃ Z0, Z0 = (bytesV (List.replicate 32 0)).toArray := ⟨_, rfl⟩
  have HZ := Lib.hid hZ0
  rw [← hZ0] at hold
  clear h hR0 hZ0 hsl
  go_enter Try.func16, Try.ntmps16
  go_wp2_with fail
  generalize hW : w.alloc (Obj.cells _ 36) = w1
  have b1 : Hid (w1.heap[w.heap.size]? = some (.cells Z0 36 (0, 0))) := by rw [← hW, HZ.out]; exact heap_alloc_new w _
  have B1 : Hid (Below w.heap.size w w1) := by rw [← hW]; exact below_alloc1 w _
  obtain ⟨hc0, hr⟩ := HR.out w1 B1.out
  have hR := Lib.hid hr
  have hfin := Lib.hid (setRow_heap w1 w.heap.size Z0 R0.toArray 36 (0, 0) b1.out)
  have hbfin := Lib.hid (below_setRow B1.out (Nat.le_refl _) R0.toArray)
  clear hW hr
  refine (A.out _ hc0).mono ?_
  rintro e w' ⟨rfl, rfl⟩
  go_wp2_with (first
    | (refine wpList_load_mid rfl 36 (.tmp 19) rfl g (1 + i * 32) rfl R0 _ hR.out Try.underlying36 rfl hsz.out ?_)
    | (refine wpList_store_row rfl 36 (.tmp 4) (.tmp 20) rfl w.heap.size R0.toArray rfl rfl 36 Z0 b1.out hsz2.out hold.out hone.out ?_))
  refine bodyPost_ret (v := .tuple #[.agg R0.toArray, .int .i64 0]) ?_ rfl ⟨rfl, hbfin.out⟩
  exact results_cell_row_tmp rfl _ _ w.heap.size 36 R0.toArray (0, 0) _ rfl hfin.out Try.underlying36 rfl hsz2.out _ rfl
end Go.Proofs.Ytieeibdhaoaeaaa
