/- A sector of some bytes. -/
import Derived.Test.YtieeibdhaoaeaaaRH
set_option linter.unusedVariables false
set_option linter.unusedSimpArgs false
namespace Go.Proofs.Ytieeibdhaoaeaaa
open Go.RowKit

def uniS (c : Int) : List Int := List.replicate 32 c
theorem uniS_ok {c : Int} (h : 0 ≤ c ∧ c ≤ 255) : OkS (uniS c) := ⟨List.length_replicate, fun x hx => by rw [uniS, List.mem_replicate] at hx; rw [hx.2]; exact h⟩
def halfL (c : Int) (k : Nat) : List Int := List.replicate k c ++ List.replicate (32 - k) 0
theorem halfL_next (c : Int) {k : Nat} (h : k < 32) : (bytesV (halfL c k)).set k (byteV c) = bytesV (halfL c (k + 1)) := by
  unfold halfL bytesV
  have e : 32 - k = (31 - k) + 1 := by omega
  rw [e, List.replicate_succ, ← List.map_set, List.set_append_right _ _ (by simp), List.length_replicate, Nat.sub_self, List.set_cons_zero, List.replicate_succ', List.append_assoc, List.singleton_append, show 32 - (k + 1) = 31 - k by omega]
set_option maxRecDepth 100000 in
set_option maxHeartbeats 1000000 in
theorem sector_any (c : Int) (w : World) : Calls Try.prog 18 #[.int .u8 c] w fun e w' => e = .returned (secV (uniS c)) ∧ Below w.heap.size w w' := by
  have hL : ∀ k, k ≤ 32 → (halfL c k).length = 32 := fun k hk => by simp [halfL]; omega
  have HZ : Hid ((bytesV (halfL c 0)).toArray = (bytesV (List.replicate 32 0)).toArray) := rfl
  have HN : Hid (∀ k, k < 32 → (bytesV (halfL c k)).set k (.int .u8 c) = bytesV (halfL c (k + 1))) := fun k hk => halfL_next c hk
  have HE : Hid (halfL c 32 = uniS c) := by simp [halfL, uniS, Hid]
  have hsz : Hid ((Try.prog.info? 35).map (·.size) = some (bytesV (uniS c)).toArray.size) := by unfold Hid; rw [List.size_toArray, length_bytesV]; simp only [uniS, List.length_replicate]; kernel_rfl
  have hone : Hid ((bytesV (uniS c)).toArray.all (·.oneCell') = true) := all_oneCell_toArray (bytesV_one _)
  unfold secV
  obtain ⟨R0, hR0⟩ : ∃ R0, R0 = (bytesV (uniS c)).toArray := ⟨_, rfl⟩
  rw [← hR0] at hsz hone ⊢
  have HR0 := Lib.hid hR0
  clear hR0
  go_enter Try.func18, Try.ntmps18
  go_wp2_with fail
  generalize hW : w.alloc (Obj.cells _ 35) = w1
  have b1 : Hid (BlkIs w1 w.heap.size 35 (bytesV (halfL c 0))) := by
    rw [← hW]; unfold Hid BlkIs; rw [HZ.out]; exact heap_alloc_new w _
  have B1 : Hid (Below w.heap.size w w1) := by rw [← hW]; exact below_alloc1 w _
  clear hW
  go_wp2_with fail
  go_loopw [3] (fun i wr => ∃ k : Nat, k ≤ 32 ∧ i = .int .i64 k ∧ BlkIs wr w.heap.size 35 (bytesV (halfL c k)) ∧ Below w.heap.size w wr) (fun i _ => 32 - (intOf i).toNat)
  case atStart => exact ⟨0, Nat.zero_le _, rfl, b1.out, B1.out⟩
  case round =>
    obtain ⟨k, hk, rfl, hb, hB⟩ := hrel
    rename World => wr
    have Hb := Lib.hid hb
    have HB := Lib.hid hB
    clear hb hB
    by_cases hlt : k < 32
    · have hlt' : (k : Int) < 32 := by omega
      have hk0 : (0 : Int) ≤ (k : Int) := by omega
      have hwk : IntKind.i64.wrap ((k : Int) + 1) = (k : Int) + 1 := by simp [IntKind.wrap, IntKind.bits, IntKind.signed]; omega
      have hcl : wr.cell? ⟨w.heap.size, k, none⟩ = some (byteV (nth (halfL c k) k)) := by
        have hl := hL k (by omega)
        rw [BlkIs.cell Hb.out, bytesV, List.getElem?_map, List.getElem?_eq_getElem (by omega), nth_lt (by omega)]; rfl
      have hfz : wr.frozen? ⟨w.heap.size, k, none⟩ = false := BlkIs.frozen Hb.out k
      obtain ⟨q, hq⟩ : ∃ q, q = nth (halfL c k) k := ⟨_, rfl⟩
      rw [← hq] at hcl
      have hcl2 : wr.cell? ⟨w.heap.size, k, none⟩ = some (.int .u8 q) := hcl
      have B2 : Hid (BlkIs (wr.setCell ⟨w.heap.size, k, none⟩ (.int .u8 c)) w.heap.size 35 (bytesV (halfL c (k + 1)))) := by
        have := BlkIs.set_ Hb.out k (.int .u8 c)
        rw [HN.out k hlt] at this
        exact this
      have HB2 : Hid (Below w.heap.size w (wr.setCell ⟨w.heap.size, k, none⟩ (.int .u8 c))) :=
        ((Kept.fresh (S := fun b => b = w.heap.size) HB.out).trans (Kept.grown (S := fun b => b = w.heap.size) (setCell_grown _ _ _) (fun b e => by cases e; exact .inl rfl)) (fun _ h => .inl h)).below (fun b e => by omega) (Nat.le_refl _)
      clear hq hcl hL
      go_wp2
      go_roundw
      case rel => exact ⟨k + 1, by omega, rfl, B2.out, HB2.out⟩
      case measure => simp [intOf]; omega
    · obtain rfl : k = 32 := by omega
      have hnn : ¬ ((32 : Nat) : Int) < 32 := by omega
      have Hb2 : Hid (wr.heap[w.heap.size]? = some (.cells (bytesV (uniS c)).toArray 35 (0, 0))) := by have := Hb.out; rw [HE.out] at this; exact this
      rw [← HR0.out] at Hb2
      clear hL hlt
      have hfin := Lib.hid (setRow_heap wr w.heap.size R0 R0 35 (0, 0) Hb2.out)
      have hbfin := Lib.hid (below_setRow HB.out (Nat.le_refl _) R0)
      go_wp2_with (first
        | (refine wpList_load_row rfl 35 (.tmp 2) rfl w.heap.size rfl 35 R0 (0, 0) _ Hb2.out Try.underlying35 rfl hsz.out ?_)
        | (refine wpList_store_row rfl 35 (.tmp 2) (.tmp 11) rfl w.heap.size R0 rfl rfl 35 R0 Hb2.out hsz.out rfl hone.out ?_))
      refine bodyPost_ret (v := .agg R0) ?_ rfl ⟨rfl, hbfin.out⟩
      exact results_cell_row rfl _ _ w.heap.size 35 R0 (0, 0) _ rfl hfin.out Try.underlying35 rfl hsz.out
end Go.Proofs.Ytieeibdhaoaeaaa
