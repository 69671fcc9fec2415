/- Lasting, Read and Write where the disk or the block is not there. -/
import Derived.Test.YtieeibdhaoaeaaaN
namespace Go.Proofs.Ytieeibdhaoaeaaa
open Go.RowKit

def noSec : List Int := List.replicate 32 0
theorem built36 : Try.prog.built 36 [] = some (bytesV noSec).toArray := by kernel_rfl
theorem noSec_len : noSec.length = 32 := List.length_replicate
set_option maxRecDepth 100000 in
set_option maxHeartbeats 1000000 in
/-- Lasting, where ask answers an error -/
theorem lasting_err (p : Value) (i e0 : Int) (w : World) (he : e0 ≠ 0) (A : ∀ W, Below w.heap.size w W → Calls Try.prog 38 #[p, .int .i64 i] W fun e w' => e = .returned (.int .i64 e0) ∧ W = w') :
    Calls Try.prog 16 #[p, .int .i64 i] w fun e w' => e = .returned (.tuple #[secV noSec, .int .i64 e0]) ∧ Below w.heap.size w w' := by
  have HA := Lib.hid A
  have hsz : Hid ((Try.prog.info? 36).map (·.size) = some (bytesV noSec).toArray.size) := by unfold Hid; rw [List.size_toArray, length_bytesV, noSec_len]; exact size36
  have hone : Hid ((bytesV noSec).toArray.all (·.oneCell') = true) := all_oneCell_toArray (bytesV_one _)
  have hbu := Lib.hid built36
  unfold secV
  obtain ⟨Z0, hZ0⟩ : ∃ Z0, Z0 = (bytesV noSec).toArray := ⟨_, rfl⟩
  have HZ := Lib.hid hZ0
  rw [← hZ0] at hsz hone hbu ⊢
  have hne : (e0 == 0) = false := by rw [beq_eq_false_iff_ne]; exact he
  have hne2 : (e0 != 0) = true := by simp [bne, hne]
  clear A hZ0 hne
  go_enter Try.func16, Try.ntmps16
  go_wp2_with fail
  generalize hW : w.alloc (Obj.cells _ 36) = w1
  have b1 : Hid (w1.heap[w.heap.size]? = some (.cells Z0 36 (0, 0))) := by rw [← hW, HZ.out]; exact heap_alloc_new w _
  have B1 : Hid (Below w.heap.size w w1) := by rw [← hW]; exact below_alloc1 w _
  have hfin := Lib.hid (setRow_heap w1 w.heap.size Z0 Z0 36 (0, 0) b1.out)
  have hbfin := Lib.hid (below_setRow B1.out (Nat.le_refl _) Z0)
  clear hW
  refine (HA.out w1 B1.out).mono ?_
  rintro e w' ⟨rfl, rfl⟩
  go_wp2_with (first
    | (refine wpList_build_eq rfl 36 [] rfl [] rfl Z0 hbu.out ?_)
    | (refine wpList_store_row rfl 36 (.tmp 4) (.tmp 12) rfl w.heap.size Z0 rfl rfl 36 Z0 b1.out hsz.out rfl hone.out ?_))
  refine bodyPost_ret (v := .tuple #[.agg Z0, .int .i64 e0]) ?_ rfl ⟨rfl, hbfin.out⟩
  exact results_cell_row_tmp rfl _ _ w.heap.size 36 Z0 (0, 0) _ rfl hfin.out Try.underlying36 rfl hsz.out _ rfl

set_option maxRecDepth 100000 in
set_option maxHeartbeats 1000000 in
/-- Read, where ask answers an error -/
theorem read_err (p : Value) (i e0 : Int) (w : World) (he : e0 ≠ 0) (A : ∀ W, Below w.heap.size w W → Calls Try.prog 38 #[p, .int .i64 i] W fun e w' => e = .returned (.int .i64 e0) ∧ W = w') :
    Calls Try.prog 20 #[p, .int .i64 i] w fun e w' => e = .returned (.tuple #[secV noSec, .int .i64 e0]) ∧ Below w.heap.size w w' := by
  have HA : Hid (∀ W, Below w.heap.size w W → Calls Try.prog 16 #[p, .int .i64 i] W fun e w' => e = .returned (.tuple #[secV noSec, .int .i64 e0]) ∧ Below W.heap.size W w') := fun W hB => lasting_err p i e0 W he (fun W2 h2 => A W2 (hB.trans (h2.mono hB.size)))
  have hsz : Hid ((Try.prog.info? 36).map (·.size) = some (bytesV noSec).toArray.size) := by unfold Hid; rw [List.size_toArray, length_bytesV, noSec_len]; exact size36
  have hone : Hid ((bytesV noSec).toArray.all (·.oneCell') = true) := all_oneCell_toArray (bytesV_one _)
  have h32 : Hid (32 = (bytesV noSec).toArray.size) := by unfold Hid; rw [List.size_toArray, length_bytesV, noSec_len]
  have hbu := Lib.hid built36
  unfold secV at HA ⊢
  obtain ⟨Z0, hZ0⟩ : ∃ Z0, Z0 = (bytesV noSec).toArray := ⟨_, rfl⟩
  have HZ := Lib.hid hZ0
  rw [← hZ0] at hsz hone hbu HA h32 ⊢
  have hne : (e0 == 0) = false := by rw [beq_eq_false_iff_ne]; exact he
  have hne2 : (e0 != 0) = true := by simp [bne, hne]
  clear A hZ0 hne
  go_enter Try.func20, Try.ntmps20
  go_wp2_with fail
  generalize hW : w.alloc (Obj.cells _ 36) = w1
  have b1 : Hid (w1.heap[w.heap.size]? = some (.cells Z0 36 (0, 0))) := by rw [← hW, HZ.out]; exact heap_alloc_new w _
  have B1 : Hid (Below w.heap.size w w1) := by rw [← hW]; exact below_alloc1 w _
  have s1 : Hid (w1.heap.size = w.heap.size + 1) := by rw [← hW]; exact size_alloc1 w _
  clear hW
  refine (HA.out w1 B1.out).mono ?_
  rintro e w2 ⟨rfl, hB2⟩
  have b2 : Hid (w2.heap[w.heap.size]? = some (.cells Z0 36 (0, 0))) := (hB2.block _ (by rw [s1.out]; omega)).trans b1.out
  have B2 : Hid (Below w.heap.size w w2) := B1.out.trans (hB2.mono (by rw [s1.out]; omega))
  have s2 : Hid (w.heap.size < w2.heap.size) := by have := hB2.size; have := s1.out; unfold Hid; omega
  clear hB2
  go_wp2_with (first
    | (refine wpList_store_row rfl 36 (.tmp 6) (.tmp 13) rfl w2.heap.size Z0 rfl rfl 36 _ (heap_alloc_new w2 _) hsz.out h32.out hone.out ?_
       generalize hW : World.setRow (w2.alloc (Obj.cells _ 36)) _ Z0 = w3
       have B3' : Hid (Below w2.heap.size w2 w3) := by rw [← hW]; exact below_setRow (below_alloc1 w2 _) (Nat.le_refl _) _
       have b4 : Hid (w3.heap[w.heap.size]? = some (.cells Z0 36 (0, 0))) := (B3'.out.block _ s2.out).trans b2.out
       have B3 : Hid (Below w.heap.size w w3) := B2.out.trans (B3'.out.mono (Nat.le_of_lt s2.out))
       have hfin := Lib.hid (setRow_heap w3 w.heap.size Z0 Z0 36 (0, 0) b4.out)
       have hbfin := Lib.hid (below_setRow B3.out (Nat.le_refl _) Z0)
       clear hW)
    | (refine wpList_build_eq rfl 36 [] rfl [] rfl Z0 hbu.out ?_)
    | (refine wpList_store_row rfl 36 (.tmp 4) (.tmp 17) rfl w.heap.size Z0 rfl rfl 36 Z0 b4.out hsz.out rfl hone.out ?_))
  refine bodyPost_ret (v := .tuple #[.agg Z0, .int .i64 e0]) ?_ rfl ⟨rfl, hbfin.out⟩
  exact results_cell_row_tmp rfl _ _ w.heap.size 36 Z0 (0, 0) _ rfl hfin.out Try.underlying36 rfl hsz.out _ rfl

set_option maxRecDepth 100000 in
/-- Write, where ask answers an error -/
theorem write_err (p : Value) (i e0 : Int) (s : List Int) (w : World) (he : e0 ≠ 0) (A : ∀ W, Below w.heap.size w W → Calls Try.prog 38 #[p, .int .i64 i] W fun e w' => e = .returned (.int .i64 e0) ∧ W = w') :
    Calls Try.prog 17 #[p, .int .i64 i, secV s] w fun e w' => e = .returned (.int .i64 e0) ∧ Below w.heap.size w w' := by
  have HA := Lib.hid A
  unfold secV
  obtain ⟨Z0, hZ0⟩ : ∃ Z0, Z0 = (bytesV s).toArray := ⟨_, rfl⟩
  rw [← hZ0]
  have hne : (e0 == 0) = false := by rw [beq_eq_false_iff_ne]; exact he
  have hne2 : (e0 != 0) = true := by simp [bne, hne]
  have B1 : Hid (Below w.heap.size w (w.alloc (.cells Z0 36))) := below_alloc1 w _
  clear A hZ0 hne
  go_enter Try.func17, Try.ntmps17
  go_wp2_with fail
  refine (HA.out _ B1.out).mono ?_
  rintro e w' ⟨rfl, rfl⟩
  go_wp2
  go_ret
  exact ⟨rfl, B1.out⟩
end Go.Proofs.Ytieeibdhaoaeaaa
