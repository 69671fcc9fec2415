/- DiskNone is true of every deed, and leaves its arguments as they are. Here: the walk of the law's text. -/
import Derived.Test.YtieeibdhaoaeaaaWDiskPlays
set_option linter.unusedVariables false
set_option linter.unusedSimpArgs false
namespace Go.Proofs.Ytieeibdhaoaeaaa.DiskNone
open Go.RowKit
set_option maxRecDepth 100000 in
set_option maxHeartbeats 2000000 in
theorem walk (x : Dd) (w : World) (hx : DdIn w x) : Calls Try.prog 9 #[x.v] w fun e w' => e = .returned (.bool true) ∧ Below w.heap.size w w' := by
  clear hx
  obtain ⟨Z0, hZ⟩ : ∃ Z0, Z0 = (bytesV noSec).toArray := ⟨_, rfl⟩
  have RD : Hid (∀ W, Calls Try.prog 20 #[.pointer none, .int .i64 x.i] W fun e w' => e = .returned (.tuple #[.agg Z0, .int .i64 1]) ∧ Below W.heap.size W w') := fun W => by
    rw [hZ]; exact read_err (.pointer none) x.i 1 W (by decide) (fun W2 _ => ask_nil x.i W2)
  have LS : Hid (∀ W, Calls Try.prog 16 #[.pointer none, .int .i64 x.i] W fun e w' => e = .returned (.tuple #[.agg Z0, .int .i64 1]) ∧ Below W.heap.size W w') := fun W => by
    rw [hZ]; exact lasting_err (.pointer none) x.i 1 W (by decide) (fun W2 _ => ask_nil x.i W2)
  have WR : Hid (∀ W, Calls Try.prog 17 #[.pointer none, .int .i64 x.i, .agg Z0] W fun e w' => e = .returned (.int .i64 1) ∧ Below W.heap.size W w') := fun W => by
    rw [hZ]; exact write_err (.pointer none) x.i 1 noSec W (by decide) (fun W2 _ => ask_nil x.i W2)
  have EU : Hid (∀ W, (Op.equalIn 10000 36 (.agg Z0) (.agg Z0)).run Try.prog W = .ok true W) := fun W => by
    have := eqAny 36 Try.underlying36 _ _ noSec_len noSec_len W
    rw [hZ]; simpa using this
  have EU5 : Hid (∀ W, (Op.equalIn 10000 35 (.agg Z0) (.agg Z0)).run Try.prog W = .ok true W) := fun W => by
    have := eqAny 35 Try.underlying35 _ _ noSec_len noSec_len W
    rw [hZ]; simpa using this
  have hsz : Hid ((Try.prog.info? 36).map (·.size) = some Z0.size) := by unfold Hid; rw [hZ, List.size_toArray, length_bytesV, noSec_len]; exact size36
  have h32 : Hid (32 = Z0.size) := by unfold Hid; rw [hZ, List.size_toArray, length_bytesV, noSec_len]
  have hone : Hid (Z0.all (·.oneCell') = true) := by unfold Hid; rw [hZ]; exact all_oneCell_toArray (bytesV_one _)
  obtain ⟨bx, hbx⟩ : ∃ bx, bx = w.heap.size := ⟨_, rfl⟩
  obtain ⟨w1, hw1⟩ : ∃ w1, w1 = w.alloc (.cells x.cs.toArray 41) := ⟨_, rfl⟩
  have Hw1 : Hid (w.alloc (.cells #[.int .i64 x.kind, .int .i64 x.i, .int .u8 x.c, .slice x.P x.pick.length x.pc, .bool x.bad] 41) = w1) := by rw [hw1]; rfl
  have X1 : InBox w1 bx x := by rw [hw1, hbx]; exact inBox_new w x
  have hbl : bx < w1.heap.size := by rw [hw1, hbx]; simp
  have HX : Hid (∀ W, Below w1.heap.size w1 W → InBox W bx x) := fun W hB => X1.same (hB.block bx hbl)
  have B0 : Hid (Below w.heap.size w w1) := by rw [hw1]; exact below_alloc1 w _
  have Hbx := Lib.hid hbx
  unfold Dd.v
  unfold InBox at HX
  clear hw1 hbl hbx X1 hZ
  go_enter Try.func9, Try.ntmps9
  go_wp2_with fail
  rw [Hw1.out, ← Hbx.out]
  refine (RD.out w1).mono ?_
  rintro e w2 ⟨rfl, hB2⟩
  have B2 := Lib.hid hB2
  clear hB2
  go_wp2_with (refine wpList_store_row rfl 36 (.tmp 4) (.tmp 13) rfl w2.heap.size Z0 rfl rfl 36 _ (heap_alloc_new w2 _) hsz.out h32.out hone.out ?_
               generalize hW : World.setRow (w2.alloc (Obj.cells _ 36)) _ Z0 = w3
               have b3 : Hid (w3.heap[w2.heap.size]? = some (.cells Z0 36 (0, 0))) := by rw [← hW]; exact setRow_heap _ _ _ _ _ _ (heap_alloc_new w2 _)
               have B3 : Hid (Below w2.heap.size w2 w3) := by rw [← hW]; exact below_setRow (below_alloc1 w2 _) (Nat.le_refl _) _
               have E3 : Hid (Below w1.heap.size w1 w3) := B2.out.trans (B3.out.mono B2.out.size)
               obtain ⟨x1, x2, x3, x4⟩ := HX.out _ E3.out
               clear hW)
  refine (LS.out w3).mono ?_
  rintro e w4 ⟨rfl, hB4⟩
  have B4 := Lib.hid hB4
  have b4 : Hid (w4.heap[w2.heap.size]? = some (.cells Z0 36 (0, 0))) := (hB4.block _ (Array.getElem?_eq_some_iff.1 b3.out).1).trans b3.out
  clear hB4 x1 x2 x3 x4
  go_wp2_with (refine wpList_store_row rfl 36 (.tmp 6) (.tmp 20) rfl w4.heap.size Z0 rfl rfl 36 _ (heap_alloc_new w4 _) hsz.out h32.out hone.out ?_
               generalize hW : World.setRow (w4.alloc (Obj.cells _ 36)) _ Z0 = w5
               have c5 : Hid (w5.heap[w4.heap.size]? = some (.cells Z0 36 (0, 0))) := by rw [← hW]; exact setRow_heap _ _ _ _ _ _ (heap_alloc_new w4 _)
               have B5 : Hid (Below w4.heap.size w4 w5) := by rw [← hW]; exact below_setRow (below_alloc1 w4 _) (Nat.le_refl _) _
               have b5 : Hid (w5.heap[w2.heap.size]? = some (.cells Z0 36 (0, 0))) := (B5.out.block _ (Array.getElem?_eq_some_iff.1 b4.out).1).trans b4.out
               have E5 : Hid (Below w1.heap.size w1 w5) := (E3.out.trans (B4.out.mono E3.out.size)).trans (B5.out.mono (Nat.le_trans E3.out.size B4.out.size))
               clear hW)
  refine (live_any w5).mono ?_
  rintro e w6 ⟨rfl, hB6⟩
  have b6 : Hid (w6.heap[w2.heap.size]? = some (.cells Z0 36 (0, 0))) := (hB6.block _ (Array.getElem?_eq_some_iff.1 b5.out).1).trans b5.out
  have c6 : Hid (w6.heap[w4.heap.size]? = some (.cells Z0 36 (0, 0))) := (hB6.block _ (Array.getElem?_eq_some_iff.1 c5.out).1).trans c5.out
  have E6 : Hid (Below w1.heap.size w1 w6) := E5.out.trans (hB6.mono E5.out.size)
  obtain ⟨x1, x2, x3, x4⟩ := HX.out _ E6.out
  clear hB6
  go_wp2_with (refine load_row_on (by first | rfl | simp [Region.wanted, yielded]) 36 (.tmp 4) rfl w2.heap.size rfl 36 Z0 (0, 0) _ b6.out Try.underlying36 rfl hsz.out ?_)
  refine (WR.out w6).mono ?_
  rintro e w7 ⟨rfl, hB7⟩
  have b7 : Hid (w7.heap[w2.heap.size]? = some (.cells Z0 36 (0, 0))) := (hB7.block _ (Array.getElem?_eq_some_iff.1 b6.out).1).trans b6.out
  have c7 : Hid (w7.heap[w4.heap.size]? = some (.cells Z0 36 (0, 0))) := (hB7.block _ (Array.getElem?_eq_some_iff.1 c6.out).1).trans c6.out
  have E7 : Hid (Below w1.heap.size w1 w7) := E6.out.trans (hB7.mono E6.out.size)
  clear hB7 x1 x2 x3 x4
  obtain ⟨x1, x2, x3, x4⟩ := HX.out _ E7.out
  have eu := EU.out w7
  have ev := EU5.out w7
  go_wp2_with (first
    | (refine load_row_on (by first | rfl | simp [Region.wanted, yielded]) 36 (.tmp 4) rfl w2.heap.size rfl 36 Z0 (0, 0) _ b7.out Try.underlying36 rfl hsz.out ?_)
    | (refine load_row_on (by first | rfl | simp [Region.wanted, yielded]) 36 (.tmp 6) rfl w4.heap.size rfl 36 Z0 (0, 0) _ c7.out Try.underlying36 rfl hsz.out ?_))
  refine (flush_nil w7).mono ?_
  rintro e w' ⟨rfl, rfl⟩
  go_wp2_with fail
  refine (crash_nil _ w7).mono ?_
  rintro e w' ⟨rfl, rfl⟩
  go_wp2_with fail
  refine (spoil_nil _ _ w7).mono ?_
  rintro e w' ⟨rfl, rfl⟩
  go_wp2_with fail
  refine (size_nil w7).mono ?_
  rintro e w' ⟨rfl, rfl⟩
  go_wp2_with fail
  refine (versions_nil _ w7).mono ?_
  rintro e w' ⟨rfl, rfl⟩
  go_wp2_with fail
  refine (fork_nil w7).mono ?_
  rintro e w' ⟨rfl, rfl⟩
  go_wp2
  go_ret
  exact ⟨rfl, B0.out.trans (E7.out.mono B0.out.size)⟩
end Go.Proofs.Ytieeibdhaoaeaaa.DiskNone
