/- New of the document's disk. -/
import Derived.Test.YtieeibdhaoaeaaaRD
import Derived.Laws.MakeOwn
set_option linter.unusedVariables false
set_option linter.unusedSimpArgs false
namespace Go.Proofs.Ytieeibdhaoaeaaa
open Go.RowKit

def zeroBk : Bk := ⟨noSec, [], false⟩
def zBlk : List Value := bytesV noSec ++ [.slice none 0 0, .bool false]
theorem zBlk_len : zBlk.length = 34 := by simp [zBlk, length_bytesV, noSec_len]
theorem info93 : (Try.prog.info? 93).map (fun i => (i.zero, i.size, i.bytes)) = some (some (.agg zBlk.toArray), 34, 64) := by kernel_rfl
theorem blks_at (n : Nat) (S : Nat → Bk) (A : Nat → Option Addr) (C : Nat → Nat) (h : ∀ i, i < n → (S i).s.length = 32) {i j : Nat} (hi : i < n) (hj : j < 34) : (blksL (List.range n) S A C)[i * 34 + j]? = (blkV (S i) (A i) (C i))[j]? := by
  obtain ⟨post, e, _⟩ := blks_split hi S A C
  have hl : (blksL (List.range i) S A C).length = i * 34 := by
    rw [length_blksL _ _ _ _ (fun k hk => h k (by have := List.mem_range.1 hk; omega)), List.length_range]
  rw [e, List.getElem?_append_right (by omega), hl, show i * 34 + j - i * 34 = j by omega, List.getElem?_append_left (by rw [length_blkV (h i hi)]; exact hj)]
theorem made_blks (n : Nat) : (madeCells zBlk.toArray (n * 34)).toList = blksL (List.range n) (fun _ => zeroBk) (fun _ => none) (fun _ => 0) := by
  apply List.ext_getElem?
  intro k
  have hl : (blksL (List.range n) (fun _ => zeroBk) (fun _ => none) (fun _ => 0)).length = n * 34 := by rw [length_blksL _ _ _ _ (fun _ _ => noSec_len), List.length_range]
  by_cases hk : k < n * 34
  · have hq : k / 34 < n := by omega
    have hr : k % 34 < 34 := Nat.mod_lt _ (by decide)
    have e : k = k / 34 * 34 + k % 34 := by omega
    have h1 := blks_at n (fun _ => zeroBk) (fun _ => none) (fun _ => 0) (fun _ _ => noSec_len) hq hr
    rw [← e] at h1
    rw [h1]
    have h2 : (madeCells zBlk.toArray (n * 34)).toList[k]? = some (zBlk.toArray[k % 34]!) := by
      unfold madeCells
      rw [Array.getElem?_toList, Array.getElem?_map, Array.getElem?_range, if_pos hk]
      simp [zBlk_len]
    rw [h2]
    show some (zBlk.toArray[k % 34]!) = zBlk[k % 34]?
    rw [List.getElem?_eq_getElem (by rw [zBlk_len]; exact hr), getElem!_pos _ _ (by simpa [zBlk_len] using hr)]
    simp
  · rw [List.getElem?_eq_none (by simp [madeCells]; omega), List.getElem?_eq_none (by rw [hl]; omega)]
theorem rnew_bad (m : Int) (w : World) (h : m < 1 ∨ 96 < m) : Calls Try.prog 33 #[.int .i64 m] w fun e w' => e = .returned (.pointer none) ∧ w = w' := by
  by_cases h1 : m < 1
  · go_enter Try.func33, Try.ntmps33
    go_wp2
    go_ret
    exact ⟨rfl, rfl⟩
  · have h2 : (96 : Int) < m := by omega
    clear h
    go_enter Try.func33, Try.ntmps33
    go_wp2
    go_ret
    exact ⟨rfl, rfl⟩
set_option maxRecDepth 100000 in
set_option maxHeartbeats 1000000 in
theorem rnew (n : Nat) (w : World) (h0 : 1 ≤ n) (h1 : n ≤ 96) : Calls Try.prog 33 #[.int .i64 (n : Int)] w fun e w' => e = .returned (.pointer (some ⟨w.heap.size + 1, 0, none⟩)) ∧ (∃ F, Ref w' (w.heap.size + 1) n (fun _ => zeroBk) 0 F ∧ ∀ b, F b → w.heap.size ≤ b) ∧ Below w.heap.size w w' := by
  obtain ⟨i0, hi0, hz0, hz1, hz2⟩ := info_parts info93
  have hn1 : ¬ (n : Int) < 1 := by omega
  have hn2 : ¬ (96 : Int) < (n : Int) := by omega
  obtain ⟨M, hM⟩ : ∃ M, M = madeCells zBlk.toArray (n * 34) := ⟨_, rfl⟩
  have hmk : ∀ W : World, (Instr.makeSlice 94 (.int .i64 (n : Int)) (.int .i64 (n : Int))).run Try.prog W = .ok (.slice (some ⟨W.heap.size, 0, none⟩) n n) (W.alloc (.cells M 93)) := fun W => by
    have := run_make (P := Try.prog) W 94 93 i0 (.agg zBlk.toArray) Try.underlying94 hi0 hz0 .i64 .i64 n n (by omega) (Int.le_refl _) (by rw [hz2]; omega) (by omega)
    rw [hM]
    simpa [hz1, Value.cells] using this
  have hMs : M.size = n * 34 := by rw [hM]; simp [madeCells]
  have hMl : M.toList = blksL (List.range n) (fun _ => zeroBk) (fun _ => none) (fun _ => 0) := by rw [hM]; exact made_blks n
  have HE : Hid (∀ w2, w2 = (w.alloc (.cells M 93)).alloc (.cells #[.slice (some ⟨w.heap.size, 0, none⟩) n n] 96) → (∃ F, Ref w2 (w.heap.size + 1) n (fun _ => zeroBk) 0 F ∧ ∀ b, F b → w.heap.size ≤ b) ∧ Below w.heap.size w w2) := by
    intro w2 e
    have hB : Below w.heap.size w w2 := by rw [e]; exact below_alloc2 w _ _
    have hz : AllB noSec := by intro x hx; rw [noSec, List.mem_replicate] at hx; rw [hx.2]; decide
    refine ⟨⟨_, ⟨w.heap.size, n, fun _ => none, fun _ => 0, ⟨?_, ?_, fun i _ => World.ownsRow_nil _ _ _ _, fun i _ => ⟨⟨noSec_len, hz⟩, fun x hx => by cases hx⟩, h0, h1, fun i _ => Nat.le_refl _, fun i j _ _ _ b hb => by cases hb⟩, rfl⟩, ?_⟩, hB⟩
    · have := heap_alloc_new (w.alloc (.cells M 93)) (.cells #[.slice (some ⟨w.heap.size, 0, none⟩) n n] 96)
      unfold BlkIs
      rw [e]
      simpa using this
    · rw [e]
      refine World.ownsRow.alloc ?_ _
      refine ⟨by rw [length_blksL _ _ _ _ (fun _ _ => noSec_len), List.length_range], .inr ⟨w.heap.size, n, M, rfl, Nat.zero_le _, heap_alloc_new w _, Nat.le_refl _, by unfold maxLen; omega, hMs, ?_⟩⟩
      rw [← hMl, List.take_of_length_le (by simp [hMs])]
    · rintro b (q | q | ⟨j, _, q⟩)
      · omega
      · omega
      · cases q
  clear hM hMs hMl hz0 hz1 hz2 hi0
  go_enter Try.func33, Try.ntmps33
  go_wp2
  go_ret
  exact ⟨rfl, HE.out _ rfl⟩
end Go.Proofs.Ytieeibdhaoaeaaa
