/- What the document's disk answers: may, Size, Lasting, Read, Versions. -/
import Derived.Test.YtieeibdhaoaeaaaRA
set_option linter.unusedVariables false
set_option linter.unusedSimpArgs false
namespace Go.Proofs.Ytieeibdhaoaeaaa
open Go.RowKit

theorem size53 : (Try.prog.info? 53).map (·.size) = some 32 := by kernel_rfl
theorem built53 : Try.prog.built 53 [] = some (bytesV noSec).toArray := by kernel_rfl
section
variable {w : World} {g n c gb cp : Nat} {S : Nat → Bk} {A : Nat → Option Addr} {C : Nat → Nat} {F : Nat → Prop}
theorem may_yes (i : Nat) (hc : w.cell? ⟨g, 0, none⟩ = some (.slice (some ⟨gb, 0, none⟩) n cp)) (hi : i < n) :
    Calls Try.prog 51 #[.pointer (some ⟨g, 0, none⟩), .int .i64 (i : Int)] w fun e w' => e = .returned (.int .i64 0) ∧ w = w' := by
  have h0 : ¬ (i : Int) < 0 := by omega
  have h1 : ¬ (n : Int) ≤ (i : Int) := by omega
  clear hi
  go_enter Try.func51, Try.ntmps51
  go_wp2
  go_ret
  exact ⟨rfl, rfl⟩
theorem may_no (i : Int) (hc : w.cell? ⟨g, 0, none⟩ = some (.slice (some ⟨gb, 0, none⟩) n cp)) (hi : ¬ (0 ≤ i ∧ i < n)) :
    Calls Try.prog 51 #[.pointer (some ⟨g, 0, none⟩), .int .i64 i] w fun e w' => e = .returned (.int .i64 2) ∧ w = w' := by
  by_cases h0 : i < 0
  · clear hi
    go_enter Try.func51, Try.ntmps51
    go_wp2
    go_ret
    exact ⟨rfl, rfl⟩
  · have h1 : (n : Int) ≤ i := by omega
    clear hi
    go_enter Try.func51, Try.ntmps51
    go_wp2
    go_ret
    exact ⟨rfl, rfl⟩
theorem rsize (h : Ref w g n S c F) : Calls Try.prog 34 #[.pointer (some ⟨g, 0, none⟩)] w fun e w' => e = .returned (.int .i64 n) ∧ w = w' := by
  obtain ⟨_, _, gb, cp, hc⟩ := h.size
  clear h
  go_enter Try.func34, Try.ntmps34
  go_wp2
  go_ret
  exact ⟨rfl, rfl⟩
theorem rvers (h : Ref w g n S c F) (i : Int) : Calls Try.prog 37 #[.pointer (some ⟨g, 0, none⟩), .int .i64 i] w fun e w' => e = .returned (.int .i64 (vers n S i)) ∧ w = w' := by
  obtain ⟨gb, cp, A, C, h, rfl⟩ := h
  have hc := h.c0
  unfold vers
  by_cases hi : 0 ≤ i ∧ i < n
  · rw [if_pos hi]
    obtain ⟨j, rfl⟩ : ∃ j : Nat, i = (j : Int) := ⟨i.toNat, by omega⟩
    have hj : j < n := by omega
    have hv := h.cv hj
    have hj' : (j : Int) < (n : Int) := by omega
    have hj0 : (0 : Int) ≤ (j : Int) := by omega
    have M := Lib.hid (may_yes j hc hj)
    simp only [Int.toNat_natCast]
    clear h hi hj
    go_enter Try.func37, Try.ntmps37
    go_wp2_with fail
    refine M.out.mono ?_
    rintro e w' ⟨rfl, rfl⟩
    go_wp2
    go_ret
    exact ⟨rfl, rfl⟩
  · rw [if_neg hi]
    have M := Lib.hid (may_no i hc hi)
    clear h hi
    go_enter Try.func37, Try.ntmps37
    go_wp2_with fail
    refine M.out.mono ?_
    rintro e w' ⟨rfl, rfl⟩
    go_wp2
    go_ret
    exact ⟨rfl, rfl⟩
set_option maxRecDepth 100000 in
set_option maxHeartbeats 1000000 in
theorem rlast_no (h : Ref w g n S c F) (i : Int) (hi : ¬ (0 ≤ i ∧ i < n)) :
    Calls Try.prog 36 #[.pointer (some ⟨g, 0, none⟩), .int .i64 i] w fun e w' => e = .returned (.tuple #[secV noSec, .int .i64 2]) ∧ Below w.heap.size w w' := by
  have M : Hid (∀ W, Below w.heap.size w W → Calls Try.prog 51 #[.pointer (some ⟨g, 0, none⟩), .int .i64 i] W fun e w' => e = .returned (.int .i64 2) ∧ W = w') := fun W hB => by
    obtain ⟨_, _, gb, cp, hc⟩ := (h.fresh hB).size
    exact may_no i hc hi
  have hsz : Hid ((Try.prog.info? 53).map (·.size) = some (bytesV noSec).toArray.size) := by unfold Hid; rw [List.size_toArray, length_bytesV, noSec_len]; exact size53
  have hone : Hid ((bytesV noSec).toArray.all (·.oneCell') = true) := all_oneCell_toArray (bytesV_one _)
  have hbu := Lib.hid built53
  unfold secV
  obtain ⟨Z0, hZ0⟩ : ∃ Z0, Z0 = (bytesV noSec).toArray := ⟨_, rfl⟩
  have HZ := Lib.hid hZ0
  rw [← hZ0] at hsz hone hbu ⊢
  clear h hZ0
  go_enter Try.func36, Try.ntmps36
  go_wp2_with fail
  generalize hW : w.alloc (Obj.cells _ 53) = w1
  have b1 : Hid (w1.heap[w.heap.size]? = some (.cells Z0 53 (0, 0))) := by rw [← hW, HZ.out]; exact heap_alloc_new w _
  have B1 : Hid (Below w.heap.size w w1) := by rw [← hW]; exact below_alloc1 w _
  have hfin := Lib.hid (setRow_heap w1 w.heap.size Z0 Z0 53 (0, 0) b1.out)
  have hbfin := Lib.hid (below_setRow B1.out (Nat.le_refl _) Z0)
  clear hW
  refine (M.out w1 B1.out).mono ?_
  rintro e w' ⟨rfl, rfl⟩
  go_wp2_with (first
    | (refine wpList_build_eq rfl 53 [] rfl [] rfl Z0 hbu.out ?_)
    | (refine wpList_store_row rfl 53 (.tmp 4) (.tmp 12) rfl w.heap.size Z0 rfl rfl 53 Z0 b1.out hsz.out rfl hone.out ?_))
  refine bodyPost_ret (v := .tuple #[.agg Z0, .int .i64 2]) ?_ rfl ⟨rfl, hbfin.out⟩
  exact results_cell_row_tmp rfl _ _ w.heap.size 53 Z0 (0, 0) _ rfl hfin.out Try.underlying53 rfl hsz.out _ rfl
set_option maxRecDepth 100000 in
set_option maxHeartbeats 1000000 in
theorem rlast (h : Ref w g n S c F) {i : Nat} (hi : i < n) :
    Calls Try.prog 36 #[.pointer (some ⟨g, 0, none⟩), .int .i64 (i : Int)] w fun e w' => e = .returned (.tuple #[secV (S i).s, .int .i64 0]) ∧ Below w.heap.size w w' := by
  obtain ⟨gb, cp, A, C, h, rfl⟩ := h
  have hi' : (i : Int) < (n : Int) := by omega
  have hi0 : (0 : Int) ≤ (i : Int) := by omega
  have HB : Hid (∀ W, Below w.heap.size w W → W.cell? ⟨g, 0, none⟩ = some (.slice (some ⟨gb, 0, none⟩) n cp) ∧ W.rangeAt gb (i * 34) (bytesV (S i).s)) := fun W hB => ⟨(h.fresh hB).c0, (h.fresh hB).sector hi⟩
  have M : Hid (∀ W, W.cell? ⟨g, 0, none⟩ = some (.slice (some ⟨gb, 0, none⟩) n cp) → Calls Try.prog 51 #[.pointer (some ⟨g, 0, none⟩), .int .i64 (i : Int)] W fun e w' => e = .returned (.int .i64 0) ∧ W = w') := fun W hc => may_yes i hc hi
  have hsl := (h.ok i hi).1.1
  have hsz : Hid ((Try.prog.info? 53).map (·.size) = some (bytesV (S i).s).length) := by unfold Hid; rw [length_bytesV, hsl]; exact size53
  have hsz' : Hid ((Try.prog.info? 53).map (·.size) = some (bytesV (S i).s).toArray.size) := by unfold Hid; rw [List.size_toArray, length_bytesV, hsl]; exact size53
  have hone : Hid ((bytesV (S i).s).toArray.all (·.oneCell') = true) := all_oneCell_toArray (bytesV_one _)
  have hold : Hid ((bytesV (List.replicate 32 0)).toArray.size = (bytesV (S i).s).toArray.size) := by unfold Hid; rw [List.size_toArray, List.size_toArray, length_bytesV, length_bytesV, hsl]; rfl
  unfold secV
  obtain ⟨R0, hR0⟩ : ∃ R0, R0 = bytesV (S i).s := ⟨_, rfl⟩
  rw [← hR0] at hsz hsz' hone hold HB ⊢
  obtain ⟨Z0, hZ0⟩ : ∃ Z0, Z0 = (bytesV (List.replicate 32 0)).toArray := ⟨_, rfl⟩
  have HZ := Lib.hid hZ0
  rw [← hZ0] at hold
  clear h hZ0 hR0 hsl hi
  go_enter Try.func36, Try.ntmps36
  go_wp2_with fail
  generalize hW : w.alloc (Obj.cells _ 53) = w1
  have b1 : Hid (w1.heap[w.heap.size]? = some (.cells Z0 53 (0, 0))) := by rw [← hW, HZ.out]; exact heap_alloc_new w _
  have B1 : Hid (Below w.heap.size w w1) := by rw [← hW]; exact below_alloc1 w _
  have hfin := Lib.hid (setRow_heap w1 w.heap.size Z0 R0.toArray 53 (0, 0) b1.out)
  have hbfin := Lib.hid (below_setRow B1.out (Nat.le_refl _) R0.toArray)
  clear hW
  obtain ⟨c1, r1⟩ := HB.out w1 B1.out
  have R1 := Lib.hid r1
  clear r1
  refine (M.out w1 c1).mono ?_
  rintro e w' ⟨rfl, rfl⟩
  go_wp2_with (first
    | (refine wpList_load_mid rfl 53 (.tmp 20) rfl gb (i * 34) rfl R0 _ R1.out Try.underlying53 rfl hsz.out ?_)
    | (refine wpList_store_row rfl 53 (.tmp 4) (.tmp 21) rfl w.heap.size R0.toArray rfl rfl 53 Z0 b1.out hsz'.out hold.out hone.out ?_))
  refine bodyPost_ret (v := .tuple #[.agg R0.toArray, .int .i64 0]) ?_ rfl ⟨rfl, hbfin.out⟩
  exact results_cell_row_tmp rfl _ _ w.heap.size 53 R0.toArray (0, 0) _ rfl hfin.out Try.underlying53 rfl hsz'.out _ rfl
set_option maxRecDepth 100000 in
set_option maxHeartbeats 1000000 in
theorem rread_no (h : Ref w g n S c F) (i : Int) (hi : ¬ (0 ≤ i ∧ i < n)) :
    Calls Try.prog 35 #[.pointer (some ⟨g, 0, none⟩), .int .i64 i] w fun e w' => e = .returned (.tuple #[secV noSec, .int .i64 2]) ∧ Below w.heap.size w w' := by
  have M : Hid (∀ W, Below w.heap.size w W → Calls Try.prog 51 #[.pointer (some ⟨g, 0, none⟩), .int .i64 i] W fun e w' => e = .returned (.int .i64 2) ∧ W = w') := fun W hB => by
    obtain ⟨_, _, gb, cp, hc⟩ := (h.fresh hB).size
    exact may_no i hc hi
  have hsz : Hid ((Try.prog.info? 53).map (·.size) = some (bytesV noSec).toArray.size) := by unfold Hid; rw [List.size_toArray, length_bytesV, noSec_len]; exact size53
  have hone : Hid ((bytesV noSec).toArray.all (·.oneCell') = true) := all_oneCell_toArray (bytesV_one _)
  have hbu := Lib.hid built53
  unfold secV
  obtain ⟨Z0, hZ0⟩ : ∃ Z0, Z0 = (bytesV noSec).toArray := ⟨_, rfl⟩
  have HZ := Lib.hid hZ0
  rw [← hZ0] at hsz hone hbu ⊢
  clear h hZ0
  go_enter Try.func35, Try.ntmps35
  go_wp2_with fail
  generalize hW : w.alloc (Obj.cells _ 53) = w1
  have b1 : Hid (w1.heap[w.heap.size]? = some (.cells Z0 53 (0, 0))) := by rw [← hW, HZ.out]; exact heap_alloc_new w _
  have B1 : Hid (Below w.heap.size w w1) := by rw [← hW]; exact below_alloc1 w _
  have hfin := Lib.hid (setRow_heap w1 w.heap.size Z0 Z0 53 (0, 0) b1.out)
  have hbfin := Lib.hid (below_setRow B1.out (Nat.le_refl _) Z0)
  clear hW
  refine (M.out w1 B1.out).mono ?_
  rintro e w' ⟨rfl, rfl⟩
  go_wp2_with (first
    | (refine wpList_build_eq rfl 53 [] rfl [] rfl Z0 hbu.out ?_)
    | (refine wpList_store_row rfl 53 (.tmp 4) (.tmp 13) rfl w.heap.size Z0 rfl rfl 53 Z0 b1.out hsz.out rfl hone.out ?_))
  refine bodyPost_ret (v := .tuple #[.agg Z0, .int .i64 2]) ?_ rfl ⟨rfl, hbfin.out⟩
  exact results_cell_row_tmp rfl _ _ w.heap.size 53 Z0 (0, 0) _ rfl hfin.out Try.underlying53 rfl hsz.out _ rfl
end
theorem length_secsV {v : List (List Int)} (h : ∀ x ∈ v, x.length = 32) : (secsV v).length = v.length * 32 := by
  induction v with
  | nil => rfl
  | cons x v ih =>
    have := ih (fun y hy => h y (List.mem_cons_of_mem _ hy))
    have e : secsV (x :: v) = bytesV x ++ secsV v := by simp [secsV]
    rw [e, List.length_append, this, length_bytesV, h x (by simp), List.length_cons]; omega
theorem secsV_at {v : List (List Int)} (h : ∀ x ∈ v, x.length = 32) {k : Nat} (hk : k < v.length) {j : Nat} (hj : j < 32) : (secsV v)[k * 32 + j]? = (bytesV v[k])[j]? := by
  have e : v = v.take k ++ v[k] :: v.drop (k + 1) := by rw [← List.drop_eq_getElem_cons hk, List.take_append_drop]
  have hl : (secsV (v.take k)).length = k * 32 := by rw [length_secsV (fun x hx => h x (List.mem_of_mem_take hx)), List.length_take, Nat.min_eq_left (by omega)]
  have e2 : secsV v = secsV (v.take k) ++ (bytesV v[k] ++ secsV (v.drop (k + 1))) := by
    rw [congrArg secsV e]
    simp only [secsV, List.flatMap_append, List.flatMap_cons]
  rw [e2, List.getElem?_append_right (by omega), hl, show k * 32 + j - k * 32 = j by omega, List.getElem?_append_left (by rw [length_bytesV, h _ (List.getElem_mem hk)]; exact hj)]
theorem secsV_one (v : List (List Int)) : ∀ u ∈ secsV v, u.oneCell' = true := by
  intro u hu
  obtain ⟨x, _, hx⟩ := List.mem_flatMap.1 hu
  exact bytesV_one _ u hx
/-- the k-th version -/
theorem RefAt.version {w : World} {g n c gb cp : Nat} {S : Nat → Bk} {A : Nat → Option Addr} {C : Nat → Nat} (h : RefAt w g n S c gb cp A C) {i : Nat} (hi : i < n) {k : Nat} (hk : k < (S i).v.length) :
    ∃ b, A i = some ⟨b, 0, none⟩ ∧ b < w.heap.size ∧ w.rangeAt b (k * 32) (bytesV (S i).v[k]) := by
  obtain ⟨b, cap, e, _, hb⟩ := (h.vers i hi).form (by omega)
  obtain ⟨hA, _, hC⟩ := Value.slice.inj e
  have hv := h.vers i hi
  rw [hA] at hv
  have hx : ∀ x ∈ (S i).v, x.length = 32 := fun x hx => ((h.ok i hi).2 x hx).1
  refine ⟨b, hA, hb, fun j u hj => ?_⟩
  have hj' : j < 32 := by
    rcases Nat.lt_or_ge j 32 with h1 | h1
    · exact h1
    · rw [List.getElem?_eq_none (by rw [length_bytesV, hx _ (List.getElem_mem hk)]; exact h1)] at hj; cases hj
  rw [hv.cellAt _ (by omega), secsV_at hx hk hj']; exact hj
end Go.Proofs.Ytieeibdhaoaeaaa
