/- A disk in memory; the contract of 'New'. -/
import Derived.Test.YtieeibdhaoaeaaaU
import Derived.Maps.OwnSet
import Derived.Deep.MidRow
import Derived.Deep.WholeRow
import Derived.Laws.Tables
import Derived.Great.FillDense
namespace Go.Proofs.Ytieeibdhaoaeaaa
open Go.RowKit

/-- a disk's own cells: how many blocks, what lasts, what is bad -/
def heldL (n : Int) (L : List Int) (B : List Bool) : List Value := [.int .i64 n] ++ bytesV L ++ B.map Value.bool
def diskL (n : Int) (L : List Int) (B : List Bool) (mb : Nat) : List Value := heldL n L B ++ [.map (some mb)]
def zeroL : List Int := List.replicate 3072 0
def goodB : List Bool := List.replicate 96 false
theorem info77 : (Try.prog.info? 77).map (fun i => (i.zero, i.size)) = some (some (.agg (heldL 0 zeroL goodB).toArray), 3169) := by kernel_rfl
theorem info80 : (Try.prog.info? 80).map (·.size) = some 3170 := by kernel_rfl
theorem info36 : (Try.prog.info? 36).map (fun i => (i.zero, i.size)) = some (some (.agg (bytesV (List.replicate 32 0)).toArray), 32) := by kernel_rfl
theorem size36 : (Try.prog.info? 36).map (·.size) = some 32 := by kernel_rfl
theorem built77 (n : Int) : Try.prog.built 77 [(0, .int .i64 n)] = some (heldL n zeroL goodB).toArray := by kernel_rfl
theorem wpList_build_eq {P : Program} {ops : Array Oper} {rest : List Oper} {o : Oper} {a : Act} {w : World} {Q : Exit → Act → World → Prop} (hg : o.guard = none) (t : TypeId) (parts : List (Nat × Operand)) (ho : o.op = .build t parts.toArray)
    (L : List (Nat × Value)) (hL : parts.map (fun (i, x) => (i, a.eval x)) = L) (cs : Array Value) (hb : P.built t L = some cs)
    (h : wpList P ops Q rest (a.put o.dst (.agg cs)) w) : wpList P ops Q (o :: rest) a w := by
  have e : (parts.toArray.map fun (i, x) => (i, a.eval x)).toList = L := by simpa using hL
  exact wpList_build hg t parts.toArray ho (by rw [e, hb]; rfl) (by rw [e, hb]; exact h)

theorem info80z : (Try.prog.info? 80).map (fun i => i.zero.map (·.cells.size)) = some (some 3170) := by kernel_rfl
theorem size77 : (Try.prog.info? 77).map (·.size) = some 3169 := by kernel_rfl
theorem size78 : (Try.prog.info? 78).map (·.size) = some 1 := by kernel_rfl
set_option maxRecDepth 100000 in
theorem built80 (H : Array Value) (hH : H.size = 3169) (m : Option Nat) : Try.prog.built 80 [(0, .agg H), (1, .map m)] = some (H.push (.map m)) := by
  obtain ⟨i, hi, hz⟩ := Option.map_eq_some_iff.1 info80z
  obtain ⟨z, hz, hzs⟩ := Option.map_eq_some_iff.1 hz
  obtain ⟨a, ha, has⟩ := Option.map_eq_some_iff.1 size77
  obtain ⟨b, hb, hbs⟩ := Option.map_eq_some_iff.1 size78
  unfold Program.built
  rw [hi, Try.underlying80]
  simp only [hz]
  have ca : (Value.agg H).cells = H := rfl
  have cm : (Value.map m).cells = #[.map m] := rfl
  obtain ⟨Z, hZ⟩ : ∃ Z, Z = z.cells := ⟨_, rfl⟩
  rw [← hZ] at hzs
  have hZ' : z.cells = Z := hZ.symm
  obtain ⟨g1, g2⟩ := Great.foldl_set 0 H.toList 0 Z
  have e : (Array.foldl (fun cs x => cs.setIfInBounds x.snd x.fst) Z H.zipIdx 0 3169) = ((H.toList.zipIdx 0).foldl (fun cs (x : Value × Nat) => cs.setIfInBounds (0 + x.2) x.1) Z) := by
    rw [← hH, ← Array.size_zipIdx (xs := H) (k := 0), ← Array.foldl_toList, Array.toList_zipIdx]
    simp
  simp [ha, hb, has, hbs, Instr.fill, ca, cm, hH, hZ', hzs]
  rw [e]
  refine ⟨by rw [g1, hzs]; omega, ?_⟩
  apply Array.ext_getElem?
  intro k
  rw [Array.getElem?_setIfInBounds, g2 k, g1, hzs, Array.getElem?_push, hH]
  simp only [Nat.zero_add, Array.length_toList, hH, Nat.sub_zero, Array.getElem?_toList]
  by_cases h1 : k = 3169
  · subst h1; simp
  · rw [if_neg (by omega), if_neg h1]
    by_cases h2 : k < 3169
    · rw [if_pos (by omega)]
    · rw [if_neg (by omega), Array.getElem?_eq_none (by omega), Array.getElem?_eq_none (by omega)]
theorem length_heldL (n : Int) (L : List Int) (B : List Bool) (hL : L.length = 3072) (hB : B.length = 96) : (heldL n L B).length = 3169 := by simp [heldL, bytesV, hL, hB]
theorem zeroL_len : zeroL.length = 3072 := List.length_replicate
theorem goodB_len : goodB.length = 96 := List.length_replicate
theorem push_disk (n : Int) (L : List Int) (B : List Bool) (mb : Nat) : (heldL n L B).toArray.push (.map (some mb)) = (diskL n L B mb).toArray := by simp [diskL]

/-- how an element of a map reads here: as it stands -/
def RV (v : Value) : Option (DataW Value × List MemPlace) := some (.held v, [])
theorem new_bad (n : Int) (w : World) (h : n < 1 ∨ 96 < n) :
    Calls Try.prog 26 #[.int .i64 n] w fun e w' => e = .returned (.pointer none) ∧ w = w' := by
  by_cases h1 : n < 1
  · go_enter Try.func26, Try.ntmps26
    go_wp2
    go_ret
    exact ⟨rfl, rfl⟩
  · have h2 : (96 : Int) < n := by omega
    clear h
    go_enter Try.func26, Try.ntmps26
    go_wp2
    go_ret
    exact ⟨rfl, rfl⟩

set_option maxRecDepth 100000 in
set_option maxHeartbeats 1000000 in
theorem new_yes (n : Int) (w : World) (h0 : 1 ≤ n) (h1 : n ≤ 96) :
    Calls Try.prog 26 #[.int .i64 n] w fun e w' => e = .returned (.pointer (some ⟨w.heap.size + 1, 0, none⟩)) ∧ BlkIs w' (w.heap.size + 1) 80 (diskL n zeroL goodB w.heap.size) ∧ w'.ownsMap (H := Value) Try.prog 3 RV w.heap.size 0 (.map []) ∧ Below w.heap.size w w' := by
  have hn1 : ¬ n < 1 := by omega
  have hn2 : ¬ (96 : Int) < n := by omega
  have b1 := Lib.hid (built77 n)
  have b2 := Lib.hid (built80 (heldL n zeroL goodB).toArray (by simpa using length_heldL n zeroL goodB zeroL_len goodB_len) (some w.heap.size))
  rw [push_disk] at b2
  have hmm := @run_makeMap Try.prog
  have hfin : Hid (BlkIs ((w.alloc (.map #[] 0)).alloc (.cells (diskL n zeroL goodB w.heap.size).toArray 80)) (w.heap.size + 1) 80 (diskL n zeroL goodB w.heap.size)) := by
    have := heap_alloc_new (w.alloc (.map #[] 0)) (.cells (diskL n zeroL goodB w.heap.size).toArray 80)
    unfold Hid BlkIs
    simpa using this
  have hmap : Hid (((w.alloc (.map #[] 0)).alloc (.cells (diskL n zeroL goodB w.heap.size).toArray 80)).ownsMap (H := Value) Try.prog 3 RV w.heap.size 0 (.map [])) := (World.ownsMap_made w Try.prog 3 RV).alloc _
  have hbel : Hid (Below w.heap.size w ((w.alloc (.map #[] 0)).alloc (.cells (diskL n zeroL goodB w.heap.size).toArray 80))) := below_alloc2 w _ _
  obtain ⟨H0, hH0⟩ : ∃ H0, H0 = (heldL n zeroL goodB).toArray := ⟨_, rfl⟩
  obtain ⟨D0, hD0⟩ : ∃ D0, D0 = (diskL n zeroL goodB w.heap.size).toArray := ⟨_, rfl⟩
  rw [← hH0] at b1 b2
  rw [← hD0] at b2 hfin hmap hbel
  clear hH0 hD0
  go_enter Try.func26, Try.ntmps26
  go_wp2_with (first
    | (refine wpList_build_eq rfl 77 [(0, .tmp 9)] rfl [(0, .int .i64 n)] rfl H0 b1.out ?_)
    | (refine wpList_build_eq rfl 80 [(0, .tmp 10), (1, .tmp 11)] rfl [(0, .agg H0), (1, .map (some w.heap.size))] rfl D0 b2.out ?_)
    | (go_at_call 9999))
  go_ret
  exact ⟨rfl, hfin.out, hmap.out, hbel.out⟩
end Go.Proofs.Ytieeibdhaoaeaaa
