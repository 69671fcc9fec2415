/- The disk and patches: DHA DHB DHC DHD DHE DHF DHG DHH DN DN2. -/
import Derived.Test.YtkldiofleepkfaaH1
import Derived.Maps.OwnSet
import Derived.Deep.MidRow
import Derived.Deep.WholeRow
import Derived.Laws.Tables
import Derived.Great.FillDense
import Derived.Deep.AppendLies
import Derived.Great.BuildSlice
import Derived.Maps.RangeWalk
import Derived.Maps.Views
/- A disk in memory; the contract of 'New'. -/
namespace Go.Proofs.Ytkldiofleepkfaa
open Go.RowKit

/-- a disk's own cells: how many blocks, what lasts, what is bad -/
def heldL (n : Int) (L : List Int) (B : List Bool) : List Value := [.int .i64 n] ++ bytesV L ++ B.map Value.bool
def diskL (n : Int) (L : List Int) (B : List Bool) (mb : Nat) : List Value := heldL n L B ++ [.map (some mb)]
def zeroL : List Int := List.replicate 3072 0
def goodB : List Bool := List.replicate 96 false
theorem info77 : (Try.prog.info? 51).map (fun i => (i.zero, i.size)) = some (some (.agg (heldL 0 zeroL goodB).toArray), 3169) := by kernel_rfl
theorem info80 : (Try.prog.info? 54).map (·.size) = some 3170 := by kernel_rfl
theorem info36 : (Try.prog.info? 47).map (fun i => (i.zero, i.size)) = some (some (.agg (bytesV (List.replicate 32 0)).toArray), 32) := by kernel_rfl
theorem size36 : (Try.prog.info? 47).map (·.size) = some 32 := by kernel_rfl
theorem built77 (n : Int) : Try.prog.built 51 [(0, .int .i64 n)] = some (heldL n zeroL goodB).toArray := by kernel_rfl
theorem wpList_build_eq {P : Program} {ops : Array Oper} {rest : List Oper} {o : Oper} {a : Act} {w : World} {Q : Exit → Act → World → Prop} (hg : o.guard = none) (t : TypeId) (parts : List (Nat × Operand)) (ho : o.op = .build t parts.toArray)
    (L : List (Nat × Value)) (hL : parts.map (fun (i, x) => (i, a.eval x)) = L) (cs : Array Value) (hb : P.built t L = some cs)
    (h : wpList P ops Q rest (a.put o.dst (.agg cs)) w) : wpList P ops Q (o :: rest) a w := by
  have e : (parts.toArray.map fun (i, x) => (i, a.eval x)).toList = L := by simpa using hL
  exact wpList_build hg t parts.toArray ho (by rw [e, hb]; rfl) (by rw [e, hb]; exact h)

theorem info80z : (Try.prog.info? 54).map (fun i => i.zero.map (·.cells.size)) = some (some 3170) := by kernel_rfl
theorem size77 : (Try.prog.info? 51).map (·.size) = some 3169 := by kernel_rfl
theorem size78 : (Try.prog.info? 52).map (·.size) = some 1 := by kernel_rfl
set_option maxRecDepth 100000 in
theorem built80 (H : Array Value) (hH : H.size = 3169) (m : Option Nat) : Try.prog.built 54 [(0, .agg H), (1, .map m)] = some (H.push (.map m)) := by
  obtain ⟨i, hi, hz⟩ := Option.map_eq_some_iff.1 info80z
  obtain ⟨z, hz, hzs⟩ := Option.map_eq_some_iff.1 hz
  obtain ⟨a, ha, has⟩ := Option.map_eq_some_iff.1 size77
  obtain ⟨b, hb, hbs⟩ := Option.map_eq_some_iff.1 size78
  unfold Program.built
  rw [hi, Try.underlying54]
  simp only [hz]
  have ca : (Value.agg H).cells = H := rfl
  have cm : (Value.map m).cells = #[.map m] := rfl
  obtain ⟨Z, hZ⟩ : ∃ Z, Z = z.cells := ⟨_, rfl⟩
  rw [← hZ] at hzs
  have hZ' : z.cells = Z := hZ.symm
  obtain ⟨g1, g2⟩ := Great.foldl_set 0 H.toList 0 Z
  have e : (Array.foldl (fun cs x => cs.setIfInBounds x.snd x.fst) Z H.zipIdx 0 3169) = ((H.toList.zipIdx 0).foldl (fun cs (x : Value × Nat) => cs.setIfInBounds (0 + x.2) x.1) Z) := by
    rw [← hH, ← Array.size_zipIdx (xs := H) (k := 0), ← Array.foldl_toList, Array.toList_zipIdx]
    simp
  simp [ha, hb, has, hbs, Instr.fill, ca, cm, hH, hZ', hzs]
  rw [e]
  refine ⟨by rw [g1, hzs]; omega, ?_⟩
  apply Array.ext_getElem?
  intro k
  rw [Array.getElem?_setIfInBounds, g2 k, g1, hzs, Array.getElem?_push, hH]
  simp only [Nat.zero_add, Array.length_toList, hH, Nat.sub_zero, Array.getElem?_toList]
  by_cases h1 : k = 3169
  · subst h1; simp
  · rw [if_neg (by omega), if_neg h1]
    by_cases h2 : k < 3169
    · rw [if_pos (by omega)]
    · rw [if_neg (by omega), Array.getElem?_eq_none (by omega), Array.getElem?_eq_none (by omega)]
theorem length_heldL (n : Int) (L : List Int) (B : List Bool) (hL : L.length = 3072) (hB : B.length = 96) : (heldL n L B).length = 3169 := by simp [heldL, bytesV, hL, hB]
theorem zeroL_len : zeroL.length = 3072 := List.length_replicate
theorem goodB_len : goodB.length = 96 := List.length_replicate
theorem push_disk (n : Int) (L : List Int) (B : List Bool) (mb : Nat) : (heldL n L B).toArray.push (.map (some mb)) = (diskL n L B mb).toArray := by simp [diskL]

/-- how an element of a map reads here: as it stands -/
def RV (v : Value) : Option (DataW Value × List MemPlace) := some (.held v, [])
theorem new_bad (n : Int) (w : World) (h : n < 1 ∨ 96 < n) :
    Calls Try.prog 5 #[.int .i64 n] w fun e w' => e = .returned (.pointer none) ∧ w = w' := by
  by_cases h1 : n < 1
  · go_enter Try.func5, Try.ntmps5
    go_wp2
    go_ret
    exact ⟨rfl, rfl⟩
  · have h2 : (96 : Int) < n := by omega
    clear h
    go_enter Try.func5, Try.ntmps5
    go_wp2
    go_ret
    exact ⟨rfl, rfl⟩

set_option maxRecDepth 100000 in
set_option maxHeartbeats 1000000 in
theorem new_yes (n : Int) (w : World) (h0 : 1 ≤ n) (h1 : n ≤ 96) :
    Calls Try.prog 5 #[.int .i64 n] w fun e w' => e = .returned (.pointer (some ⟨w.heap.size + 1, 0, none⟩)) ∧ BlkIs w' (w.heap.size + 1) 54 (diskL n zeroL goodB w.heap.size) ∧ w'.ownsMap (H := Value) Try.prog 3 RV w.heap.size 0 (.map []) ∧ Below w.heap.size w w' := by
  have hn1 : ¬ n < 1 := by omega
  have hn2 : ¬ (96 : Int) < n := by omega
  have b1 := Lib.hid (built77 n)
  have b2 := Lib.hid (built80 (heldL n zeroL goodB).toArray (by simpa using length_heldL n zeroL goodB zeroL_len goodB_len) (some w.heap.size))
  rw [push_disk] at b2
  have hmm := @run_makeMap Try.prog
  have hfin : Hid (BlkIs ((w.alloc (.map #[] 0)).alloc (.cells (diskL n zeroL goodB w.heap.size).toArray 54)) (w.heap.size + 1) 54 (diskL n zeroL goodB w.heap.size)) := by
    have := heap_alloc_new (w.alloc (.map #[] 0)) (.cells (diskL n zeroL goodB w.heap.size).toArray 54)
    unfold Hid BlkIs
    simpa using this
  have hmap : Hid (((w.alloc (.map #[] 0)).alloc (.cells (diskL n zeroL goodB w.heap.size).toArray 54)).ownsMap (H := Value) Try.prog 3 RV w.heap.size 0 (.map [])) := (World.ownsMap_made w Try.prog 3 RV).alloc _
  have hbel : Hid (Below w.heap.size w ((w.alloc (.map #[] 0)).alloc (.cells (diskL n zeroL goodB w.heap.size).toArray 54))) := below_alloc2 w _ _
  obtain ⟨H0, hH0⟩ : ∃ H0, H0 = (heldL n zeroL goodB).toArray := ⟨_, rfl⟩
  obtain ⟨D0, hD0⟩ : ∃ D0, D0 = (diskL n zeroL goodB w.heap.size).toArray := ⟨_, rfl⟩
  rw [← hH0] at b1 b2
  rw [← hD0] at b2 hfin hmap hbel
  clear hH0 hD0
  go_enter Try.func5, Try.ntmps5
  go_wp2_with (first
    | (refine wpList_build_eq rfl 51 [(0, .tmp 9)] rfl [(0, .int .i64 n)] rfl H0 b1.out ?_)
    | (refine wpList_build_eq rfl 54 [(0, .tmp 10), (1, .tmp 11)] rfl [(0, .agg H0), (1, .map (some w.heap.size))] rfl D0 b2.out ?_)
    | (go_at_call 9999))
  go_ret
  exact ⟨rfl, hfin.out, hmap.out, hbel.out⟩
end Go.Proofs.Ytkldiofleepkfaa

/- The contracts of 'ask' and 'Lasting'. -/
namespace Go.Proofs.Ytkldiofleepkfaa
open Go.RowKit

/-- a disk at a block: how many blocks, what lasts, what is bad, the map -/
structure DiskAt (w : World) (g : Nat) (n : Int) (L : List Int) (B : List Bool) (mb : Nat) : Prop where
  blk : BlkIs w g 54 (diskL n L B mb)
  lo : 1 ≤ n
  hi : n ≤ 96
  lenL : L.length = 3072
  lenB : B.length = 96
  allL : AllB L
/-- what the i-th block lasts as -/
def sec (L : List Int) (i : Nat) : List Int := part L (i * 32) (i * 32 + 32)
section
variable {w w' : World} {g : Nat} {n : Int} {L : List Int} {B : List Bool} {mb : Nat}
theorem DiskAt.below {b : Nat} (h : DiskAt w g n L B mb) (hB : Below b w w') (hg : g < b) : DiskAt w' g n L B mb := ⟨h.blk.below hB hg, h.lo, h.hi, h.lenL, h.lenB, h.allL⟩
theorem DiskAt.c0 (h : DiskAt w g n L B mb) : w.cell? ⟨g, 0, none⟩ = some (.int .i64 n) := h.blk.cell 0
theorem DiskAt.cmap (h : DiskAt w g n L B mb) : w.cell? ⟨g, 3169, none⟩ = some (.map (some mb)) := by
  rw [h.blk.cell, diskL, List.getElem?_append_right (by rw [length_heldL n L B h.lenL h.lenB]; omega), length_heldL n L B h.lenL h.lenB]
  rfl
theorem DiskAt.byte (h : DiskAt w g n L B mb) {j : Nat} (hj : j < 3072) : w.cell? ⟨g, 1 + j, none⟩ = some (byteV (nth L j)) := by
  have h1 : (diskL n L B mb)[1 + j]? = (bytesV L)[j]? := by
    unfold diskL heldL
    rw [List.append_assoc, List.append_assoc, List.getElem?_append_right (by simp)]
    simp only [List.length_singleton]
    rw [List.getElem?_append_left (by rw [length_bytesV, h.lenL]; omega), show 1 + j - 1 = j by omega]
  rw [h.blk.cell, h1, bytesV, List.getElem?_map, List.getElem?_eq_getElem (by rw [h.lenL]; exact hj), nth_lt (by rw [h.lenL]; exact hj)]
  rfl
theorem DiskAt.bad (h : DiskAt w g n L B mb) {j : Nat} (hj : j < 96) : w.cell? ⟨g, 3073 + j, none⟩ = some (.bool (B.getD j false)) := by
  have h1 : (diskL n L B mb)[3073 + j]? = (B.map Value.bool)[j]? := by
    unfold diskL heldL
    rw [List.append_assoc, List.getElem?_append_right (by simp [length_bytesV, h.lenL])]
    rw [List.getElem?_append_left (by simp [length_bytesV, h.lenL, h.lenB]; exact hj)]
    simp [length_bytesV, h.lenL]
  rw [h.blk.cell, h1, List.getElem?_map, List.getElem?_eq_getElem (by rw [h.lenB]; exact hj), List.getD_eq_getElem?_getD, List.getElem?_eq_getElem (by rw [h.lenB]; exact hj)]
  rfl
theorem DiskAt.sector (h : DiskAt w g n L B mb) {i : Nat} (hi : i < 96) : w.rangeAt g (1 + i * 32) (bytesV (sec L i)) := by
  have hl : (sec L i).length = 32 := by unfold sec; rw [length_part _ _ _ (by rw [h.lenL]; omega)]; omega
  intro j v hj
  have hj' : j < 32 := by
    rcases Nat.lt_or_ge j 32 with h1 | h1
    · exact h1
    · rw [List.getElem?_eq_none (by rw [length_bytesV, hl]; exact h1)] at hj; cases hj
  have e := h.byte (j := i * 32 + j) (by omega)
  rw [Nat.add_assoc, e, ← hj, bytesV, List.getElem?_map, List.getElem?_eq_getElem (by rw [hl]; exact hj'), ← nth_lt (by rw [hl]; exact hj')]
  unfold sec
  rw [nth_part _ _ _ _ (by omega)]
  rfl
end
theorem length_sec {L : List Int} (hL : L.length = 3072) {i : Nat} (hi : i < 96) : (sec L i).length = 32 := by unfold sec; rw [length_part _ _ _ (by rw [hL]; omega)]; omega
theorem sec_all {L : List Int} (h : AllB L) (i : Nat) : AllB (sec L i) := part_all h _ _

theorem ask_nil (i : Int) (w : World) : Calls Try.prog 34 #[.pointer none, .int .i64 i] w fun e w' => e = .returned (.int .i64 1) ∧ w = w' := by
  go_enter Try.func34, Try.ntmps34
  go_wp2
  go_ret
  exact ⟨rfl, rfl⟩
theorem ask_yes (g : Nat) (n : Int) (i : Nat) (w : World) (h : w.cell? ⟨g, 0, none⟩ = some (.int .i64 n)) (hi : (i : Int) < n) :
    Calls Try.prog 34 #[.pointer (some ⟨g, 0, none⟩), .int .i64 (i : Int)] w fun e w' => e = .returned (.int .i64 0) ∧ w = w' := by
  have h0 : ¬ (i : Int) < 0 := by omega
  have h1 : ¬ n ≤ (i : Int) := by omega
  go_enter Try.func34, Try.ntmps34
  go_wp2
  go_ret
  exact ⟨rfl, rfl⟩
theorem ask_no (g : Nat) (n i : Int) (w : World) (h : w.cell? ⟨g, 0, none⟩ = some (.int .i64 n)) (hi : i < 0 ∨ n ≤ i) :
    Calls Try.prog 34 #[.pointer (some ⟨g, 0, none⟩), .int .i64 i] w fun e w' => e = .returned (.int .i64 2) ∧ w = w' := by
  by_cases h0 : i < 0
  · go_enter Try.func34, Try.ntmps34
    go_wp2
    go_ret
    exact ⟨rfl, rfl⟩
  · have h1 : n ≤ i := by omega
    clear hi
    go_enter Try.func34, Try.ntmps34
    go_wp2
    go_ret
    exact ⟨rfl, rfl⟩

/-- a result that lies in a block, beside one that does not -/
theorem results_cell_row_tmp {P : Program} {fn : Func} {p u : Tmp} {ty : TypeId} (h : fn.results = #[.cell p ty, .tmp u]) (tmps : Array Value) (w : World) (g : Nat) (t : TypeId) (cs : Array Value) (fr : Nat × Nat) (d : TypeDesc)
    (hp : tmps.getD p undef = .pointer (some ⟨g, 0, none⟩)) (hg : w.heap[g]? = some (.cells cs t fr))
    (hu : P.underlying ty = some d) (hd : (match d with | .struct _ | .array _ _ => true | _ => false) = true) (hi : (P.info? ty).map (·.size) = some cs.size) (v : Value) (hv : tmps.getD u undef = v) :
    (results fn tmps).run P w = .ok (.tuple #[.agg cs, v]) w := by
  subst hv
  have hp' : tmps[p]?.getD undef = .pointer (some ⟨g, 0, none⟩) := by simpa using hp
  rw [results_cell_tmp h, hp]
  simp [asAddr, Result.andThen, run_loadVar_row w g t ty cs fr d hg hu hd hi]

def secV (l : List Int) : Value := .agg (bytesV l).toArray
set_option maxRecDepth 100000 in
set_option maxHeartbeats 1000000 in
theorem lasting_yes (g : Nat) (n : Int) (L : List Int) (B : List Bool) (mb i : Nat) (w : World) (h : DiskAt w g n L B mb) (hi : (i : Int) < n) :
    Calls Try.prog 28 #[.pointer (some ⟨g, 0, none⟩), .int .i64 (i : Int)] w fun e w' => e = .returned (.tuple #[secV (sec L i), .int .i64 0]) ∧ Below w.heap.size w w' := by
  have hgw : g < w.heap.size := h.blk.lt
  have hi96 : (i : Int) < 96 := by have := h.hi; omega
  have hi0 : (0 : Int) ≤ (i : Int) := by omega
  have A := Lib.hid (fun W hc => ask_yes g n i W hc hi)
  have hsl := length_sec h.lenL (i := i) (by omega)
  have hsz : Hid ((Try.prog.info? 47).map (·.size) = some (bytesV (sec L i)).length) := by unfold Hid; rw [length_bytesV, hsl]; exact size36
  have hsz2 : Hid ((Try.prog.info? 47).map (·.size) = some (bytesV (sec L i)).toArray.size) := by unfold Hid; rw [List.size_toArray, length_bytesV, hsl]; exact size36
  have hone : Hid ((bytesV (sec L i)).toArray.all (·.oneCell') = true) := all_oneCell_toArray (bytesV_one _)
  have hold : Hid ((bytesV (List.replicate 32 0)).toArray.size = (bytesV (sec L i)).toArray.size) := by unfold Hid; rw [List.size_toArray, List.size_toArray, length_bytesV, length_bytesV, hsl]; rfl
  have HR : Hid (∀ W, Below w.heap.size w W → W.cell? ⟨g, 0, none⟩ = some (.int .i64 n) ∧ W.rangeAt g (1 + i * 32) (bytesV (sec L i))) := fun W hB => ⟨(h.below hB hgw).c0, (h.below hB hgw).sector (by omega)⟩
  unfold secV
  obtain ⟨R0, hR0⟩ : ∃ R0, R0 = bytesV (sec L i) := ⟨_, rfl⟩
  rw [← hR0] at hsz hsz2 hone hold HR ⊢
  obtain ⟨Z0, hZ0⟩ : ∃ Z0, Z0 = (bytesV (List.replicate 32 0)).toArray := ⟨_, rfl⟩
  have HZ := Lib.hid hZ0
  rw [← hZ0] at hold
  clear h hR0 hZ0 hsl
  go_enter Try.func28, Try.ntmps28
  go_wp2_with fail
  generalize hW : w.alloc (Obj.cells _ 47) = w1
  have b1 : Hid (w1.heap[w.heap.size]? = some (.cells Z0 47 (0, 0))) := by rw [← hW, HZ.out]; exact heap_alloc_new w _
  have B1 : Hid (Below w.heap.size w w1) := by rw [← hW]; exact below_alloc1 w _
  obtain ⟨hc0, hr⟩ := HR.out w1 B1.out
  have hR := Lib.hid hr
  have hfin := Lib.hid (setRow_heap w1 w.heap.size Z0 R0.toArray 47 (0, 0) b1.out)
  have hbfin := Lib.hid (below_setRow B1.out (Nat.le_refl _) R0.toArray)
  clear hW hr
  refine (A.out _ hc0).mono ?_
  rintro e w' ⟨rfl, rfl⟩
  go_wp2_with (first
    | (refine wpList_load_mid rfl 47 (.tmp 19) rfl g (1 + i * 32) rfl R0 _ hR.out Try.underlying47 rfl hsz.out ?_)
    | (refine wpList_store_row rfl 47 (.tmp 4) (.tmp 20) rfl w.heap.size R0.toArray rfl rfl 47 Z0 b1.out hsz2.out hold.out hone.out ?_))
  refine bodyPost_ret (v := .tuple #[.agg R0.toArray, .int .i64 0]) ?_ rfl ⟨rfl, hbfin.out⟩
  exact results_cell_row_tmp rfl _ _ w.heap.size 47 R0.toArray (0, 0) _ rfl hfin.out Try.underlying47 rfl hsz2.out _ rfl
end Go.Proofs.Ytkldiofleepkfaa

/- A sector stored in a disk; the contract of 'Load' of one sector. -/
namespace Go.Proofs.Ytkldiofleepkfaa
open Go.RowKit

theorem splice_mid {α : Type} (a b c m : List α) (k : Nat) (h : k + m.length ≤ b.length) : splice (a ++ (b ++ c)) (a.length + k) m = a ++ (splice b k m ++ c) := by
  unfold splice
  rw [List.take_append, List.take_append, List.drop_append, List.drop_append]
  have e1 : a.length + k - a.length = k := by omega
  have e2 : a.length + k + m.length - a.length = k + m.length := by omega
  rw [e1, e2, List.take_of_length_le (show a.length ≤ a.length + k by omega), List.drop_eq_nil_of_le (show a.length ≤ a.length + k + m.length by omega)]
  have e3 : k - b.length = 0 := by omega
  have e4 : k + m.length - b.length = 0 := by omega
  rw [e3, e4]
  simp
/-- the bytes of a disk with one sector stored -/
theorem splice_disk (n : Int) (L : List Int) (B : List Bool) (mb i : Nat) (s : List Int) (hL : L.length = 3072) (hs : s.length = 32) (hi : i < 96) : splice (diskL n L B mb) (1 + i * 32) (bytesV s) = diskL n (splice L (i * 32) s) B mb := by
  have e : diskL n L B mb = [.int .i64 n] ++ (bytesV L ++ (B.map Value.bool ++ [.map (some mb)])) := by simp [diskL, heldL]
  have e2 : diskL n (splice L (i * 32) s) B mb = [.int .i64 n] ++ (bytesV (splice L (i * 32) s) ++ (B.map Value.bool ++ [.map (some mb)])) := by simp [diskL, heldL]
  rw [e, e2, ← splice_bytes]
  exact splice_mid [.int .i64 n] (bytesV L) _ (bytesV s) (i * 32) (by rw [length_bytesV, length_bytesV, hs, hL]; omega)
theorem length_set {L s : List Int} {i : Nat} (hL : L.length = 3072) (hs : s.length = 32) (hi : i < 96) : (splice L (i * 32) s).length = 3072 := by rw [length_splice _ _ _ (by omega), hL]
/-- the sectors behind one stored -/
theorem sec_set {L s : List Int} {i j : Nat} (hL : L.length = 3072) (hs : s.length = 32) (hi : i < 96) (hj : j < 96) : sec (splice L (i * 32) s) j = if j = i then s else sec L j := by
  have hl := length_set hL hs hi
  have h1 : (sec (splice L (i * 32) s) j).length = 32 := length_sec hl hj
  split
  · next e =>
    subst e
    refine ext_nth (by rw [h1, hs]) fun k hk => ?_
    unfold sec
    rw [nth_part _ _ _ _ (by omega), nth_splice _ _ _ _ (by omega), if_pos (by omega), show j * 32 + k - j * 32 = k by omega]
  · next e =>
    refine ext_nth (by rw [h1, length_sec hL hj]) fun k hk => ?_
    unfold sec
    rw [nth_part _ _ _ _ (by omega), nth_splice _ _ _ _ (by omega), if_neg (by omega), nth_part _ _ _ _ (by omega)]
theorem DiskAt.stored {w w' : World} {g : Nat} {n : Int} {L : List Int} {B : List Bool} {mb i : Nat} {s : List Int} (h : DiskAt w g n L B mb) (hs : s.length = 32) (ha : AllB s) (hi : i < 96)
    (hb : BlkIs w' g 54 (splice (diskL n L B mb) (1 + i * 32) (bytesV s))) : DiskAt w' g n (splice L (i * 32) s) B mb :=
  ⟨by rw [← splice_disk n L B mb i s h.lenL hs hi]; exact hb, h.lo, h.hi, length_set h.lenL hs hi, h.lenB, splice_all h.allL ha _⟩

theorem run_copy_wide {P : Program} (w : World) (dT sT ty elem : TypeId) (g o dLen dCap : Nat) (a : Addr) (sLen sCap sz : Nat) (cur : Array Value) (t : TypeId) (cs : List Value)
    (hu : P.underlying dT = some (.slice elem)) (hs : (P.info? elem).map (·.size) = some sz)
    (hg : w.heap[g]? = some (.cells cur t (0, 0))) (hn : cs.length = Nat.min sLen dLen * sz)
    (hsrc : ∀ j v, cs[j]? = some v → w.cell? (a.add j) = some v) (hfit : o + cs.length ≤ cur.size) (h1 : ∀ v ∈ cs, v.oneCell' = true) :
    (Builtin.copy_ #[dT, sT] ty #[.slice (some ⟨g, o, none⟩) dLen dCap, .slice (some a) sLen sCap]).run P w =
      .ok (goInt (Nat.min sLen dLen)) (w.setRow g (splice cur.toList o cs).toArray) := by
  have hl := run_loadCells_list (P := P) w a cs hsrc
  have hst := run_storeCells_at P g o t cs 0 cur w hg (by simpa using hfit) h1
  cases hq : P.info? elem with
  | none => simp [hq] at hs
  | some i =>
    have hi : i.size = sz := by simpa [hq] using hs
    simp [Builtin.copy_, run_underlying hu, Builtin.lenOf, Builtin.firstCells, sizeOf, typeInfo, hq, hi, ← hn, hl, hst, splice]
theorem wpList_copy_wide {P : Program} {w : World} {ops : Array Oper} {rest : List Oper} {o : Oper} {a : Act} {Q : Exit → Act → World → Prop} (hgd : o.guard = none) (d s : Operand) (dT sT : TypeId)
    (ho : o.op = .call { callee := .builtin .copy, args := #[d, s], argTypes := #[dT, sT] }) (elem : TypeId) (sz : Nat) (hu : P.underlying dT = some (.slice elem)) (hsz : (P.info? elem).map (·.size) = some sz)
    (g off dLen dCap : Nat) (ad : Addr) (sLen sCap : Nat) (hd : a.eval d = .slice (some ⟨g, off, none⟩) dLen dCap) (hs : a.eval s = .slice (some ad) sLen sCap)
    (cur : Array Value) (t : TypeId) (hg : w.heap[g]? = some (.cells cur t (0, 0))) (cs : List Value) (hn : cs.length = Nat.min sLen dLen * sz)
    (hsrc : ∀ j v, cs[j]? = some v → w.cell? (ad.add j) = some v) (hfit : off + cs.length ≤ cur.size) (h1 : ∀ v ∈ cs, v.oneCell' = true)
    (N : Array Value) (hN : (splice cur.toList off cs).toArray = N)
    (h : wpList P ops Q rest (a.put o.dst (goInt (Nat.min sLen dLen))) (w.setRow g N)) : wpList P ops Q (o :: rest) a w := by
  subst hN
  refine wpList_plain hgd fun K hK => ?_
  have hrun := run_copy_wide (P := P) w dT sT o.type elem g off dLen dCap ad sLen sCap sz cur t cs hu hsz hg hn hsrc hfit h1
  unfold Oper.wp
  simp [execOp, ho, resolve, invoke, builtin, hd, hs, hrun, Result.andThen]
  exact hK _ _ h

end Go.Proofs.Ytkldiofleepkfaa

/- The contract of 'Read' of a block of which no version waits. -/
namespace Go.Proofs.Ytkldiofleepkfaa
open Go.RowKit
open Go.Maps (Keyed)

theorem law3 : Keyed Try.prog 3 := Go.Maps.int_keyed Try.underlying3
theorem key3 {i : Nat} (hi : i < 96) : keyOf Try.prog 3 (.int .i64 (i : Int)) = some (.int .i64 (i : Int)) := Go.Maps.keyOf_int_mk Try.underlying3 (WalkArith.wf_i64 ⟨by omega, by omega⟩)

theorem size_alloc1 (w : World) (o : Obj) : (w.alloc o).heap.size = w.heap.size + 1 := by simp
/-- a look-up in a map whose elements read as they stand -/
theorem wpList_lookup_held {P : Program} {ops : Array Oper} {rest : List Oper} {o : Oper} {a : Act} {w : World} {Q : Exit → Act → World → Prop} (hg : o.guard = none) (m x : Operand) (t : TypeId) (hop : o.op = Op.lookup t m x false)
    (k e : TypeId) (K : Keyed P k) (ht : P.underlying t = some (.map k e)) {z : Value} (hz : (zeroValue e).run P w = .ok z w) (b n : Nat) (D : DataW Value)
    (hm : a.eval m = .map (some b)) (hown : w.ownsMap P k RV b n D) (key : Value) (kl : Lit) (hx : a.eval x = key) (hkey : keyOf P k key = some kl) (v : Value) (hat : D.atKey kl (.held z) = .held v)
    (h : wpList P ops Q rest (a.put o.dst v) w) : wpList P ops Q (o :: rest) a w := by
  refine wpList_plain hg fun K' hK' => ?_
  obtain ⟨u, ps, hrun, hv⟩ := hown.lookup K ht hz (zd := .held z) (zp := []) rfl hkey
  have : u = v := by
    rw [hat] at hv
    simp [RV] at hv
    exact hv.1
  subst this
  unfold Oper.wp
  simp [execOp, hop, hm, hx, hrun, Result.andThen]
  exact hK' _ _ h

theorem zero81 (w : World) : (zeroValue 76).run Try.prog w = .ok (.slice none 0 0) w := by
  have := (by kernel_rfl : (Try.prog.info? 76).map (·.zero) = some (some (.slice none 0 0)))
  cases hq : Try.prog.info? 76 with
  | none => simp [hq] at this
  | some i => simp [hq] at this; simp [zeroValue, typeInfo, hq, this]

end Go.Proofs.Ytkldiofleepkfaa

/- What 'Write' makes: a row of one version. -/
namespace Go.Proofs.Ytkldiofleepkfaa
open Go.RowKit

/-- the cells of a row: a sector, and how many times -/
def rowL (s : List Int) (t : Int) : List Value := bytesV s ++ [.int .i64 t]
theorem length_rowL {s : List Int} (hs : s.length = 32) (t : Int) : (rowL s t).length = 33 := by simp [rowL, bytesV, hs]
theorem rowL_one (s : List Int) (t : Int) : ∀ u ∈ rowL s t, u.oneCell' = true := by
  intro u hu
  rcases List.mem_append.1 hu with h | h
  · exact bytesV_one _ u h
  · rw [List.mem_singleton] at h; subst h; rfl
theorem info83 : (Try.prog.info? 79).map (fun i => (i.zero, i.size, i.bytes)) = some (some (.agg (rowL (List.replicate 32 0) 0).toArray), 33, 40) := by kernel_rfl
set_option maxRecDepth 100000 in
theorem built83 (t : Int) : ∀ s : List Int, s.length = 32 → Try.prog.built 79 [(0, .agg (bytesV s).toArray), (1, .int .i64 t)] = some (rowL s t).toArray
  | [a0, a1, a2, a3, a4, a5, a6, a7, a8, a9, a10, a11, a12, a13, a14, a15, a16, a17, a18, a19, a20, a21, a22, a23, a24, a25, a26, a27, a28, a29, a30, a31], _ => by kernel_rfl
set_option maxRecDepth 100000 in
theorem fill83 (t : Int) : ∀ s : List Int, s.length = 32 → Instr.fill (fun i => some (i * 33, 33)) ((Array.range 33).map ((rowL (List.replicate 32 0) 0).toArray[· % 33]!)) [(0, .agg (rowL s t).toArray)] = some (rowL s t).toArray
  | [a0, a1, a2, a3, a4, a5, a6, a7, a8, a9, a10, a11, a12, a13, a14, a15, a16, a17, a18, a19, a20, a21, a22, a23, a24, a25, a26, a27, a28, a29, a30, a31], _ => by kernel_rfl

section
variable {P : Program} {ops : Array Oper} {o : Oper} {a : Act} {w : World} {K : Act → World → Prop} {Q : Exit → Act → World → Prop} {E : Prop}
theorem step_of (hg : o.guard = none) (h : Oper.wp P o a w K Q) : if Region.wanted o (yielded ops a.tmps) = true then Oper.wp P o a w K Q else E := by
  rw [if_pos (by simp [Region.wanted, hg])]
  exact h
theorem wp_build_eq (t : TypeId) (parts : List (Nat × Operand)) (ho : o.op = .build t parts.toArray) (L : List (Nat × Value)) (hL : parts.map (fun (i, x) => (i, a.eval x)) = L) (cs : Array Value) (hb : P.built t L = some cs)
    (h : K (a.put o.dst (.agg cs)) w) : o.wp P a w K Q := by
  have e : (parts.toArray.map fun (i, x) => (i, a.eval x)).toList = L := by simpa using hL
  exact wp_build t parts.toArray ho (by rw [e, hb]; rfl) (by rw [e, hb]; exact h)
theorem wp_slice83 (x : Operand) (t : TypeId) (ht : P.underlying t = some (.slice 79)) (ho : o.op = .buildSlice t 1 #[(0, x)]) (R : Array Value) (hx : a.eval x = .agg R)
    (i0 : TypeInfo) (hi : P.info? 79 = some i0) (hz : i0.zero = some (.agg (rowL (List.replicate 32 0) 0).toArray)) (hs : i0.size = 33)
    (hf : Instr.fill (fun i => some (i * 33, 33)) ((Array.range 33).map ((rowL (List.replicate 32 0) 0).toArray[· % 33]!)) [(0, .agg R)] = some R)
    (h : K (a.put o.dst (.slice (some ⟨w.heap.size, 0, none⟩) 1 1)) (w.alloc (.cells R 79))) : o.wp P a w K Q := by
  refine wp_buildSlice t 79 1 #[(0, x)] ho R i0 _ ht hi hz (by rw [hs]; decide) (by rw [hs]; decide) ?_ h
  rw [hs]
  simpa [hx, Value.cells, rowL, bytesV] using hf
theorem wp_update_held (m x v : Operand) (t : TypeId) (hop : o.op = Op.mapUpdate t m x v)
    (k e : TypeId) (KK : Go.Maps.Keyed P k) (ht : P.underlying t = some (.map k e)) (b n : Nat) (D : DataW Value)
    (hm : a.eval m = .map (some b)) (hown : w.ownsMap P k RV b n D) (hn : n < maxLen) (key val : Value) (kl : Lit) (hx : a.eval x = key) (hv : a.eval v = val) (hkey : keyOf P k key = some kl)
    (h : ∀ w', w'.ownsMap P k RV b (n + 1) (D.put kl (.held val)) → w.grownBy w' (some b) → K (a.put o.dst undef) w') : o.wp P a w K Q := by
  obtain ⟨w', hrun, r1, r2⟩ := hown.update KK ht hn hkey (show RV val = some (.held val, []) from rfl)
  unfold Oper.wp
  simp [execOp, hop, hm, hx, hv, hrun, Result.andThen]
  exact h w' r1 r2
end
end Go.Proofs.Ytkldiofleepkfaa

/- The contract of 'Write' of a block of which no version waits. -/
namespace Go.Proofs.Ytkldiofleepkfaa
open Go.RowKit

/-- what is behind a write: the map has the block, with a row of its own -/
def Wrote (w w' : World) (mb k : Nat) (D : DataW Value) (i : Nat) (s : List Int) : Prop :=
  ∃ gv cap, w.heap.size ≤ gv ∧ w'.ownsMap Try.prog 3 RV mb (k + 1) (D.put (.int .i64 (i : Int)) (.held (.slice (some ⟨gv, 0, none⟩) 1 cap))) ∧ w'.ownsRow w.heap.size 79 33 (.slice (some ⟨gv, 0, none⟩) 1 cap) 1 (rowL s 1) ∧ w.grownBy w' (some mb)

set_option maxRecDepth 100000 in
set_option linter.unusedSimpArgs false in
set_option maxHeartbeats 2000000 in
theorem write_new (g : Nat) (n : Int) (L : List Int) (B : List Bool) (mb i k : Nat) (D : DataW Value) (s : List Int) (w : World) (h : DiskAt w g n L B mb) (hi : (i : Int) < n) (hm : w.ownsMap Try.prog 3 RV mb k D) (hk : k < maxLen) (hgm : g ≠ mb)
    (hat : D.atKey (.int .i64 (i : Int)) (.held (.slice none 0 0)) = .held (.slice none 0 0)) (hbad : B.getD i false = false) (hs : s.length = 32) :
    Calls Try.prog 18 #[.pointer (some ⟨g, 0, none⟩), .int .i64 (i : Int), secV s] w fun e w' => e = .returned (.int .i64 0) ∧ Wrote w w' mb k D i s := by
  obtain ⟨i0, hi0, hz0, hz1, hz2⟩ := info_parts info83
  have hgw : g < w.heap.size := h.blk.lt
  have hmw : mb < w.heap.size := hm.lt
  have hi96 : i < 96 := by have := h.hi; omega
  have hii0 : (0 : Int) ≤ (i : Int) := by omega
  have hii1 : (i : Int) < 96 := by omega
  have A := Lib.hid (fun W hc => ask_yes g n i W hc hi)
  have hsz : Hid ((Try.prog.info? 47).map (·.size) = some (bytesV s).toArray.size) := by unfold Hid; rw [List.size_toArray, length_bytesV, hs]; exact size36
  have Hk := Lib.hid (key3 hi96)
  have Hat := Lib.hid hat
  have HKm := Lib.hid hk
  have HB : Hid (∀ W, Below w.heap.size w W → W.cell? ⟨g, 0, none⟩ = some (.int .i64 n) ∧ W.cell? ⟨g, 3073 + i, none⟩ = some (.bool false) ∧ W.ownsMap Try.prog 3 RV mb k D ∧ W.cell? ⟨g, 3169, none⟩ = some (.map (some mb))) := fun W hB => by
    have hd := h.below hB hgw
    refine ⟨hd.c0, by rw [hd.bad hi96, hbad], ?_, hd.cmap⟩
    obtain ⟨es, clock, hb, F, hs, hD⟩ := hm
    exact ⟨es, clock, (hB.block mb hmw).trans hb, F, hs, hD⟩
  have B83 := Lib.hid (built83 1 s hs)
  have F83 := Lib.hid (fill83 1 s hs)
  have HNl : Hid ((rowL s 1).toArray.toList.length = 1 * 33) := by unfold Hid; rw [show (rowL s 1).toArray.toList = rowL s 1 from rfl, length_rowL hs]
  have HN1 : Hid (∀ u ∈ (rowL s 1).toArray.toList, u.oneCell' = true) := rowL_one s 1
  have HR : Hid ((rowL s 1).toArray.toList = rowL s 1) := rfl
  unfold Wrote
  unfold secV
  obtain ⟨N0, hN0⟩ : ∃ N0, N0 = (rowL s 1).toArray := ⟨_, rfl⟩
  rw [← hN0] at B83 F83 HNl HN1 HR
  obtain ⟨R0, hR0⟩ : ∃ R0, R0 = (bytesV s).toArray := ⟨_, rfl⟩
  rw [← hR0] at B83 hsz ⊢
  obtain ⟨N1, hN1⟩ : ∃ N1, N1 = rowL s 1 := ⟨_, rfl⟩
  rw [← hN1] at HR ⊢
  clear h hm hk hat hbad hs hN0 hR0 hN1
  go_enter Try.func18, Try.ntmps18
  go_wp2_with (refine wpList_boxTo rfl 47 (.tmp 2) rfl (some 5) rfl w.heap.size rfl R0 rfl ?_)
  generalize hW : w.alloc (.cells R0 47) = w1
  have b1 : Hid (w1.heap[w.heap.size]? = some (.cells R0 47 (0, 0))) := by rw [← hW]; exact heap_alloc_new w _
  have B1 : Hid (Below w.heap.size w w1) := by rw [← hW]; exact below_alloc1 w _
  have s1 : Hid (w1.heap.size = w.heap.size + 1) := by rw [← hW]; exact size_alloc1 w _
  clear hW
  obtain ⟨c0, c1, m1, c2⟩ := HB.out w1 B1.out
  have M1 := Lib.hid m1
  clear m1
  refine (A.out _ c0).mono ?_
  rintro e w' ⟨rfl, rfl⟩
  go_wp2_with (refine wpList_lookup_held rfl (.tmp 26) (.tmp 27) 52 rfl 3 76 law3 Try.underlying52 (zero81 _) mb k D rfl M1.out _ _ rfl Hk.out _ Hat.out ?_)
  have hdd : decide ((0 : Int) ≤ -1) = false := rfl
  go_quiet (fail)
  go_wp2_with fail
  obtain ⟨w2, hw2⟩ : ∃ w2, w2 = w1.drewN nq := ⟨_, rfl⟩
  have B2 : Hid (Below w.heap.size w w2) := by rw [hw2]; exact B1.out.trans (drewN_below _ w1 nq)
  have b2 : Hid (w2.heap[w.heap.size]? = some (.cells R0 47 (0, 0))) := by rw [hw2]; exact b1.out
  have s2 : Hid (w2.heap.size = w.heap.size + 1) := by rw [hw2]; exact s1.out
  rw [← hw2]
  clear hw2 c0 c1 c2 hdd
  have X : Hid (w2.drew.heap[w.heap.size]? = some (.cells R0 47 (0, 0)) ∧ w2.drew.cell? ⟨g, 3169, none⟩ = some (.map (some mb))) := ⟨b2.out, (HB.out _ B2.out.drew).2.2.2⟩
  have BY : Hid (Below w.heap.size w (w2.drew.alloc (.cells N0 79))) := B2.out.drew.alloc (by have := s2.out; show w.heap.size ≤ w2.heap.size; omega) _
  have Y : Hid ((w2.drew.alloc (.cells N0 79)).cell? ⟨g, 3169, none⟩ = some (.map (some mb)) ∧ (∀ j u, N0.toList[j]? = some u → (w2.drew.alloc (.cells N0 79)).cell? ((⟨w2.heap.size, 0, none⟩ : Addr).add j) = some u) ∧ w.heap.size ≤ (w2.drew.alloc (.cells N0 79)).heap.size) :=
    ⟨(HB.out _ BY.out).2.2.2, fun j u hu => cells_new w2.drew N0.toList 79 j u hu, BY.out.size⟩
  have HZ : Hid (∀ w5 gv cap, w5.ownsRow w.heap.size 79 33 (.slice (some ⟨gv, 0, none⟩) 1 cap) 1 N0.toList → (w2.drew.alloc (.cells N0 79)).grownBy w5 none → w5.cell? ⟨g, 3169, none⟩ = some (.map (some mb)) ∧ w5.ownsMap Try.prog 3 RV mb k D ∧
      ∀ w6, w6.ownsMap Try.prog 3 RV mb (k + 1) (D.put (.int .i64 (i : Int)) (.held (.slice (some ⟨gv, 0, none⟩) 1 cap))) → w5.grownBy w6 (some mb) → w6.cell? ⟨g, 3169, none⟩ = some (.map (some mb)) ∧
        ∃ gv cap, w.heap.size ≤ gv ∧ w6.ownsMap Try.prog 3 RV mb (k + 1) (D.put (.int .i64 (i : Int)) (.held (.slice (some ⟨gv, 0, none⟩) 1 cap))) ∧ w6.ownsRow w.heap.size 79 33 (.slice (some ⟨gv, 0, none⟩) 1 cap) 1 N1 ∧ w.grownBy w6 (some mb)) := by
    intro w5 gv cap ho hg
    have B5 : Below w.heap.size w w5 := BY.out.grown hg (by exact BY.out.size) (fun k hk => by cases hk)
    obtain ⟨_, _, hm5, hc5⟩ := HB.out w5 B5
    refine ⟨hc5, hm5, fun w6 hm6 hg6 => ⟨?_, gv, cap, (ho.lt gv rfl).1, hm6, ?_, ?_⟩⟩
    · rw [← hc5]
      exact World.cell?_of_block (hg6.block g (Nat.lt_of_lt_of_le hgw B5.size) (by simpa using hgm))
    · rw [← HR.out]
      exact ho.kept hg6 (.inr (by have := (ho.lt gv rfl).1; simp [Value.ownBlock]; omega))
    · exact World.grownBy.trans ⟨B5.os, B5.tape, B5.output, B5.size, fun j hj _ => B5.block j hj⟩ hg6
  refine wp_region_held_drew (S := (fun W => W.cell? ⟨g, 3169, none⟩ = some (.map (some mb)))) (by kernel_rfl) (X.out.2) (fun hHeld => ?_)
  refine takeH (i := 0) (some 51) (v := ?_) rfl rfl (by kernel_rfl) (by kernel_rfl) (by kernel_rfl) (fun _ _ _ h => h) (by rfl) ?_ (by assumption) ?_
  rotate_left
  · (intro w hSw; (try dsimp only at hSw); go_simp; try with_reducible rfl)
  simp only [Act.put, List.setIfInBounds_toArray, List.set_cons_zero, List.set_cons_succ]
  refine takeH (i := 1) (some 52) (v := ?_) rfl rfl (by kernel_rfl) (by kernel_rfl) (by kernel_rfl) (fun _ _ _ h => h) (by rfl) ?_ (by assumption) ?_
  rotate_left
  · (intro w hSw; (try dsimp only at hSw); go_simp; try with_reducible rfl)
  simp only [Act.put, List.setIfInBounds_toArray, List.set_cons_zero, List.set_cons_succ]
  refine takeH (i := 2) (some 53) (v := ?_) rfl rfl (by kernel_rfl) (by kernel_rfl) (by kernel_rfl) (fun _ _ _ h => h) (by rfl) ?_ (by assumption) ?_
  rotate_left
  · (intro w hSw; (try dsimp only at hSw); go_simp; try with_reducible rfl)
  simp only [Act.put, List.setIfInBounds_toArray, List.set_cons_zero, List.set_cons_succ]
  refine takeH (i := 3) (some 54) (v := ?_) rfl rfl (by kernel_rfl) (by kernel_rfl) (by kernel_rfl) (fun _ _ _ h => h) (by rfl) ?_ (by assumption) ?_
  rotate_left
  · (intro w hSw; (try dsimp only at hSw); go_simp; try with_reducible rfl)
  simp only [Act.put, List.setIfInBounds_toArray, List.set_cons_zero, List.set_cons_succ]
  refine takeH (i := 4) (some 55) (v := ?_) rfl rfl (by kernel_rfl) (by kernel_rfl) (by kernel_rfl) (fun _ _ _ h => h) (by rfl) ?_ (by assumption) ?_
  rotate_left
  · (intro w hSw; (try dsimp only at hSw); go_simp; try with_reducible rfl)
  simp only [Act.put, List.setIfInBounds_toArray, List.set_cons_zero, List.set_cons_succ]
  refine takeH (i := 5) (some 56) (v := ?_) rfl rfl (by kernel_rfl) (by kernel_rfl) (by kernel_rfl) (fun _ _ _ h => h) (by rfl) ?_ (by assumption) ?_
  rotate_left
  · (intro w hSw; (try dsimp only at hSw); go_simp; try with_reducible rfl)
  simp only [Act.put, List.setIfInBounds_toArray, List.set_cons_zero, List.set_cons_succ]
  refine wpAnyH_ready (rs := [6]) (by kernel_rfl) (by simp) ?_
  refine AllReadyH.cons rfl (fun K hK => ?_) AllReadyH.nil
  refine step_of rfl (wp_load_row 47 (.tmp 5) rfl w.heap.size rfl 47 R0 (0, 0) _ X.out.1 Try.underlying47 rfl hsz.out ?_)
  refine hK _ _ (X.out.2) (fun hHeld => ?_)
  clear hK K
  try simp only [Act.put, List.setIfInBounds_toArray, List.set_cons_zero, List.set_cons_succ]
  refine wpAnyH_ready (rs := [7]) (by kernel_rfl) (by simp) ?_
  refine AllReadyH.cons rfl (fun K hK => ?_) AllReadyH.nil
  refine step_of rfl (wp_build_eq 79 [(0, .tmp 57), (1, .const (.int .i64 1))] rfl [(0, .agg R0), (1, .int .i64 1)] rfl N0 B83.out ?_)
  refine hK _ _ (X.out.2) (fun hHeld => ?_)
  clear hK K
  try simp only [Act.put, List.setIfInBounds_toArray, List.set_cons_zero, List.set_cons_succ]
  refine wpAnyH_ready (rs := [8]) (by kernel_rfl) (by simp) ?_
  refine AllReadyH.cons rfl (fun K hK => ?_) AllReadyH.nil
  refine step_of rfl (wp_slice83 (.tmp 58) 76 Try.underlying76 rfl N0 rfl i0 hi0 hz0 hz1 F83.out ?_)
  refine hK _ _ (Y.out.1) (fun hHeld => ?_)
  clear hK K
  try simp only [Act.put, List.setIfInBounds_toArray, List.set_cons_zero, List.set_cons_succ]
  refine wpAnyH_ready (rs := [9]) (by kernel_rfl) (by simp) ?_
  refine AllReadyH.cons rfl (fun K hK => ?_) AllReadyH.nil
  refine step_append_lies _ rfl (.tmp 56) (.tmp 59) 76 rfl w.heap.size 79 i0 _ 33 40 Try.underlying76 hi0 hz0 hz1 hz2 (by decide) (by decide) (.slice none 0 0) 0 [] rfl (World.ownsRow_nil _ _ _ _) ⟨w2.heap.size, 0, none⟩ 1 1 N0.toList rfl HNl.out Y.out.2.1 HN1.out (by decide) (by decide) (by decide) Y.out.2.2 _ rfl ?_
  intro gv cap w5 hown5 hgrow5 _ hlt5
  have Z := Lib.hid (HZ.out w5 gv cap hown5 hgrow5)
  clear hgrow5
  refine hK _ _ (Z.out.1) (fun hHeld => ?_)
  clear hK K
  try simp only [Act.put, List.setIfInBounds_toArray, List.set_cons_zero, List.set_cons_succ]
  refine wpAnyH_ready (rs := [10]) (by kernel_rfl) (by simp) ?_
  refine AllReadyH.cons rfl (fun K hK => ?_) AllReadyH.nil
  refine step_of rfl (wp_update_held (.tmp 54) (.tmp 55) (.tmp 60) 52 rfl 3 76 law3 Try.underlying52 mb k D rfl Z.out.2.1 HKm.out _ _ _ rfl rfl Hk.out ?_)
  intro w6 hm6 hg6
  have U := Lib.hid (Z.out.2.2 w6 hm6 hg6)
  clear hm6 hg6
  refine hK _ _ (U.out.1) (fun hHeld => ?_)
  clear hK K
  try simp only [Act.put, List.setIfInBounds_toArray, List.set_cons_zero, List.set_cons_succ]
  refine wpAnyH_done (by kernel_rfl) ?_ _
  go_wp2
  go_ret
  exact ⟨rfl, U.out.2⟩
end Go.Proofs.Ytkldiofleepkfaa

/- A sector stored in a disk, as a step; what waits. -/
namespace Go.Proofs.Ytkldiofleepkfaa
open Go.RowKit

theorem wp_store_wide {P : Program} {op : Oper} {a : Act} {w : World} {K : Act → World → Prop} {Q : Exit → Act → World → Prop} (ty : TypeId) (x y : Operand) (ho : op.op = .store ty x y)
    (g o : Nat) (cs : List Value) (hx : a.eval x = .pointer (some ⟨g, o, none⟩)) (hy : a.eval y = .agg cs.toArray) (cur : Array Value) (t : TypeId) (hg : w.heap[g]? = some (.cells cur t (0, 0)))
    (hfit : o + cs.length ≤ cur.size) (hi : (P.info? ty).map (·.size) = some cs.length) (h1 : ∀ v ∈ cs, v.oneCell' = true) (N : Array Value) (hN : (splice cur.toList o cs).toArray = N)
    (h : K (a.put op.dst undef) (w.setRow g N)) : op.wp P a w K Q := by
  subst hN
  have hst := run_storeCells_at P g o t cs 0 cur w hg (by simpa using hfit) h1
  have hrun : (storeVar ty ⟨g, o, none⟩ (.agg cs.toArray)).run P w = .ok () (w.setRow g (splice cur.toList o cs).toArray) := by
    cases hq : P.info? ty with
    | none => simp [hq] at hi
    | some i =>
      have hi' : i.size = cs.length := by simpa [hq] using hi
      simp [storeVar, sizeOf, typeInfo, hq, hi', Value.cells, hst, splice]
  unfold Oper.wp execOp
  simp only [ho, hx, hy, Instr.storeAt, Instr.sureAddr, Sem.run_bind, Sem.run_pure, Result.andThen_ok, hrun]
  exact h

/-- what waits for a block: a slice whose last row begins with the sector S i -/
def Waits (w : World) (g mb : Nat) (n : Int) (D : DataW Value) (S : Nat → List Int) : Prop :=
  ∀ i : Int, Maps.has D (.int .i64 i) = true → ∃ (j gv q cap : Nat), i = (j : Int) ∧ (j : Int) < n ∧ (∀ z, D.atKey (.int .i64 i) z = .held (.slice (some ⟨gv, 0, none⟩) (q + 1) cap)) ∧ q < 1000000000 ∧
    w.rangeAt gv (q * 33) (bytesV (S j)) ∧ (S j).length = 32 ∧ AllB (S j) ∧ gv ≠ g ∧ gv ≠ mb ∧ gv < w.heap.size
end Go.Proofs.Ytkldiofleepkfaa

/- The contract of 'Flush'. -/
namespace Go.Proofs.Ytkldiofleepkfaa
open Go.RowKit
open Go.Maps (Keyed)

/-- all stands but the blocks g and mb, and what is new -/
structure Turned (w w' : World) (g mb : Nat) : Prop where
  os : w'.os = w.os
  tape : w'.tape = w.tape
  output : w'.output = w.output
  size : w.heap.size ≤ w'.heap.size
  block : ∀ k, k < w.heap.size → k ≠ g → k ≠ mb → w'.heap[k]? = w.heap[k]?
theorem Turned.refl (w : World) (g mb : Nat) : Turned w w g mb := ⟨rfl, rfl, rfl, Nat.le_refl _, fun _ _ _ _ => rfl⟩
theorem Turned.grown {w a b : World} {g mb : Nat} {row : Option Nat} (h : Turned w a g mb) (k : a.grownBy b row) (hr : ∀ j, row = some j → j = g ∨ j = mb ∨ w.heap.size ≤ j) : Turned w b g mb :=
  ⟨k.os.trans h.os, k.tape.trans h.tape, k.output.trans h.output, Nat.le_trans h.size k.size, fun i hi h1 h2 => (k.block i (Nat.lt_of_lt_of_le hi h.size) (fun e => by
    rcases hr i e.symm with e | e | e
    · exact h1 e
    · exact h2 e
    · omega)).trans (h.block i hi h1 h2)⟩

theorem wpList_next_waits {P : Program} {ops : Array Oper} {rest : List Oper} {o : Oper} {a : Act} {w : World} {Q : Exit → Act → World → Prop} (hg : o.guard = none) (it : Operand) (hop : o.op = Op.next it false) (k : TypeId) (K : Keyed P k) (hk : P.underlying k = some (.int .i64))
    (b r n : Nat) (D : DataW Value) (left : Lit → Bool) (cnt : Nat) (hit : a.eval it = .pointer (some ⟨r, 0, none⟩)) (h : w.ranges P k RV b r n D left cnt)
    (X : Nat → Nat → Nat → Nat → Prop) (hX : ∀ (x : Int) (v : Value), left (.int .i64 x) = true → (∀ zd, D.atKey (.int .i64 x) zd = .held v) → ∃ j gv q cap, x = ((j : Nat) : Int) ∧ v = .slice (some ⟨gv, 0, none⟩) (q + 1) cap ∧ X j gv q cap)
    (hDone : (∀ kl, left kl = false) → wpList P ops Q rest (a.put o.dst (.tuple #[.bool false])) w)
    (hMore : ∀ (j gv q cap : Nat) (w' : World) (cnt' : Nat), X j gv q cap → left (.int .i64 (j : Int)) = true → w'.ranges P k RV b r n D (fun z => left z && !z.sameKey (.int .i64 (j : Int))) cnt' → cnt' < cnt →
      w.grownBy w' (some r) → (Instr.entry (.pointer (some ⟨r, 0, none⟩))).run P w' = .ok (.tuple #[.int .i64 (j : Int), .slice (some ⟨gv, 0, none⟩) (q + 1) cap]) w' → wpList P ops Q rest (a.put o.dst (.tuple #[.bool true, .int .i64 (j : Int), .slice (some ⟨gv, 0, none⟩) (q + 1) cap])) w') :
    wpList P ops Q (o :: rest) a w :=
  wpList_next_ranges w hg it hop k K RV (Value.int .i64) (fun v => v) (fun key kl hkey => by obtain ⟨x, rfl, _⟩ := Maps.keyOf_int_inv hk hkey; exact ⟨x, rfl⟩) (fun v y _ => ⟨v, rfl⟩) b r n D left cnt hit h (fun _ hl => hDone hl)
    (fun x c kl y w' cnt' hkey hlk hv hat hrg hlt hgr hsz hen => by
      obtain ⟨x', ex, rfl, hwx⟩ := Maps.keyOf_int_inv hk hkey
      cases ex
      obtain ⟨j, gv, q, cap, rfl, hc, hx⟩ := hX x c hlk (fun zd => by rw [hat zd]; unfold RV at hv; injection hv with hv; rw [← hv])
      subst hc
      exact hMore j gv q cap w' cnt' hx hlk hrg hlt hgr hen)

/-- a flush under way -/
def FlS (w wr : World) (g : Nat) (n : Int) (L : List Int) (B : List Bool) (mb k r : Nat) (D : DataW Value) (S : Nat → List Int) (left : Lit → Bool) (cnt : Nat) : Prop :=
  ∃ D' L', wr.ranges Try.prog 3 RV mb r k D' left cnt ∧ (∀ kl, Maps.has D' kl = left kl) ∧ (∀ i, left (.int .i64 i) = true → Maps.has D (.int .i64 i) = true ∧ ∀ z, D'.atKey (.int .i64 i) z = D.atKey (.int .i64 i) z) ∧
    DiskAt wr g n L' B mb ∧ (∀ j : Nat, j < 96 → sec L' j = if Maps.has D (.int .i64 (j : Int)) = true ∧ left (.int .i64 (j : Int)) = false then S j else sec L j) ∧ Turned w wr g mb
def Flushed (w w' : World) (g : Nat) (n : Int) (L : List Int) (B : List Bool) (mb k : Nat) (D : DataW Value) (S : Nat → List Int) : Prop :=
  ∃ D' L', w'.ownsMap Try.prog 3 RV mb k D' ∧ (∀ kl, Maps.has D' kl = false) ∧ DiskAt w' g n L' B mb ∧ (∀ j : Nat, j < 96 → sec L' j = if Maps.has D (.int .i64 (j : Int)) = true then S j else sec L j) ∧ Turned w w' g mb

theorem has_del (D : DataW Value) (i : Int) (z : Lit) : Maps.has (D.del (.int .i64 i)) z = (Maps.has D z && !z.sameKey (.int .i64 i)) := by
  by_cases e : z = .int .i64 i
  · subst e
    have : (Lit.int .i64 i).sameKey (.int .i64 i) = true := by simp [Lit.sameKey]
    rw [Maps.has_del_same, this]
    simp
  · rw [Maps.has_del_other e, Maps.sameKey_ne e]
    simp
theorem fl_step {w w4 : World} {g : Nat} {n : Int} {L L1 : List Int} {B : List Bool} {mb k r j cnt : Nat} {D D1 : DataW Value} {S : Nat → List Int} {left : Lit → Bool}
    (hrg : w4.ranges Try.prog 3 RV mb r k (D1.del (.int .i64 (j : Int))) (fun z => left z && !z.sameKey (.int .i64 (j : Int))) cnt) (hhas : ∀ kl, Maps.has D1 kl = left kl)
    (hat : ∀ i, left (.int .i64 i) = true → Maps.has D (.int .i64 i) = true ∧ ∀ z, D1.atKey (.int .i64 i) z = D.atKey (.int .i64 i) z)
    (hsec : ∀ j : Nat, j < 96 → sec L1 j = if Maps.has D (.int .i64 (j : Int)) = true ∧ left (.int .i64 (j : Int)) = false then S j else sec L j)
    (hl : left (.int .i64 (j : Int)) = true) (hj : j < 96) (hs : (S j).length = 32) (hL : L1.length = 3072) (hd : DiskAt w4 g n (splice L1 (j * 32) (S j)) B mb) (hT : Turned w w4 g mb) :
    FlS w w4 g n L B mb k r D S (fun z => left z && !z.sameKey (.int .i64 (j : Int))) cnt := by
  refine ⟨_, _, hrg, fun kl => by rw [has_del, hhas], fun i hi => ?_, hd, fun i hi => ?_, hT⟩
  · simp only [Bool.and_eq_true, Bool.not_eq_true'] at hi
    obtain ⟨h1, h2⟩ := hi
    have hne : i ≠ (j : Int) := by
      rintro rfl
      simp [Lit.sameKey] at h2
    refine ⟨(hat i h1).1, fun z => ?_⟩
    rw [Maps.atKey_del_other (by intro e; injection e with _ e; exact hne e)]
    exact (hat i h1).2 z
  · rw [sec_set hL hs hj hi]
    by_cases e : i = j
    · subst e
      rw [if_pos rfl, if_pos ⟨(hat _ hl).1, by simp [Lit.sameKey]⟩]
    · rw [if_neg e, hsec i hi]
      have : (Lit.int .i64 (i : Int)).sameKey (.int .i64 (j : Int)) = false := Maps.sameKey_ne (by intro h; injection h with _ h; omega)
      simp [this]
theorem fl_end {w wr : World} {g : Nat} {n : Int} {L : List Int} {B : List Bool} {mb k r cnt : Nat} {D : DataW Value} {S : Nat → List Int} {left : Lit → Bool} (h : FlS w wr g n L B mb k r D S left cnt) (hl : ∀ kl, left kl = false) : Flushed w wr g n L B mb k D S := by
  obtain ⟨D', L', hrg, hhas, _, hd, hsec, hT⟩ := h
  refine ⟨D', L', hrg.owns, fun kl => by rw [hhas, hl], hd, fun j hj => ?_, hT⟩
  rw [hsec j hj, hl]
  simp

set_option maxRecDepth 100000 in
set_option linter.unusedSimpArgs false in
set_option maxHeartbeats 2000000 in
theorem flush_any (g : Nat) (n : Int) (L : List Int) (B : List Bool) (mb k : Nat) (D : DataW Value) (S : Nat → List Int) (w : World) (h : DiskAt w g n L B mb) (hm : w.ownsMap Try.prog 3 RV mb k D) (hgm : g ≠ mb) (hW : Waits w g mb n D S) :
    Calls Try.prog 12 #[.pointer (some ⟨g, 0, none⟩)] w fun e w' => e = .returned (.int .i64 0) ∧ Flushed w w' g n L B mb k D S := by
  have hgw : g < w.heap.size := h.blk.lt
  have hmw : mb < w.heap.size := hm.lt
  have hc := h.cmap
  have H := Lib.hid h
  have HW := Lib.hid hW
  have HM := Lib.hid hm
  clear h hm hW
  go_enter Try.func12, Try.ntmps12
  go_wp2_with (at_range; refine wpList_range_own _ rfl _ 52 rfl 3 76 law3 Try.underlying52 _ mb k D rfl HM.out ?_; intro w0 hrg0 hg0 hs0)
  go_frame
  have HS : Hid (FlS w w0 g n L B mb k w.heap.size D S (Maps.has D) (Maps.size D)) :=
    ⟨D, L, hrg0, fun _ => rfl, fun i hi => ⟨hi, fun _ => rfl⟩, ⟨(hg0.block g hgw (by simp)).trans H.out.blk, H.out.lo, H.out.hi, H.out.lenL, H.out.lenB, H.out.allL⟩, (fun j hj => by
      rw [if_neg]
      rintro ⟨a, b⟩
      rw [a] at b
      cases b), (Turned.refl w g mb).grown hg0 (fun j hj => by cases hj)⟩
  clear hrg0 hg0 hs0 hc
  go_loopw [3, 4] (fun _ _ wr => ∃ (left : Lit → Bool) (cnt : Nat), FlS w wr g n L B mb k w.heap.size D S left cnt) (fun _ _ wr => wr.rangeLeft mb w.heap.size)
  case atStart => exact ⟨_, _, HS.out⟩
  case round =>
    obtain ⟨left, cnt, hF⟩ := hrel
    have HF := Lib.hid hF
    obtain ⟨D1, L1, hrg, hhas, hat, hd, hsec, hT⟩ := hF
    have AX : Hid (∀ (x : Int) (v : Value), left (.int .i64 x) = true → (∀ zd, D1.atKey (.int .i64 x) zd = .held v) → ∃ j gv q cap, x = ((j : Nat) : Int) ∧ v = .slice (some ⟨gv, 0, none⟩) (q + 1) cap ∧
        ((j : Int) < n ∧ q < 1000000000 ∧ wr.rangeAt gv (q * 33) (bytesV (S j)) ∧ (S j).length = 32 ∧ AllB (S j) ∧ gv ≠ g ∧ gv ≠ mb ∧ gv < w.heap.size)) := by
      intro x v hl hv
      obtain ⟨hD, hz⟩ := hat x hl
      obtain ⟨j, gv, q, cap, hx, hjn, hv', hq, hr, hs, ha, h1, h2, h3⟩ := HW.out x hD
      have e := hv (.held (.bool false))
      rw [hz, hv'] at e
      injection e with e
      refine ⟨j, gv, q, cap, hx, e.symm, hjn, hq, fun i u hi => ?_, hs, ha, h1, h2, h3⟩
      exact (World.cell?_of_block (hT.block gv h3 h1 h2)).trans (hr i u hi)
    have FS : Hid (∀ (w4 : World) (j cnt2 : Nat), w4.ranges Try.prog 3 RV mb w.heap.size k (D1.del (.int .i64 (j : Int))) (fun z => left z && !z.sameKey (.int .i64 (j : Int))) cnt2 → left (.int .i64 (j : Int)) = true → j < 96 → (S j).length = 32 →
        DiskAt w4 g n (splice L1 (j * 32) (S j)) B mb → Turned w w4 g mb → FlS w w4 g n L B mb k w.heap.size D S (fun z => left z && !z.sameKey (.int .i64 (j : Int))) cnt2) := fun w4 j cnt2 a b c d e f => fl_step a hhas hat hsec b c d hd.lenL e f
    have Hr := Lib.hid hrg
    have Hd := Lib.hid hd
    have HT := Lib.hid hT
    clear hrg hhas hat hd hsec hT
    go_wp2_with (at_next; refine wpList_next_waits rfl _ rfl 3 law3 Try.underlying3 mb w.heap.size k D1 left cnt rfl Hr.out _ AX.out ?_ ?_)
    · intro hl0
      go_wp2
      go_ret
      exact ⟨rfl, fl_end HF.out hl0⟩
    · intro j gv q cap w1 cnt1 hjn hq hR hs ha hne1 hne2 hgv hlx hrg1 hlt hg1 hen
      have hj : j < 96 := by have := Hd.out.hi; omega
      have hji : (j : Int) < 96 := by omega
      have hj0 : (0 : Int) ≤ (j : Int) := by omega
      have hq0 : (0 : Int) ≤ (q : Int) := by omega
      have hqi : (q : Int) < 1000000000 := by omega
      have hrw : w.heap.size ≤ wr.heap.size := HT.out.size
      have hwq : IntKind.i64.wrap (q : Int) = (q : Int) := by simp [IntKind.wrap, IntKind.bits, IntKind.signed]; omega
      have hq2 : (q : Int) < (q : Int) + 1 := by omega
      have d1 : Hid (DiskAt w1 g n L1 B mb) := ⟨(hg1.block g (by omega) (by simp; omega)).trans Hd.out.blk, Hd.out.lo, Hd.out.hi, Hd.out.lenL, Hd.out.lenB, Hd.out.allL⟩
      have HR : Hid (w1.drew.rangeAt gv (q * 33) (bytesV (S j))) := fun i u hi => (World.cell?_of_block (hg1.block gv (by omega) (by simp; omega))).trans (hR i u hi)
      have T1 : Hid (Turned w w1 g mb) := HT.out.grown hg1 (fun j hj => by cases hj; exact .inr (.inr (Nat.le_refl _)))
      have Hrg1 := Lib.hid hrg1
      have Hlx := Lib.hid hlx
      have Hs := Lib.hid hs
      have Hlt := Lib.hid hlt
      have Hkj := Lib.hid (key3 hj)
      have HDb : Hid (w1.drew.heap[g]? = some (.cells (diskL n L1 B mb).toArray 54 (0, 0))) := d1.out.blk
      have hsz : Hid ((Try.prog.info? 47).map (·.size) = some (bytesV (S j)).length) := by unfold Hid; rw [length_bytesV, hs]; exact size36
      have H1 := Lib.hid (bytesV_one (S j))
      have Hfit : Hid (1 + j * 32 + (bytesV (S j)).length ≤ (diskL n L1 B mb).toArray.size) := by
        unfold Hid
        have := length_heldL n L1 B Hd.out.lenL Hd.out.lenB
        rw [length_bytesV, hs, List.size_toArray, diskL, List.length_append, this]
        simp; omega
      have HE : Hid (∀ w3, w3 = w1.drew.setRow g (splice (diskL n L1 B mb) (1 + j * 32) (bytesV (S j))).toArray → w3.cell? ⟨g, 3169, none⟩ = some (.map (some mb)) ∧ w3.ranges Try.prog 3 RV mb w.heap.size k D1 (fun z => left z && !z.sameKey (.int .i64 (j : Int))) cnt1 ∧
          ∀ w4 cnt2, w4.ranges Try.prog 3 RV mb w.heap.size k (D1.del (.int .i64 (j : Int))) (fun z => left z && !z.sameKey (.int .i64 (j : Int))) cnt2 → w3.mapTurned w4 mb → FlS w w4 g n L B mb k w.heap.size D S (fun z => left z && !z.sameKey (.int .i64 (j : Int))) cnt2) := by
        intro w3 e3
        have hb3 : BlkIs w3 g 54 (splice (diskL n L1 B mb) (1 + j * 32) (bytesV (S j))) := by rw [e3]; exact setRow_heap w1.drew g _ _ 54 (0, 0) HDb.out
        have d3 := d1.out.stored hs ha hj hb3
        have g3 : w1.grownBy w3 (some g) := by rw [e3]; exact ⟨rfl, rfl, rfl, by simp [World.setRow], fun i _ hne => setRow_other w1.drew _ i _ (by intro e; subst e; exact hne rfl)⟩
        refine ⟨d3.cmap, Hrg1.out.kept g3 (by simpa using Ne.symm hgm) (by simp; omega), fun w4 cnt2 hr4 ht => FS.out w4 j cnt2 hr4 Hlx.out hj Hs.out ?_ ?_⟩
        · exact ⟨(ht.grown.block g d3.blk.lt (by simpa using hgm)).trans d3.blk, d3.lo, d3.hi, d3.lenL, d3.lenB, d3.allL⟩
        · exact (T1.out.grown g3 (fun i hi => by cases hi; exact .inl rfl)).grown ht.grown (fun i hi => by cases hi; exact .inr (.inl rfl))
      obtain ⟨N1, hN1⟩ : ∃ N1, N1 = (splice (diskL n L1 B mb) (1 + j * 32) (bytesV (S j))).toArray := ⟨_, rfl⟩
      obtain ⟨S0, hS0⟩ : ∃ S0, S0 = bytesV (S j) := ⟨_, rfl⟩
      obtain ⟨D0, hD0⟩ : ∃ D0, D0 = (diskL n L1 B mb).toArray := ⟨_, rfl⟩
      rw [← hN1] at HE
      rw [← hS0] at HR hsz H1 Hfit
      rw [← hD0] at HDb Hfit
      have HN : Hid ((splice D0.toList (1 + j * 32) S0).toArray = N1) := by unfold Hid; rw [hN1, hS0, hD0]
      clear hN1 hS0 hD0 hR hs ha hrg1 hlx hlt hg1 hgv hne1 hne2 hrw
      go_wp2_with fail
      refine wp_region_held_drew (S := (fun _ => True)) (by kernel_rfl) (trivial) (fun hHeld => ?_)
      refine takeH (i := 0) (some 17) (v := ?_) rfl rfl (by kernel_rfl) (by kernel_rfl) (by kernel_rfl) (fun _ _ _ h => h) (by rfl) ?_ (by assumption) ?_
      rotate_left
      · (intro w hSw; (try dsimp only at hSw); go_simp; try with_reducible rfl)
      simp only [Act.put, List.setIfInBounds_toArray, List.set_cons_zero, List.set_cons_succ]
      refine takeH (i := 1) (some 18) (v := ?_) rfl rfl (by kernel_rfl) (by kernel_rfl) (by kernel_rfl) (fun _ _ _ h => h) (by rfl) ?_ (by assumption) ?_
      rotate_left
      · (intro w hSw; (try dsimp only at hSw); go_simp; try with_reducible rfl)
      simp only [Act.put, List.setIfInBounds_toArray, List.set_cons_zero, List.set_cons_succ]
      refine takeH (i := 2) (some 19) (v := ?_) rfl rfl (by kernel_rfl) (by kernel_rfl) (by kernel_rfl) (fun _ _ _ h => h) (by rfl) ?_ (by assumption) ?_
      rotate_left
      · (intro w hSw; (try dsimp only at hSw); go_simp; try with_reducible rfl)
      simp only [Act.put, List.setIfInBounds_toArray, List.set_cons_zero, List.set_cons_succ]
      refine takeH (i := 3) (some 20) (v := ?_) rfl rfl (by kernel_rfl) (by kernel_rfl) (by kernel_rfl) (fun _ _ _ h => h) (by rfl) ?_ (by assumption) ?_
      rotate_left
      · (intro w hSw; (try dsimp only at hSw); go_simp; try with_reducible rfl)
      simp only [Act.put, List.setIfInBounds_toArray, List.set_cons_zero, List.set_cons_succ]
      refine takeH (i := 4) (some 21) (v := ?_) rfl rfl (by kernel_rfl) (by kernel_rfl) (by kernel_rfl) (fun _ _ _ h => h) (by rfl) ?_ (by assumption) ?_
      rotate_left
      · (intro w hSw; (try dsimp only at hSw); go_simp; try with_reducible rfl)
      simp only [Act.put, List.setIfInBounds_toArray, List.set_cons_zero, List.set_cons_succ]
      refine takeH (i := 5) (some 22) (v := ?_) rfl rfl (by kernel_rfl) (by kernel_rfl) (by kernel_rfl) (fun _ _ _ h => h) (by rfl) ?_ (by assumption) ?_
      rotate_left
      · (intro w hSw; (try dsimp only at hSw); go_simp; try with_reducible rfl)
      simp only [Act.put, List.setIfInBounds_toArray, List.set_cons_zero, List.set_cons_succ]
      refine takeH (i := 6) (some 23) (v := ?_) rfl rfl (by kernel_rfl) (by kernel_rfl) (by kernel_rfl) (fun _ _ _ h => h) (by rfl) ?_ (by assumption) ?_
      rotate_left
      · (intro w hSw; (try dsimp only at hSw); go_simp; try with_reducible rfl)
      simp only [Act.put, List.setIfInBounds_toArray, List.set_cons_zero, List.set_cons_succ]
      refine takeH (i := 7) (some 24) (v := ?_) rfl rfl (by kernel_rfl) (by kernel_rfl) (by kernel_rfl) (fun _ _ _ h => h) (by rfl) ?_ (by assumption) ?_
      rotate_left
      · (intro w hSw; (try dsimp only at hSw); go_simp; try with_reducible rfl)
      simp only [Act.put, List.setIfInBounds_toArray, List.set_cons_zero, List.set_cons_succ]
      refine takeH (i := 9) (some 26) (v := ?_) rfl rfl (by kernel_rfl) (by kernel_rfl) (by kernel_rfl) (fun _ _ _ h => h) (by rfl) ?_ (by assumption) ?_
      rotate_left
      · (intro w hSw; (try dsimp only at hSw); go_simp; try with_reducible rfl)
      simp only [Act.put, List.setIfInBounds_toArray, List.set_cons_zero, List.set_cons_succ]
      refine takeH (i := 10) (some 27) (v := ?_) rfl rfl (by kernel_rfl) (by kernel_rfl) (by kernel_rfl) (fun _ _ _ h => h) (by rfl) ?_ (by assumption) ?_
      rotate_left
      · (intro w hSw; (try dsimp only at hSw); go_simp; try with_reducible rfl)
      simp only [Act.put, List.setIfInBounds_toArray, List.set_cons_zero, List.set_cons_succ]
      refine takeH (i := 11) (some 28) (v := ?_) rfl rfl (by kernel_rfl) (by kernel_rfl) (by kernel_rfl) (fun _ _ _ h => h) (by rfl) ?_ (by assumption) ?_
      rotate_left
      · (intro w hSw; (try dsimp only at hSw); go_simp; try with_reducible rfl)
      simp only [Act.put, List.setIfInBounds_toArray, List.set_cons_zero, List.set_cons_succ]
      refine wpAnyH_ready (rs := [8]) (by kernel_rfl) (by simp) ?_
      refine AllReadyH.cons rfl (fun K hK => ?_) AllReadyH.nil
      refine step_of rfl (wp_load_mid 47 (.tmp 24) rfl gv (q * 33) rfl S0 _ HR.out Try.underlying47 rfl hsz.out ?_)
      refine hK _ _ (trivial) (fun hHeld => ?_)
      clear hK K
      try simp only [Act.put, List.setIfInBounds_toArray, List.set_cons_zero, List.set_cons_succ]
      refine takeH (i := 12) (some 29) (v := ?_) rfl rfl (by kernel_rfl) (by kernel_rfl) (by kernel_rfl) (fun _ _ _ h => h) (by rfl) ?_ (by assumption) ?_
      rotate_left
      · (intro w hSw; (try dsimp only at hSw); go_simp; try with_reducible rfl)
      simp only [Act.put, List.setIfInBounds_toArray, List.set_cons_zero, List.set_cons_succ]
      refine wpAnyH_ready (rs := [13]) (by kernel_rfl) (by simp) ?_
      refine AllReadyH.cons rfl (fun K hK => ?_) AllReadyH.nil
      refine step_of rfl (wp_store_wide 47 (.tmp 29) (.tmp 25) rfl g (1 + j * 32) S0 rfl rfl D0 54 HDb.out Hfit.out hsz.out H1.out N1 HN.out ?_)
      refine hK _ _ (trivial) (fun hHeld => ?_)
      clear hK K
      try simp only [Act.put, List.setIfInBounds_toArray, List.set_cons_zero, List.set_cons_succ]
      refine wpAnyH_done (by kernel_rfl) ?_ _
      generalize hW3 : World.setRow w1.drew g N1 = w3
      obtain ⟨c3, hr3, hf3⟩ := HE.out w3 hW3.symm
      have Hr3 := Lib.hid hr3
      have Hf3 := Lib.hid hf3
      clear hr3 hf3 hW3
      go_wp2_with (at_delete; refine wpList_delete_ranges _ rfl _ _ 52 3 rfl 76 law3 Try.underlying52 _ mb w.heap.size k _ _ _ rfl Hr3.out _ _ rfl Hkj.out ?_; intro w4 cnt2 hrg4 hle hturn; go_frame)
      rw [Maps.strike_twice] at hrg4
      go_roundw
      case rel => exact ⟨_, cnt2, Hf3.out w4 cnt2 hrg4 hturn⟩
      case measure => have := Hlt.out; rw [hrg4.left_eq, Hr.out.left_eq]; omega
end Go.Proofs.Ytkldiofleepkfaa

/- What is asked of no disk at all; Size; Spoil. -/
namespace Go.Proofs.Ytkldiofleepkfaa
open Go.RowKit

theorem flush_nil (w : World) : Calls Try.prog 12 #[.pointer none] w fun e w' => e = .returned (.int .i64 1) ∧ w = w' := by
  go_enter Try.func12, Try.ntmps12
  go_wp2
  go_ret
  exact ⟨rfl, rfl⟩
theorem size_nil (w : World) : Calls Try.prog 53 #[.pointer none] w fun e w' => e = .returned (.int .i64 0) ∧ w = w' := by
  go_enter Try.func53, Try.ntmps53
  go_wp2
  go_ret
  exact ⟨rfl, rfl⟩
theorem size_yes (g : Nat) (n : Int) (w : World) (h : w.cell? ⟨g, 0, none⟩ = some (.int .i64 n)) : Calls Try.prog 53 #[.pointer (some ⟨g, 0, none⟩)] w fun e w' => e = .returned (.int .i64 n) ∧ w = w' := by
  go_enter Try.func53, Try.ntmps53
  go_wp2
  go_ret
  exact ⟨rfl, rfl⟩
theorem fork_nil (w : World) : Calls Try.prog 11 #[.pointer none] w fun e w' => e = .returned (.pointer none) ∧ w = w' := by
  go_enter Try.func11, Try.ntmps11
  go_wp2
  go_ret
  exact ⟨rfl, rfl⟩
end Go.Proofs.Ytkldiofleepkfaa

/- Lasting, Read and Write where the disk or the block is not there. -/
namespace Go.Proofs.Ytkldiofleepkfaa
open Go.RowKit

def noSec : List Int := List.replicate 32 0
theorem built36 : Try.prog.built 47 [] = some (bytesV noSec).toArray := by kernel_rfl
theorem noSec_len : noSec.length = 32 := List.length_replicate
set_option maxRecDepth 100000 in
set_option maxHeartbeats 1000000 in
/-- Lasting, where ask answers an error -/
theorem lasting_err (p : Value) (i e0 : Int) (w : World) (he : e0 ≠ 0) (A : ∀ W, Below w.heap.size w W → Calls Try.prog 34 #[p, .int .i64 i] W fun e w' => e = .returned (.int .i64 e0) ∧ W = w') :
    Calls Try.prog 28 #[p, .int .i64 i] w fun e w' => e = .returned (.tuple #[secV noSec, .int .i64 e0]) ∧ Below w.heap.size w w' := by
  have HA := Lib.hid A
  have hsz : Hid ((Try.prog.info? 47).map (·.size) = some (bytesV noSec).toArray.size) := by unfold Hid; rw [List.size_toArray, length_bytesV, noSec_len]; exact size36
  have hone : Hid ((bytesV noSec).toArray.all (·.oneCell') = true) := all_oneCell_toArray (bytesV_one _)
  have hbu := Lib.hid built36
  unfold secV
  obtain ⟨Z0, hZ0⟩ : ∃ Z0, Z0 = (bytesV noSec).toArray := ⟨_, rfl⟩
  have HZ := Lib.hid hZ0
  rw [← hZ0] at hsz hone hbu ⊢
  have hne : (e0 == 0) = false := by rw [beq_eq_false_iff_ne]; exact he
  have hne2 : (e0 != 0) = true := by simp [bne, hne]
  clear A hZ0 hne
  go_enter Try.func28, Try.ntmps28
  go_wp2_with fail
  generalize hW : w.alloc (Obj.cells _ 47) = w1
  have b1 : Hid (w1.heap[w.heap.size]? = some (.cells Z0 47 (0, 0))) := by rw [← hW, HZ.out]; exact heap_alloc_new w _
  have B1 : Hid (Below w.heap.size w w1) := by rw [← hW]; exact below_alloc1 w _
  have hfin := Lib.hid (setRow_heap w1 w.heap.size Z0 Z0 47 (0, 0) b1.out)
  have hbfin := Lib.hid (below_setRow B1.out (Nat.le_refl _) Z0)
  clear hW
  refine (HA.out w1 B1.out).mono ?_
  rintro e w' ⟨rfl, rfl⟩
  go_wp2_with (first
    | (refine wpList_build_eq rfl 47 [] rfl [] rfl Z0 hbu.out ?_)
    | (refine wpList_store_row rfl 47 (.tmp 4) (.tmp 12) rfl w.heap.size Z0 rfl rfl 47 Z0 b1.out hsz.out rfl hone.out ?_))
  refine bodyPost_ret (v := .tuple #[.agg Z0, .int .i64 e0]) ?_ rfl ⟨rfl, hbfin.out⟩
  exact results_cell_row_tmp rfl _ _ w.heap.size 47 Z0 (0, 0) _ rfl hfin.out Try.underlying47 rfl hsz.out _ rfl

set_option maxRecDepth 100000 in
/-- Write, where ask answers an error -/
theorem write_err (p : Value) (i e0 : Int) (s : List Int) (w : World) (he : e0 ≠ 0) (A : ∀ W, Below w.heap.size w W → Calls Try.prog 34 #[p, .int .i64 i] W fun e w' => e = .returned (.int .i64 e0) ∧ W = w') :
    Calls Try.prog 18 #[p, .int .i64 i, secV s] w fun e w' => e = .returned (.int .i64 e0) ∧ Below w.heap.size w w' := by
  have HA := Lib.hid A
  unfold secV
  obtain ⟨Z0, hZ0⟩ : ∃ Z0, Z0 = (bytesV s).toArray := ⟨_, rfl⟩
  rw [← hZ0]
  have hne : (e0 == 0) = false := by rw [beq_eq_false_iff_ne]; exact he
  have hne2 : (e0 != 0) = true := by simp [bne, hne]
  have B1 : Hid (Below w.heap.size w (w.alloc (.cells Z0 47))) := below_alloc1 w _
  clear A hZ0 hne
  go_enter Try.func18, Try.ntmps18
  go_wp2_with fail
  refine (HA.out _ B1.out).mono ?_
  rintro e w' ⟨rfl, rfl⟩
  go_wp2
  go_ret
  exact ⟨rfl, B1.out⟩
end Go.Proofs.Ytkldiofleepkfaa
