/- A disk on which nothing waits: New, Fork, Flush, Size. -/
import Derived.Test.YthibnnllecdpaaaC
import Derived.Maps.OwnSet
import Derived.Maps.RangeWalk
import Derived.Maps.Views
import Derived.Deep.MidRow
import Derived.Deep.WholeRow
import Derived.Laws.Tables
import Derived.Great.FillDense
namespace Go.Proofs.Ythibnnllecdpaaa
open Go.RowKit
open Go.Maps (Keyed)

/-- a disk's own cells at first: how many blocks, what lasts, what is bad -/
def heldL (n : Int) : List Value := [.int .i64 n] ++ List.replicate 3072 (.int .u8 0) ++ List.replicate 96 (.bool false)
theorem length_heldL (n : Int) : (heldL n).length = 3169 := by
  rw [heldL, List.length_append, List.length_append, List.length_replicate, List.length_replicate]; rfl
theorem built90 (n : Int) : Try.prog.built 90 [(0, .int .i64 n)] = some (heldL n).toArray := by kernel_rfl
theorem info93z : (Try.prog.info? 93).map (fun i => i.zero.map (·.cells.size)) = some (some 3170) := by kernel_rfl
theorem size90 : (Try.prog.info? 90).map (·.size) = some 3169 := by kernel_rfl
theorem size91 : (Try.prog.info? 91).map (·.size) = some 1 := by kernel_rfl
set_option maxRecDepth 100000 in
theorem built93 (H : Array Value) (hH : H.size = 3169) (m : Option Nat) : Try.prog.built 93 [(0, .agg H), (1, .map m)] = some (H.push (.map m)) := by
  obtain ⟨i, hi, hz⟩ := Option.map_eq_some_iff.1 info93z
  obtain ⟨z, hz, hzs⟩ := Option.map_eq_some_iff.1 hz
  obtain ⟨a, ha, has⟩ := Option.map_eq_some_iff.1 size90
  obtain ⟨b, hb, hbs⟩ := Option.map_eq_some_iff.1 size91
  unfold Program.built
  rw [hi, Try.underlying93]
  simp only [hz]
  have ca : (Value.agg H).cells = H := rfl
  have cm : (Value.map m).cells = #[.map m] := rfl
  obtain ⟨Z, hZ⟩ : ∃ Z, Z = z.cells := ⟨_, rfl⟩
  rw [← hZ] at hzs
  have hZ' : z.cells = Z := hZ.symm
  obtain ⟨g1, g2⟩ := Great.foldl_set 0 H.toList 0 Z
  have e : (Array.foldl (fun cs x => cs.setIfInBounds x.snd x.fst) Z H.zipIdx 0 3169) = ((H.toList.zipIdx 0).foldl (fun cs (x : Value × Nat) => cs.setIfInBounds (0 + x.2) x.1) Z) := by
    rw [← hH, ← Array.size_zipIdx (xs := H) (k := 0), ← Array.foldl_toList, Array.toList_zipIdx]
    simp
  simp [ha, hb, has, hbs, Instr.fill, ca, cm, hH, hZ', hzs]
  rw [e]
  refine ⟨by rw [g1, hzs]; omega, ?_⟩
  apply Array.ext_getElem?
  intro k
  rw [Array.getElem?_setIfInBounds, g2 k, g1, hzs, Array.getElem?_push, hH]
  simp only [Nat.zero_add, Array.length_toList, hH, Nat.sub_zero, Array.getElem?_toList]
  by_cases h1 : k = 3169
  · subst h1; simp
  · rw [if_neg (by omega), if_neg h1]
    by_cases h2 : k < 3169
    · rw [if_pos (by omega)]
    · rw [if_neg (by omega), Array.getElem?_eq_none (by omega), Array.getElem?_eq_none (by omega)]
theorem wpList_build_eq {P : Program} {ops : Array Oper} {rest : List Oper} {o : Oper} {a : Act} {w : World} {Q : Exit → Act → World → Prop} (hg : o.guard = none) (t : TypeId) (parts : List (Nat × Operand)) (ho : o.op = .build t parts.toArray)
    (L : List (Nat × Value)) (hL : parts.map (fun (i, x) => (i, a.eval x)) = L) (cs : Array Value) (hb : P.built t L = some cs)
    (h : wpList P ops Q rest (a.put o.dst (.agg cs)) w) : wpList P ops Q (o :: rest) a w := by
  have e : (parts.toArray.map fun (i, x) => (i, a.eval x)).toList = L := by simpa using hL
  exact wpList_build hg t parts.toArray ho (by rw [e, hb]; rfl) (by rw [e, hb]; exact h)
/-- how an element of a map reads here: as it stands -/
def RV (v : Value) : Option (DataW Value × List MemPlace) := some (.held v, [])
theorem law3 : Keyed Try.prog 3 := Go.Maps.int_keyed Try.underlying3
/-- a disk of n blocks on which nothing waits -/
def DiskE (w : World) (g : Nat) (n : Int) : Prop :=
  ∃ (H : Array Value) (mb : Nat), H.size = 3169 ∧ H[0]? = some (.int .i64 n) ∧ w.heap[g]? = some (.cells (H.push (.map (some mb))) 93 (0, 0)) ∧ w.ownsMap (H := Value) Try.prog 3 RV mb 0 (.map []) ∧ mb < w.heap.size
theorem DiskE.lt {w : World} {g : Nat} {n : Int} (h : DiskE w g n) : g < w.heap.size := by
  obtain ⟨H, mb, _, _, h, _⟩ := h
  exact (Array.getElem?_eq_some_iff.1 h).1
theorem DiskE.size {w : World} {g : Nat} {n : Int} (h : DiskE w g n) : w.cell? ⟨g, 0, none⟩ = some (.int .i64 n) := by
  obtain ⟨H, mb, h1, h2, h3, _⟩ := h
  rw [cell_of_row w g 0 _ 93 (0, 0) h3, Array.getElem?_push, if_neg (by omega)]
  exact h2
theorem DiskE.next {w w' : World} {g : Nat} {n : Int} (h : DiskE w g n) (hb : Below w.heap.size w w') : DiskE w' g n := by
  obtain ⟨H, mb, h1, h2, h3, h4, h5⟩ := h
  refine ⟨H, mb, h1, h2, ?_, h4.kept (row := none) ⟨hb.os, hb.tape, hb.output, hb.size, fun k hk _ => hb.block k hk⟩ (by simp), Nat.lt_of_lt_of_le h5 hb.size⟩
  rw [hb.block g (Array.getElem?_eq_some_iff.1 h3).1]
  exact h3
set_option maxRecDepth 100000 in
set_option maxHeartbeats 1000000 in
theorem dnew_yes (n : Int) (w : World) (h0 : 1 ≤ n) (h1 : n ≤ 96) :
    Calls Try.prog 27 #[.int .i64 n] w fun e w' => e = .returned (.pointer (some ⟨w.heap.size + 1, 0, none⟩)) ∧ DiskE w' (w.heap.size + 1) n ∧ Below w.heap.size w w' := by
  have hn1 : ¬ n < 1 := by omega
  have hn2 : ¬ (96 : Int) < n := by omega
  have b1 := Lib.hid (built90 n)
  have hsz : (heldL n).toArray.size = 3169 := by rw [List.size_toArray]; exact length_heldL n
  have b2 := Lib.hid (built93 (heldL n).toArray hsz (some w.heap.size))
  have hmm := @run_makeMap Try.prog
  have hfin : Hid (((w.alloc (.map #[] 0)).alloc (.cells ((heldL n).toArray.push (.map (some w.heap.size))) 93)).heap[w.heap.size + 1]? = some (.cells ((heldL n).toArray.push (.map (some w.heap.size))) 93 (0, 0))) := by
    have := heap_alloc_new (w.alloc (.map #[] 0)) (.cells ((heldL n).toArray.push (.map (some w.heap.size))) 93)
    unfold Hid
    simpa using this
  have hmap : Hid (((w.alloc (.map #[] 0)).alloc (.cells ((heldL n).toArray.push (.map (some w.heap.size))) 93)).ownsMap (H := Value) Try.prog 3 RV w.heap.size 0 (.map [])) := (World.ownsMap_made w Try.prog 3 RV).alloc _
  have hbel : Hid (Below w.heap.size w ((w.alloc (.map #[] 0)).alloc (.cells ((heldL n).toArray.push (.map (some w.heap.size))) 93))) := ((Below.refl _ w).alloc (Nat.le_refl _) _).alloc (by simp) _
  have h00 : Hid ((heldL n).toArray[0]? = some (.int .i64 n)) := rfl
  have Hsz := Lib.hid hsz
  generalize (heldL n).toArray = H0 at *
  obtain ⟨D0, hD0⟩ : ∃ D0, D0 = H0.push (.map (some w.heap.size)) := ⟨_, rfl⟩
  have HD := Lib.hid hD0
  rw [← hD0] at b2 hfin hmap hbel
  clear hD0 hsz
  go_enter Try.func27, Try.ntmps27
  go_wp2_with (first
    | (refine wpList_build_eq rfl 90 [(0, .tmp 9)] rfl [(0, .int .i64 n)] rfl H0 b1.out ?_)
    | (refine wpList_build_eq rfl 93 [(0, .tmp 10), (1, .tmp 11)] rfl [(0, .agg H0), (1, .map (some w.heap.size))] rfl D0 b2.out ?_)
    | (go_at_call 9999))
  go_ret
  exact ⟨rfl, ⟨H0, w.heap.size, Hsz.out, h00.out, by rw [← HD.out]; exact hfin.out, hmap.out, by simp; omega⟩, hbel.out⟩
theorem dsize_any (g : Nat) (n : Int) (w : World) (h : DiskE w g n) : Calls Try.prog 54 #[.pointer (some ⟨g, 0, none⟩)] w fun e w' => e = .returned (.int .i64 n) ∧ w = w' := by
  have := h.size
  go_enter Try.func54, Try.ntmps54
  go_wp2
  go_ret
  exact ⟨rfl, rfl⟩
theorem wpList_next_empty {P : Program} {ops : Array Oper} {rest : List Oper} {o : Oper} {a : Act} {w : World} {Q : Exit → Act → World → Prop} (hg : o.guard = none) (it : Operand) (hop : o.op = Op.next it false) (K : Keyed P 3) (hk : P.underlying 3 = some (.int .i64))
    (b r n cnt : Nat) (hit : a.eval it = .pointer (some ⟨r, 0, none⟩)) (D : DataW Value) (hD : D = .map []) (h : w.ranges P 3 RV b r n D (Maps.has D) cnt)
    (hDone : wpList P ops Q rest (a.put o.dst (.tuple #[.bool false])) w) : wpList P ops Q (o :: rest) a w :=
  wpList_next_ranges w hg it hop 3 K RV (Value.int .i64) (fun v => v) (fun key kl hkey => by obtain ⟨x, rfl, _⟩ := Maps.keyOf_int_inv hk hkey; exact ⟨x, rfl⟩) (fun v y _ => ⟨v, rfl⟩) b r n _ _ cnt hit h (fun _ _ => hDone)
    (fun x c kl y w' cnt' hkey hlk hv hat hrg hlt hgr hsz hen => by subst hD; simp [Maps.has] at hlk)
set_option maxRecDepth 100000 in
set_option maxHeartbeats 1000000 in
theorem dflush_any (g : Nat) (n : Int) (w : World) (h : DiskE w g n) :
    Calls Try.prog 49 #[.pointer (some ⟨g, 0, none⟩)] w fun e w' => e = .returned (.int .i64 0) ∧ Below w.heap.size w w' := by
  obtain ⟨H, mb, h1, h2, h3, h4, h5⟩ := h
  have hc : w.cell? ⟨g, 3169, none⟩ = some (.map (some mb)) := by
    rw [cell_of_row w g 3169 _ 93 (0, 0) h3, Array.getElem?_push, if_pos h1.symm]
  have hg := (Array.getElem?_eq_some_iff.1 h3).1
  have HM := Lib.hid h4
  clear h1 h2 h3 h4
  go_enter Try.func49, Try.ntmps49
  go_wp2_with (at_range; refine wpList_range_own _ rfl _ 91 rfl 3 104 law3 Try.underlying91 _ mb 0 (.map []) rfl HM.out ?_; intro w0 hrg0 hg0 hs0; have HR := Lib.hid hrg0; have HG := Lib.hid hg0; clear hrg0 hg0 hs0)
  go_frame
  refine wp_loop_rounds 1 ?_
  rw [rounds_succ]
  go_wp2_with (at_next; refine wpList_next_empty rfl _ rfl law3 Try.underlying3 mb w.heap.size 0 _ rfl (.map []) rfl HR.out ?_)
  go_ret
  exact ⟨rfl, ⟨HG.out.os, HG.out.tape, HG.out.output, HG.out.size, fun k hk => HG.out.block k hk (by simp)⟩⟩
set_option maxRecDepth 100000 in
set_option maxHeartbeats 1000000 in
theorem dfork_any (g : Nat) (n : Int) (w : World) (h : DiskE w g n) :
    Calls Try.prog 48 #[.pointer (some ⟨g, 0, none⟩)] w fun e w' => ∃ g', e = .returned (.pointer (some ⟨g', 0, none⟩)) ∧ DiskE w' g' n ∧ Below w.heap.size w w' := by
  obtain ⟨H, mb, h1, h2, h3, h4, h5⟩ := h
  have hc : w.cell? ⟨g, 3169, none⟩ = some (.map (some mb)) := by
    rw [cell_of_row w g 3169 _ 93 (0, 0) h3, Array.getElem?_push, if_pos h1.symm]
  have hg := (Array.getElem?_eq_some_iff.1 h3).1
  have hR : w.rangeAt g 0 H.toList := fun j v hv => by
    have hj := (List.getElem?_eq_some_iff.1 hv).1
    rw [Nat.zero_add, cell_of_row w g j _ 93 (0, 0) h3, Array.getElem?_push, if_neg (by rw [Array.length_toList] at hj; omega)]
    simpa using hv
  have b2 := Lib.hid (built93 H h1 (some w.heap.size))
  have hsz : Hid ((Try.prog.info? 90).map (·.size) = some H.toList.length) := by unfold Hid; rw [Array.length_toList, h1]; exact size90
  have hmm := @run_makeMap Try.prog
  have hfin : Hid (((w.alloc (.map #[] 0)).alloc (.cells (H.push (.map (some w.heap.size))) 93)).heap[w.heap.size + 1]? = some (.cells (H.push (.map (some w.heap.size))) 93 (0, 0))) := by
    have := heap_alloc_new (w.alloc (.map #[] 0)) (.cells (H.push (.map (some w.heap.size))) 93)
    unfold Hid
    simpa using this
  have hmap : Hid (((w.alloc (.map #[] 0)).alloc (.cells (H.push (.map (some w.heap.size))) 93)).ownsMap (H := Value) Try.prog 3 RV w.heap.size 0 (.map [])) := (World.ownsMap_made w Try.prog 3 RV).alloc _
  have hbel : Hid (Below w.heap.size w ((w.alloc (.map #[] 0)).alloc (.cells (H.push (.map (some w.heap.size))) 93))) := ((Below.refl _ w).alloc (Nat.le_refl _) _).alloc (by simp) _
  have HM : Hid (((w.alloc (.map #[] 0)).alloc (.cells (H.push (.map (some w.heap.size))) 93)).ownsMap (H := Value) Try.prog 3 RV mb 0 (.map [])) := (h4.alloc _).alloc _
  obtain ⟨D0, hD0⟩ : ∃ D0, D0 = H.push (.map (some w.heap.size)) := ⟨_, rfl⟩
  have HD := Lib.hid hD0
  have HRg := Lib.hid hR
  have H1 := Lib.hid h1
  have H2 := Lib.hid h2
  rw [← hD0] at b2 hfin hmap hbel HM
  obtain ⟨L, hL⟩ : ∃ L, L = H.toList := ⟨_, rfl⟩
  rw [← hL] at hsz HRg
  have hLA : Hid (L.toArray = H) := by unfold Hid; rw [hL]
  have b2' : Hid (Try.prog.built 93 [(0, .agg L.toArray), (1, .map (some w.heap.size))] = some D0) := by unfold Hid; rw [hLA.out]; exact b2.out
  clear hD0 hR h1 h2 h3 h4 hL b2
  go_enter Try.func48, Try.ntmps48
  go_wp2_with (first
    | (refine wpList_load_mid rfl 90 (.tmp 10) rfl g 0 rfl L _ HRg.out Try.underlying90 rfl hsz.out ?_)
    | (refine wpList_build_eq rfl 93 [(0, .tmp 11), (1, .tmp 12)] rfl [(0, .agg L.toArray), (1, .map (some w.heap.size))] rfl D0 b2'.out ?_)
    | (at_range; refine wpList_range_own _ rfl _ 91 rfl 3 104 law3 Try.underlying91 _ mb 0 (.map []) rfl HM.out ?_; intro w0 hrg0 hg0 hs0; have HR := Lib.hid hrg0; have HG := Lib.hid hg0; clear hrg0 hg0 hs0))
  go_frame
  refine wp_loop_rounds 1 ?_
  rw [rounds_succ]
  go_wp2_with (at_next; refine wpList_next_empty rfl _ rfl law3 Try.underlying3 mb _ 0 _ rfl (.map []) rfl HR.out ?_)
  go_ret
  have hb2 : Below w.heap.size w w0 := hbel.out.trans ⟨HG.out.os, HG.out.tape, HG.out.output, HG.out.size, fun k hk => HG.out.block k (by simp; omega) (by simp)⟩
  refine ⟨_, rfl, ⟨H, w.heap.size, H1.out, H2.out, ?_, hmap.out.kept (row := none) HG.out (by simp), ?_⟩, hb2⟩
  · rw [HG.out.block (w.heap.size + 1) (by simp) (by simp), hfin.out, HD.out]
  · have := HG.out.size; simp at this; omega
end Go.Proofs.Ythibnnllecdpaaa
