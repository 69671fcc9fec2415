/- The program's Base, Fork, New. -/
import Derived.Test.YtibkipdadpidnaaY
set_option linter.unusedVariables false
set_option linter.unusedSimpArgs false
namespace Go.Proofs.Ytibkipdadpidnaa
open Go.RowKit
open Pat (Pt AllB undoP nth)
theorem run_copy_wide {P : Program} (w : World) (dT sT ty elem : TypeId) (g o dLen dCap : Nat) (a : Addr) (sLen sCap sz : Nat) (cur : Array Value) (t : TypeId) (cs : List Value)
    (hu : P.underlying dT = some (.slice elem)) (hs : (P.info? elem).map (·.size) = some sz)
    (hg : w.heap[g]? = some (.cells cur t (0, 0))) (hn : cs.length = Nat.min sLen dLen * sz)
    (hsrc : ∀ j v, cs[j]? = some v → w.cell? (a.add j) = some v) (hfit : o + cs.length ≤ cur.size) (h1 : ∀ v ∈ cs, v.oneCell' = true) :
    (Builtin.copy_ #[dT, sT] ty #[.slice (some ⟨g, o, none⟩) dLen dCap, .slice (some a) sLen sCap]).run P w =
      .ok (goInt (Nat.min sLen dLen)) (w.setRow g (splice cur.toList o cs).toArray) := by
  have hl := run_loadCells_list (P := P) w a cs hsrc
  have hst := run_storeCells_at P g o t cs 0 cur w hg (by simpa using hfit) h1
  cases hq : P.info? elem with
  | none => simp [hq] at hs
  | some i =>
    have hi : i.size = sz := by simpa [hq] using hs
    simp [Builtin.copy_, run_underlying hu, Builtin.lenOf, Builtin.firstCells, sizeOf, typeInfo, hq, hi, ← hn, hl, hst, splice]
theorem wpList_copy_wide {P : Program} {w : World} {ops : Array Oper} {rest : List Oper} {o : Oper} {a : Act} {Q : Exit → Act → World → Prop} (hgd : o.guard = none) (d s : Operand) (dT sT : TypeId)
    (ho : o.op = .call { callee := .builtin .copy, args := #[d, s], argTypes := #[dT, sT] }) (elem : TypeId) (sz : Nat) (hu : P.underlying dT = some (.slice elem)) (hsz : (P.info? elem).map (·.size) = some sz)
    (g off dLen dCap : Nat) (ad : Addr) (sLen sCap : Nat) (hd : a.eval d = .slice (some ⟨g, off, none⟩) dLen dCap) (hs : a.eval s = .slice (some ad) sLen sCap)
    (cur : Array Value) (t : TypeId) (hg : w.heap[g]? = some (.cells cur t (0, 0))) (cs : List Value) (hn : cs.length = Nat.min sLen dLen * sz)
    (hsrc : ∀ j v, cs[j]? = some v → w.cell? (ad.add j) = some v) (hfit : off + cs.length ≤ cur.size) (h1 : ∀ v ∈ cs, v.oneCell' = true)
    (N : Array Value) (hN : (splice cur.toList off cs).toArray = N)
    (h : wpList P ops Q rest (a.put o.dst (goInt (Nat.min sLen dLen))) (w.setRow g N)) : wpList P ops Q (o :: rest) a w := by
  subst hN
  refine wpList_plain hgd fun K hK => ?_
  have hrun := run_copy_wide (P := P) w dT sT o.type elem g off dLen dCap ad sLen sCap sz cur t cs hu hsz hg hn hsrc hfit h1
  unfold Oper.wp
  simp [execOp, ho, resolve, invoke, builtin, hd, hs, hrun, Result.andThen]
  exact hK _ _ h


theorem size82 : (Try.prog.info? 82).map (·.size) = some 34 := by kernel_rfl
def stkV (f : List Int) (k : Int) (v : Value) : List Value := Pat.bytesV f ++ [.int .i64 k, v]
theorem length_stkV {f : List Int} {k : Int} {v : Value} (h : f.length = 32) : (stkV f k v).length = 34 := by unfold stkV; rw [List.length_append, Pat.length_bytesV, h]; rfl
theorem topV_one (L : List Ly) : (topV L).oneCell' = true := by obtain ⟨o, h⟩ := topV_ptr L; rw [h]; rfl
section
variable (B g : Nat) (L : List Ly) (s : Sk) (w : World)
set_option maxRecDepth 100000 in
set_option maxHeartbeats 2000000 in
theorem pbase_any (hC : StkAt B w g L s) : Calls Try.prog 22 #[.pointer (some ⟨g, 0, none⟩)] w fun e w' => ∃ d, e = .returned (.slice (some ⟨d, 0, none⟩) 32 32) ∧ Pat.BlkIs w' d 71 (Pat.bytesV s.f) ∧ w.heap.size ≤ d ∧ Below w.heap.size w w' := by
  have hlen := hC.len
  obtain ⟨R0, hR0⟩ : ∃ R0, R0 = Pat.bytesV s.f := ⟨_, rfl⟩
  have HR0 := Lib.hid hR0
  have hrg := Lib.hid hC.range
  have hg := hC.glt
  have hsz : Hid ((Try.prog.info? 71).map (·.size) = some R0.length) := by unfold Hid; rw [hR0, Pat.length_bytesV, hlen]; exact size71
  have hsz2 : Hid ((Try.prog.info? 71).map (·.size) = some R0.toArray.size) := by unfold Hid; rw [hR0, List.size_toArray, Pat.length_bytesV, hlen]; exact size71
  have hone : Hid (R0.toArray.all (·.oneCell') = true) := by unfold Hid; rw [hR0]; exact all_oneCell_toArray (Pat.bytesV_one _)
  have hold : Hid ((Pat.bytesV (List.replicate 32 0)).toArray.size = R0.toArray.size) := by unfold Hid; rw [hR0, List.size_toArray, List.size_toArray, Pat.length_bytesV, Pat.length_bytesV, hlen]; rfl
  rw [← hR0] at hrg
  clear hC hR0 hlen
  go_enter Try.func22, Try.ntmps22
  go_wp2_with (first
    | (refine wpList_load_mid rfl 71 (.tmp 8) rfl g 0 rfl R0 _ hrg.out Try.underlying71 rfl hsz.out ?_)
    | (generalize hW : w.alloc (Obj.cells _ 71) = w6; have b6 : Hid (w6.heap[w.heap.size]? = some (.cells (Pat.bytesV (List.replicate 32 0)).toArray 71 (0, 0))) := (by rw [← hW]; exact heap_alloc_new w _); have B6 : Hid (Below w.heap.size w w6) := (by rw [← hW]; exact Pat.below_alloc1 w _); have b7 := Lib.hid (setRow_heap w6 w.heap.size _ R0.toArray 71 (0, 0) b6.out); have B7 := Lib.hid (below_setRow B6.out (Nat.le_refl _) R0.toArray); clear hW; refine wpList_store_row rfl 71 (.tmp 3) (.tmp 9) rfl w.heap.size R0.toArray rfl rfl 71 _ b6.out hsz2.out hold.out hone.out ?_; generalize w6.setRow w.heap.size R0.toArray = w7 at *))
  go_ret
  exact ⟨w.heap.size, rfl, by rw [← HR0.out]; exact b7.out, Nat.le_refl _, B7.out⟩
set_option maxRecDepth 100000 in
set_option maxHeartbeats 2000000 in
theorem pfork_any (hC : StkAt B w g L s) : Calls Try.prog 28 #[.pointer (some ⟨g, 0, none⟩)] w fun e w' => ∃ d, e = .returned (.pointer (some ⟨d, 0, none⟩)) ∧ StkAt w.heap.size w' d L s ∧ Below w.heap.size w w' := by
  have hlen := hC.len
  obtain ⟨R0, hR0⟩ : ∃ R0, R0 = stkV s.f s.k (topV L) := ⟨_, rfl⟩
  have HR0 := Lib.hid hR0
  have HC := Lib.hid hC
  have hrg : Hid (w.rangeAt g 0 (stkV s.f s.k (topV L))) := fun j v hv => by
    rw [Nat.zero_add, cell_of_row w g j _ _ (0, 0) hC.head, List.getElem?_toArray]; exact hv
  have hg := hC.glt
  have hll : R0.length = 34 := by rw [hR0]; exact length_stkV hlen
  have hsz : Hid ((Try.prog.info? 82).map (·.size) = some R0.length) := by unfold Hid; rw [hll]; exact size82
  have hsz2 : Hid ((Try.prog.info? 82).map (·.size) = some R0.toArray.size) := by unfold Hid; rw [List.size_toArray, hll]; exact size82
  have hone : Hid (R0.toArray.all (·.oneCell') = true) := by
    unfold Hid; rw [hR0]
    refine all_oneCell_toArray (fun v hv => ?_)
    rcases List.mem_append.1 hv with h | h
    · exact Pat.bytesV_one _ v h
    · simp at h; rcases h with rfl | rfl
      · rfl
      · exact topV_one L
  have hold : Hid ((stkV (List.replicate 32 0) 0 (.pointer none)).toArray.size = R0.toArray.size) := by unfold Hid; rw [List.size_toArray, List.size_toArray, hll]; rfl
  rw [← hR0] at hrg
  clear hC hR0 hlen hll
  go_enter Try.func28, Try.ntmps28
  go_wp2_with (first
    | (refine wpList_load_mid rfl 82 (.tmp 7) rfl g 0 rfl R0 _ hrg.out Try.underlying82 rfl hsz.out ?_)
    | (generalize hW : w.alloc (Obj.cells _ 82) = w6; have b6 : Hid (w6.heap[w.heap.size]? = some (.cells (stkV (List.replicate 32 0) 0 (.pointer none)).toArray 82 (0, 0))) := (by rw [← hW]; exact heap_alloc_new w _); have B6 : Hid (Below w.heap.size w w6) := (by rw [← hW]; exact Pat.below_alloc1 w _); have b7 := Lib.hid (setRow_heap w6 w.heap.size _ R0.toArray 82 (0, 0) b6.out); have B7 := Lib.hid (below_setRow B6.out (Nat.le_refl _) R0.toArray); clear hW; refine wpList_store_row rfl 82 (.tmp 3) (.tmp 8) rfl w.heap.size R0.toArray rfl rfl 82 _ b6.out hsz2.out hold.out hone.out ?_; generalize w6.setRow w.heap.size R0.toArray = w7 at *))
  go_ret
  exact ⟨w.heap.size, rfl, ⟨by rw [HR0.out] at b7; exact b7.out, HC.out.ch.fresh B7.out, HC.out.xs, Nat.le_refl _, HC.out.len, HC.out.all⟩, B7.out⟩
end
set_option maxRecDepth 100000 in
set_option maxHeartbeats 2000000 in
theorem pnew_any (A : Option Addr) (c : Nat) (f : List Int) (w : World) (hf : f.length = 32) (hb : Pat.Bts w w.heap.size A f) :
    Calls Try.prog 31 #[.slice A 32 c] w fun e w' => ∃ g, e = .returned (.pointer (some ⟨g, 0, none⟩)) ∧ StkAt w.heap.size w' g [] ⟨f, [], 0⟩ ∧ Below w.heap.size w w' := by
  obtain ⟨ab, off, rfl, hab, hcell⟩ := hb.2 (by omega)
  have HA := Lib.hid hb.1
  have HF := Lib.hid hf
  have hsrc : Hid (∀ V, Below w.heap.size w V → ∀ j v, (Pat.bytesV f)[j]? = some v → V.cell? ((⟨ab, off, none⟩ : Addr).add j) = some v) := fun V hV j v hv => by
    rw [Addr.add_mid]
    have hj : j < f.length := by have := (List.getElem?_eq_some_iff.1 hv).1; rwa [Pat.length_bytesV] at this
    rw [hV.cell (p := ⟨ab, off + j, none⟩) hab, hcell j hj]
    rw [Pat.bytesV, List.getElem?_map, List.getElem?_eq_getElem hj] at hv
    rw [← hv, Pat.nth_lt hj]; rfl
  have hN : Hid ((splice (stkV (List.replicate 32 0) 0 (.pointer none)) 0 (Pat.bytesV f)).toArray = (stkV f 0 (.pointer none)).toArray) := by
    unfold Hid
    congr 1
    unfold splice stkV
    rw [List.take_zero, List.nil_append, Pat.length_bytesV, hf, List.drop_left' (by rw [Pat.length_bytesV]; rfl)]
  have h1 := Lib.hid (Pat.bytesV_one f)
  clear hb hf hcell
  go_enter Try.func31, Try.ntmps31
  go_wp2_with (generalize hW : w.alloc (Obj.cells _ 82) = w6; have b6 : Hid (w6.heap[w.heap.size]? = some (.cells (stkV (List.replicate 32 0) 0 (.pointer none)).toArray 82 (0, 0))) := (by rw [← hW]; exact heap_alloc_new w _); have B6 : Hid (Below w.heap.size w w6) := (by rw [← hW]; exact Pat.below_alloc1 w _); have b7 := Lib.hid (setRow_heap w6 w.heap.size _ (stkV f 0 (.pointer none)).toArray 82 (0, 0) b6.out); have B7 := Lib.hid (below_setRow B6.out (Nat.le_refl _) (stkV f 0 (.pointer none)).toArray); clear hW; refine wpList_copy_wide rfl (.tmp 12) (.tmp 13) 22 22 rfl 5 1 Try.underlying22 Pat.size5 w.heap.size 0 32 32 ⟨ab, off, none⟩ 32 c rfl rfl _ 82 b6.out (Pat.bytesV f) (by rw [Pat.length_bytesV, HF.out]; rfl) (hsrc.out w6 B6.out) (by rw [Pat.length_bytesV, HF.out, List.size_toArray, length_stkV (by rfl)]; decide) h1.out _ hN.out ?_; generalize w6.setRow w.heap.size (stkV f 0 (.pointer none)).toArray = w7 at *)
  go_ret
  exact ⟨w.heap.size, rfl, ⟨b7.out, (fun i hi => by cases hi), rfl, Nat.le_refl _, HF.out, HA.out⟩, B7.out⟩
theorem pnew_short (A : Option Addr) (n c : Nat) (w : World) (hn : n ≠ 32) :
    Calls Try.prog 31 #[.slice A n c] w fun e w' => e = .returned (.pointer none) ∧ w = w' := by
  have h0 : ((n : Int) != 32) = true := by simp; omega
  go_enter Try.func31, Try.ntmps31
  go_wp2
  go_ret
  exact ⟨rfl, rfl⟩
end Go.Proofs.Ytibkipdadpidnaa
