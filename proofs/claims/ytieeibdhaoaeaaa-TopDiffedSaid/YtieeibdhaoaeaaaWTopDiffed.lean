/- The walk of TopDiffed. -/
import Derived.Test.YtieeibdhaoaeaaaHV
import Derived.ChangeKeysEq
import Derived.Laws.StructEq
namespace Go.Proofs.Ytieeibdhaoaeaaa
open Go.RowKit

/-- a load of a row that is guarded, and wanted -/
theorem wpList_load_row_on {P : Program} {ops : Array Oper} {rest : List Oper} {o : Oper} {a : Act} {w : World} {Q : Exit → Act → World → Prop} (hw : Region.wanted o (yielded ops a.tmps) = true) (ty : TypeId) (x : Operand) (ho : o.op = .load ty x)
    (g : Nat) (hx : a.eval x = .pointer (some ⟨g, 0, none⟩)) (t : TypeId) (cs : Array Value) (fr : Nat × Nat) (d : TypeDesc) (hg : w.heap[g]? = some (.cells cs t fr))
    (hu : P.underlying ty = some d) (hd : (match d with | .struct _ | .array _ _ => true | _ => false) = true) (hi : (P.info? ty).map (·.size) = some cs.size)
    (h : wpList P ops Q rest (a.put o.dst (.agg cs)) w) : wpList P ops Q (o :: rest) a w :=
  wpList_step fun K hK => by rw [if_pos hw]; exact wp_load_row ty x ho g hx t cs fr d hg hu hd hi (hK _ _ h)
/-- what stands in memory once the disk is there -/
structure Stands (w W : World) (a b : List Int) (L : List Int) : Prop where
  below : Below w.heap.size w W
  size : w.heap.size + 5 ≤ W.heap.size
  one : BlkIs W w.heap.size 35 (bytesV a)
  two : BlkIs W (w.heap.size + 1) 35 (bytesV b)
  disk : DiskAt W (w.heap.size + 4) 1 L goodB (w.heap.size + 3)
theorem Stands.next {w W W' : World} {a b L : List Int} (h : Stands w W a b L) (hB : Below W.heap.size W W') : Stands w W' a b L := by
  have := h.size
  exact ⟨h.below.trans (hB.mono (by omega)), Nat.le_trans h.size hB.size, h.one.below hB (by omega), h.two.below hB (by omega), h.disk.below hB (by omega)⟩
theorem map_next {W W' : World} {mb k : Nat} {D : DataW Value} (h : W.ownsMap Try.prog 3 RV mb k D) (hB : Below W.heap.size W W') : W'.ownsMap Try.prog 3 RV mb k D := by
  have hl := h.lt
  obtain ⟨es, clock, hb, F, hs, hD⟩ := h
  exact ⟨es, clock, (hB.block mb hl).trans hb, F, hs, hD⟩


theorem stands_grown {w W W' : World} {a b L : List Int} (h : Stands w W a b L) (hg : W.grownBy W' (some (w.heap.size + 3))) : Stands w W' a b L := by
  have := h.size
  refine ⟨⟨hg.os.trans h.below.os, hg.tape.trans h.below.tape, hg.output.trans h.below.output, Nat.le_trans h.below.size hg.size, fun k hk => (hg.block k (by omega) (by simp; omega)).trans (h.below.block k hk)⟩, Nat.le_trans h.size hg.size,
    (hg.block _ (by omega) (by simp)).trans h.one, (hg.block _ (by omega) (by simp)).trans h.two, ?_⟩
  exact ⟨(hg.block _ (by omega) (by simp)).trans h.disk.blk, h.disk.lo, h.disk.hi, h.disk.lenL, h.disk.lenB, h.disk.allL⟩
theorem stands_read {w W : World} {a b L : List Int} (h : Stands w W a b L) (hm : W.ownsMap (H := Value) Try.prog 3 RV (w.heap.size + 3) 0 (.map [])) (hs : sec L 0 = a) :
    Calls Try.prog 20 #[.pointer (some ⟨w.heap.size + 4, 0, none⟩), .int .i64 0] W fun e w' => e = .returned (.tuple #[.agg (bytesV a).toArray, .int .i64 0]) ∧ Below W.heap.size W w' := by
  have := read_none (w.heap.size + 4) 1 L goodB (w.heap.size + 3) 0 0 (.map []) W h.disk (by decide) hm rfl
  rw [hs] at this
  exact this
theorem stands_last {w W : World} {b L : List Int} (h : DiskAt W (w.heap.size + 4) 1 L goodB (w.heap.size + 3)) (hs : sec L 0 = b) :
    Calls Try.prog 16 #[.pointer (some ⟨w.heap.size + 4, 0, none⟩), .int .i64 0] W fun e w' => e = .returned (.tuple #[.agg (bytesV b).toArray, .int .i64 0]) ∧ Below W.heap.size W w' := by
  have := lasting_yes (w.heap.size + 4) 1 L goodB (w.heap.size + 3) 0 W h (by decide)
  rw [hs] at this
  exact this
theorem stands_diff {w W : World} {a b L : List Int} (h : Stands w W a b L) (ha : a.length = 32) (hb : b.length = 32) (haa : AllB a) (hba : AllB b) :
    Calls Try.prog 32 #[.int .i64 0, .slice (some ⟨w.heap.size, 0, none⟩) 32 32, .slice (some ⟨w.heap.size + 1, 0, none⟩) 32 32] W fun e w' => ∃ v, e = .returned v ∧ OwnP w' W.heap.size v (diffP 0 b (df a b) 32) ∧ Below W.heap.size W w' :=
  have := h.size
  diff_yes 0 _ _ 32 32 a b W (by decide) (by decide) (row_bts h.one haa (by omega)) (row_bts h.two hba (by omega)) ha hb (by decide)
theorem ok_of' {p : Pt} (h : p.right = true) : p.ok := by
  obtain ⟨h1, h2, h3, h4, h5, h6⟩ := Pt.right_out h
  exact ⟨by omega, by omega, by unfold maxLen; omega⟩
theorem all_makes {W : World} {g B : Nat} {v : Value} {a b : List Int} (hg : BlkIs W g 36 (bytesV a)) (ho : OwnP W B v (diffP 0 b (df a b) 32)) (ha : a.length = 32) (hb : b.length = 32) (haa : AllB a) (hba : AllB b) :
    Calls Try.prog 31 #[.slice (some ⟨g, 0, none⟩) 32 32, v] W fun e w' => ∃ x o c, e = .returned (.tuple #[.slice (some ⟨x, o, none⟩) 32 c, .int .i64 0]) ∧ w'.rangeAt x o (bytesV b) ∧ x < w'.heap.size ∧ Below W.heap.size W w' := by
  obtain ⟨A, c, rfl, hc, _, hP⟩ := ho.form
  have hn := length_diffP 0 b (df a b) 32
  have h := all_any (some ⟨g, 0, none⟩) A 32 c a _ W (row_bts hg haa hg.lt) ha hP (by omega) (fun k hk => ok_of' (diff_right (bl := 0) a (by decide) (by decide) hb _ (by rw [pn_lt hk]; exact List.getElem_mem hk)))
  rw [diff_makes (by decide) (by decide) ha hb hba] at h
  refine h.mono ?_
  rintro e w' ⟨hB, A', c', rfl, _, _, hbt, _⟩
  obtain ⟨x, o, rfl, hx, _⟩ := hbt.at_ (show 0 < b.length by omega)
  exact ⟨x, o, c', rfl, hbt.src, hx, hB⟩
theorem waits_one {W w' : World} {g mb k : Nat} {n : Int} {b : List Int} (hn : 0 < n) (hb : b.length = 32) (hba : AllB b) (hg : g < W.heap.size) (hm : mb < W.heap.size) (h : Wrote W w' mb k (.map []) 0 b) :
    ∃ D, w'.ownsMap Try.prog 3 RV mb (k + 1) D ∧ Maps.has D (.int .i64 0) = true ∧ Waits w' g mb n D (fun _ => b) ∧ W.grownBy w' (some mb) := by
  obtain ⟨gv, cap, hgv, hm6, ho, hgr⟩ := h
  refine ⟨_, hm6, Maps.has_put_same Maps.isMap_empty (show WideAt.IsKeyLit (.int .i64 ((0 : Nat) : Int)) from trivial) _, fun i hi => ?_, hgr⟩
  have hi0 : i = 0 := by
    by_cases e : (Lit.int .i64 i) = .int .i64 ((0 : Nat) : Int)
    · injection e
    · rw [Maps.has_put_other e] at hi
      cases hi
  subst hi0
  refine ⟨0, gv, 0, cap, rfl, hn, fun z => Maps.atKey_put_same Maps.isMap_empty (show WideAt.IsKeyLit (.int .i64 ((0 : Nat) : Int)) from trivial) _ z, by decide, fun j u hj => ?_, hb, hba, by omega, by omega, (ho.lt gv rfl).2⟩
  have hj' : j < 32 := by
    rcases Nat.lt_or_ge j 32 with h1 | h1
    · exact h1
    · rw [List.getElem?_eq_none (by rw [length_bytesV, hb]; exact h1)] at hj; cases hj
  rw [Nat.zero_mul, Nat.zero_add, ho.cellAt j (by omega), rowL, List.getElem?_append_left (by rw [length_bytesV, hb]; exact hj'), hj]
theorem items_same (d : Nat) (xs : Array Value) (w : World) (h : ∀ i, i < 32 → ∃ k a, xs[i]? = some (.int k a)) : ∀ is : List Nat, (∀ i ∈ is, i < 32) → (Op.eqItems (d + 1) 5 (Try.prog.cellsOf 5) xs xs is).run Try.prog w = .ok true w
  | [], _ => by simp [Op.eqItems]
  | i :: is, hi => by
    obtain ⟨k, a, hx⟩ := h i (hi i (by simp))
    have hc : Try.prog.cellsOf 5 = 1 := by kernel_rfl
    have hp := run_part_plain (P := Try.prog) (w := w) (e := 5) (by kernel_rfl) (off := i * Try.prog.cellsOf 5) (v := .int k a) (by rw [hc, Nat.mul_one]; exact hx)
    have he := run_equalIn_int (P := Try.prog) w d 5 k .u8 a a Try.underlying5
    have ih := items_same d xs w h is (fun j hj => hi j (by simp [hj]))
    simp only [Op.eqItems, Sem.run_bind, hp, Result.andThen_ok, he, beq_self_eq_true, Bool.not_true, Bool.false_eq_true, if_false, ih]
theorem eq36 (b : List Int) (hb : b.length = 32) (w : World) : (Op.equalIn 10000 36 (.agg (bytesV b).toArray) (.agg (bytesV b).toArray)).run Try.prog w = .ok true w := by
  obtain ⟨i5, hi5, _⟩ := Option.map_eq_some_iff.1 size5
  rw [show (10000 : Nat) = 9999 + 1 from rfl, run_equalIn_array (P := Try.prog) w 9999 _ _ Try.underlying36 hi5]
  refine items_same 9998 _ w (fun i hi => ⟨.u8, nth b i, ?_⟩) _ (fun i hi => List.mem_range.1 hi)
  rw [List.getElem?_toArray, bytesV, List.getElem?_map, List.getElem?_eq_getElem (by omega), nth_lt (by omega)]
  rfl
set_option maxRecDepth 100000 in
set_option maxHeartbeats 2000000 in
theorem walk (a b : List Int) (w : World) (ha : a.length = 32) (hb : b.length = 32) (haa : AllB a) (hba : AllB b) :
    Calls Try.prog 11 #[.agg (bytesV a).toArray, .agg (bytesV b).toArray] w fun e w' => e = .returned (.bool true) ∧ Below w.heap.size w w' := by
  obtain ⟨i0, hi0, hz0, hz1⟩ : ∃ i0, Try.prog.info? 36 = some i0 ∧ i0.zero = some (.agg (bytesV (List.replicate 32 0)).toArray) ∧ i0.size = 32 := by
    have := info36
    cases hq : Try.prog.info? 36 with
    | none => simp [hq] at this
    | some i => simp [hq] at this; exact ⟨i, rfl, this.1, this.2⟩
  have F36 := Lib.hid (fill36 a ha)
  have hszA : Hid ((Try.prog.info? 36).map (·.size) = some (bytesV a).toArray.size) := by unfold Hid; rw [List.size_toArray, length_bytesV, ha]; exact size36
  have hszB : Hid ((Try.prog.info? 36).map (·.size) = some (bytesV b).toArray.size) := by unfold Hid; rw [List.size_toArray, length_bytesV, hb]; exact size36
  have hszB35 : Hid ((Try.prog.info? 35).map (·.size) = some (bytesV b).toArray.size) := by unfold Hid; rw [List.size_toArray, length_bytesV, hb]; kernel_rfl
  have h32A : Hid (32 = (bytesV a).toArray.size) := by unfold Hid; rw [List.size_toArray, length_bytesV, ha]
  have h32B : Hid (32 = (bytesV b).toArray.size) := by unfold Hid; rw [List.size_toArray, length_bytesV, hb]
  have honeA : Hid ((bytesV a).toArray.all (·.oneCell') = true) := all_oneCell_toArray (bytesV_one _)
  have honeB : Hid ((bytesV b).toArray.all (·.oneCell') = true) := all_oneCell_toArray (bytesV_one _)
  have EQ := Lib.hid (eq36 b hb)
  have hL0 : Hid (sec (splice zeroL 0 a) 0 = a) := by
    have := sec_set (i := 0) (j := 0) zeroL_len ha (by decide) (by decide)
    rw [if_pos rfl] at this
    exact this
  obtain ⟨L0, hL0e⟩ : ∃ L0, L0 = splice zeroL 0 a := ⟨_, rfl⟩
  rw [← hL0e] at hL0
  have hsz35 : Hid ((Try.prog.info? 35).map (·.size) = some (bytesV a).toArray.size) := by unfold Hid; rw [List.size_toArray, length_bytesV, ha]; kernel_rfl
  obtain ⟨A0, hA0⟩ : ∃ A0, A0 = (bytesV a).toArray := ⟨_, rfl⟩
  obtain ⟨B0, hB0⟩ : ∃ B0, B0 = (bytesV b).toArray := ⟨_, rfl⟩
  rw [← hA0] at F36 hsz35 hszA h32A honeA ⊢
  rw [← hB0] at hszB hszB35 h32B honeB EQ ⊢
  have HA := Lib.hid hA0
  have HB := Lib.hid hB0
  have Ha := Lib.hid ha
  have Hb := Lib.hid hb
  have Haa := Lib.hid haa
  have Hba := Lib.hid hba
  have HL : Hid (∀ w1 w2 w3 : World, w1 = w.alloc (.cells A0 35) → w2 = w1.alloc (.cells B0 35) → w3 = w2.alloc (.cells A0 36) → w3.heap.size = w.heap.size + 3 ∧ Calls Try.prog 24 #[.slice (some ⟨w.heap.size + 2, 0, none⟩) 1 1] w3 fun e w' => e = .returned (.pointer (some ⟨w.heap.size + 4, 0, none⟩)) ∧
      Stands w w' a b L0 ∧ w'.ownsMap (H := Value) Try.prog 3 RV (w.heap.size + 3) 0 (.map [])) := by
    intro w1 w2 w3 e1 e2 e3
    have s1 : w1.heap.size = w.heap.size + 1 := by rw [e1]; exact size_alloc1 w _
    have s2 : w2.heap.size = w.heap.size + 2 := by rw [e2, size_alloc1, s1]
    have s3 : w3.heap.size = w.heap.size + 3 := by rw [e3, size_alloc1, s2]
    have b1 : Below w.heap.size w w3 := by
      have x1 : Below w.heap.size w w1 := by rw [e1]; exact below_alloc1 w _
      have x2 : Below w.heap.size w w2 := by rw [e2]; exact x1.alloc (by omega) _
      rw [e3]; exact x2.alloc (by omega) _
    have o1 : BlkIs w1 w.heap.size 35 (bytesV a) := by rw [e1, HA.out]; exact heap_alloc_new w _
    have o2 : BlkIs w2 w.heap.size 35 (bytesV a) := by rw [e2]; exact o1.below (below_alloc1 w1 _) (by omega)
    have o3 : BlkIs w3 w.heap.size 35 (bytesV a) := by rw [e3]; exact o2.below (below_alloc1 w2 _) (by omega)
    have t2 : BlkIs w2 (w.heap.size + 1) 35 (bytesV b) := by rw [e2, HB.out, ← s1]; exact heap_alloc_new w1 _
    have t3 : BlkIs w3 (w.heap.size + 1) 35 (bytesV b) := by rw [e3]; exact t2.below (below_alloc1 w2 _) (by omega)
    have r3 : BlkIs w3 w2.heap.size 36 (bytesV a) := by rw [e3, HA.out]; exact heap_alloc_new w2 _
    rw [s2] at r3
    refine ⟨s3, (load_one (w.heap.size + 2) a w3 Ha.out Haa.out (fun j v hj => by rw [Nat.zero_add, r3.cell]; exact hj) (by omega)).mono ?_⟩
    rintro e w' ⟨rfl, hd, hm, hB⟩
    rw [s3, ← hL0e] at hd
    rw [s3] at hm
    rw [s3] at hB
    refine ⟨by rw [s3], ⟨b1.trans (hB.mono (by omega)), ?_, o3.below hB (by omega), t3.below hB (by omega), hd⟩, hm⟩
    have := hd.blk.lt
    omega
  have RD : Hid (∀ W, Stands w W a b L0 → W.ownsMap (H := Value) Try.prog 3 RV (w.heap.size + 3) 0 (.map []) → Calls Try.prog 20 #[.pointer (some ⟨w.heap.size + 4, 0, none⟩), .int .i64 0] W fun e w' => e = .returned (.tuple #[.agg A0, .int .i64 0]) ∧ Below W.heap.size W w') := fun W h hm => by rw [HA.out]; exact stands_read h hm hL0.out
  have DF : Hid (∀ W, Stands w W a b L0 → Calls Try.prog 32 #[.int .i64 0, .slice (some ⟨w.heap.size, 0, none⟩) 32 32, .slice (some ⟨w.heap.size + 1, 0, none⟩) 32 32] W fun e w' => ∃ v, e = .returned v ∧ OwnP w' W.heap.size v (diffP 0 b (df a b) 32) ∧ Below W.heap.size W w') := fun W h => stands_diff h Ha.out Hb.out Haa.out Hba.out
  have AL : Hid (∀ W g B v, BlkIs W g 36 (bytesV a) → OwnP W B v (diffP 0 b (df a b) 32) → Calls Try.prog 31 #[.slice (some ⟨g, 0, none⟩) 32 32, v] W fun e w' => ∃ x o c, e = .returned (.tuple #[.slice (some ⟨x, o, none⟩) 32 c, .int .i64 0]) ∧ w'.rangeAt x o (bytesV b) ∧ x < w'.heap.size ∧ Below W.heap.size W w') := fun W g B v h1 h2 => all_makes h1 h2 Ha.out Hb.out Haa.out Hba.out
  have WR : Hid (∀ W, Stands w W a b L0 → W.ownsMap (H := Value) Try.prog 3 RV (w.heap.size + 3) 0 (.map []) → Calls Try.prog 17 #[.pointer (some ⟨w.heap.size + 4, 0, none⟩), .int .i64 0, .agg B0] W fun e w' => e = .returned (.int .i64 0) ∧
      ∃ D, Stands w w' a b L0 ∧ w'.ownsMap Try.prog 3 RV (w.heap.size + 3) 1 D ∧ Maps.has D (.int .i64 0) = true ∧ Waits w' (w.heap.size + 4) (w.heap.size + 3) 1 D (fun _ => b)) := fun W h hm => by
    have hsz := h.size
    rw [HB.out]
    refine (write_new (w.heap.size + 4) 1 L0 goodB (w.heap.size + 3) 0 0 (.map []) b W h.disk (by decide) hm (by decide) (by omega) rfl (by decide) Hb.out).mono ?_
    rintro e w' ⟨rfl, hW⟩
    obtain ⟨D, h1, h2, h3, h4⟩ := waits_one (g := w.heap.size + 4) (n := 1) (by decide) Hb.out Hba.out (by omega) (by omega) hW
    exact ⟨rfl, D, stands_grown h h4, h1, h2, h3⟩
  have FL : Hid (∀ W D, Stands w W a b L0 → W.ownsMap Try.prog 3 RV (w.heap.size + 3) 1 D → Maps.has D (.int .i64 0) = true → Waits W (w.heap.size + 4) (w.heap.size + 3) 1 D (fun _ => b) →
      Calls Try.prog 15 #[.pointer (some ⟨w.heap.size + 4, 0, none⟩)] W fun e w' => e = .returned (.int .i64 0) ∧ Below w.heap.size w w' ∧ w.heap.size + 2 ≤ w'.heap.size ∧ BlkIs w' (w.heap.size + 1) 35 (bytesV b) ∧ ∃ L, DiskAt w' (w.heap.size + 4) 1 L goodB (w.heap.size + 3) ∧ sec L 0 = b) := fun W D h hm hh hw => by
    have hsz := h.size
    refine (flush_any (w.heap.size + 4) 1 L0 goodB (w.heap.size + 3) 1 D (fun _ => b) W h.disk hm (by omega) hw).mono ?_
    rintro e w' ⟨rfl, D', L', _, _, hd, hs, hT⟩
    have hs0 := hs 0 (by decide)
    rw [if_pos (show Maps.has D (.int .i64 ((0 : Nat) : Int)) = true from hh)] at hs0
    refine ⟨rfl, ⟨hT.os.trans h.below.os, hT.tape.trans h.below.tape, hT.output.trans h.below.output, Nat.le_trans h.below.size hT.size, fun k hk => (hT.block k (by omega) (by omega) (by omega)).trans (h.below.block k hk)⟩, by have := hT.size; omega, (hT.block _ (by omega) (by omega) (by omega)).trans h.two, L', hd, hs0⟩
  have LA : Hid (∀ W L, DiskAt W (w.heap.size + 4) 1 L goodB (w.heap.size + 3) → sec L 0 = b → Calls Try.prog 16 #[.pointer (some ⟨w.heap.size + 4, 0, none⟩), .int .i64 0] W fun e w' => e = .returned (.tuple #[.agg B0, .int .i64 0]) ∧ Below W.heap.size W w') := fun W L h hs => by rw [HB.out]; exact stands_last h hs
  have SB : Hid ((splice (bytesV (List.replicate 32 0)).toArray.toList 0 (bytesV b)).toArray = B0) := by
    unfold Hid
    rw [show (bytesV (List.replicate 32 0)).toArray.toList = bytesV (List.replicate 32 0) from rfl, splice_whole _ _ (by rw [length_bytesV, length_bytesV, Hb.out]; rfl), HB.out]
  have HR0 : Hid ((bytesV b).length = Nat.min 32 32 * 1) := by unfold Hid; rw [length_bytesV, Hb.out]; rfl
  have HRf : Hid (0 + (bytesV b).length ≤ (bytesV (List.replicate 32 0)).toArray.size) := by unfold Hid; rw [length_bytesV, Hb.out]; simp [bytesV]
  have HR1 := Lib.hid (bytesV_one b)
  clear ha hb haa hba hA0 hB0 hL0e
  go_enter Try.func11, Try.ntmps11
  have hb2 : Hid (((w.alloc (.cells A0 35)).alloc (.cells B0 35)).heap[w.heap.size]? = some (.cells A0 35 (0, 0))) := ((below_alloc1 (w.alloc (.cells A0 35)) _).block _ (by rw [size_alloc1]; omega)).trans (heap_alloc_new w _)
  have hz2 : Hid (((w.alloc (.cells A0 35)).alloc (.cells B0 35)).heap.size = w.heap.size + 2) := by unfold Hid; rw [size_alloc1, size_alloc1]
  go_wp2_with (first
    | (refine wpList_load_row rfl 35 (.tmp 2) rfl w.heap.size rfl 35 A0 (0, 0) _ hb2.out Try.underlying35 rfl hsz35.out ?_)
    | (refine wpList_slice36 rfl (.tmp 13) 51 Try.underlying51 rfl A0 rfl i0 hi0 hz0 hz1 F36.out ?_
       rw [hz2.out]
       obtain ⟨w3, hW3⟩ : ∃ w3, w3 = ((w.alloc (.cells A0 35)).alloc (.cells B0 35)).alloc (.cells A0 36) := ⟨_, rfl⟩
       rw [← hW3]
       have C3 := Lib.hid (HL.out _ _ w3 rfl rfl hW3)
       clear hW3))
  obtain ⟨s3, hcl⟩ := C3.out
  clear C3
  refine hcl.mono ?_
  clear hcl
  rintro e w4 ⟨rfl, hS4, hm4⟩
  have S4 := Lib.hid hS4
  have M4 := Lib.hid hm4
  clear hS4 hm4 s3 hb2 hz2
  go_wp2_with fail
  refine (RD.out _ S4.out M4.out).mono ?_
  rintro e w5 ⟨rfl, hB5⟩
  have S5 := Lib.hid (S4.out.next hB5)
  have M5 := Lib.hid (map_next M4.out hB5)
  clear hB5
  go_wp2_with (refine wpList_store_row rfl 36 (.tmp 6) (.tmp 19) rfl w5.heap.size A0 rfl rfl 36 _ (heap_alloc_new w5 _) hszA.out h32A.out honeA.out ?_
               generalize hW : World.setRow (w5.alloc (Obj.cells _ 36)) _ A0 = w6
               have B6 : Hid (Below w5.heap.size w5 w6) := by rw [← hW]; exact below_setRow (below_alloc1 w5 _) (Nat.le_refl _) _
               have b6 : Hid (BlkIs w6 w5.heap.size 36 (bytesV a)) := by rw [← hW]; unfold Hid BlkIs; rw [← HA.out]; exact setRow_heap _ _ _ _ _ _ (heap_alloc_new w5 _)
               have S6d : Hid (Stands w w6.drew a b L0) := by have := S5.out.next B6.out; exact ⟨this.below.drew, this.size, this.one, this.two, ⟨this.disk.blk, this.disk.lo, this.disk.hi, this.disk.lenL, this.disk.lenB, this.disk.allL⟩⟩
               have M6d : Hid (w6.drew.ownsMap (H := Value) Try.prog 3 RV (w.heap.size + 3) 0 (.map [])) := (map_next M5.out B6.out).drew
               have b6d : Hid (BlkIs w6.drew w5.heap.size 36 (bytesV a)) := b6.out
               clear hW)
  refine wp_region_held_drew (S := (fun _ => True)) (by kernel_rfl) (trivial) (fun hHeld => ?_)
  refine takeH (i := 0) (some 22) (v := ?_) rfl rfl (by kernel_rfl) (by kernel_rfl) (by kernel_rfl) (fun _ _ _ h => h) (by rfl) ?_ (by assumption) ?_
  rotate_left
  · (intro w hSw; (try dsimp only at hSw); go_simp; try with_reducible rfl)
  simp only [Act.put, List.setIfInBounds_toArray, List.set_cons_zero, List.set_cons_succ]
  refine takeH (i := 1) (some 23) (v := ?_) rfl rfl (by kernel_rfl) (by kernel_rfl) (by kernel_rfl) (fun _ _ _ h => h) (by rfl) ?_ (by assumption) ?_
  rotate_left
  · (intro w hSw; (try dsimp only at hSw); go_simp; try with_reducible rfl)
  simp only [Act.put, List.setIfInBounds_toArray, List.set_cons_zero, List.set_cons_succ]
  refine takeH (i := 2) (some 24) (v := ?_) rfl rfl (by kernel_rfl) (by kernel_rfl) (by kernel_rfl) (fun _ _ _ h => h) (by rfl) ?_ (by assumption) ?_
  rotate_left
  · (intro w hSw; (try dsimp only at hSw); go_simp; try with_reducible rfl)
  simp only [Act.put, List.setIfInBounds_toArray, List.set_cons_zero, List.set_cons_succ]
  refine wpAnyH_ready (rs := [3]) (by kernel_rfl) (by simp) ?_
  refine AllReadyH.cons rfl (fun K hK => ?_) AllReadyH.nil
  go_simp
  (refine (DF.out _ S6d.out).mono ?_; rintro e w7 ⟨v7, rfl, ho7, hB7⟩; have O7 := Lib.hid ho7; have S7 := Lib.hid (S6d.out.next hB7); have M7 := Lib.hid (map_next M6d.out hB7); have b7 : Hid (BlkIs w7 w5.heap.size 36 (bytesV a)) := BlkIs.below b6d.out hB7 (BlkIs.lt b6d.out); clear ho7 hB7)
  refine hK _ _ (trivial) (fun hHeld => ?_)
  clear hK K
  try simp only [Act.put, List.setIfInBounds_toArray, List.set_cons_zero, List.set_cons_succ]
  refine wpAnyH_ready (rs := [4]) (by kernel_rfl) (by simp) ?_
  refine AllReadyH.cons rfl (fun K hK => ?_) AllReadyH.nil
  go_simp
  (refine (AL.out _ _ _ _ b7.out O7.out).mono ?_; rintro e w8 ⟨x8, o8, c8, rfl, hr8, hx8, hB8⟩; have R8 := Lib.hid hr8; have S8 := Lib.hid (S7.out.next hB8); have M8 := Lib.hid (map_next M7.out hB8); clear hr8 hB8)
  refine hK _ _ (trivial) (fun hHeld => ?_)
  clear hK K
  try simp only [Act.put, List.setIfInBounds_toArray, List.set_cons_zero, List.set_cons_succ]
  refine takeH (i := 5) (some 21) (v := ?_) rfl rfl (by kernel_rfl) (by kernel_rfl) (by kernel_rfl) (fun _ _ _ h => h) (by rfl) ?_ (by assumption) ?_
  rotate_left
  · (intro w hSw; (try dsimp only at hSw); go_simp; try with_reducible rfl)
  simp only [Act.put, List.setIfInBounds_toArray, List.set_cons_zero, List.set_cons_succ]
  refine takeH (i := 6) (some 27) (v := ?_) rfl rfl (by kernel_rfl) (by kernel_rfl) (by kernel_rfl) (fun _ _ _ h => h) (by rfl) ?_ (by assumption) ?_
  rotate_left
  · (intro w hSw; (try dsimp only at hSw); go_simp; try with_reducible rfl)
  simp only [Act.put, List.setIfInBounds_toArray, List.set_cons_zero, List.set_cons_succ]
  refine takeH (i := 7) (some 28) (v := ?_) rfl rfl (by kernel_rfl) (by kernel_rfl) (by kernel_rfl) (fun _ _ _ h => h) (by rfl) ?_ (by assumption) ?_
  rotate_left
  · (intro w hSw; (try dsimp only at hSw); go_simp; try with_reducible rfl)
  simp only [Act.put, List.setIfInBounds_toArray, List.set_cons_zero, List.set_cons_succ]
  refine takeH (i := 8) (some 8) (v := ?_) rfl rfl (by kernel_rfl) (by kernel_rfl) (by kernel_rfl) (fun _ _ _ h => h) (by rfl) ?_ (by assumption) ?_
  rotate_left
  · (intro w hSw; (try dsimp only at hSw); go_simp; try with_reducible rfl)
  simp only [Act.put, List.setIfInBounds_toArray, List.set_cons_zero, List.set_cons_succ]
  refine takeH (i := 9) (some 9) (v := ?_) rfl rfl (by kernel_rfl) (by kernel_rfl) (by kernel_rfl) (fun _ _ _ h => h) (by rfl) ?_ (by assumption) ?_
  rotate_left
  · (intro w hSw; (try dsimp only at hSw); go_simp; try with_reducible rfl)
  simp only [Act.put, List.setIfInBounds_toArray, List.set_cons_zero, List.set_cons_succ]
  refine wpAnyH_done (by kernel_rfl) ?_ _
  have Hsrc : Hid (∀ ob : Obj, ∀ j v, (bytesV b)[j]? = some v → (w8.alloc ob).cell? ((⟨x8, o8, none⟩ : Addr).add j) = some v) := fun ob j v hj => by rw [add_plain']; exact World.rangeAt_alloc R8.out ob j v hj
  go_wp2_with (first
    | (refine wpList_copy_wide rfl (.tmp 40) (.tmp 41) 50 50 rfl 5 1 Try.underlying50 size5 w8.heap.size 0 32 32 ⟨x8, o8, none⟩ 32 c8 rfl rfl (bytesV (List.replicate 32 0)).toArray 36 (heap_alloc_new w8 _) (bytesV b) HR0.out (Hsrc.out _) HRf.out HR1.out B0 SB.out ?_
       generalize hW : World.setRow (w8.alloc (Obj.cells _ 36)) _ B0 = w9
       have B9 : Hid (Below w8.heap.size w8 w9) := by rw [← hW]; exact below_setRow (below_alloc1 w8 _) (Nat.le_refl _) _
       have b9 : Hid (w9.heap[w8.heap.size]? = some (.cells B0 36 (0, 0))) := by rw [← hW]; exact setRow_heap _ _ _ _ _ _ (heap_alloc_new w8 _)
       have S9 := Lib.hid (S8.out.next B9.out)
       have M9 := Lib.hid (map_next M8.out B9.out)
       clear hW)
    | (refine wpList_load_row rfl 36 (.tmp 10) rfl w8.heap.size rfl 36 B0 (0, 0) _ b9.out Try.underlying36 rfl hszB.out ?_))
  refine (WR.out _ S9.out M9.out).mono ?_
  rintro e w10 ⟨rfl, D, hS, hM, hh, hw⟩
  have FLd := Lib.hid (FL.out w10 D hS hM hh hw)
  clear hS hM hh hw
  go_wp2_with fail
  refine FLd.out.mono ?_
  rintro e w11 ⟨rfl, hB11, hs11, ht11, L, hd, hs⟩
  have LAd := Lib.hid (LA.out _ _ hd hs)
  have B11 := Lib.hid hB11
  have z11 := Lib.hid hs11
  have t11 := Lib.hid ht11
  clear hB11 hs11 ht11 hd hs
  go_wp2_with fail
  refine LAd.out.mono ?_
  rintro e w12 ⟨rfl, hB12⟩
  have B12 := Lib.hid hB12
  clear hB12
  go_wp2_with (first
    | (refine wpList_store_row rfl 36 (.tmp 11) (.tmp 51) rfl w12.heap.size B0 rfl rfl 36 _ (heap_alloc_new w12 _) hszB.out h32B.out honeB.out ?_
       generalize hW : World.setRow (w12.alloc (Obj.cells _ 36)) _ B0 = w13
       have B13 : Hid (Below w11.heap.size w11 w13) := by rw [← hW]; exact B12.out.trans ((below_setRow (below_alloc1 w12 _) (Nat.le_refl _) _).mono B12.out.size)
       have b13 : Hid (w13.heap[w12.heap.size]? = some (.cells B0 36 (0, 0))) := by rw [← hW]; exact setRow_heap _ _ _ _ _ _ (heap_alloc_new w12 _)
       have t13 : Hid (w13.heap[w.heap.size + 1]? = some (.cells B0 35 (0, 0))) := by rw [HB.out]; exact (B13.out.block _ (by have := z11.out; omega)).trans t11.out
       have q13 := EQ.out w13
       have l36 : (loadVar 36 ⟨w12.heap.size, 0, none⟩).run Try.prog w13 = .ok (.agg B0) w13 :=
         run_loadVar_row (P := Try.prog) w13 w12.heap.size 36 36 B0 (0, 0) _ b13.out Try.underlying36 rfl hszB.out
       have l35 : (loadVar 35 ⟨w.heap.size + 1, 0, none⟩).run Try.prog w13 = .ok (.agg B0) w13 :=
         run_loadVar_row (P := Try.prog) w13 (w.heap.size + 1) 35 35 B0 (0, 0) _ t13.out Try.underlying35 rfl hszB35.out
       clear hW)
    | (refine wpList_load_row_on (by first | rfl | simp [Region.wanted, yielded]) 36 (.tmp 11) rfl w12.heap.size rfl 36 B0 (0, 0) _ b13.out Try.underlying36 rfl hszB.out ?_)
    | (refine wpList_load_row_on (by first | rfl | simp [Region.wanted, yielded]) 35 (.tmp 3) rfl (w.heap.size + 1) rfl 35 B0 (0, 0) _ t13.out Try.underlying35 rfl hszB35.out ?_))
  go_ret
  exact ⟨rfl, B11.out.trans (B13.out.mono (by have := z11.out; omega))⟩
end Go.Proofs.Ytieeibdhaoaeaaa
