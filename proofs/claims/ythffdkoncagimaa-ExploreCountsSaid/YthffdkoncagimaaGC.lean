/- Blocks of cells; marks in memory; contract of mark. -/
import Derived.Test.YthffdkoncagimaaGB
import Derived.Deep.OwnRows
import Derived.Laws.CopyOwn
import Derived.Deep.RegionWith
import Derived.Deep.RegionHeld3
import Derived.Deep.DeepFit
import Derived.Deep.WholeRow
import Derived.RangeFuncBox
import Derived.Deep.Slices
namespace Go.Proofs.Ythffdkoncagimaa
set_option linter.unusedVariables false
set_option linter.unusedSimpArgs false
set_option maxRecDepth 100000
open Go.RowKit

def BlkIs (w : World) (g : Nat) (t : TypeId) (l : List Value) : Prop := w.heap[g]? = some (.cells l.toArray t (0, 0))
theorem BlkIs.cell {w : World} {g : Nat} {t : TypeId} {l : List Value} (h : BlkIs w g t l) (k : Nat) : w.cell? ⟨g, k, none⟩ = l[k]? := by
  unfold BlkIs at h
  simp [World.cell?, h]
theorem BlkIs.frozen {w : World} {g : Nat} {t : TypeId} {l : List Value} (h : BlkIs w g t l) (k : Nat) : w.frozen? ⟨g, k, none⟩ = false := by
  unfold BlkIs at h
  simp [World.frozen?, h]
theorem BlkIs.set_ {w : World} {g : Nat} {t : TypeId} {l : List Value} (h : BlkIs w g t l) (k : Nat) (v : Value) : BlkIs (w.setCell ⟨g, k, none⟩ v) g t (l.set k v) := by
  unfold BlkIs at h ⊢
  simp [World.setCell, Array.getElem?_modify, h]
theorem BlkIs.lt {w : World} {g : Nat} {t : TypeId} {l : List Value} (h : BlkIs w g t l) : g < w.heap.size := by
  rcases Nat.lt_or_ge g w.heap.size with hlt | hge
  · exact hlt
  · unfold BlkIs at h; rw [Array.getElem?_eq_none hge] at h; cases h
theorem BlkIs.range {w : World} {g : Nat} {t : TypeId} {l : List Value} (h : BlkIs w g t l) : w.rangeAt g 0 l := fun j v hv => by
  rw [Nat.zero_add, h.cell]; exact hv
theorem BlkIs.there {w : World} {g : Nat} {t : TypeId} {l : List Value} (h : BlkIs w g t l) (n : Nat) (hn : n ≤ l.length) : w.there g 0 n := fun j hj => by
  rw [Nat.zero_add, h.cell, List.getElem?_eq_getElem (by omega)]
  exact ⟨rfl, h.frozen _⟩
theorem BlkIs.kept {w w' : World} {g : Nat} {t : TypeId} {l : List Value} {row : Option Nat} (h : BlkIs w g t l) (hg : w.grownBy w' row) (hne : some g ≠ row) : BlkIs w' g t l := by
  unfold BlkIs at h ⊢
  rw [hg.block g (Array.getElem?_eq_some_iff.1 h).1 hne]
  exact h
theorem BlkIs.below {w w' : World} {g B : Nat} {t : TypeId} {l : List Value} (h : BlkIs w g t l) (hb : Below B w w') (hlt : g < B) : BlkIs w' g t l := by
  unfold BlkIs at h ⊢
  rw [hb.block g hlt]
  exact h
theorem grownBy_setCells (b : Nat) : ∀ (vs : List Value) (o : Nat) (w w' : World), w.grownBy w' (some b) → w.grownBy (w'.setCells b o vs) (some b)
  | [], _, _, _, h => h
  | v :: r, o, w, w', h => by
    refine grownBy_setCells b r (o + 1) w _ ?_
    refine ⟨h.os, h.tape, h.output, by have := h.size; simpa [World.setCell] using this, fun k hk hne => ?_⟩
    rw [← h.block k hk hne]
    have : k ≠ b := fun e => hne (by rw [e])
    simp [World.setCell, Array.getElem?_modify]
    intro e
    exact absurd e.symm this
theorem grownBy_set (W : World) (b o : Nat) (v : Value) : W.grownBy (W.setCell ⟨b, o, none⟩ v) (some b) := grownBy_setCells b [v] o W W ⟨rfl, rfl, rfl, Nat.le_refl _, fun _ _ _ => rfl⟩
theorem BlkIs.alloc {w : World} {g : Nat} {t : TypeId} {l : List Value} (h : BlkIs w g t l) (o : Obj) : BlkIs (w.alloc o) g t l := h.kept (World.grownBy_alloc w o none) (by simp)
theorem BlkIs.new (w : World) (t : TypeId) (c : Array Value) : BlkIs (w.alloc (.cells c t)) w.heap.size t c.toList := by
  unfold BlkIs; rw [Array.toArray_toList]; exact heap_alloc_last w _
theorem BlkIs.other {w : World} {g g' o : Nat} {t : TypeId} {l : List Value} (h : BlkIs w g t l) (hne : g ≠ g') (v : Value) : BlkIs (w.setCell ⟨g', o, none⟩ v) g t l := h.kept (grownBy_set w g' o v) (fun e => hne (by cases e; rfl))

/-- marks as values -/
def marksV (m : Nat → Bool) : List Value := (List.range 256).map fun n => .bool (m n)
theorem length_marksV (m : Nat → Bool) : (marksV m).length = 256 := by simp [marksV]
theorem marksV_at (m : Nat → Bool) {x : Nat} (h : x < 256) : (marksV m)[x]? = some (.bool (m x)) := by
  rw [List.getElem?_eq_getElem (by rw [length_marksV]; exact h)]
  simp [marksV]
theorem marksV_set (m : Nat → Bool) (x : Nat) : (marksV m).set x (.bool true) = marksV fun y => m y || y == x := by
  apply List.ext_getElem
  · simp [marksV]
  · intro i h1 h2
    rw [List.getElem_set]
    by_cases e : x = i
    · subst e; simp [marksV]
    · rw [if_neg e]
      have : (i == x) = false := by simp; omega
      simp [marksV, this]
theorem marksV_clear (m : Nat → Bool) (x : Nat) : (marksV m).set x (.bool false) = marksV fun y => m y && !(y == x) := by
  apply List.ext_getElem
  · simp [marksV]
  · intro i h1 h2
    rw [List.getElem_set]
    by_cases e : x = i
    · subst e; simp [marksV]
    · rw [if_neg e]
      have : (i == x) = false := by simp; omega
      simp [marksV, this]
theorem marksV_one (m : Nat → Bool) : ∀ u ∈ marksV m, u.oneCell' = true := by
  intro u hu
  obtain ⟨x, _, rfl⟩ := List.mem_map.1 hu
  rfl
def zero60 : Array Value := (List.replicate 256 (Value.bool false)).toArray
theorem info60 : (Try.prog.info? 60).map (fun i => (i.zero, i.size)) = some (some (.agg zero60), 256) := by kernel_rfl
theorem marksV_zero : marksV (fun _ => false) = zero60.toList := by
  have h : ∀ n, (List.range n).map (fun _ => Value.bool false) = List.replicate n (Value.bool false) := by
    intro n
    apply List.ext_getElem
    · simp
    · intro i h1 h2; simp
  unfold marksV zero60
  exact h 256
/-- the block g holds the marks m -/
def Marks (w : World) (g : Nat) (m : Nat → Bool) : Prop := BlkIs w g 60 (marksV m)
theorem Marks.set_ {w : World} {g : Nat} {m : Nat → Bool} (h : Marks w g m) (x : Nat) : Marks (w.setCell ⟨g, x, none⟩ (.bool true)) g (fun y => m y || y == x) := by
  have := BlkIs.set_ h x (.bool true); rw [marksV_set] at this; exact this
theorem Marks.clear_ {w : World} {g : Nat} {m : Nat → Bool} (h : Marks w g m) (x : Nat) : Marks (w.setCell ⟨g, x, none⟩ (.bool false)) g (fun y => m y && !(y == x)) := by
  have := BlkIs.set_ h x (.bool false); rw [marksV_clear] at this; exact this
theorem Marks.cell {w : World} {g : Nat} {m : Nat → Bool} (h : Marks w g m) {x : Nat} (hx : x < 256) : w.cell? ⟨g, x, none⟩ = some (.bool (m x)) := by
  rw [BlkIs.cell h, marksV_at m hx]

theorem BlkIs.row {w : World} {g : Nat} {t : TypeId} {l : List Value} (h : BlkIs w g t l) (cs : Array Value) : BlkIs (w.setRow g cs) g t cs.toList := by
  unfold BlkIs at h ⊢
  rw [Array.toArray_toList]; exact setRow_heap w g _ cs t (0, 0) h
theorem grownBy_setRow (W : World) (b : Nat) (cs : Array Value) : W.grownBy (W.setRow b cs) (some b) :=
  ⟨rfl, rfl, rfl, by simp, fun k _ hk => setRow_other W b k cs (fun e => hk (by rw [e]))⟩
/-- a store of a whole array -/
theorem wp_store_row {P : Program} {op : Oper} {a : Act} {w : World} {K : Act → World → Prop} {Q : Exit → Act → World → Prop} (ty : TypeId) (x y : Operand) (ho : op.op = .store ty x y)
    (g : Nat) (cs : Array Value) (hx : a.eval x = .pointer (some ⟨g, 0, none⟩)) (hy : a.eval y = .agg cs) (cur : List Value) (t : TypeId) (hg : BlkIs w g t cur)
    (hi : (P.info? ty).map (·.size) = some cs.size) (hsz : cur.length = cs.size) (h1 : ∀ v ∈ cs.toList, v.oneCell' = true)
    (h : K (a.put op.dst undef) (w.setRow g cs)) : op.wp P a w K Q := by
  have hrun := run_storeVar_row (P := P) w g t ty cur.toArray cs hg hi (by simpa using hsz) (Array.all_eq_true_iff_forall_mem.2 (fun v hv => h1 v (by simpa using hv)))
  unfold Oper.wp execOp
  simp only [ho, hx, hy, Instr.storeAt, Instr.sureAddr, Sem.run_bind, Sem.run_pure, Result.andThen_ok, hrun]
  exact h
theorem wpList_store_row {P : Program} {ops : Array Oper} {rest : List Oper} {op : Oper} {a : Act} {w : World} {Q : Exit → Act → World → Prop} (hgd : op.guard = none) (ty : TypeId) (x y : Operand) (ho : op.op = .store ty x y)
    (g : Nat) (cs : Array Value) (hx : a.eval x = .pointer (some ⟨g, 0, none⟩)) (hy : a.eval y = .agg cs) (cur : List Value) (t : TypeId) (hg : BlkIs w g t cur)
    (hi : (P.info? ty).map (·.size) = some cs.size) (hsz : cur.length = cs.size) (h1 : ∀ v ∈ cs.toList, v.oneCell' = true)
    (h : wpList P ops Q rest (a.put op.dst undef) (w.setRow g cs)) : wpList P ops Q (op :: rest) a w :=
  wpList_plain hgd fun _ hK => wp_store_row ty x y ho g cs hx hy cur t hg hi hsz h1 (hK _ _ h)
/-- a store of a whole array into a block that was just made -/
theorem wp_store_new {P : Program} {op : Oper} {a : Act} {w : World} {K : Act → World → Prop} {Q : Exit → Act → World → Prop} (ty : TypeId) (x y : Operand) (ho : op.op = .store ty x y)
    (g : Nat) (hgs : g = w.heap.size) (cs cur : Array Value) (hx : a.eval x = .pointer (some ⟨g, 0, none⟩)) (hy : a.eval y = .agg cs)
    (hi : (P.info? ty).map (·.size) = some cs.size) (hsz : cur.size = cs.size) (h1 : ∀ v ∈ cs.toList, v.oneCell' = true)
    (h : K (a.put op.dst undef) (w.alloc (.cells cs ty))) : op.wp P a (w.alloc (.cells cur ty)) K Q := by
  subst hgs
  have hrun := run_storeVar_new (P := P) w ty cur cs hi hsz (Array.all_eq_true_iff_forall_mem.2 (fun v hv => h1 v (by simpa using hv)))
  unfold Oper.wp execOp
  simp only [ho, hx, hy, Instr.storeAt, Instr.sureAddr, Sem.run_bind, Sem.run_pure, Result.andThen_ok, hrun]
  exact h

theorem wpList_store_new {P : Program} {ops : Array Oper} {rest : List Oper} {op : Oper} {a : Act} {w : World} {Q : Exit → Act → World → Prop} (hgd : op.guard = none) (ty : TypeId) (x y : Operand) (ho : op.op = .store ty x y)
    (g : Nat) (hgs : g = w.heap.size) (cs cur : Array Value) (hx : a.eval x = .pointer (some ⟨g, 0, none⟩)) (hy : a.eval y = .agg cs)
    (hi : (P.info? ty).map (·.size) = some cs.size) (hsz : cur.size = cs.size) (h1 : ∀ v ∈ cs.toList, v.oneCell' = true)
    (h : wpList P ops Q rest (a.put op.dst undef) (w.alloc (.cells cs ty))) : wpList P ops Q (op :: rest) a (w.alloc (.cells cur ty)) :=
  wpList_plain hgd fun _ hK => wp_store_new ty x y ho g hgs cs cur hx hy hi hsz h1 (hK _ _ h)

theorem there_yes (A : Option Addr) (n c x : Nat) (w : World) (hx : x < n) :
    Calls Try.prog 35 #[.slice A n c, .int .i64 (x : Int)] w fun e w' => e = .returned (.bool true) ∧ w = w' := by
  have h := there_any A n c (x : Int) w
  have e : (decide (0 ≤ (x : Int)) && decide ((x : Int) < (n : Int))) = true := by simp; omega
  rwa [e] at h
theorem there_no (A : Option Addr) (n c : Nat) (x : Int) (w : World) (hx : ¬ (0 ≤ x ∧ x < (n : Int))) :
    Calls Try.prog 35 #[.slice A n c, .int .i64 x] w fun e w' => e = .returned (.bool false) ∧ w = w' := by
  have h := there_any A n c x w
  have e : (decide (0 ≤ x) && decide (x < (n : Int))) = false := by
    rw [Bool.eq_false_iff]; intro h; simp only [Bool.and_eq_true, decide_eq_true_eq] at h; exact hx h
  rwa [e] at h
theorem take_nth (l : List Int) (k : Nat) (h : k < l.length) : l.take (k + 1) = l.take k ++ [nth l k] := by
  rw [List.take_succ_eq_append_getElem h, nth_lt h]

set_option maxRecDepth 100000 in
set_option maxHeartbeats 1000000 in
theorem mark_any (A : Option Addr) (n c : Nat) (A2 : Option Addr) (c2 m : Nat) (l : List Int) (w : World) (hm : m = l.length) (hn : n ≤ 256) (hl : l.length ≤ 100000) (hI : Ints w w.heap.size A2 l) :
    Calls Try.prog 36 #[.slice A n c, .slice A2 m c2] w fun e w' => e = .returned (.agg (marksV (markI n l)).toArray) ∧ Below w.heap.size w w' := by
  subst hm
  obtain ⟨hz, hs⟩ := zero_of_info (P := Try.prog) info60
  obtain ⟨Z, hZ⟩ : ∃ Z, Z = zero60 := ⟨_, rfl⟩
  rw [← hZ] at hz
  have HZ := Lib.hid hZ
  have HS := Lib.hid hs
  have HI := Lib.hid hI
  clear hZ hs hI
  go_enter Try.func36, Try.ntmps36
  go_wp2_with fail
  go_loopw [10] (fun i wr => ∃ k : Nat, k ≤ l.length ∧ i = .int .i64 k ∧ Marks wr (w.heap.size + 1) (markI n (l.take k)) ∧ BlkIs wr w.heap.size 60 Z.toList ∧ Below w.heap.size w wr) (fun i _ => l.length - (intOf i).toNat)
  case atStart =>
    have h1 := (BlkIs.new w 60 Z).alloc (.cells Z 60)
    have h2 := BlkIs.new (w.alloc (.cells Z 60)) 60 Z
    simp only [World.size_alloc] at h2
    refine ⟨0, Nat.zero_le _, rfl, ?_, h1, ((Below.refl _ _).alloc (Nat.le_refl _) _).alloc (by simp) _⟩
    unfold Marks
    rw [List.take_zero, markI_nil, marksV_zero, ← HZ.out]
    exact h2
  case round =>
    obtain ⟨k, hk, rfl, hmk, hblk0, hB⟩ := hrel
    rename World => wr
    by_cases hlt : k < l.length
    · have hlti : (k : Int) < (l.length : Int) := by omega
      have hk0 : (0 : Int) ≤ (k : Int) := by omega
      obtain ⟨b, off, rfl, hb, hc⟩ := HI.out.at_ hlt
      have hck := (hB.cell hb).trans hc
      have Htk := Lib.hid (take_nth l k hlt)
      obtain ⟨x, hx⟩ : ∃ x, x = nth l k := ⟨_, rfl⟩
      rw [← hx] at hck Htk
      have Hmk := Lib.hid hmk
      have Hblk0 := Lib.hid hblk0
      clear hc hmk hblk0 hx
      by_cases hxn : 0 ≤ x ∧ x < (n : Int)
      · obtain ⟨y, rfl⟩ := Int.eq_ofNat_of_zero_le hxn.1
        have hy : y < n := by omega
        have hyi : (y : Int) < 256 := by omega
        have hy0 : (0 : Int) ≤ (y : Int) := by omega
        have hcell := Hmk.out.cell (x := y) (by omega)
        have hfr := BlkIs.frozen Hmk.out y
        clear hxn
        go_wp2_with (go_at_call 35; refine (there_yes _ _ _ _ _ hy).mono ?_; rintro e w' ⟨rfl, rfl⟩)
        go_roundw
        case rel =>
          refine ⟨k + 1, by omega, by go_num, ?_, Hblk0.out.other (by omega) _, hB.setCell (p := ⟨w.heap.size + 1, y, none⟩) (by show w.heap.size ≤ w.heap.size + 1; omega) _⟩
          rw [Htk.out, markI_hit hy]
          exact Hmk.out.set_ y
        case measure => simp [intOf]; omega
      · have Hxn := Lib.hid hxn
        clear hxn
        go_wp2_with (go_at_call 35; refine (there_no _ _ _ _ _ Hxn.out).mono ?_; rintro e w' ⟨rfl, rfl⟩)
        go_roundw
        case rel => exact ⟨k + 1, by omega, by go_num, by rw [Htk.out, markI_miss Hxn.out]; exact Hmk.out, Hblk0.out, hB⟩
        case measure => simp [intOf]; omega
    · have hlti : ¬ (k : Int) < (l.length : Int) := by omega
      obtain rfl : k = l.length := by omega
      rw [List.take_length] at hmk
      obtain ⟨T, hT⟩ : ∃ T, T = (marksV (markI n l)).toArray := ⟨_, rfl⟩
      have hTs : T.size = 256 := by rw [hT]; simp [length_marksV]
      have h1 : ∀ v ∈ T.toList, v.oneCell' = true := by rw [hT]; exact marksV_one _
      have hm2 : wr.heap[w.heap.size + 1]? = some (.cells T 60 (0, 0)) := by rw [hT]; exact hmk
      have hs51 : (Try.prog.info? 60).map (·.size) = some T.size := by rw [HS.out, hTs]
      have hZl : Z.toList.length = T.size := by rw [hTs, HZ.out]; rfl
      have hf := hblk0.row T
      have HG : Below w.heap.size w (wr.setRow w.heap.size T) := hB.grown (grownBy_setRow _ _ _) (by have := hB.size; omega) (fun j e => by injection e with e; omega)
      have Hm2 := Lib.hid hm2
      have Hs51 := Lib.hid hs51
      have Hblk0 := Lib.hid hblk0
      have HZl := Lib.hid hZl
      have H1 := Lib.hid h1
      have Hf := Lib.hid hf
      have HT := Lib.hid hT
      clear hmk hblk0 hT hTs h1 hm2 hs51 hZl hf hB
      go_wp2_with (first
        | (refine wpList_load_row rfl 60 (.tmp 5) rfl (w.heap.size + 1) rfl 60 T (0, 0) _ Hm2.out Try.underlying60 rfl Hs51.out ?_)
        | (refine wpList_store_row rfl 60 (.tmp 4) (.tmp 20) rfl w.heap.size T rfl rfl Z.toList 60 Hblk0.out Hs51.out HZl.out H1.out ?_))
      refine bodyPost_ret (v := .agg T) (results_cell_row rfl _ _ w.heap.size 60 T (0, 0) _ rfl Hf.out Try.underlying60 rfl Hs51.out) rfl ⟨by rw [HT.out], HG⟩
end Go.Proofs.Ythffdkoncagimaa
