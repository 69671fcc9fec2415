/- The disk and patches: DKA DKB DKC DKD DKE DKF DKG DKH DKI DKJ DHV. -/
import Derived.Test.YtkldiofleepkfaaH2
import Derived.Laws.OwnMore
import Derived.ChangeKeysEq
/- Versions as rows of such as are the same; a disk as the document has it; a disk in memory with all that waits. -/
namespace Go.Proofs.Ytkldiofleepkfaa
open Go.RowKit

/-- all but the blocks S is as it was -/
structure Kept (w w' : World) (S : Nat → Prop) : Prop where
  os : w'.os = w.os
  tape : w'.tape = w.tape
  output : w'.output = w.output
  size : w.heap.size ≤ w'.heap.size
  block : ∀ k, k < w.heap.size → ¬ S k → w'.heap[k]? = w.heap[k]?
namespace Kept
variable {w w1 w2 : World} {S S' : Nat → Prop}
theorem refl (w : World) (S : Nat → Prop) : Kept w w S := ⟨rfl, rfl, rfl, Nat.le_refl _, fun _ _ _ => rfl⟩
theorem trans (h : Kept w w1 S) (k : Kept w1 w2 S') (hs : ∀ b, S' b → S b ∨ w.heap.size ≤ b) : Kept w w2 S :=
  ⟨k.os.trans h.os, k.tape.trans h.tape, k.output.trans h.output, Nat.le_trans h.size k.size, fun b hb hn => by
    rw [k.block b (Nat.lt_of_lt_of_le hb h.size) (fun q => by rcases hs b q with q | q; exact hn q; omega)]
    exact h.block b hb hn⟩
theorem more (h : Kept w w1 S) (hs : ∀ b, S b → S' b ∨ w.heap.size ≤ b) : Kept w w1 S' := (refl w S').trans h hs
theorem below {B : Nat} (h : Kept w w1 S) (hs : ∀ b, S b → B ≤ b) (hB : B ≤ w.heap.size) : Below B w w1 :=
  ⟨h.os, h.tape, h.output, h.size, fun k hk => h.block k (by omega) (fun q => by have := hs k q; omega)⟩
theorem of_below {B : Nat} (h : Below B w w1) (hs : ∀ b, B ≤ b → S b ∨ w.heap.size ≤ b) : Kept w w1 S :=
  ⟨h.os, h.tape, h.output, h.size, fun k hk hn => by
    rcases Nat.lt_or_ge k B with h1 | h1
    · exact h.block k h1
    · rcases hs k h1 with q | q
      · exact absurd q hn
      · omega⟩
theorem fresh (h : Below w.heap.size w w1) : Kept w w1 S := of_below h fun _ hb => .inr hb
theorem grown {row : Option Nat} (h : w.grownBy w1 row) (hs : ∀ k, row = some k → S k ∨ w.heap.size ≤ k) : Kept w w1 S :=
  ⟨h.os, h.tape, h.output, h.size, fun k hk hn => h.block k hk (fun q => by rcases hs k q.symm with q | q; exact hn q; omega)⟩
theorem drew (h : Kept w w1 S) : Kept w w1.drew S := ⟨h.os, h.tape, h.output, h.size, h.block⟩
theorem cell (h : Kept w w1 S) {a : Addr} (hlt : a.block < w.heap.size) (hn : ¬ S a.block) : w1.cell? a = w.cell? a := World.cell?_of_block (h.block _ hlt hn)
theorem row (h : Kept w w1 S) {base : Nat} {e : TypeId} {size : Nat} {v : Value} {n : Nat} {xs : List Value} (hr : w.ownsRow base e size v n xs) (hn : ∀ k, v.ownBlock = some k → ¬ S k) : w1.ownsRow base e size v n xs := by
  refine ⟨hr.1, ?_⟩
  rcases hr.2 with h0 | ⟨g, cap, cur, rfl, hb, hgg, rest⟩
  · exact .inl h0
  · refine .inr ⟨g, cap, cur, rfl, hb, ?_, rest⟩
    rw [h.block g (Array.getElem?_eq_some_iff.1 hgg).1 (hn g rfl)]
    exact hgg
theorem blk (h : Kept w w1 S) {g : Nat} {t : TypeId} {l : List Value} (hb : BlkIs w g t l) (hn : ¬ S g) : BlkIs w1 g t l := by
  unfold BlkIs at hb ⊢
  rw [h.block g (BlkIs.lt hb) hn]; exact hb
theorem map (h : Kept w w1 S) {P : Program} {k : TypeId} {mb n : Nat} {D : DataW Value} (hm : w.ownsMap P k RV mb n D) (hn : ¬ S mb) : w1.ownsMap P k RV mb n D := by
  have hl := hm.lt
  obtain ⟨es, clock, hb, F, hs, hD⟩ := hm
  exact ⟨es, clock, (h.block mb hl hn).trans hb, F, hs, hD⟩
end Kept

/-- a block of a disk: what lasts, what was written since, whether it is bad -/
structure Bk where
  s : List Int
  v : List (List Int)
  b : Bool
abbrev Run := List Int × Nat
def unrun (V : List Run) : List (List Int) := V.flatMap fun x => List.replicate x.2 x.1
def rowsV (V : List Run) : List Value := V.flatMap fun x => rowL x.1 x.2
def OkV (V : List Run) : Prop := ∀ x ∈ V, x.1.length = 32 ∧ AllB x.1 ∧ 0 < x.2
theorem unrun_append (V W : List Run) : unrun (V ++ W) = unrun V ++ unrun W := by simp [unrun]
theorem rowsV_append (V W : List Run) : rowsV (V ++ W) = rowsV V ++ rowsV W := by simp [rowsV]
theorem rowsV_one1 (x : Run) : rowsV [x] = rowL x.1 x.2 := by simp [rowsV]
theorem unrun_one (x : Run) : unrun [x] = List.replicate x.2 x.1 := by simp [unrun]
theorem length_rowsV {V : List Run} (h : OkV V) : (rowsV V).length = V.length * 33 := by
  induction V with
  | nil => rfl
  | cons x V ih =>
    have := ih (fun y hy => h y (List.mem_cons_of_mem _ hy))
    have e : rowsV (x :: V) = rowL x.1 x.2 ++ rowsV V := by simp [rowsV]
    rw [e, List.length_append, this, length_rowL (h x (by simp)).1, List.length_cons]; omega
theorem rowsV_one (V : List Run) : ∀ u ∈ rowsV V, u.oneCell' = true := by
  intro u hu
  obtain ⟨x, _, hx⟩ := List.mem_flatMap.1 hu
  exact rowL_one _ _ u hx
theorem OkV.app {V W : List Run} (h : OkV V) (k : OkV W) : OkV (V ++ W) := fun x hx => by
  rcases List.mem_append.1 hx with q | q
  · exact h x q
  · exact k x q
theorem OkV.left {V W : List Run} (h : OkV (V ++ W)) : OkV V := fun x hx => h x (List.mem_append_left _ hx)
theorem rowsV_at {V W : List Run} (x : Run) (h : OkV (V ++ x :: W)) {j : Nat} (hj : j < 33) : (rowsV (V ++ x :: W))[V.length * 33 + j]? = (rowL x.1 x.2)[j]? := by
  have hl := length_rowsV (V := V) (fun y hy => h y (List.mem_append_left _ hy))
  have e : rowsV (V ++ x :: W) = rowsV V ++ (rowL x.1 x.2 ++ rowsV W) := by simp [rowsV]
  rw [e, List.getElem?_append_right (by omega), hl, show V.length * 33 + j - V.length * 33 = j by omega, List.getElem?_append_left (by rw [length_rowL (h x (by simp)).1]; exact hj)]
theorem rowsV_bump (V : List Run) (x : Run) (h : OkV (V ++ [x])) (t : Nat) : (rowsV (V ++ [x])).set (V.length * 33 + 32) (.int .i64 t) = rowsV (V ++ [(x.1, t)]) := by
  have hl := length_rowsV (V := V) h.left
  have hx := (h x (by simp)).1
  rw [rowsV_append, rowsV_append, rowsV_one1, rowsV_one1, List.set_append_right _ _ (by omega), hl, show V.length * 33 + 32 - V.length * 33 = 32 by omega]
  unfold rowL
  rw [List.set_append_right _ _ (by rw [length_bytesV, hx]; omega), length_bytesV, hx]
  rfl
theorem unrun_bump (V : List Run) (x : Run) : unrun (V ++ [(x.1, x.2 + 1)]) = unrun (V ++ [x]) ++ [x.1] := by
  simp [unrun, List.replicate_succ']
theorem length_unrun {V : List Run} (h : OkV V) : V.length ≤ (unrun V).length := by
  induction V with
  | nil => simp
  | cons x V ih =>
    have := ih (fun y hy => h y (List.mem_cons_of_mem _ hy))
    have e : unrun (x :: V) = List.replicate x.2 x.1 ++ unrun V := by simp [unrun]
    have h0 := (h x (by simp)).2.2
    rw [e, List.length_append, List.length_replicate, List.length_cons]; omega
theorem times_le {V : List Run} {x : Run} (h : x ∈ V) : x.2 ≤ (unrun V).length := by
  induction V with
  | nil => cases h
  | cons y V ih =>
    have e : unrun (y :: V) = List.replicate y.2 y.1 ++ unrun V := by simp [unrun]
    rw [e, List.length_append, List.length_replicate]
    rcases List.mem_cons.1 h with rfl | q
    · omega
    · have := ih q; omega
theorem unrun_nil {V : List Run} (h : OkV V) : unrun V = [] ↔ V = [] := by
  constructor
  · intro e
    have := length_unrun h
    rw [e] at this
    exact List.eq_nil_of_length_eq_zero (by simpa using this)
  · rintro rfl; rfl
theorem unrun_last {V : List Run} {x : Run} (h : 0 < x.2) : (unrun (V ++ [x])).getLast? = some x.1 := by
  rw [unrun_append, unrun_one]
  obtain ⟨k, hk⟩ : ∃ k, x.2 = k + 1 := ⟨x.2 - 1, by omega⟩
  rw [hk, List.replicate_succ', ← List.append_assoc, List.getLast?_append]
  simp
theorem snoc {α : Type} (V : List α) (h : V ≠ []) : ∃ V0 x, V = V0 ++ [x] := ⟨V.dropLast, V.getLast h, (List.dropLast_concat_getLast h).symm⟩

/-- which block a slice lies in -/
def own (A : Option Addr) : Option Nat := A.map (·.block)
theorem own_eq (A : Option Addr) (n c : Nat) : (Value.slice A n c).ownBlock = own A := by cases A <;> rfl
def foot (g n mb : Nat) (A : Nat → Option Addr) : Nat → Prop := fun b => b = g ∨ b = mb ∨ ∃ j, j < n ∧ own (A j) = some b
structure CodeAt (w : World) (g n : Nat) (S : Nat → Bk) (c : Nat) (L : List Int) (B : List Bool) (mb k : Nat) (D : DataW Value) (V : Nat → List Run) (A : Nat → Option Addr) (C : Nat → Nat) : Prop where
  disk : DiskAt w g n L B mb
  map : w.ownsMap Try.prog 3 RV mb k D
  kc : k ≤ c
  keys : ∀ i : Int, Maps.has D (.int .i64 i) = true → ∃ j : Nat, i = (j : Int) ∧ j < n
  here : ∀ j, j < n → V j ≠ [] → ∀ z, D.atKey (.int .i64 (j : Int)) z = .held (.slice (A j) (V j).length (C j))
  gone : ∀ j, j < n → V j = [] → Maps.has D (.int .i64 (j : Int)) = false ∧ A j = none ∧ C j = 0
  row : ∀ j, j < n → w.ownsRow 0 79 33 (.slice (A j) (V j).length (C j)) (V j).length (rowsV (V j))
  ok : ∀ j, j < n → OkV (V j)
  sec : ∀ j, j < n → sec L j = (S j).s
  bad : ∀ j, j < n → B.getD j false = (S j).b
  ver : ∀ j, j < n → unrun (V j) = (S j).v
  few : ∀ j, j < n → (S j).v.length ≤ c
  apart : ∀ i j, i < n → j < n → i ≠ j → ∀ b, own (A i) = some b → own (A j) ≠ some b
/-- a disk of n blocks S at the block g, in the blocks F, behind at most c writes -/
def Code (w : World) (g n : Nat) (S : Nat → Bk) (c : Nat) (F : Nat → Prop) : Prop := ∃ L B mb k D V A C, CodeAt w g n S c L B mb k D V A C ∧ F = foot g n mb A
/-- what a call of an object in the blocks F leaves -/
def Went (w w' : World) (F : Nat → Prop) (Q : (Nat → Prop) → Prop) : Prop := ∃ F', Q F' ∧ Kept w w' F ∧ ∀ b, F' b → F b ∨ w.heap.size ≤ b
namespace CodeAt
variable {w w' : World} {g n c mb k : Nat} {S : Nat → Bk} {L : List Int} {B : List Bool} {D : DataW Value} {V : Nat → List Run} {A : Nat → Option Addr} {C : Nat → Nat}
theorem glt (h : CodeAt w g n S c L B mb k D V A C) : g < w.heap.size := h.disk.blk.lt
theorem n96 (h : CodeAt w g n S c L B mb k D V A C) : n ≤ 96 := by have := h.disk.hi; omega
theorem n0 (h : CodeAt w g n S c L B mb k D V A C) : 1 ≤ n := by have := h.disk.lo; omega
theorem foot_lt (h : CodeAt w g n S c L B mb k D V A C) : ∀ b, foot g n mb A b → b < w.heap.size := by
  rintro b (rfl | rfl | ⟨j, hj, hb⟩)
  · exact h.glt
  · exact h.map.lt
  · exact ((h.row j hj).lt b (by rw [own_eq]; exact hb)).2
theorem gm (h : CodeAt w g n S c L B mb k D V A C) : g ≠ mb := by
  rintro rfl
  obtain ⟨es, clock, hb, _⟩ := h.map
  have := h.disk.blk
  unfold BlkIs at this
  rw [hb] at this
  simp at this
theorem row_typed (h : CodeAt w g n S c L B mb k D V A C) {j b : Nat} (hj : j < n) (hb : own (A j) = some b) : ∃ cs, w.heap[b]? = some (.cells cs 79 (0, 0)) := by
  rcases (h.row j hj).2 with ⟨q, _⟩ | ⟨x, cap, cur, q, _, hx, _⟩
  · obtain ⟨q, _, _⟩ := Value.slice.inj q
    rw [q] at hb; simp [own] at hb
  · obtain ⟨q, _, _⟩ := Value.slice.inj q
    rw [q] at hb
    simp [own] at hb
    subst hb
    exact ⟨_, hx⟩
theorem row_g (h : CodeAt w g n S c L B mb k D V A C) {j b : Nat} (hj : j < n) (hb : own (A j) = some b) : b ≠ g := by
  rintro rfl
  obtain ⟨cs, hc⟩ := h.row_typed hj hb
  have := h.disk.blk
  unfold BlkIs at this
  rw [hc] at this
  simp at this
theorem row_m (h : CodeAt w g n S c L B mb k D V A C) {j b : Nat} (hj : j < n) (hb : own (A j) = some b) : b ≠ mb := by
  rintro rfl
  obtain ⟨cs, hc⟩ := h.row_typed hj hb
  obtain ⟨es, clock, hm, _⟩ := h.map
  rw [hc] at hm
  simp at hm
theorem has_eq (h : CodeAt w g n S c L B mb k D V A C) {j : Nat} (hj : j < n) : Maps.has D (.int .i64 (j : Int)) = !(V j).isEmpty := by
  by_cases e : V j = []
  · rw [(h.gone j hj e).1, e]; rfl
  · rw [Maps.has_true_of_atKey (h.here j hj e)]
    cases hv : V j with
    | nil => exact absurd hv e
    | cons a b => rfl
theorem at_nil (h : CodeAt w g n S c L B mb k D V A C) {j : Nat} (hj : j < n) : D.atKey (.int .i64 (j : Int)) (.held (.slice none 0 0)) = .held (.slice (A j) (V j).length (C j)) := by
  by_cases e : V j = []
  · obtain ⟨h1, h2, h3⟩ := h.gone j hj e
    rw [Maps.atKey_of_not_has h1, e, h2, h3]; rfl
  · exact h.here j hj e _
theorem keep {G : Nat → Prop} (h : CodeAt w g n S c L B mb k D V A C) (hk : Kept w w' G) (hd : ∀ b, foot g n mb A b → ¬ G b) : CodeAt w' g n S c L B mb k D V A C :=
  ⟨⟨hk.blk h.disk.blk (hd g (.inl rfl)), h.disk.lo, h.disk.hi, h.disk.lenL, h.disk.lenB, h.disk.allL⟩, hk.map h.map (hd mb (.inr (.inl rfl))), h.kc, h.keys, h.here, h.gone,
    fun j hj => hk.row (h.row j hj) (fun b hb => hd b (.inr (.inr ⟨j, hj, by rw [← own_eq]; exact hb⟩))), h.ok, h.sec, h.bad, h.ver, h.few, h.apart⟩
theorem fresh (h : CodeAt w g n S c L B mb k D V A C) (hb : Below w.heap.size w w') : CodeAt w' g n S c L B mb k D V A C :=
  h.keep (G := fun _ => False) (Kept.fresh hb) (fun _ _ q => q)
theorem len_le (h : CodeAt w g n S c L B mb k D V A C) {j : Nat} (hj : j < n) : (V j).length ≤ c := by
  have h1 := length_unrun (h.ok j hj)
  rw [h.ver j hj] at h1
  have := h.few j hj
  omega
theorem time_le (h : CodeAt w g n S c L B mb k D V A C) {j : Nat} (hj : j < n) {x : Run} (hx : x ∈ V j) : x.2 ≤ c := by
  have h1 := times_le hx
  rw [h.ver j hj] at h1
  have := h.few j hj
  omega
end CodeAt
theorem Code.keep {w w' : World} {g n c : Nat} {S : Nat → Bk} {F G : Nat → Prop} (h : Code w g n S c F) (hk : Kept w w' G) (hd : ∀ b, F b → ¬ G b) : Code w' g n S c F := by
  obtain ⟨L, B, mb, k, D, V, A, C, h, rfl⟩ := h
  exact ⟨L, B, mb, k, D, V, A, C, h.keep hk hd, rfl⟩
theorem Code.fresh {w w' : World} {g n c : Nat} {S : Nat → Bk} {F : Nat → Prop} (h : Code w g n S c F) (hb : Below w.heap.size w w') : Code w' g n S c F := h.keep (G := fun _ => False) (Kept.fresh hb) (fun _ _ q => q)
theorem Code.lt {w : World} {g n c : Nat} {S : Nat → Bk} {F : Nat → Prop} (h : Code w g n S c F) : ∀ b, F b → b < w.heap.size := by
  obtain ⟨L, B, mb, k, D, V, A, C, h, rfl⟩ := h
  exact h.foot_lt
theorem Code.size {w : World} {g n c : Nat} {S : Nat → Bk} {F : Nat → Prop} (h : Code w g n S c F) : 1 ≤ n ∧ n ≤ 96 ∧ w.cell? ⟨g, 0, none⟩ = some (.int .i64 n) ∧ g < w.heap.size := by
  obtain ⟨L, B, mb, k, D, V, A, C, h, rfl⟩ := h
  exact ⟨h.n0, h.n96, h.disk.c0, h.glt⟩
/-- the blocks with one changed -/
def upd (S : Nat → Bk) (i : Nat) (b : Bk) : Nat → Bk := fun j => if j = i then b else S j
theorem upd_same (S : Nat → Bk) (i : Nat) (b : Bk) : upd S i b i = b := by simp [upd]
theorem upd_other (S : Nat → Bk) {i j : Nat} (b : Bk) (h : j ≠ i) : upd S i b j = S j := by simp [upd, h]
end Go.Proofs.Ytkldiofleepkfaa

/- Two sectors compared; loads and comparisons as steps of a drawn region. -/
namespace Go.Proofs.Ytkldiofleepkfaa
open Go.RowKit

theorem items_any (d : Nat) (a b : List Int) (w : World) (ha : a.length = 32) (hb : b.length = 32) : ∀ is : List Nat, (∀ i ∈ is, i < 32) →
    (Op.eqItems (d + 1) 5 (Try.prog.cellsOf 5) (bytesV a).toArray (bytesV b).toArray is).run Try.prog w = .ok (is.all fun i => decide (nth a i = nth b i)) w
  | [], _ => by simp [Op.eqItems]
  | i :: is, hi => by
    have h32 := hi i (by simp)
    have hx : ∀ l : List Int, l.length = 32 → (bytesV l).toArray[i]? = some (.int .u8 (nth l i)) := fun l hl => by
      rw [List.getElem?_toArray, bytesV, List.getElem?_map, List.getElem?_eq_getElem (by omega), nth_lt (by omega)]; rfl
    have hc : Try.prog.cellsOf 5 = 1 := by kernel_rfl
    have hp := run_part_plain (P := Try.prog) (w := w) (e := 5) (by kernel_rfl) (off := i * Try.prog.cellsOf 5) (v := .int .u8 (nth a i)) (by rw [hc, Nat.mul_one]; exact hx a ha)
    have hq := run_part_plain (P := Try.prog) (w := w) (e := 5) (by kernel_rfl) (off := i * Try.prog.cellsOf 5) (v := .int .u8 (nth b i)) (by rw [hc, Nat.mul_one]; exact hx b hb)
    have he := run_equalIn_int (P := Try.prog) w d 5 .u8 .u8 (nth a i) (nth b i) Try.underlying5
    have ih := items_any d a b w ha hb is (fun j hj => hi j (by simp [hj]))
    simp only [Op.eqItems, Sem.run_bind, hp, hq, Result.andThen_ok, he]
    by_cases e : nth a i = nth b i
    · simp [e, ih]
    · simp [e]
theorem all_same {a b : List Int} (ha : a.length = 32) (hb : b.length = 32) : ((List.range 32).all fun i => decide (nth a i = nth b i)) = decide (a = b) := by
  by_cases e : a = b
  · subst e; simp
  · rw [decide_eq_false e]
    rw [List.all_eq_false]
    refine Classical.byContradiction fun hn => e (ext_nth (by rw [ha, hb]) fun i hi => ?_)
    refine Classical.byContradiction fun hne => hn ⟨i, List.mem_range.2 (by omega), by simpa using hne⟩
set_option maxRecDepth 100000 in
theorem eqAny (t : TypeId) (hu : Try.prog.underlying t = some (.array 32 5)) (a b : List Int) (ha : a.length = 32) (hb : b.length = 32) (w : World) : (Op.equalIn 10000 t (.agg (bytesV a).toArray) (.agg (bytesV b).toArray)).run Try.prog w = .ok (decide (a = b)) w := by
  obtain ⟨i5, hi5, _⟩ := Option.map_eq_some_iff.1 size5
  rw [show (10000 : Nat) = 9999 + 1 from rfl, run_equalIn_array (P := Try.prog) w 9999 _ _ hu hi5]
  have := items_any 9998 a b w ha hb (List.range 32) (fun i hi => List.mem_range.1 hi)
  rw [all_same ha hb] at this
  exact this
section
variable {P : Program} {ops : Array Oper} {o : Oper} {a : Act} {w : World} {K : Act → World → Prop} {Q : Exit → Act → World → Prop} {E : Prop}
theorem step_on (hw : Region.wanted o (yielded ops a.tmps) = true) (h : Oper.wp P o a w K Q) : if Region.wanted o (yielded ops a.tmps) = true then Oper.wp P o a w K Q else E := by
  rw [if_pos hw]; exact h
theorem exec_mid {ev : Operand → Value} (ty : TypeId) (x : Operand) (ho : o.op = .load ty x) (b off : Nat) (hx : ev x = .pointer (some ⟨b, off, none⟩)) (cs : List Value) (d : TypeDesc) (hc : w.rangeAt b off cs)
    (hu : P.underlying ty = some d) (hd : d.isRow = true) (hi : (P.info? ty).map (·.size) = some cs.length) : (execOp ev o).run P w = .ok (.value (.agg cs.toArray)) w := by
  unfold execOp
  simp only [ho, hx, Instr.loadAt, Instr.sureAddr, Sem.run_bind, Sem.run_pure, Result.andThen_ok, run_loadVar_mid w b off ty cs d hc hu hd hi]
theorem exec_row {ev : Operand → Value} (ty : TypeId) (x : Operand) (ho : o.op = .load ty x) (b : Nat) (hx : ev x = .pointer (some ⟨b, 0, none⟩)) (t : TypeId) (cs : Array Value) (fr : Nat × Nat) (d : TypeDesc) (hb : w.heap[b]? = some (.cells cs t fr))
    (hu : P.underlying ty = some d) (hd : (match d with | .struct _ | .array _ _ => true | _ => false) = true) (hi : (P.info? ty).map (·.size) = some cs.size) : (execOp ev o).run P w = .ok (.value (.agg cs)) w := by
  unfold execOp
  simp only [ho, hx, Instr.loadAt, Instr.sureAddr, Sem.run_bind, Sem.run_pure, Result.andThen_ok, run_loadVar_row w b t ty cs fr d hb hu hd hi]
theorem exec_eq {ev : Operand → Value} (t u : TypeId) (x y : Operand) (ho : o.op = .binOp .eql t x y u) (hu : Try.prog.underlying t = some (.array 32 5)) (p q : List Int) (hx : ev x = .agg (bytesV p).toArray) (hy : ev y = .agg (bytesV q).toArray) (hp : p.length = 32) (hq : q.length = 32) (hm : Try.prog.eqGuardType Try.prog.depth t = false) :
    (execOp ev o).run Try.prog w = .ok (.value (.bool (decide (p = q)))) w := by
  have := eqAny t hu p q hp hq w
  unfold execOp
  simp [ho, hx, hy, run_eqGuard_agg (hm := hm), binOp, Op.equal, Op.maxDepth, this]
end
end Go.Proofs.Ytkldiofleepkfaa

/- The contract of 'Write' of a block of which some versions wait, the last one the same. -/
namespace Go.Proofs.Ytkldiofleepkfaa
open Go.RowKit

theorem setCell_grown (w : World) (a : Addr) (v : Value) : w.grownBy (w.setCell a v) (some a.block) :=
  ⟨rfl, rfl, rfl, by simp [World.setCell], fun k _ hne => by simp [World.setCell, Array.getElem?_modify]; intro e; exact absurd (by rw [e]) hne⟩
set_option maxRecDepth 100000 in
set_option linter.unusedSimpArgs false in
set_option maxHeartbeats 2000000 in
theorem write_same (g : Nat) (n : Int) (L : List Int) (B : List Bool) (mb i k : Nat) (D : DataW Value) (s : List Int) (w : World) (h : DiskAt w g n L B mb) (hi : (i : Int) < n) (hm : w.ownsMap Try.prog 3 RV mb k D)
    (gv q cap : Nat) (V0 : List Run) (x : Run) (hat : D.atKey (.int .i64 (i : Int)) (.held (.slice none 0 0)) = .held (.slice (some ⟨gv, 0, none⟩) (q + 1) cap))
    (hrow : w.ownsRow 0 79 33 (.slice (some ⟨gv, 0, none⟩) (q + 1) cap) (q + 1) (rowsV (V0 ++ [x]))) (hV : V0.length = q) (hok : OkV (V0 ++ [x])) (hbad : B.getD i false = false) (hq : q < 1000000000) (ht : x.2 < 1000000000) (hs : s.length = 32) (hxs : x.1 = s) :
    Calls Try.prog 18 #[.pointer (some ⟨g, 0, none⟩), .int .i64 (i : Int), secV s] w fun e w' => e = .returned (.int .i64 0) ∧ w'.ownsRow 0 79 33 (.slice (some ⟨gv, 0, none⟩) (q + 1) cap) (q + 1) (rowsV (V0 ++ [(x.1, x.2 + 1)])) ∧ Kept w w' (fun b => b = gv) := by
  have hgw : g < w.heap.size := h.blk.lt
  have hmw : mb < w.heap.size := hm.lt
  have hgvw : gv < w.heap.size := (hrow.lt gv rfl).2
  have hi96 : i < 96 := by have := h.hi; omega
  have hii0 : (0 : Int) ≤ (i : Int) := by omega
  have hii1 : (i : Int) < 96 := by omega
  have hq0 : (0 : Int) ≤ (q : Int) := by omega
  have hwq : IntKind.i64.wrap (q : Int) = (q : Int) := by simp [IntKind.wrap, IntKind.bits, IntKind.signed]; omega
  have hq2 : (q : Int) < (q : Int) + 1 := by omega
  have A := Lib.hid (fun W hc => ask_yes g n i W hc hi)
  have hx32 := (hok x (by simp)).1
  have hsz : Hid ((Try.prog.info? 47).map (·.size) = some (bytesV s).toArray.size) := by unfold Hid; rw [List.size_toArray, length_bytesV, hs]; exact size36
  have hszX : Hid ((Try.prog.info? 47).map (·.size) = some (bytesV x.1).length) := by unfold Hid; rw [length_bytesV, hx32]; exact size36
  have hcell : ∀ j, j < 33 → w.cell? ⟨gv, q * 33 + j, none⟩ = (rowL x.1 x.2)[j]? := fun j hj => by
    rw [hrow.cellAt _ (by omega), ← hV]
    exact rowsV_at (W := []) x hok hj
  have hRng : Hid (w.rangeAt gv (q * 33) (bytesV x.1)) := fun j u hj => by
    have hj' : j < 32 := by
      rcases Nat.lt_or_ge j 32 with h1 | h1
      · exact h1
      · rw [List.getElem?_eq_none (by rw [length_bytesV, hx32]; exact h1)] at hj; cases hj
    rw [hcell j (by omega), rowL, List.getElem?_append_left (by rw [length_bytesV, hx32]; exact hj')]
    exact hj
  have hTim : w.cell? ⟨gv, q * 33 + 32, none⟩ = some (.int .i64 x.2) := by
    rw [hcell 32 (by omega), rowL, List.getElem?_append_right (by rw [length_bytesV, hx32]; omega), length_bytesV, hx32]
    rfl
  have hFrz : w.frozen? ⟨gv, q * 33 + 32, none⟩ = false := hrow.frozenAt _
  have HTim := Lib.hid hTim
  have HFrz := Lib.hid hFrz
  have Hk := Lib.hid (key3 hi96)
  have Hat := Lib.hid hat
  have HRow := Lib.hid hrow
  have Hok := Lib.hid hok
  have HV := Lib.hid hV
  have HB : Hid (∀ W, Below w.heap.size w W → W.cell? ⟨g, 0, none⟩ = some (.int .i64 n) ∧ W.cell? ⟨g, 3073 + i, none⟩ = some (.bool false) ∧ W.ownsMap Try.prog 3 RV mb k D ∧ W.cell? ⟨g, 3169, none⟩ = some (.map (some mb))) := fun W hB => by
    have hd := h.below hB hgw
    refine ⟨hd.c0, by rw [hd.bad hi96, hbad], ?_, hd.cmap⟩
    obtain ⟨es, clock, hb, F, hs, hD⟩ := hm
    exact ⟨es, clock, (hB.block mb hmw).trans hb, F, hs, hD⟩
  have EQ : Hid (∀ (W : World) (o : Oper) (ev : Operand → Value), o.op = .binOp .eql 47 (.tmp 39) (.tmp 40) 47 → ev (.tmp 39) = .agg (bytesV x.1).toArray → ev (.tmp 40) = .agg (bytesV s).toArray → (execOp ev o).run Try.prog W = .ok (.value (.bool true)) W) := fun W o ev ho h1 h2 => by
    have := exec_eq (w := W) 47 47 _ _ ho Try.underlying47 x.1 s h1 h2 hx32 hs (by kernel_rfl)
    rw [this]
    simp [hxs]
  have ht0 : (0 : Int) ≤ (x.2 : Int) := by omega
  have ht1 : IntKind.i64.wrap ((x.2 : Int) + 1) = (x.2 : Int) + 1 := by simp [IntKind.wrap, IntKind.bits, IntKind.signed]; omega
  have HP : Hid ((rowsV (V0 ++ [x])).set (q * 33 + 32) (.int .i64 ((x.2 : Int) + 1)) = rowsV (V0 ++ [(x.1, x.2 + 1)])) := by
    have := rowsV_bump V0 x hok (x.2 + 1)
    rw [hV] at this
    rw [← this]; simp [Hid]
  have Hs := Lib.hid hs
  unfold secV
  obtain ⟨X0, hX0⟩ : ∃ X0, X0 = bytesV x.1 := ⟨_, rfl⟩
  rw [← hX0] at hszX hRng EQ
  obtain ⟨R0, hR0⟩ : ∃ R0, R0 = (bytesV s).toArray := ⟨_, rfl⟩
  rw [← hR0] at hsz EQ ⊢
  clear h hm hat hbad hs hok hV hrow hcell hTim hFrz hx32 hX0 hR0 hxs
  go_enter Try.func18, Try.ntmps18
  go_wp2_with (refine wpList_boxTo rfl 47 (.tmp 2) rfl (some 5) rfl w.heap.size rfl R0 rfl ?_)
  generalize hW : w.alloc (.cells R0 47) = w1
  have b1 : Hid (w1.heap[w.heap.size]? = some (.cells R0 47 (0, 0))) := by rw [← hW]; exact heap_alloc_new w _
  have B1 : Hid (Below w.heap.size w w1) := by rw [← hW]; exact below_alloc1 w _
  have s1 : Hid (w1.heap.size = w.heap.size + 1) := by rw [← hW]; exact size_alloc1 w _
  clear hW
  obtain ⟨c0, c1, m1, c2⟩ := HB.out w1 B1.out
  have M1 := Lib.hid m1
  clear m1
  refine (A.out _ c0).mono ?_
  rintro e w' ⟨rfl, rfl⟩
  go_wp2_with (refine wpList_lookup_held rfl (.tmp 26) (.tmp 27) 52 rfl 3 76 law3 Try.underlying52 (zero81 _) mb k D rfl M1.out _ _ rfl Hk.out _ Hat.out ?_)
  have X8 : Hid (w1.drew.rangeAt gv (q * 33) X0 ∧ w1.drew.heap[w.heap.size]? = some (.cells R0 47 (0, 0))) := ⟨fun j u hj => (World.cell?_of_block (B1.out.block gv hgvw)).trans (hRng.out j u hj), b1.out⟩
  refine wp_region_held_drew (S := (fun W => W.rangeAt gv (q * 33) X0 ∧ W.heap[w.heap.size]? = some (.cells R0 47 (0, 0)))) (by kernel_rfl) (X8.out) (fun hHeld => ?_)
  refine takeH (i := 0) (some 32) (v := ?_) rfl rfl (by kernel_rfl) (by kernel_rfl) (by kernel_rfl) (fun _ _ _ h => h) (by rfl) ?_ (by assumption) ?_
  rotate_left
  · (intro w hSw; (try dsimp only at hSw); go_simp; try with_reducible rfl)
  simp only [Act.put, List.setIfInBounds_toArray, List.set_cons_zero, List.set_cons_succ]
  refine takeH (i := 1) (some 33) (v := ?_) rfl rfl (by kernel_rfl) (by kernel_rfl) (by kernel_rfl) (fun _ _ _ h => h) (by rfl) ?_ (by assumption) ?_
  rotate_left
  · (intro w hSw; (try dsimp only at hSw); go_simp; try with_reducible rfl)
  simp only [Act.put, List.setIfInBounds_toArray, List.set_cons_zero, List.set_cons_succ]
  refine takeH (i := 2) (some 34) (v := ?_) rfl rfl (by kernel_rfl) (by kernel_rfl) (by kernel_rfl) (fun _ _ _ h => h) (by rfl) ?_ (by assumption) ?_
  rotate_left
  · (intro w hSw; (try dsimp only at hSw); go_simp; try with_reducible rfl)
  simp only [Act.put, List.setIfInBounds_toArray, List.set_cons_zero, List.set_cons_succ]
  refine takeH (i := 3) (some 35) (v := ?_) rfl rfl (by kernel_rfl) (by kernel_rfl) (by kernel_rfl) (fun _ _ _ h => h) (by rfl) ?_ (by assumption) ?_
  rotate_left
  · (intro w hSw; (try dsimp only at hSw); go_simp; try with_reducible rfl)
  simp only [Act.put, List.setIfInBounds_toArray, List.set_cons_zero, List.set_cons_succ]
  refine takeH (i := 4) (some 36) (v := ?_) rfl rfl (by kernel_rfl) (by kernel_rfl) (by kernel_rfl) (fun _ _ _ h => h) (by rfl) ?_ (by assumption) ?_
  rotate_left
  · (intro w hSw; (try dsimp only at hSw); go_simp; try with_reducible rfl)
  simp only [Act.put, List.setIfInBounds_toArray, List.set_cons_zero, List.set_cons_succ]
  refine takeH (i := 5) (some 37) (v := ?_) rfl rfl (by kernel_rfl) (by kernel_rfl) (by kernel_rfl) (fun _ _ _ h => h) (by rfl) ?_ (by assumption) ?_
  rotate_left
  · (intro w hSw; (try dsimp only at hSw); go_simp; try with_reducible rfl)
  simp only [Act.put, List.setIfInBounds_toArray, List.set_cons_zero, List.set_cons_succ]
  refine takeH (i := 6) (some 38) (v := ?_) rfl rfl (by kernel_rfl) (by kernel_rfl) (by kernel_rfl) (fun _ _ _ h => h) (by rfl) ?_ (by assumption) ?_
  rotate_left
  · (intro w hSw; (try dsimp only at hSw); go_simp; try with_reducible rfl)
  simp only [Act.put, List.setIfInBounds_toArray, List.set_cons_zero, List.set_cons_succ]
  refine takeH (i := 7) (some 39) (v := ?_) rfl rfl (by kernel_rfl) (by kernel_rfl) (by kernel_rfl) (fun _ _ _ h => h) (by rfl) ?_ (by assumption) ?_
  rotate_left
  · (intro w hSw; (refine exec_mid 47 (.tmp 38) ?_ gv (q * 33) ?_ X0 _ hSw.1 Try.underlying47 rfl hszX.out) <;> rfl)
  simp only [Act.put, List.setIfInBounds_toArray, List.set_cons_zero, List.set_cons_succ]
  refine takeH (i := 8) (some 40) (v := ?_) rfl rfl (by kernel_rfl) (by kernel_rfl) (by kernel_rfl) (fun _ _ _ h => h) (by rfl) ?_ (by assumption) ?_
  rotate_left
  · (intro w hSw; (refine exec_row 47 (.tmp 5) ?_ _ ?_ 47 R0 (0, 0) _ hSw.2 Try.underlying47 rfl hsz.out) <;> rfl)
  simp only [Act.put, List.setIfInBounds_toArray, List.set_cons_zero, List.set_cons_succ]
  refine takeH (i := 9) (some 41) (v := ?_) rfl rfl (by kernel_rfl) (by kernel_rfl) (by kernel_rfl) (fun _ _ _ h => h) (by rfl) ?_ (by assumption) ?_
  rotate_left
  · (intro w hSw; (refine EQ.out _ _ _ ?_ ?_ ?_) <;> rfl)
  simp only [Act.put, List.setIfInBounds_toArray, List.set_cons_zero, List.set_cons_succ]
  refine takeH (i := 10) (some 42) (v := ?_) rfl rfl (by kernel_rfl) (by kernel_rfl) (by kernel_rfl) (fun _ _ _ h => h) (by rfl) ?_ (by assumption) ?_
  rotate_left
  · (intro w hSw; (try dsimp only at hSw); go_simp; try with_reducible rfl)
  simp only [Act.put, List.setIfInBounds_toArray, List.set_cons_zero, List.set_cons_succ]
  refine wpAnyH_done (by kernel_rfl) ?_ _
  have c9 : w1.drew.cell? ⟨gv, q * 33 + 32, none⟩ = some (.int .i64 x.2) := (World.cell?_of_block (B1.out.block gv hgvw)).trans HTim.out
  have f9 : w1.drew.frozen? ⟨gv, q * 33 + 32, none⟩ = false := (World.frozen?_of_block (B1.out.block gv hgvw)).trans HFrz.out
  have O9 : Hid (w1.drew.ownsRow 0 79 33 (.slice (some ⟨gv, 0, none⟩) (q + 1) cap) (q + 1) (rowsV (V0 ++ [x]))) := (Kept.fresh (S := fun _ => False) B1.out.drew).row HRow.out (fun _ _ q => q)
  go_wp2
  go_ret
  refine ⟨rfl, ?_, ?_⟩
  · rw [← HP.out]
    exact (O9.out.stored (q * 33 + 32) _).1
  · exact (Kept.fresh (S := fun b => b = gv) B1.out.drew).trans (Kept.grown (S := fun b => b = gv) (setCell_grown w1.drew _ _) (fun k e => by cases e; exact .inl rfl)) (fun _ h => .inl h)
end Go.Proofs.Ytkldiofleepkfaa

/- The contract of 'Write' of a block of which some versions wait, the last one another one. -/
set_option linter.unusedVariables false
set_option linter.unusedSimpArgs false
namespace Go.Proofs.Ytkldiofleepkfaa
open Go.RowKit

/-- what is behind a write that adds a row: the map has the block, with a row that may have moved -/
def Pushed (w w' : World) (gv mb k q i : Nat) (D : DataW Value) (V : List Run) : Prop :=
  ∃ gn cap, w'.ownsMap Try.prog 3 RV mb (k + 1) (D.put (.int .i64 (i : Int)) (.held (.slice (some ⟨gn, 0, none⟩) (q + 1 + 1) cap))) ∧ w'.ownsRow 0 79 33 (.slice (some ⟨gn, 0, none⟩) (q + 1 + 1) cap) (q + 1 + 1) (rowsV V) ∧ Kept w w' (fun b => b = gv ∨ b = mb) ∧ (gn = gv ∨ w.heap.size ≤ gn)
set_option maxRecDepth 100000 in
set_option linter.unusedSimpArgs false in
set_option maxHeartbeats 2000000 in
theorem write_more (g : Nat) (n : Int) (L : List Int) (B : List Bool) (mb i k : Nat) (D : DataW Value) (s : List Int) (w : World) (h : DiskAt w g n L B mb) (hi : (i : Int) < n) (hm : w.ownsMap Try.prog 3 RV mb k D)
    (gv q cap : Nat) (V0 : List Run) (x : Run) (hat : D.atKey (.int .i64 (i : Int)) (.held (.slice none 0 0)) = .held (.slice (some ⟨gv, 0, none⟩) (q + 1) cap))
    (hrow : w.ownsRow 0 79 33 (.slice (some ⟨gv, 0, none⟩) (q + 1) cap) (q + 1) (rowsV (V0 ++ [x]))) (hV : V0.length = q) (hok : OkV (V0 ++ [x])) (hbad : B.getD i false = false) (hq : q < 1000000000) (ht : x.2 < 1000000000) (hs : s.length = 32) (hxs : x.1 ≠ s) (hk : k < maxLen) (hgg : gv ≠ g) (hgvm : gv ≠ mb) (hgm : g ≠ mb) :
    Calls Try.prog 18 #[.pointer (some ⟨g, 0, none⟩), .int .i64 (i : Int), secV s] w fun e w' => e = .returned (.int .i64 0) ∧ Pushed w w' gv mb k q i D (V0 ++ [x] ++ [(s, 1)]) := by
  have hgw : g < w.heap.size := h.blk.lt
  have hmw : mb < w.heap.size := hm.lt
  have hgvw : gv < w.heap.size := (hrow.lt gv rfl).2
  have hi96 : i < 96 := by have := h.hi; omega
  have hii0 : (0 : Int) ≤ (i : Int) := by omega
  have hii1 : (i : Int) < 96 := by omega
  have hq0 : (0 : Int) ≤ (q : Int) := by omega
  have hwq : IntKind.i64.wrap (q : Int) = (q : Int) := by simp [IntKind.wrap, IntKind.bits, IntKind.signed]; omega
  have hq2 : (q : Int) < (q : Int) + 1 := by omega
  have A := Lib.hid (fun W hc => ask_yes g n i W hc hi)
  have hx32 := (hok x (by simp)).1
  have hsz : Hid ((Try.prog.info? 47).map (·.size) = some (bytesV s).toArray.size) := by unfold Hid; rw [List.size_toArray, length_bytesV, hs]; exact size36
  have hszX : Hid ((Try.prog.info? 47).map (·.size) = some (bytesV x.1).length) := by unfold Hid; rw [length_bytesV, hx32]; exact size36
  have hcell : ∀ j, j < 33 → w.cell? ⟨gv, q * 33 + j, none⟩ = (rowL x.1 x.2)[j]? := fun j hj => by
    rw [hrow.cellAt _ (by omega), ← hV]
    exact rowsV_at (W := []) x hok hj
  have hRng : Hid (w.rangeAt gv (q * 33) (bytesV x.1)) := fun j u hj => by
    have hj' : j < 32 := by
      rcases Nat.lt_or_ge j 32 with h1 | h1
      · exact h1
      · rw [List.getElem?_eq_none (by rw [length_bytesV, hx32]; exact h1)] at hj; cases hj
    rw [hcell j (by omega), rowL, List.getElem?_append_left (by rw [length_bytesV, hx32]; exact hj')]
    exact hj
  have hTim : w.cell? ⟨gv, q * 33 + 32, none⟩ = some (.int .i64 x.2) := by
    rw [hcell 32 (by omega), rowL, List.getElem?_append_right (by rw [length_bytesV, hx32]; omega), length_bytesV, hx32]
    rfl
  have hFrz : w.frozen? ⟨gv, q * 33 + 32, none⟩ = false := hrow.frozenAt _
  have HTim := Lib.hid hTim
  have HFrz := Lib.hid hFrz
  have Hk := Lib.hid (key3 hi96)
  have Hat := Lib.hid hat
  have HRow := Lib.hid hrow
  have Hok := Lib.hid hok
  have HV := Lib.hid hV
  have HB : Hid (∀ W, Below w.heap.size w W → W.cell? ⟨g, 0, none⟩ = some (.int .i64 n) ∧ W.cell? ⟨g, 3073 + i, none⟩ = some (.bool false) ∧ W.ownsMap Try.prog 3 RV mb k D ∧ W.cell? ⟨g, 3169, none⟩ = some (.map (some mb))) := fun W hB => by
    have hd := h.below hB hgw
    refine ⟨hd.c0, by rw [hd.bad hi96, hbad], ?_, hd.cmap⟩
    obtain ⟨es, clock, hb, F, hs, hD⟩ := hm
    exact ⟨es, clock, (hB.block mb hmw).trans hb, F, hs, hD⟩
  have EQ : Hid (∀ (W : World) (o : Oper) (ev : Operand → Value), o.op = .binOp .eql 47 (.tmp 39) (.tmp 40) 47 → ev (.tmp 39) = .agg (bytesV x.1).toArray → ev (.tmp 40) = .agg (bytesV s).toArray → (execOp ev o).run Try.prog W = .ok (.value (.bool false)) W) := fun W o ev ho h1 h2 => by
    have := exec_eq (w := W) 47 47 _ _ ho Try.underlying47 x.1 s h1 h2 hx32 hs (by kernel_rfl)
    rw [this]
    simp [hxs]
  obtain ⟨i0, hi0, hz0, hz1, hz2⟩ := info_parts info83
  have HKm := Lib.hid hk
  have B83 := Lib.hid (built83 1 s hs)
  have F83 := Lib.hid (fill83 1 s hs)
  have HNl : Hid ((rowL s 1).toArray.toList.length = 1 * 33) := by unfold Hid; rw [show (rowL s 1).toArray.toList = rowL s 1 from rfl, length_rowL hs]
  have HN1 : Hid (∀ u ∈ (rowL s 1).toArray.toList, u.oneCell' = true) := rowL_one s 1
  have HR : Hid (rowsV (V0 ++ [x]) ++ (rowL s 1).toArray.toList = rowsV (V0 ++ [x] ++ [(s, 1)])) := by unfold Hid; rw [rowsV_append (V0 ++ [x]), rowsV_one1]; rfl
  have Hs := Lib.hid hs
  unfold secV
  obtain ⟨X0, hX0⟩ : ∃ X0, X0 = bytesV x.1 := ⟨_, rfl⟩
  rw [← hX0] at hszX hRng EQ
  obtain ⟨R0, hR0⟩ : ∃ R0, R0 = (bytesV s).toArray := ⟨_, rfl⟩
  rw [← hR0] at hsz EQ B83 ⊢
  obtain ⟨N0, hN0⟩ : ∃ N0, N0 = (rowL s 1).toArray := ⟨_, rfl⟩
  rw [← hN0] at B83 F83 HNl HN1 HR
  obtain ⟨W9, hW9⟩ : ∃ W9, W9 = V0 ++ [x] ++ [(s, 1)] := ⟨_, rfl⟩
  rw [← hW9] at HR ⊢
  clear hN0 hW9 hk
  clear h hm hat hbad hs hok hV hrow hcell hTim hFrz hx32 hX0 hR0 hxs
  go_enter Try.func18, Try.ntmps18
  go_wp2_with (refine wpList_boxTo rfl 47 (.tmp 2) rfl (some 5) rfl w.heap.size rfl R0 rfl ?_)
  generalize hW : w.alloc (.cells R0 47) = w1
  have b1 : Hid (w1.heap[w.heap.size]? = some (.cells R0 47 (0, 0))) := by rw [← hW]; exact heap_alloc_new w _
  have B1 : Hid (Below w.heap.size w w1) := by rw [← hW]; exact below_alloc1 w _
  have s1 : Hid (w1.heap.size = w.heap.size + 1) := by rw [← hW]; exact size_alloc1 w _
  clear hW
  obtain ⟨c0, c1, m1, c2⟩ := HB.out w1 B1.out
  have M1 := Lib.hid m1
  clear m1
  refine (A.out _ c0).mono ?_
  rintro e w' ⟨rfl, rfl⟩
  go_wp2_with (refine wpList_lookup_held rfl (.tmp 26) (.tmp 27) 52 rfl 3 76 law3 Try.underlying52 (zero81 _) mb k D rfl M1.out _ _ rfl Hk.out _ Hat.out ?_)
  have X8 : Hid (w1.drew.rangeAt gv (q * 33) X0 ∧ w1.drew.heap[w.heap.size]? = some (.cells R0 47 (0, 0))) := ⟨fun j u hj => (World.cell?_of_block (B1.out.block gv hgvw)).trans (hRng.out j u hj), b1.out⟩
  refine wp_region_held_drew (S := (fun W => W.rangeAt gv (q * 33) X0 ∧ W.heap[w.heap.size]? = some (.cells R0 47 (0, 0)))) (by kernel_rfl) (X8.out) (fun hHeld => ?_)
  refine takeH (i := 0) (some 32) (v := ?_) rfl rfl (by kernel_rfl) (by kernel_rfl) (by kernel_rfl) (fun _ _ _ h => h) (by rfl) ?_ (by assumption) ?_
  rotate_left
  · (intro w hSw; (try dsimp only at hSw); go_simp; try with_reducible rfl)
  simp only [Act.put, List.setIfInBounds_toArray, List.set_cons_zero, List.set_cons_succ]
  refine takeH (i := 1) (some 33) (v := ?_) rfl rfl (by kernel_rfl) (by kernel_rfl) (by kernel_rfl) (fun _ _ _ h => h) (by rfl) ?_ (by assumption) ?_
  rotate_left
  · (intro w hSw; (try dsimp only at hSw); go_simp; try with_reducible rfl)
  simp only [Act.put, List.setIfInBounds_toArray, List.set_cons_zero, List.set_cons_succ]
  refine takeH (i := 2) (some 34) (v := ?_) rfl rfl (by kernel_rfl) (by kernel_rfl) (by kernel_rfl) (fun _ _ _ h => h) (by rfl) ?_ (by assumption) ?_
  rotate_left
  · (intro w hSw; (try dsimp only at hSw); go_simp; try with_reducible rfl)
  simp only [Act.put, List.setIfInBounds_toArray, List.set_cons_zero, List.set_cons_succ]
  refine takeH (i := 3) (some 35) (v := ?_) rfl rfl (by kernel_rfl) (by kernel_rfl) (by kernel_rfl) (fun _ _ _ h => h) (by rfl) ?_ (by assumption) ?_
  rotate_left
  · (intro w hSw; (try dsimp only at hSw); go_simp; try with_reducible rfl)
  simp only [Act.put, List.setIfInBounds_toArray, List.set_cons_zero, List.set_cons_succ]
  refine takeH (i := 4) (some 36) (v := ?_) rfl rfl (by kernel_rfl) (by kernel_rfl) (by kernel_rfl) (fun _ _ _ h => h) (by rfl) ?_ (by assumption) ?_
  rotate_left
  · (intro w hSw; (try dsimp only at hSw); go_simp; try with_reducible rfl)
  simp only [Act.put, List.setIfInBounds_toArray, List.set_cons_zero, List.set_cons_succ]
  refine takeH (i := 5) (some 37) (v := ?_) rfl rfl (by kernel_rfl) (by kernel_rfl) (by kernel_rfl) (fun _ _ _ h => h) (by rfl) ?_ (by assumption) ?_
  rotate_left
  · (intro w hSw; (try dsimp only at hSw); go_simp; try with_reducible rfl)
  simp only [Act.put, List.setIfInBounds_toArray, List.set_cons_zero, List.set_cons_succ]
  refine takeH (i := 6) (some 38) (v := ?_) rfl rfl (by kernel_rfl) (by kernel_rfl) (by kernel_rfl) (fun _ _ _ h => h) (by rfl) ?_ (by assumption) ?_
  rotate_left
  · (intro w hSw; (try dsimp only at hSw); go_simp; try with_reducible rfl)
  simp only [Act.put, List.setIfInBounds_toArray, List.set_cons_zero, List.set_cons_succ]
  refine takeH (i := 7) (some 39) (v := ?_) rfl rfl (by kernel_rfl) (by kernel_rfl) (by kernel_rfl) (fun _ _ _ h => h) (by rfl) ?_ (by assumption) ?_
  rotate_left
  · (intro w hSw; (refine exec_mid 47 (.tmp 38) ?_ gv (q * 33) ?_ X0 _ hSw.1 Try.underlying47 rfl hszX.out) <;> rfl)
  simp only [Act.put, List.setIfInBounds_toArray, List.set_cons_zero, List.set_cons_succ]
  refine takeH (i := 8) (some 40) (v := ?_) rfl rfl (by kernel_rfl) (by kernel_rfl) (by kernel_rfl) (fun _ _ _ h => h) (by rfl) ?_ (by assumption) ?_
  rotate_left
  · (intro w hSw; (refine exec_row 47 (.tmp 5) ?_ _ ?_ 47 R0 (0, 0) _ hSw.2 Try.underlying47 rfl hsz.out) <;> rfl)
  simp only [Act.put, List.setIfInBounds_toArray, List.set_cons_zero, List.set_cons_succ]
  refine takeH (i := 9) (some 41) (v := ?_) rfl rfl (by kernel_rfl) (by kernel_rfl) (by kernel_rfl) (fun _ _ _ h => h) (by rfl) ?_ (by assumption) ?_
  rotate_left
  · (intro w hSw; (refine EQ.out _ _ _ ?_ ?_ ?_) <;> rfl)
  simp only [Act.put, List.setIfInBounds_toArray, List.set_cons_zero, List.set_cons_succ]
  refine takeH (i := 10) (some 42) (v := ?_) rfl rfl (by kernel_rfl) (by kernel_rfl) (by kernel_rfl) (fun _ _ _ h => h) (by rfl) ?_ (by assumption) ?_
  rotate_left
  · (intro w hSw; (try dsimp only at hSw); go_simp; try with_reducible rfl)
  simp only [Act.put, List.setIfInBounds_toArray, List.set_cons_zero, List.set_cons_succ]
  refine wpAnyH_done (by kernel_rfl) ?_ _
  go_wp2_with fail
  obtain ⟨w2, hw2⟩ : ∃ w2, w2 = w1.drew := ⟨_, rfl⟩
  have B2 : Hid (Below w.heap.size w w2) := by rw [hw2]; exact B1.out.drew
  have b2 : Hid (w2.heap[w.heap.size]? = some (.cells R0 47 (0, 0))) := by rw [hw2]; exact b1.out
  have s2 : Hid (w2.heap.size = w.heap.size + 1) := by rw [hw2]; exact s1.out
  rw [← hw2]
  clear hw2 c0 c1 c2
  have X : Hid (w2.drew.heap[w.heap.size]? = some (.cells R0 47 (0, 0)) ∧ w2.drew.cell? ⟨g, 3169, none⟩ = some (.map (some mb))) := ⟨b2.out, (HB.out _ B2.out.drew).2.2.2⟩
  have BY : Hid (Below w.heap.size w (w2.drew.alloc (.cells N0 79))) := B2.out.drew.alloc (by have := s2.out; show w.heap.size ≤ w2.heap.size; omega) _
  have Y : Hid ((w2.drew.alloc (.cells N0 79)).cell? ⟨g, 3169, none⟩ = some (.map (some mb)) ∧ (∀ j u, N0.toList[j]? = some u → (w2.drew.alloc (.cells N0 79)).cell? ((⟨w2.heap.size, 0, none⟩ : Addr).add j) = some u) ∧ 0 ≤ (w2.drew.alloc (.cells N0 79)).heap.size ∧
      (w2.drew.alloc (.cells N0 79)).ownsRow 0 79 33 (.slice (some ⟨gv, 0, none⟩) (q + 1) cap) (q + 1) (rowsV (V0 ++ [x]))) :=
    ⟨(HB.out _ BY.out).2.2.2, fun j u hu => cells_new w2.drew N0.toList 79 j u hu, Nat.zero_le _, (Kept.fresh (S := fun _ => False) BY.out).row HRow.out (fun _ _ q => q)⟩
  have HZ : Hid (∀ w5 gn capn, w5.ownsRow 0 79 33 (.slice (some ⟨gn, 0, none⟩) (q + 1 + 1) capn) (q + 1 + 1) (rowsV (V0 ++ [x]) ++ N0.toList) → (w2.drew.alloc (.cells N0 79)).grownBy w5 (some gv) → (some gv = some gn ∨ gn = (w2.drew.alloc (.cells N0 79)).heap.size) →
      w5.cell? ⟨g, 3169, none⟩ = some (.map (some mb)) ∧ w5.ownsMap Try.prog 3 RV mb k D ∧
      ∀ w6, w6.ownsMap Try.prog 3 RV mb (k + 1) (D.put (.int .i64 (i : Int)) (.held (.slice (some ⟨gn, 0, none⟩) (q + 1 + 1) capn))) → w5.grownBy w6 (some mb) → w6.cell? ⟨g, 3169, none⟩ = some (.map (some mb)) ∧ Pushed w w6 gv mb k q i D W9) := by
    intro w5 gn capn ho hg hor
    have K5 : Kept w w5 (fun b => b = gv ∨ b = mb) := (Kept.fresh BY.out).trans (Kept.grown (S := fun b => b = gv ∨ b = mb) hg (fun k e => by cases e; exact .inl (.inl rfl))) (fun _ h => .inl h)
    have c5 : w5.cell? ⟨g, 3169, none⟩ = some (.map (some mb)) := by
      rw [← Y.out.1]
      exact World.cell?_of_block (hg.block g (Nat.lt_of_lt_of_le hgw BY.out.size) (by simpa using Ne.symm hgg))
    have m5 : w5.ownsMap Try.prog 3 RV mb k D := (HB.out _ BY.out).2.2.1.kept hg (by simpa using Ne.symm hgvm)
    have hgn : gn = gv ∨ w.heap.size ≤ gn := by
      rcases hor with e | e
      · cases e; exact .inl rfl
      · right; rw [e]; exact BY.out.size
    refine ⟨c5, m5, fun w6 hm6 hg6 => ⟨?_, gn, capn, hm6, ?_, ?_, hgn⟩⟩
    · rw [← c5]
      exact World.cell?_of_block (hg6.block g (Nat.lt_of_lt_of_le hgw K5.size) (by simpa using hgm))
    · rw [← HR.out]
      refine ho.kept hg6 (.inr ?_)
      rcases hgn with e | e
      · subst e; simpa [Value.ownBlock] using hgvm
      · simp [Value.ownBlock]; omega
    · exact K5.trans (Kept.grown (S := fun b => b = gv ∨ b = mb) hg6 (fun k e => by cases e; exact .inl (.inr rfl))) (fun _ h => .inl h)
  refine wp_region_held_drew (S := (fun W => W.cell? ⟨g, 3169, none⟩ = some (.map (some mb)))) (by kernel_rfl) (X.out.2) (fun hHeld => ?_)
  refine takeH (i := 0) (some 51) (v := ?_) rfl rfl (by kernel_rfl) (by kernel_rfl) (by kernel_rfl) (fun _ _ _ h => h) (by rfl) ?_ (by assumption) ?_
  rotate_left
  · (intro w hSw; (try dsimp only at hSw); go_simp; try with_reducible rfl)
  simp only [Act.put, List.setIfInBounds_toArray, List.set_cons_zero, List.set_cons_succ]
  refine takeH (i := 1) (some 52) (v := ?_) rfl rfl (by kernel_rfl) (by kernel_rfl) (by kernel_rfl) (fun _ _ _ h => h) (by rfl) ?_ (by assumption) ?_
  rotate_left
  · (intro w hSw; (try dsimp only at hSw); go_simp; try with_reducible rfl)
  simp only [Act.put, List.setIfInBounds_toArray, List.set_cons_zero, List.set_cons_succ]
  refine takeH (i := 2) (some 53) (v := ?_) rfl rfl (by kernel_rfl) (by kernel_rfl) (by kernel_rfl) (fun _ _ _ h => h) (by rfl) ?_ (by assumption) ?_
  rotate_left
  · (intro w hSw; (try dsimp only at hSw); go_simp; try with_reducible rfl)
  simp only [Act.put, List.setIfInBounds_toArray, List.set_cons_zero, List.set_cons_succ]
  refine takeH (i := 3) (some 54) (v := ?_) rfl rfl (by kernel_rfl) (by kernel_rfl) (by kernel_rfl) (fun _ _ _ h => h) (by rfl) ?_ (by assumption) ?_
  rotate_left
  · (intro w hSw; (try dsimp only at hSw); go_simp; try with_reducible rfl)
  simp only [Act.put, List.setIfInBounds_toArray, List.set_cons_zero, List.set_cons_succ]
  refine takeH (i := 4) (some 55) (v := ?_) rfl rfl (by kernel_rfl) (by kernel_rfl) (by kernel_rfl) (fun _ _ _ h => h) (by rfl) ?_ (by assumption) ?_
  rotate_left
  · (intro w hSw; (try dsimp only at hSw); go_simp; try with_reducible rfl)
  simp only [Act.put, List.setIfInBounds_toArray, List.set_cons_zero, List.set_cons_succ]
  refine takeH (i := 5) (some 56) (v := ?_) rfl rfl (by kernel_rfl) (by kernel_rfl) (by kernel_rfl) (fun _ _ _ h => h) (by rfl) ?_ (by assumption) ?_
  rotate_left
  · (intro w hSw; (try dsimp only at hSw); go_simp; try with_reducible rfl)
  simp only [Act.put, List.setIfInBounds_toArray, List.set_cons_zero, List.set_cons_succ]
  refine wpAnyH_ready (rs := [6]) (by kernel_rfl) (by simp) ?_
  refine AllReadyH.cons rfl (fun K hK => ?_) AllReadyH.nil
  refine step_of rfl (wp_load_row 47 (.tmp 5) rfl w.heap.size rfl 47 R0 (0, 0) _ X.out.1 Try.underlying47 rfl hsz.out ?_)
  refine hK _ _ (X.out.2) (fun hHeld => ?_)
  clear hK K
  try simp only [Act.put, List.setIfInBounds_toArray, List.set_cons_zero, List.set_cons_succ]
  refine wpAnyH_ready (rs := [7]) (by kernel_rfl) (by simp) ?_
  refine AllReadyH.cons rfl (fun K hK => ?_) AllReadyH.nil
  refine step_of rfl (wp_build_eq 79 [(0, .tmp 57), (1, .const (.int .i64 1))] rfl [(0, .agg R0), (1, .int .i64 1)] rfl N0 B83.out ?_)
  refine hK _ _ (X.out.2) (fun hHeld => ?_)
  clear hK K
  try simp only [Act.put, List.setIfInBounds_toArray, List.set_cons_zero, List.set_cons_succ]
  refine wpAnyH_ready (rs := [8]) (by kernel_rfl) (by simp) ?_
  refine AllReadyH.cons rfl (fun K hK => ?_) AllReadyH.nil
  refine step_of rfl (wp_slice83 (.tmp 58) 76 Try.underlying76 rfl N0 rfl i0 hi0 hz0 hz1 F83.out ?_)
  refine hK _ _ (Y.out.1) (fun hHeld => ?_)
  clear hK K
  try simp only [Act.put, List.setIfInBounds_toArray, List.set_cons_zero, List.set_cons_succ]
  refine wpAnyH_ready (rs := [9]) (by kernel_rfl) (by simp) ?_
  refine AllReadyH.cons rfl (fun K hK => ?_) AllReadyH.nil
  refine step_append_lies _ rfl (.tmp 56) (.tmp 59) 76 rfl 0 79 i0 _ 33 40 Try.underlying76 hi0 hz0 hz1 hz2 (by decide) (by decide) (.slice (some ⟨gv, 0, none⟩) (q + 1) cap) (q + 1) (rowsV (V0 ++ [x])) rfl Y.out.2.2.2 ⟨w2.heap.size, 0, none⟩ 1 1 N0.toList rfl HNl.out Y.out.2.1 HN1.out (by decide) (by unfold maxLen; omega) (by omega) Y.out.2.2.1 _ rfl ?_
  intro gn capn w5 hown5 hgrow5 hor5 hlt5
  have Z := Lib.hid (HZ.out w5 gn capn hown5 hgrow5 hor5)
  clear hgrow5 hor5
  refine hK _ _ (Z.out.1) (fun hHeld => ?_)
  clear hK K
  try simp only [Act.put, List.setIfInBounds_toArray, List.set_cons_zero, List.set_cons_succ]
  refine wpAnyH_ready (rs := [10]) (by kernel_rfl) (by simp) ?_
  refine AllReadyH.cons rfl (fun K hK => ?_) AllReadyH.nil
  refine step_of rfl (wp_update_held (.tmp 54) (.tmp 55) (.tmp 60) 52 rfl 3 76 law3 Try.underlying52 mb k D rfl Z.out.2.1 HKm.out _ _ _ rfl rfl Hk.out ?_)
  intro w6 hm6 hg6
  have U := Lib.hid (Z.out.2.2 w6 hm6 hg6)
  clear hm6 hg6
  refine hK _ _ (U.out.1) (fun hHeld => ?_)
  clear hK K
  try simp only [Act.put, List.setIfInBounds_toArray, List.set_cons_zero, List.set_cons_succ]
  refine wpAnyH_done (by kernel_rfl) ?_ _
  go_wp2
  go_ret
  exact ⟨rfl, U.out.2⟩
end Go.Proofs.Ytkldiofleepkfaa

/- The contract of 'Write', whatever waits. -/
set_option linter.unusedVariables false
set_option linter.unusedSimpArgs false
namespace Go.Proofs.Ytkldiofleepkfaa
open Go.RowKit

theorem row_zero {w : World} {base : Nat} {e : TypeId} {size : Nat} {v : Value} {n : Nat} {xs : List Value} (h : w.ownsRow base e size v n xs) : w.ownsRow 0 e size v n xs :=
  ⟨h.1, h.2.imp id fun ⟨g, cap, cur, a, _, r⟩ => ⟨g, cap, cur, a, Nat.zero_le _, r⟩⟩
def OkS (s : List Int) : Prop := s.length = 32 ∧ AllB s
theorem key_ne {i j : Nat} (h : i ≠ j) : (Lit.int .i64 (i : Int)) ≠ .int .i64 (j : Int) := by intro e; injection e with _ e; omega
section
variable {w w' : World} {g n c mb k : Nat} {S : Nat → Bk} {L : List Int} {B : List Bool} {D : DataW Value} {V : Nat → List Run} {A : Nat → Option Addr} {C : Nat → Nat}
theorem CodeAt.diskw (h : CodeAt w g n S c L B mb k D V A C) {G : Nat → Prop} (hk : Kept w w' G) (hd : ¬ G g) : DiskAt w' g n L B mb :=
  ⟨hk.blk h.disk.blk hd, h.disk.lo, h.disk.hi, h.disk.lenL, h.disk.lenB, h.disk.allL⟩
theorem CodeAt.put (h : CodeAt w g n S c L B mb k D V A C) {i : Nat} (hi : i < n) {k' c' : Nat} {D' : DataW Value} {a' : Option Addr} {v' : List Run} {s : List Int}
    (hk : Kept w w' (fun b => own (A i) = some b ∨ b = mb)) (hm : w'.ownsMap Try.prog 3 RV mb k' D') (hk' : k' ≤ c + 1)
    (hD1 : ∀ z, D'.atKey (.int .i64 (i : Int)) z = .held (.slice a' v'.length c'))
    (hD2 : ∀ l, l ≠ .int .i64 (i : Int) → Maps.has D' l = Maps.has D l ∧ ∀ z, D'.atKey l z = D.atKey l z)
    (hrow : w'.ownsRow 0 79 33 (.slice a' v'.length c') v'.length (rowsV v')) (ha : own a' = own (A i) ∨ ∀ b, own a' = some b → w.heap.size ≤ b) (hv : v' ≠ []) (hok : OkV v') (hun : unrun v' = (S i).v ++ [s]) :
    Went w w' (foot g n mb A) (Code w' g n (upd S i ⟨(S i).s, (S i).v ++ [s], (S i).b⟩) (c + 1)) := by
  have hold : ∀ b, own (A i) = some b → b < w.heap.size := fun b hb => ((h.row i hi).lt b (by rw [own_eq]; exact hb)).2
  have hapart : ∀ j, j < n → j ≠ i → ∀ b, own (A j) = some b → own a' ≠ some b := by
    intro j hj hji b hb e
    rcases ha with q | q
    · rw [q] at e
      exact h.apart j i hj hi hji b hb e
    · have h1 := q b e
      have h2 := ((h.row j hj).lt b (by rw [own_eq]; exact hb)).2
      omega
  refine ⟨_, ⟨L, B, mb, k', D', fun j => if j = i then v' else V j, fun j => if j = i then a' else A j, fun j => if j = i then c' else C j, ?_, rfl⟩, ?_, ?_⟩
  · refine ⟨h.diskw hk ?_, hm, hk', ?_, ?_, ?_, ?_, ?_, ?_, ?_, ?_, ?_, ?_⟩
    · rintro (q | q)
      · exact h.row_g hi q rfl
      · exact h.gm q
    · intro x hx
      by_cases e : (Lit.int .i64 x) = .int .i64 (i : Int)
      · injection e with _ e
        exact ⟨i, e, hi⟩
      · rw [(hD2 _ e).1] at hx
        exact h.keys x hx
    · intro j hj hne z
      by_cases e : j = i
      · subst e; simpa using hD1 z
      · simp only [if_neg e] at hne ⊢
        rw [(hD2 _ (key_ne e)).2]
        exact h.here j hj hne z
    · intro j hj he
      by_cases e : j = i
      · subst e; simp only [if_true] at he; exact absurd he hv
      · simp only [if_neg e] at he ⊢
        rw [(hD2 _ (key_ne e)).1]
        exact h.gone j hj he
    · intro j hj
      by_cases e : j = i
      · subst e; simpa using hrow
      · simp only [if_neg e]
        refine hk.row (h.row j hj) fun b hb => ?_
        rw [own_eq] at hb
        rintro (q | q)
        · exact h.apart j i hj hi e b hb q
        · exact h.row_m hj hb q
    · intro j hj
      by_cases e : j = i
      · subst e; simpa using hok
      · simpa only [if_neg e] using h.ok j hj
    · intro j hj
      by_cases e : j = i
      · subst e; rw [upd_same]; exact h.sec j hj
      · rw [upd_other _ _ e]; exact h.sec j hj
    · intro j hj
      by_cases e : j = i
      · subst e; rw [upd_same]; exact h.bad j hj
      · rw [upd_other _ _ e]; exact h.bad j hj
    · intro j hj
      by_cases e : j = i
      · subst e; rw [upd_same]; simpa using hun
      · rw [upd_other _ _ e]; simpa only [if_neg e] using h.ver j hj
    · intro j hj
      by_cases e : j = i
      · subst e; rw [upd_same]; have := h.few j hj; simp; omega
      · rw [upd_other _ _ e]; have := h.few j hj; omega
    · intro x y hx hy hxy b hb
      by_cases e1 : x = i
      · subst e1
        have e2 : ¬ y = x := fun q => hxy q.symm
        simp only [if_true, if_neg e2] at hb ⊢
        exact fun q => hapart y hy e2 b q hb
      · by_cases e2 : y = i
        · subst e2
          simp only [if_true, if_neg e1] at hb ⊢
          exact hapart x hx e1 b hb
        · simp only [if_neg e1, if_neg e2] at hb ⊢
          exact h.apart x y hx hy hxy b hb
  · refine hk.more fun b q => .inl ?_
    rcases q with q | q
    · exact .inr (.inr ⟨i, hi, q⟩)
    · exact .inr (.inl q)
  · rintro b (q | q | ⟨j, hj, q⟩)
    · exact .inl (.inl q)
    · exact .inl (.inr (.inl q))
    · by_cases e : j = i
      · subst e
        simp only [if_true] at q
        rcases ha with r | r
        · rw [r] at q; exact .inl (.inr (.inr ⟨j, hj, q⟩))
        · exact .inr (r b q)
      · simp only [if_neg e] at q
        exact .inl (.inr (.inr ⟨j, hj, q⟩))
end

theorem ask_code {w : World} {g n c : Nat} {S : Nat → Bk} {F : Nat → Prop} (h : Code w g n S c F) (i : Int) (hi : ¬ (0 ≤ i ∧ i < n)) : ∀ W, Below w.heap.size w W → Calls Try.prog 34 #[.pointer (some ⟨g, 0, none⟩), .int .i64 i] W fun e w' => e = .returned (.int .i64 2) ∧ W = w' := fun W hB =>
  ask_no g n i W ((h.fresh hB).size.2.2.1) (by omega)
theorem cwrite_no {w : World} {g n c : Nat} {S : Nat → Bk} {F : Nat → Prop} (h : Code w g n S c F) (i : Int) (hi : ¬ (0 ≤ i ∧ i < n)) (s : List Int) :
    Calls Try.prog 18 #[.pointer (some ⟨g, 0, none⟩), .int .i64 i, secV s] w fun e w' => e = .returned (.int .i64 2) ∧ Below w.heap.size w w' :=
  write_err _ i 2 s w (by decide) (ask_code h i hi)
theorem cwrite {w : World} {g n c : Nat} {S : Nat → Bk} {F : Nat → Prop} (h : Code w g n S c F) {i : Nat} (hi : i < n) {s : List Int} (hb : (S i).b = false) (hs : OkS s) (hc : c < 100000) :
    Calls Try.prog 18 #[.pointer (some ⟨g, 0, none⟩), .int .i64 (i : Int), secV s] w fun e w' => e = .returned (.int .i64 0) ∧ Went w w' F (Code w' g n (upd S i ⟨(S i).s, (S i).v ++ [s], (S i).b⟩) (c + 1)) := by
  obtain ⟨L, B, mb, k, D, V, A, C, h, rfl⟩ := h
  have hbad : B.getD i false = false := by rw [h.bad i hi, hb]
  have hi' : (i : Int) < (n : Int) := by omega
  have hk := h.kc
  have hmx : k < maxLen := by unfold maxLen; omega
  have hkey : WideAt.IsKeyLit (.int .i64 (i : Int)) := trivial
  have hat := h.at_nil hi
  by_cases e : V i = []
  · obtain ⟨h1, h2, h3⟩ := h.gone i hi e
    rw [e, h2, h3] at hat
    refine (write_new g n L B mb i k D s w h.disk hi' h.map hmx h.gm hat hbad hs.1).mono ?_
    rintro _ w' ⟨rfl, gv, cap, hgv, hm, hr, hg⟩
    refine ⟨rfl, h.put hi (v' := [(s, 1)]) (a' := some ⟨gv, 0, none⟩) (c' := cap) (Kept.grown hg (fun b e => by cases e; exact .inl (.inr rfl))) hm (by omega) (fun z => Maps.atKey_put_same h.map.isMap hkey _ z) (fun l hl => ⟨Maps.has_put_other hl _, fun z => Maps.atKey_put_other hl _ z⟩)
      ?_ (.inr fun b hb => ?_) (by simp) ?_ ?_⟩
    · have := row_zero hr
      simpa [rowsV] using this
    · simp [own] at hb; omega
    · intro x hx
      obtain rfl : x = (s, 1) := by simpa using hx
      exact ⟨hs.1, hs.2, Nat.one_pos⟩
    · rw [← h.ver i hi, e]; simp [unrun]
  · obtain ⟨V0, x, hV⟩ := snoc (V i) e
    have hok := h.ok i hi
    have hrow := h.row i hi
    have hlen : (V i).length = V0.length + 1 := by rw [hV]; simp
    have hle := h.len_le hi
    have htm := h.time_le hi (x := x) (by rw [hV]; simp)
    rw [hlen] at hat hrow
    obtain ⟨gv, cap, hAe, _, hgl⟩ := hrow.form (by omega)
    obtain ⟨hA, _, hC⟩ := Value.slice.inj hAe
    rw [hA, hC] at hat hrow
    rw [hV] at hrow hok
    have hown : own (A i) = some gv := by rw [hA]; rfl
    have hun := h.ver i hi
    rw [hV] at hun
    by_cases hxs : x.1 = s
    · refine (write_same g n L B mb i k D s w h.disk hi' h.map gv V0.length cap V0 x hat hrow rfl hok hbad (by omega) (by omega) hs.1 hxs).mono ?_
      rintro _ w' ⟨rfl, hr, hK⟩
      have hlv : (V0 ++ [(x.1, x.2 + 1)]).length = V0.length + 1 := by simp
      refine ⟨rfl, h.put hi (v' := V0 ++ [(x.1, x.2 + 1)]) (a' := some ⟨gv, 0, none⟩) (c' := cap) (D' := D) (k' := k) (hK.more fun b q => .inl (.inl (by rw [hown, q]))) ?_ (by omega) (fun z => ?_) (fun l _ => ⟨rfl, fun _ => rfl⟩) (by rw [hlv]; exact hr) (.inl (by rw [hA])) (by simp) ?_ ?_⟩
      · exact hK.map h.map (fun q => h.row_m hi hown q.symm)
      · have := h.here i hi e z
        rw [this, hA, hC, hlen, hlv]
      · intro y hy
        rcases List.mem_append.1 hy with q | q
        · exact hok y (by simp [q])
        · obtain rfl : y = (x.1, x.2 + 1) := by simpa using q
          have := hok x (by simp)
          exact ⟨this.1, this.2.1, by simp⟩
      · rw [unrun_bump, hun, hxs]
    · refine (write_more g n L B mb i k D s w h.disk hi' h.map gv V0.length cap V0 x hat hrow rfl hok hbad (by omega) (by omega) hs.1 hxs hmx (h.row_g hi hown) (h.row_m hi hown) h.gm).mono ?_
      rintro _ w' ⟨rfl, gn, capn, hm, hr, hK, hgn⟩
      have hlv : (V0 ++ [x] ++ [(s, 1)]).length = V0.length + 1 + 1 := by simp
      refine ⟨rfl, h.put hi (v' := V0 ++ [x] ++ [(s, 1)]) (a' := some ⟨gn, 0, none⟩) (c' := capn) (hK.more fun b q => .inl ?_) hm (by omega) (fun z => ?_) (fun l hl => ⟨Maps.has_put_other hl _, fun z => Maps.atKey_put_other hl _ z⟩) (by rw [hlv]; exact hr) ?_ (by simp) (hok.app ?_) ?_⟩
      · rcases q with q | q
        · exact .inl (by rw [hown, q])
        · exact .inr q
      · rw [hlv]; exact Maps.atKey_put_same h.map.isMap hkey _ z
      · rcases hgn with q | q
        · left; rw [hown, q]; rfl
        · right; intro b hb; simp [own] at hb; omega
      · intro y hy
        obtain rfl : y = (s, 1) := by simpa using hy
        exact ⟨hs.1, hs.2, Nat.one_pos⟩
      · rw [unrun_append, hun, unrun_one]; rfl
end Go.Proofs.Ytkldiofleepkfaa

/- Write to a bad block; Lasting, Read, Spoil, Size, Flush. -/
set_option linter.unusedVariables false
set_option linter.unusedSimpArgs false
namespace Go.Proofs.Ytkldiofleepkfaa
open Go.RowKit

set_option maxRecDepth 100000 in
set_option maxHeartbeats 1000000 in
theorem write_bad (g : Nat) (n : Int) (L : List Int) (B : List Bool) (mb i : Nat) (s : List Int) (w : World) (h : DiskAt w g n L B mb) (hi : (i : Int) < n) (hbad : B.getD i false = true) :
    Calls Try.prog 18 #[.pointer (some ⟨g, 0, none⟩), .int .i64 (i : Int), secV s] w fun e w' => e = .returned (.int .i64 10) ∧ Below w.heap.size w w' := by
  have hgw : g < w.heap.size := h.blk.lt
  have hi96 : i < 96 := by have := h.hi; omega
  have hii0 : (0 : Int) ≤ (i : Int) := by omega
  have hii1 : (i : Int) < 96 := by omega
  have A := Lib.hid (fun W hc => ask_yes g n i W hc hi)
  have HB : Hid (∀ W, Below w.heap.size w W → W.cell? ⟨g, 0, none⟩ = some (.int .i64 n) ∧ W.cell? ⟨g, 3073 + i, none⟩ = some (.bool true)) := fun W hB => by
    have hd := h.below hB hgw
    exact ⟨hd.c0, by rw [hd.bad hi96, hbad]⟩
  unfold secV
  obtain ⟨R0, hR0⟩ : ∃ R0, R0 = (bytesV s).toArray := ⟨_, rfl⟩
  rw [← hR0]
  clear h hbad hR0
  go_enter Try.func18, Try.ntmps18
  go_wp2_with (refine wpList_boxTo rfl 47 (.tmp 2) rfl (some 5) rfl w.heap.size rfl R0 rfl ?_)
  generalize hW : w.alloc (.cells R0 47) = w1
  have B1 : Hid (Below w.heap.size w w1) := by rw [← hW]; exact below_alloc1 w _
  clear hW
  obtain ⟨c0, c1⟩ := HB.out w1 B1.out
  refine (A.out _ c0).mono ?_
  rintro e w' ⟨rfl, rfl⟩
  go_wp2
  go_ret
  exact ⟨rfl, B1.out⟩

end Go.Proofs.Ytkldiofleepkfaa

/- The contract of 'Versions'. -/
set_option linter.unusedVariables false
set_option linter.unusedSimpArgs false
namespace Go.Proofs.Ytkldiofleepkfaa
open Go.RowKit

theorem take_next {V : List Run} {k : Nat} (h : k < V.length) : V.take (k + 1) = V.take k ++ [V[k]] := List.take_succ_eq_append_getElem h
theorem at_k {V : List Run} {k : Nat} (h : k < V.length) : V = V.take k ++ V[k] :: V.drop (k + 1) := by
  rw [← List.drop_eq_getElem_cons h, List.take_append_drop]
/-- the cells of the k-th row -/
theorem run_row {w : World} {A : Option Addr} {c : Nat} {V : List Run} (hrow : w.ownsRow 0 79 33 (.slice A V.length c) V.length (rowsV V)) (hok : OkV V) {k : Nat} (hk : k < V.length) :
    ∃ b, A = some ⟨b, 0, none⟩ ∧ b < w.heap.size ∧ w.rangeAt b (k * 33) (rowL V[k].1 V[k].2) := by
  obtain ⟨b, cap, e, _, hb⟩ := hrow.form (by omega)
  obtain ⟨rfl, _, rfl⟩ := Value.slice.inj e
  refine ⟨b, rfl, hb, fun j u hj => ?_⟩
  have hx := (hok V[k] (List.getElem_mem hk)).1
  have hj' : j < 33 := by
    rcases Nat.lt_or_ge j 33 with h1 | h1
    · exact h1
    · rw [List.getElem?_eq_none (by rw [length_rowL hx]; exact h1)] at hj; cases hj
  rw [hrow.cellAt _ (by omega)]
  have e := at_k hk
  have h1 := rowsV_at (V := V.take k) (W := V.drop (k + 1)) V[k] (by rw [← e]; exact hok) hj'
  rw [← e, List.length_take, Nat.min_eq_left (by omega)] at h1
  rw [h1, hj]
end Go.Proofs.Ytkldiofleepkfaa

/- What the program's disk answers, over all that it holds: New, Lasting, Read, Versions, Size, Spoil, Flush. -/
set_option linter.unusedVariables false
set_option linter.unusedSimpArgs false
namespace Go.Proofs.Ytkldiofleepkfaa
open Go.RowKit

theorem nth_repl (k i : Nat) : nth (List.replicate k (0 : Int)) i = 0 := by
  unfold nth
  rw [List.getD_eq_getElem?_getD, List.getElem?_replicate]
  split <;> rfl
theorem getD_repl (k i : Nat) : (List.replicate k false).getD i false = false := by
  rw [List.getD_eq_getElem?_getD, List.getElem?_replicate]
  split <;> rfl
section
variable {w : World} {g n c : Nat} {S : Nat → Bk} {F : Nat → Prop}
theorem csize (h : Code w g n S c F) : Calls Try.prog 53 #[.pointer (some ⟨g, 0, none⟩)] w fun e w' => e = .returned (.int .i64 n) ∧ w = w' := size_yes g n w h.size.2.2.1
/-- what stands of a block -/
def Bk.now (b : Bk) : List Int := b.v.getLast?.getD b.s
theorem cbad (h : Code w g n S c F) {i : Nat} (hi : i < n) (hb : (S i).b = true) (s : List Int) :
    Calls Try.prog 18 #[.pointer (some ⟨g, 0, none⟩), .int .i64 (i : Int), secV s] w fun e w' => e = .returned (.int .i64 10) ∧ Below w.heap.size w w' := by
  obtain ⟨L, B, mb, k, D, V, A, C, h, rfl⟩ := h
  exact write_bad g n L B mb i s w h.disk (by omega) (by rw [h.bad i hi, hb])
theorem clast (h : Code w g n S c F) {i : Nat} (hi : i < n) :
    Calls Try.prog 28 #[.pointer (some ⟨g, 0, none⟩), .int .i64 (i : Int)] w fun e w' => e = .returned (.tuple #[secV (S i).s, .int .i64 0]) ∧ Below w.heap.size w w' := by
  obtain ⟨L, B, mb, k, D, V, A, C, h, rfl⟩ := h
  have := lasting_yes g n L B mb i w h.disk (by omega)
  rw [h.sec i hi] at this
  exact this
theorem clast_no (h : Code w g n S c F) (i : Int) (hi : ¬ (0 ≤ i ∧ i < n)) :
    Calls Try.prog 28 #[.pointer (some ⟨g, 0, none⟩), .int .i64 i] w fun e w' => e = .returned (.tuple #[secV noSec, .int .i64 2]) ∧ Below w.heap.size w w' := lasting_err _ i 2 w (by decide) (ask_code h i hi)
/-- how many versions a block has, if it is there -/
def vers (n : Nat) (S : Nat → Bk) (i : Int) : Nat := if 0 ≤ i ∧ i < n then (S i.toNat).v.length else 0
theorem cnew {m : Int} (h0 : 1 ≤ m) (h1 : m ≤ 96) (w : World) :
    Calls Try.prog 5 #[.int .i64 m] w fun e w' => e = .returned (.pointer (some ⟨w.heap.size + 1, 0, none⟩)) ∧ (∃ F, Code w' (w.heap.size + 1) m.toNat (fun _ => ⟨noSec, [], false⟩) 0 F ∧ ∀ b, F b → w.heap.size ≤ b) ∧ Below w.heap.size w w' := by
  have hzz : AllB zeroL := by intro x hx; rw [zeroL, List.mem_replicate] at hx; rw [hx.2]; decide
  refine (new_yes m w h0 h1).mono ?_
  rintro e w' ⟨rfl, hb, hm, hB⟩
  refine ⟨rfl, ⟨_, ⟨zeroL, goodB, w.heap.size, 0, .map [], fun _ => [], fun _ => none, fun _ => 0, ⟨⟨?_, by omega, by omega, zeroL_len, goodB_len, hzz⟩, hm, Nat.le_refl _, ?_, ?_, ?_, ?_, ?_, ?_, ?_, ?_, ?_, ?_⟩, rfl⟩, ?_⟩, hB⟩
  · rw [Int.toNat_of_nonneg (by omega)]; exact hb
  · intro i hi; cases hi
  · intro j _ hne; exact absurd rfl hne
  · intro j _ _; exact ⟨rfl, rfl, rfl⟩
  · intro j _; exact World.ownsRow_nil _ _ _ _
  · intro j _ x hx; cases hx
  · intro j hj
    refine ext_nth (by rw [length_sec zeroL_len (by omega), noSec_len]) fun i hi => ?_
    rw [length_sec zeroL_len (by omega)] at hi
    unfold sec zeroL noSec
    rw [nth_part _ _ _ _ (by omega)]
    rw [nth_repl, nth_repl]
  · intro j _
    exact getD_repl 96 j
  · intro j _; rfl
  · intro j _; exact Nat.le_refl _
  · intro i j _ _ _ b hb; cases hb
  · rintro b (q | q | ⟨j, hj, q⟩)
    · omega
    · omega
    · cases q
end
end Go.Proofs.Ytkldiofleepkfaa

/- Spoil and Flush, over all that a disk holds. -/
set_option linter.unusedVariables false
set_option linter.unusedSimpArgs false
namespace Go.Proofs.Ytkldiofleepkfaa
open Go.RowKit

theorem diskL_set (n : Int) (L : List Int) (B : List Bool) (mb i : Nat) (b : Bool) (hL : L.length = 3072) (hi : i < B.length) : (diskL n L B mb).set (3073 + i) (.bool b) = diskL n L (B.set i b) mb := by
  unfold diskL heldL
  have h1 : ([Value.int .i64 n] ++ bytesV L).length = 3073 := by simp [length_bytesV, hL]
  rw [List.append_assoc, List.set_append_right _ _ (by rw [h1]; omega), h1, show 3073 + i - 3073 = i by omega, List.set_append_left _ _ (by simpa using hi)]
  simp [List.map_set]
section
variable {w : World} {g n c : Nat} {S : Nat → Bk} {F : Nat → Prop}
theorem getD_set (B : List Bool) (i j : Nat) (b : Bool) (hi : i < B.length) : (B.set i b).getD j false = if j = i then b else B.getD j false := by
  simp only [List.getD_eq_getElem?_getD, List.getElem?_set]
  by_cases e : i = j
  · subst e; simp [hi]
  · simp [e, Ne.symm e]
/-- nothing waits any more -/
theorem CodeAt.empty {w w' : World} {g n c mb k k' : Nat} {S S' : Nat → Bk} {L L' : List Int} {B : List Bool} {D D' : DataW Value} {V : Nat → List Run} {A : Nat → Option Addr} {C : Nat → Nat} (h : CodeAt w g n S c L B mb k D V A C)
    (hd : DiskAt w' g n L' B mb) (hm : w'.ownsMap Try.prog 3 RV mb k' D') (hk' : k' ≤ c) (hno : ∀ i : Int, Maps.has D' (.int .i64 i) = false) (hs : ∀ j, j < n → Go.Proofs.Ytkldiofleepkfaa.sec L' j = (S' j).s) (hv : ∀ j, j < n → (S' j).v = []) (hb : ∀ j, j < n → (S' j).b = (S j).b)
    (hk : Kept w w' (foot g n mb A)) : Went w w' (foot g n mb A) (Code w' g n S' c) := by
  refine ⟨_, ⟨L', B, mb, k', D', fun _ => [], fun _ => none, fun _ => 0, ⟨hd, hm, hk', ?_, ?_, ?_, ?_, ?_, hs, ?_, ?_, ?_, ?_⟩, rfl⟩, hk, ?_⟩
  · intro i hi; rw [hno i] at hi; cases hi
  · intro j _ hne; exact absurd rfl hne
  · intro j _ _; exact ⟨hno _, rfl, rfl⟩
  · intro j _; exact World.ownsRow_nil _ _ _ _
  · intro j _ x hx; cases hx
  · intro j hj; rw [hb j hj]; exact h.bad j hj
  · intro j hj; rw [hv j hj]; rfl
  · intro j hj; rw [hv j hj]; exact Nat.zero_le _
  · intro i j _ _ _ b hb; cases hb
  · rintro b (q | q | ⟨j, _, q⟩)
    · exact .inl (.inl q)
    · exact .inl (.inr (.inl q))
    · cases q
/-- all that was written lasts -/
def Bk.flushed (b : Bk) : Bk := ⟨b.now, [], b.b⟩
theorem CodeAt.now {w : World} {g n c mb k : Nat} {S : Nat → Bk} {L : List Int} {B : List Bool} {D : DataW Value} {V : Nat → List Run} {A : Nat → Option Addr} {C : Nat → Nat} (h : CodeAt w g n S c L B mb k D V A C) {j : Nat} (hj : j < n) (he : V j ≠ []) :
    ∃ gv q, A j = some ⟨gv, 0, none⟩ ∧ (V j).length = q + 1 ∧ gv < w.heap.size ∧ w.rangeAt gv (q * 33) (bytesV (S j).now) ∧ (S j).now.length = 32 ∧ AllB (S j).now := by
  obtain ⟨V0, x, hV⟩ := snoc (V j) he
  have hlen : (V j).length = V0.length + 1 := by rw [hV]; simp
  have hok := h.ok j hj
  have hver := h.ver j hj
  obtain ⟨gv, hA, hgl, hr⟩ := run_row (h.row j hj) hok (k := V0.length) (by omega)
  have hx : (V j)[V0.length]'(by omega) = x := by simp [hV]
  rw [hx] at hr
  rw [hV] at hok hver
  have hx3 := hok x (by simp)
  have hn : (S j).now = x.1 := by unfold Bk.now; rw [← hver, unrun_last hx3.2.2]; rfl
  refine ⟨gv, V0.length, hA, hlen, hgl, ?_, by rw [hn]; exact hx3.1, by rw [hn]; exact hx3.2.1⟩
  rw [hn]
  intro i u hi
  have hi' : i < 32 := by
    rcases Nat.lt_or_ge i 32 with h1 | h1
    · exact h1
    · rw [List.getElem?_eq_none (by rw [length_bytesV, hx3.1]; exact h1)] at hi; cases hi
  refine hr i u ?_
  rw [rowL, List.getElem?_append_left (by rw [length_bytesV, hx3.1]; exact hi')]; exact hi
theorem cflush (h : Code w g n S c F) (hc : c < 100000) :
    Calls Try.prog 12 #[.pointer (some ⟨g, 0, none⟩)] w fun e w' => e = .returned (.int .i64 0) ∧ Went w w' F (Code w' g n (fun j => (S j).flushed) c) := by
  obtain ⟨L, B, mb, k, D, V, A, C, h, rfl⟩ := h
  have h96 := h.n96
  refine (flush_any g n L B mb k D (fun j => (S j).now) w h.disk h.map h.gm ?_).mono ?_
  · intro i hi
    obtain ⟨j, rfl, hj⟩ := h.keys i hi
    rw [h.has_eq hj] at hi
    have he : V j ≠ [] := by intro e; rw [e] at hi; simp at hi
    obtain ⟨gv, q, hA, hl, hgl, hr, h1, h2⟩ := h.now hj he
    have hle := h.len_le hj
    have hown : own (A j) = some gv := by rw [hA]; rfl
    exact ⟨j, gv, q, C j, rfl, by omega, fun z => by rw [h.here j hj he z, hA, hl], by omega, hr, h1, h2, h.row_g hj hown, h.row_m hj hown, hgl⟩
  · rintro e w' ⟨rfl, D', L', hm, hno, hd, hs, hT⟩
    refine ⟨rfl, h.empty hd hm h.kc (fun i => hno _) (fun j hj => ?_) (fun j _ => rfl) (fun j _ => rfl) ⟨hT.os, hT.tape, hT.output, hT.size, fun b hb hn => hT.block b hb (fun q => hn (.inl q)) (fun q => hn (.inr (.inl q)))⟩⟩
    rw [hs j (by omega), h.has_eq hj]
    by_cases he : V j = []
    · rw [he, if_neg (by simp), h.sec j hj]
      show (S j).s = (S j).now
      unfold Bk.now
      rw [← h.ver j hj, he]; rfl
    · rw [if_pos (by cases hv : V j with | nil => exact absurd hv he | cons a b => rfl)]
      rfl
end
end Go.Proofs.Ytkldiofleepkfaa

/- The contract of 'version'. -/
set_option linter.unusedVariables false
set_option linter.unusedSimpArgs false
namespace Go.Proofs.Ytkldiofleepkfaa
open Go.RowKit

/-- the p-th of some, from 1 on -/
def pickAt (l : List (List Int)) (p : Int) : Option (List Int) := if 1 ≤ p then l[(p - 1).toNat]? else none
def pickV (o : Option (List Int)) : Value := .tuple #[secV (o.getD noSec), .bool o.isSome]
theorem pick_low {l : List (List Int)} {p : Int} (h : p < 1) : pickAt l p = none := by unfold pickAt; rw [if_neg (by omega)]
theorem pick_high {l : List (List Int)} {p : Int} (h : (l.length : Int) < p) : pickAt l p = none := by
  unfold pickAt
  split
  · rw [List.getElem?_eq_none (by omega)]
  · rfl
theorem pick_in {V : List Run} {k : Nat} (h : k < V.length) {p : Int} (h0 : ((unrun (V.take k)).length : Int) < p) (h1 : p - (unrun (V.take k)).length ≤ V[k].2) : pickAt (unrun V) p = some V[k].1 := by
  unfold pickAt
  rw [if_pos (by omega)]
  have e := at_k h
  have e2 : unrun V = unrun (V.take k) ++ (List.replicate V[k].2 V[k].1 ++ unrun (V.drop (k + 1))) := by
    rw [congrArg unrun e, unrun_append]
    simp only [unrun, List.flatMap_cons]
  rw [e2, List.getElem?_append_right (by omega), List.getElem?_append_left (by rw [List.length_replicate]; omega), List.getElem?_replicate, if_pos (by omega)]
end Go.Proofs.Ytkldiofleepkfaa

/- All of Diff make the one the other one; a whole array built as a slice of one. -/
namespace Go.Proofs.Ytkldiofleepkfaa
open Go.RowKit

theorem segs_last {d : Nat → Bool} : ∀ k, 0 < k → d (k - 1) = true → ∃ L f, f < k ∧ segs d k = L ++ [(f, k)] := by
  intro k
  induction k with
  | zero => intro h; omega
  | succ k ih =>
    intro _ hd
    have hd' : d k = true := hd
    by_cases h : 0 < k ∧ d (k - 1) = true
    · obtain ⟨L, f, hf, e⟩ := ih h.1 h.2
      refine ⟨L, f, by omega, ?_⟩
      rw [segs_more hd' h.1 h.2, e]
      simp
    · have h2 : k = 0 ∨ d (k - 1) = false := by
        by_cases h0 : k = 0
        · exact .inl h0
        · refine .inr ?_
          cases h3 : d (k - 1) with
          | false => rfl
          | true => exact absurd ⟨by omega, h3⟩ h
      exact ⟨segs d k, k, by omega, segs_new hd' h2⟩
theorem seg_all (d : Nat → Bool) : ∀ k, (∀ x ∈ segs d k, x.1 < x.2 ∧ x.2 ≤ k ∧ ∀ i, x.1 ≤ i → i < x.2 → d i = true) ∧ (segs d k).Pairwise (fun x y => x.2 < y.1) ∧ ∀ i, i < k → d i = true → ∃ x ∈ segs d k, x.1 ≤ i ∧ i < x.2 := by
  intro k
  induction k with
  | zero => exact ⟨by simp [segs], by simp [segs], by omega⟩
  | succ k ih =>
    obtain ⟨h1, h2, h3⟩ := ih
    cases hd : d k with
    | false =>
      rw [segs_no hd]
      refine ⟨fun x hx => ⟨(h1 x hx).1, by have := (h1 x hx).2.1; omega, (h1 x hx).2.2⟩, h2, fun i hi hdi => h3 i ?_ hdi⟩
      rcases Nat.lt_or_ge i k with h | h
      · exact h
      · obtain rfl : i = k := by omega
        rw [hd] at hdi; cases hdi
    | true =>
      by_cases hm : 0 < k ∧ d (k - 1) = true
      · obtain ⟨L, f, hf, e⟩ := segs_last k hm.1 hm.2
        have e2 : segs d (k + 1) = L ++ [(f, k + 1)] := by rw [segs_more hd hm.1 hm.2, e]; simp
        rw [e] at h1 h2 h3
        rw [e2]
        have hfk := h1 (f, k) (by simp)
        rw [List.pairwise_append] at h2 ⊢
        refine ⟨fun x hx => ?_, ⟨h2.1, by simp, fun x hx y hy => ?_⟩, fun i hi hdi => ?_⟩
        · rcases List.mem_append.1 hx with h | h
          · have := h1 x (List.mem_append_left _ h)
            exact ⟨this.1, by omega, this.2.2⟩
          · obtain rfl : x = (f, k + 1) := by simpa using h
            refine ⟨by show f < k + 1; omega, Nat.le_refl _, fun i h4 h5 => ?_⟩
            rcases Nat.lt_or_ge i k with h6 | h6
            · exact hfk.2.2 i h4 h6
            · obtain rfl : i = k := by have : i < k + 1 := h5; omega
              exact hd
        · obtain rfl : y = (f, k + 1) := by simpa using hy
          exact h2.2.2 x hx (f, k) (by simp)
        · rcases Nat.lt_or_ge i k with h6 | h6
          · obtain ⟨x, hx, h4, h5⟩ := h3 i h6 hdi
            rcases List.mem_append.1 hx with h | h
            · exact ⟨x, List.mem_append_left _ h, h4, h5⟩
            · obtain rfl : x = (f, k) := by simpa using h
              exact ⟨(f, k + 1), by simp, h4, by show i < k + 1; omega⟩
          · exact ⟨(f, k + 1), by simp, by show f ≤ i; omega, by show i < k + 1; omega⟩
      · have h0 : k = 0 ∨ d (k - 1) = false := by
          by_cases h0 : k = 0
          · exact .inl h0
          · refine .inr ?_
            cases h4 : d (k - 1) with
            | false => rfl
            | true => exact absurd ⟨by omega, h4⟩ hm
        rw [segs_new hd h0, List.pairwise_append]
        refine ⟨fun x hx => ?_, ⟨h2, by simp, fun x hx y hy => ?_⟩, fun i hi hdi => ?_⟩
        · rcases List.mem_append.1 hx with h | h
          · have := h1 x h
            exact ⟨this.1, by omega, this.2.2⟩
          · obtain rfl : x = (k, k + 1) := by simpa using h
            refine ⟨by show k < k + 1; omega, Nat.le_refl _, fun i h4 h5 => ?_⟩
            obtain rfl : i = k := by have : i < k + 1 := h5; have : k ≤ i := h4; omega
            exact hd
        · obtain rfl : y = (k, k + 1) := by simpa using hy
          show x.2 < k
          have hx1 := h1 x hx
          rcases Nat.lt_or_ge x.2 k with h | h
          · exact h
          · have : d (k - 1) = true := hx1.2.2 (k - 1) (by omega) (by omega)
            rcases h0 with h0 | h0
            · omega
            · rw [h0] at this; cases this
        · rcases Nat.lt_or_ge i k with h6 | h6
          · obtain ⟨x, hx, h4, h5⟩ := h3 i h6 hdi
            exact ⟨x, List.mem_append_left _ hx, h4, h5⟩
          · exact ⟨(k, k + 1), by simp, by show k ≤ i; omega, by show i < k + 1; omega⟩

theorem seg_right {bl : Int} {Y : List Int} (h0 : 0 ≤ bl) (h1 : bl < 96) (hY : Y.length = 32) {x : Nat × Nat} (hx : x.1 < x.2 ∧ x.2 ≤ 32) : (segP bl Y x).right = true :=
  cutP_ok bl Y x.1 x.2 h0 h1 hx.1 (by omega) (by omega)
theorem nth_putseg {bl : Int} {X Y : List Int} (h0 : 0 ≤ bl) (h1 : bl < 96) (hX : X.length = 32) (hY : Y.length = 32) (hYa : AllB Y) {x : Nat × Nat} (hx : x.1 < x.2 ∧ x.2 ≤ 32) (i : Nat) :
    nth (put X (segP bl Y x)) i = if x.1 ≤ i ∧ i < x.2 then nth Y i else nth X i := by
  rw [nth_put (seg_right h0 h1 hY hx) hX]
  have e1 : (segP bl Y x).o.toNat = x.1 := rfl
  have e2 : (segP bl Y x).s = strOfNums (part Y x.1 x.2) := rfl
  rw [e1, e2, strOfNums_size, length_part _ _ _ (by omega), sb_strOf _ (part_all hYa _ _)]
  by_cases h : x.1 ≤ i ∧ i < x.2
  · rw [if_pos (by omega), if_pos h, nth_part _ _ _ _ (by omega), show x.1 + (i - x.1) = i by omega]
  · rw [if_neg (by omega), if_neg h]
theorem nth_putsegs {bl : Int} {Y : List Int} (h0 : 0 ≤ bl) (h1 : bl < 96) (hY : Y.length = 32) (hYa : AllB Y) : ∀ (L : List (Nat × Nat)) (X : List Int), X.length = 32 → (∀ x ∈ L, x.1 < x.2 ∧ x.2 ≤ 32) → ∀ i,
    ((∃ x ∈ L, x.1 ≤ i ∧ i < x.2) → nth ((L.map (segP bl Y)).foldl put X) i = nth Y i) ∧ ((¬ ∃ x ∈ L, x.1 ≤ i ∧ i < x.2) → nth ((L.map (segP bl Y)).foldl put X) i = nth X i) ∧ ((L.map (segP bl Y)).foldl put X).length = 32 := by
  intro L
  induction L with
  | nil => intro X hX _ i; exact ⟨by rintro ⟨x, hx, _⟩; simp at hx, fun _ => rfl, hX⟩
  | cons y L ih =>
    intro X hX hL i
    have hy := hL y (by simp)
    have hX2 : (put X (segP bl Y y)).length = 32 := length_put (seg_right h0 h1 hY hy) hX
    have := ih (put X (segP bl Y y)) hX2 (fun x hx => hL x (by simp [hx])) i
    have hn := nth_putseg h0 h1 hX hY hYa hy i
    refine ⟨?_, ?_, this.2.2⟩
    · rintro ⟨x, hx, h3, h4⟩
      by_cases h5 : ∃ x ∈ L, x.1 ≤ i ∧ i < x.2
      · exact this.1 h5
      · have e := this.2.1 h5
        have : x = y := by
          rcases List.mem_cons.1 hx with h | h
          · exact h
          · exact absurd ⟨x, h, h3, h4⟩ h5
        subst this
        rw [List.map_cons, List.foldl_cons, e, hn, if_pos ⟨h3, h4⟩]
    · intro h5
      have h6 : ¬ ∃ x ∈ L, x.1 ≤ i ∧ i < x.2 := fun ⟨x, hx, h⟩ => h5 ⟨x, by simp [hx], h⟩
      rw [List.map_cons, List.foldl_cons, this.2.1 h6, hn, if_neg (fun h => h5 ⟨y, by simp, h⟩)]

theorem segs_in (X Y : List Int) : ∀ x ∈ segs (df X Y) 32, x.1 < x.2 ∧ x.2 ≤ 32 := fun x hx => ⟨((seg_all (df X Y) 32).1 x hx).1, ((seg_all (df X Y) 32).1 x hx).2.1⟩
theorem diff_right {bl : Int} (X : List Int) {Y : List Int} (h0 : 0 ≤ bl) (h1 : bl < 96) (hY : Y.length = 32) : ∀ p ∈ diffP bl Y (df X Y) 32, p.right = true := by
  intro p hp
  obtain ⟨x, hx, rfl⟩ := List.mem_map.1 hp
  exact seg_right h0 h1 hY (segs_in X Y x hx)
section
variable {bl : Int} {X Y : List Int} (h0 : 0 ≤ bl) (h1 : bl < 96) (hX : X.length = 32) (hY : Y.length = 32) (hYa : AllB Y)
include h0 h1 hX hY hYa
/-- ALL OF DIFF MAKE THE ONE THE OTHER ONE -/
theorem diff_makes : allP X (diffP bl Y (df X Y) 32) = some Y := by
  unfold allP
  rw [if_pos (by rw [List.all_eq_true]; exact diff_right X h0 h1 hY)]
  have h := nth_putsegs h0 h1 hY hYa (segs (df X Y) 32) X hX (segs_in X Y)
  have hl : ((diffP bl Y (df X Y) 32).foldl put X).length = 32 := (h 0).2.2
  congr 1
  refine ext_nth (by rw [hl, hY]) fun i hi => ?_
  by_cases he : ∃ x ∈ segs (df X Y) 32, x.1 ≤ i ∧ i < x.2
  · exact (h i).1 he
  · have e := (h i).2.1 he
    refine e.trans ?_
    cases hd : df X Y i with
    | true => exact absurd ((seg_all (df X Y) 32).2.2 i (by omega) hd) he
    | false =>
      have : (nth X i != nth Y i) = false := hd
      simpa [bne] using this
end
set_option maxRecDepth 100000 in
theorem fill36 : ∀ s : List Int, s.length = 32 → Instr.fill (fun i => some (i * 32, 32)) ((Array.range 32).map ((bytesV (List.replicate 32 0)).toArray[· % 32]!)) [(0, .agg (bytesV s).toArray)] = some (bytesV s).toArray
  | [a0, a1, a2, a3, a4, a5, a6, a7, a8, a9, a10, a11, a12, a13, a14, a15, a16, a17, a18, a19, a20, a21, a22, a23, a24, a25, a26, a27, a28, a29, a30, a31], _ => by kernel_rfl
theorem wpList_slice36 {P : Program} {ops : Array Oper} {rest : List Oper} {o : Oper} {a : Act} {w : World} {Q : Exit → Act → World → Prop} (hg : o.guard = none) (x : Operand) (t : TypeId) (ht : P.underlying t = some (.slice 47)) (ho : o.op = .buildSlice t 1 #[(0, x)]) (R : Array Value) (hx : a.eval x = .agg R)
    (i0 : TypeInfo) (hi : P.info? 47 = some i0) (hz : i0.zero = some (.agg (bytesV (List.replicate 32 0)).toArray)) (hs : i0.size = 32)
    (hf : Instr.fill (fun i => some (i * 32, 32)) ((Array.range 32).map ((bytesV (List.replicate 32 0)).toArray[· % 32]!)) [(0, .agg R)] = some R)
    (h : wpList P ops Q rest (a.put o.dst (.slice (some ⟨w.heap.size, 0, none⟩) 1 1)) (w.alloc (.cells R 47))) : wpList P ops Q (o :: rest) a w := by
  refine wpList_buildSlice hg t 47 1 #[(0, x)] ho R i0 _ ht hi hz (by rw [hs]; decide) (by rw [hs]; decide) ?_ h
  rw [hs]
  simpa [hx, Value.cells, bytesV] using hf
theorem row_bts {w : World} {g B t : Nat} {l : List Int} (h : BlkIs w g t (bytesV l)) (hl : AllB l) (hB : g < B) : Bts w B (some ⟨g, 0, none⟩) l :=
  ⟨hl, fun _ => ⟨g, 0, rfl, hB, fun j hj => by
    rw [Nat.zero_add, h.cell, bytesV, List.getElem?_map, List.getElem?_eq_getElem hj, nth_lt hj]; rfl⟩⟩
end Go.Proofs.Ytkldiofleepkfaa
