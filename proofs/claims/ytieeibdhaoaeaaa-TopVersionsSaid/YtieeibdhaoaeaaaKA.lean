/- Versions as rows of such as are the same; a disk as the document has it; a disk in memory with all that waits. -/
import Derived.Test.YtieeibdhaoaeaaaN2
import Derived.Laws.OwnMore
namespace Go.Proofs.Ytieeibdhaoaeaaa
open Go.RowKit

/-- all but the blocks S is as it was -/
structure Kept (w w' : World) (S : Nat → Prop) : Prop where
  os : w'.os = w.os
  tape : w'.tape = w.tape
  output : w'.output = w.output
  size : w.heap.size ≤ w'.heap.size
  block : ∀ k, k < w.heap.size → ¬ S k → w'.heap[k]? = w.heap[k]?
namespace Kept
variable {w w1 w2 : World} {S S' : Nat → Prop}
theorem refl (w : World) (S : Nat → Prop) : Kept w w S := ⟨rfl, rfl, rfl, Nat.le_refl _, fun _ _ _ => rfl⟩
theorem trans (h : Kept w w1 S) (k : Kept w1 w2 S') (hs : ∀ b, S' b → S b ∨ w.heap.size ≤ b) : Kept w w2 S :=
  ⟨k.os.trans h.os, k.tape.trans h.tape, k.output.trans h.output, Nat.le_trans h.size k.size, fun b hb hn => by
    rw [k.block b (Nat.lt_of_lt_of_le hb h.size) (fun q => by rcases hs b q with q | q; exact hn q; omega)]
    exact h.block b hb hn⟩
theorem more (h : Kept w w1 S) (hs : ∀ b, S b → S' b ∨ w.heap.size ≤ b) : Kept w w1 S' := (refl w S').trans h hs
theorem below {B : Nat} (h : Kept w w1 S) (hs : ∀ b, S b → B ≤ b) (hB : B ≤ w.heap.size) : Below B w w1 :=
  ⟨h.os, h.tape, h.output, h.size, fun k hk => h.block k (by omega) (fun q => by have := hs k q; omega)⟩
theorem of_below {B : Nat} (h : Below B w w1) (hs : ∀ b, B ≤ b → S b ∨ w.heap.size ≤ b) : Kept w w1 S :=
  ⟨h.os, h.tape, h.output, h.size, fun k hk hn => by
    rcases Nat.lt_or_ge k B with h1 | h1
    · exact h.block k h1
    · rcases hs k h1 with q | q
      · exact absurd q hn
      · omega⟩
theorem fresh (h : Below w.heap.size w w1) : Kept w w1 S := of_below h fun _ hb => .inr hb
theorem grown {row : Option Nat} (h : w.grownBy w1 row) (hs : ∀ k, row = some k → S k ∨ w.heap.size ≤ k) : Kept w w1 S :=
  ⟨h.os, h.tape, h.output, h.size, fun k hk hn => h.block k hk (fun q => by rcases hs k q.symm with q | q; exact hn q; omega)⟩
theorem drew (h : Kept w w1 S) : Kept w w1.drew S := ⟨h.os, h.tape, h.output, h.size, h.block⟩
theorem cell (h : Kept w w1 S) {a : Addr} (hlt : a.block < w.heap.size) (hn : ¬ S a.block) : w1.cell? a = w.cell? a := World.cell?_of_block (h.block _ hlt hn)
theorem row (h : Kept w w1 S) {base : Nat} {e : TypeId} {size : Nat} {v : Value} {n : Nat} {xs : List Value} (hr : w.ownsRow base e size v n xs) (hn : ∀ k, v.ownBlock = some k → ¬ S k) : w1.ownsRow base e size v n xs := by
  refine ⟨hr.1, ?_⟩
  rcases hr.2 with h0 | ⟨g, cap, cur, rfl, hb, hgg, rest⟩
  · exact .inl h0
  · refine .inr ⟨g, cap, cur, rfl, hb, ?_, rest⟩
    rw [h.block g (Array.getElem?_eq_some_iff.1 hgg).1 (hn g rfl)]
    exact hgg
theorem blk (h : Kept w w1 S) {g : Nat} {t : TypeId} {l : List Value} (hb : BlkIs w g t l) (hn : ¬ S g) : BlkIs w1 g t l := by
  unfold BlkIs at hb ⊢
  rw [h.block g (BlkIs.lt hb) hn]; exact hb
theorem map (h : Kept w w1 S) {P : Program} {k : TypeId} {mb n : Nat} {D : DataW Value} (hm : w.ownsMap P k RV mb n D) (hn : ¬ S mb) : w1.ownsMap P k RV mb n D := by
  have hl := hm.lt
  obtain ⟨es, clock, hb, F, hs, hD⟩ := hm
  exact ⟨es, clock, (h.block mb hl hn).trans hb, F, hs, hD⟩
end Kept

/-- a block of a disk: what lasts, what was written since, whether it is bad -/
structure Bk where
  s : List Int
  v : List (List Int)
  b : Bool
abbrev Run := List Int × Nat
def unrun (V : List Run) : List (List Int) := V.flatMap fun x => List.replicate x.2 x.1
def rowsV (V : List Run) : List Value := V.flatMap fun x => rowL x.1 x.2
def OkV (V : List Run) : Prop := ∀ x ∈ V, x.1.length = 32 ∧ AllB x.1 ∧ 0 < x.2
theorem unrun_append (V W : List Run) : unrun (V ++ W) = unrun V ++ unrun W := by simp [unrun]
theorem rowsV_append (V W : List Run) : rowsV (V ++ W) = rowsV V ++ rowsV W := by simp [rowsV]
theorem rowsV_one1 (x : Run) : rowsV [x] = rowL x.1 x.2 := by simp [rowsV]
theorem unrun_one (x : Run) : unrun [x] = List.replicate x.2 x.1 := by simp [unrun]
theorem length_rowsV {V : List Run} (h : OkV V) : (rowsV V).length = V.length * 33 := by
  induction V with
  | nil => rfl
  | cons x V ih =>
    have := ih (fun y hy => h y (List.mem_cons_of_mem _ hy))
    have e : rowsV (x :: V) = rowL x.1 x.2 ++ rowsV V := by simp [rowsV]
    rw [e, List.length_append, this, length_rowL (h x (by simp)).1, List.length_cons]; omega
theorem rowsV_one (V : List Run) : ∀ u ∈ rowsV V, u.oneCell' = true := by
  intro u hu
  obtain ⟨x, _, hx⟩ := List.mem_flatMap.1 hu
  exact rowL_one _ _ u hx
theorem OkV.app {V W : List Run} (h : OkV V) (k : OkV W) : OkV (V ++ W) := fun x hx => by
  rcases List.mem_append.1 hx with q | q
  · exact h x q
  · exact k x q
theorem OkV.left {V W : List Run} (h : OkV (V ++ W)) : OkV V := fun x hx => h x (List.mem_append_left _ hx)
theorem rowsV_at {V W : List Run} (x : Run) (h : OkV (V ++ x :: W)) {j : Nat} (hj : j < 33) : (rowsV (V ++ x :: W))[V.length * 33 + j]? = (rowL x.1 x.2)[j]? := by
  have hl := length_rowsV (V := V) (fun y hy => h y (List.mem_append_left _ hy))
  have e : rowsV (V ++ x :: W) = rowsV V ++ (rowL x.1 x.2 ++ rowsV W) := by simp [rowsV]
  rw [e, List.getElem?_append_right (by omega), hl, show V.length * 33 + j - V.length * 33 = j by omega, List.getElem?_append_left (by rw [length_rowL (h x (by simp)).1]; exact hj)]
theorem rowsV_bump (V : List Run) (x : Run) (h : OkV (V ++ [x])) (t : Nat) : (rowsV (V ++ [x])).set (V.length * 33 + 32) (.int .i64 t) = rowsV (V ++ [(x.1, t)]) := by
  have hl := length_rowsV (V := V) h.left
  have hx := (h x (by simp)).1
  rw [rowsV_append, rowsV_append, rowsV_one1, rowsV_one1, List.set_append_right _ _ (by omega), hl, show V.length * 33 + 32 - V.length * 33 = 32 by omega]
  unfold rowL
  rw [List.set_append_right _ _ (by rw [length_bytesV, hx]; omega), length_bytesV, hx]
  rfl
theorem unrun_bump (V : List Run) (x : Run) : unrun (V ++ [(x.1, x.2 + 1)]) = unrun (V ++ [x]) ++ [x.1] := by
  simp [unrun, List.replicate_succ']
theorem length_unrun {V : List Run} (h : OkV V) : V.length ≤ (unrun V).length := by
  induction V with
  | nil => simp
  | cons x V ih =>
    have := ih (fun y hy => h y (List.mem_cons_of_mem _ hy))
    have e : unrun (x :: V) = List.replicate x.2 x.1 ++ unrun V := by simp [unrun]
    have h0 := (h x (by simp)).2.2
    rw [e, List.length_append, List.length_replicate, List.length_cons]; omega
theorem times_le {V : List Run} {x : Run} (h : x ∈ V) : x.2 ≤ (unrun V).length := by
  induction V with
  | nil => cases h
  | cons y V ih =>
    have e : unrun (y :: V) = List.replicate y.2 y.1 ++ unrun V := by simp [unrun]
    rw [e, List.length_append, List.length_replicate]
    rcases List.mem_cons.1 h with rfl | q
    · omega
    · have := ih q; omega
theorem unrun_nil {V : List Run} (h : OkV V) : unrun V = [] ↔ V = [] := by
  constructor
  · intro e
    have := length_unrun h
    rw [e] at this
    exact List.eq_nil_of_length_eq_zero (by simpa using this)
  · rintro rfl; rfl
theorem unrun_last {V : List Run} {x : Run} (h : 0 < x.2) : (unrun (V ++ [x])).getLast? = some x.1 := by
  rw [unrun_append, unrun_one]
  obtain ⟨k, hk⟩ : ∃ k, x.2 = k + 1 := ⟨x.2 - 1, by omega⟩
  rw [hk, List.replicate_succ', ← List.append_assoc, List.getLast?_append]
  simp
theorem snoc {α : Type} (V : List α) (h : V ≠ []) : ∃ V0 x, V = V0 ++ [x] := ⟨V.dropLast, V.getLast h, (List.dropLast_concat_getLast h).symm⟩

/-- which block a slice lies in -/
def own (A : Option Addr) : Option Nat := A.map (·.block)
theorem own_eq (A : Option Addr) (n c : Nat) : (Value.slice A n c).ownBlock = own A := by cases A <;> rfl
def foot (g n mb : Nat) (A : Nat → Option Addr) : Nat → Prop := fun b => b = g ∨ b = mb ∨ ∃ j, j < n ∧ own (A j) = some b
structure CodeAt (w : World) (g n : Nat) (S : Nat → Bk) (c : Nat) (L : List Int) (B : List Bool) (mb k : Nat) (D : DataW Value) (V : Nat → List Run) (A : Nat → Option Addr) (C : Nat → Nat) : Prop where
  disk : DiskAt w g n L B mb
  map : w.ownsMap Try.prog 3 RV mb k D
  kc : k ≤ c
  keys : ∀ i : Int, Maps.has D (.int .i64 i) = true → ∃ j : Nat, i = (j : Int) ∧ j < n
  here : ∀ j, j < n → V j ≠ [] → ∀ z, D.atKey (.int .i64 (j : Int)) z = .held (.slice (A j) (V j).length (C j))
  gone : ∀ j, j < n → V j = [] → Maps.has D (.int .i64 (j : Int)) = false ∧ A j = none ∧ C j = 0
  row : ∀ j, j < n → w.ownsRow 0 83 33 (.slice (A j) (V j).length (C j)) (V j).length (rowsV (V j))
  ok : ∀ j, j < n → OkV (V j)
  sec : ∀ j, j < n → sec L j = (S j).s
  bad : ∀ j, j < n → B.getD j false = (S j).b
  ver : ∀ j, j < n → unrun (V j) = (S j).v
  few : ∀ j, j < n → (S j).v.length ≤ c
  apart : ∀ i j, i < n → j < n → i ≠ j → ∀ b, own (A i) = some b → own (A j) ≠ some b
/-- a disk of n blocks S at the block g, in the blocks F, behind at most c writes -/
def Code (w : World) (g n : Nat) (S : Nat → Bk) (c : Nat) (F : Nat → Prop) : Prop := ∃ L B mb k D V A C, CodeAt w g n S c L B mb k D V A C ∧ F = foot g n mb A
/-- what a call of an object in the blocks F leaves -/
def Went (w w' : World) (F : Nat → Prop) (Q : (Nat → Prop) → Prop) : Prop := ∃ F', Q F' ∧ Kept w w' F ∧ ∀ b, F' b → F b ∨ w.heap.size ≤ b
namespace CodeAt
variable {w w' : World} {g n c mb k : Nat} {S : Nat → Bk} {L : List Int} {B : List Bool} {D : DataW Value} {V : Nat → List Run} {A : Nat → Option Addr} {C : Nat → Nat}
theorem glt (h : CodeAt w g n S c L B mb k D V A C) : g < w.heap.size := h.disk.blk.lt
theorem n96 (h : CodeAt w g n S c L B mb k D V A C) : n ≤ 96 := by have := h.disk.hi; omega
theorem n0 (h : CodeAt w g n S c L B mb k D V A C) : 1 ≤ n := by have := h.disk.lo; omega
theorem foot_lt (h : CodeAt w g n S c L B mb k D V A C) : ∀ b, foot g n mb A b → b < w.heap.size := by
  rintro b (rfl | rfl | ⟨j, hj, hb⟩)
  · exact h.glt
  · exact h.map.lt
  · exact ((h.row j hj).lt b (by rw [own_eq]; exact hb)).2
theorem gm (h : CodeAt w g n S c L B mb k D V A C) : g ≠ mb := by
  rintro rfl
  obtain ⟨es, clock, hb, _⟩ := h.map
  have := h.disk.blk
  unfold BlkIs at this
  rw [hb] at this
  simp at this
theorem row_typed (h : CodeAt w g n S c L B mb k D V A C) {j b : Nat} (hj : j < n) (hb : own (A j) = some b) : ∃ cs, w.heap[b]? = some (.cells cs 83 (0, 0)) := by
  rcases (h.row j hj).2 with ⟨q, _⟩ | ⟨x, cap, cur, q, _, hx, _⟩
  · obtain ⟨q, _, _⟩ := Value.slice.inj q
    rw [q] at hb; simp [own] at hb
  · obtain ⟨q, _, _⟩ := Value.slice.inj q
    rw [q] at hb
    simp [own] at hb
    subst hb
    exact ⟨_, hx⟩
theorem row_g (h : CodeAt w g n S c L B mb k D V A C) {j b : Nat} (hj : j < n) (hb : own (A j) = some b) : b ≠ g := by
  rintro rfl
  obtain ⟨cs, hc⟩ := h.row_typed hj hb
  have := h.disk.blk
  unfold BlkIs at this
  rw [hc] at this
  simp at this
theorem row_m (h : CodeAt w g n S c L B mb k D V A C) {j b : Nat} (hj : j < n) (hb : own (A j) = some b) : b ≠ mb := by
  rintro rfl
  obtain ⟨cs, hc⟩ := h.row_typed hj hb
  obtain ⟨es, clock, hm, _⟩ := h.map
  rw [hc] at hm
  simp at hm
theorem has_eq (h : CodeAt w g n S c L B mb k D V A C) {j : Nat} (hj : j < n) : Maps.has D (.int .i64 (j : Int)) = !(V j).isEmpty := by
  by_cases e : V j = []
  · rw [(h.gone j hj e).1, e]; rfl
  · rw [Maps.has_true_of_atKey (h.here j hj e)]
    cases hv : V j with
    | nil => exact absurd hv e
    | cons a b => rfl
theorem at_nil (h : CodeAt w g n S c L B mb k D V A C) {j : Nat} (hj : j < n) : D.atKey (.int .i64 (j : Int)) (.held (.slice none 0 0)) = .held (.slice (A j) (V j).length (C j)) := by
  by_cases e : V j = []
  · obtain ⟨h1, h2, h3⟩ := h.gone j hj e
    rw [Maps.atKey_of_not_has h1, e, h2, h3]; rfl
  · exact h.here j hj e _
theorem keep {G : Nat → Prop} (h : CodeAt w g n S c L B mb k D V A C) (hk : Kept w w' G) (hd : ∀ b, foot g n mb A b → ¬ G b) : CodeAt w' g n S c L B mb k D V A C :=
  ⟨⟨hk.blk h.disk.blk (hd g (.inl rfl)), h.disk.lo, h.disk.hi, h.disk.lenL, h.disk.lenB, h.disk.allL⟩, hk.map h.map (hd mb (.inr (.inl rfl))), h.kc, h.keys, h.here, h.gone,
    fun j hj => hk.row (h.row j hj) (fun b hb => hd b (.inr (.inr ⟨j, hj, by rw [← own_eq]; exact hb⟩))), h.ok, h.sec, h.bad, h.ver, h.few, h.apart⟩
theorem fresh (h : CodeAt w g n S c L B mb k D V A C) (hb : Below w.heap.size w w') : CodeAt w' g n S c L B mb k D V A C :=
  h.keep (G := fun _ => False) (Kept.fresh hb) (fun _ _ q => q)
theorem len_le (h : CodeAt w g n S c L B mb k D V A C) {j : Nat} (hj : j < n) : (V j).length ≤ c := by
  have h1 := length_unrun (h.ok j hj)
  rw [h.ver j hj] at h1
  have := h.few j hj
  omega
theorem time_le (h : CodeAt w g n S c L B mb k D V A C) {j : Nat} (hj : j < n) {x : Run} (hx : x ∈ V j) : x.2 ≤ c := by
  have h1 := times_le hx
  rw [h.ver j hj] at h1
  have := h.few j hj
  omega
end CodeAt
theorem Code.keep {w w' : World} {g n c : Nat} {S : Nat → Bk} {F G : Nat → Prop} (h : Code w g n S c F) (hk : Kept w w' G) (hd : ∀ b, F b → ¬ G b) : Code w' g n S c F := by
  obtain ⟨L, B, mb, k, D, V, A, C, h, rfl⟩ := h
  exact ⟨L, B, mb, k, D, V, A, C, h.keep hk hd, rfl⟩
theorem Code.fresh {w w' : World} {g n c : Nat} {S : Nat → Bk} {F : Nat → Prop} (h : Code w g n S c F) (hb : Below w.heap.size w w') : Code w' g n S c F := h.keep (G := fun _ => False) (Kept.fresh hb) (fun _ _ q => q)
theorem Code.lt {w : World} {g n c : Nat} {S : Nat → Bk} {F : Nat → Prop} (h : Code w g n S c F) : ∀ b, F b → b < w.heap.size := by
  obtain ⟨L, B, mb, k, D, V, A, C, h, rfl⟩ := h
  exact h.foot_lt
theorem Code.size {w : World} {g n c : Nat} {S : Nat → Bk} {F : Nat → Prop} (h : Code w g n S c F) : 1 ≤ n ∧ n ≤ 96 ∧ w.cell? ⟨g, 0, none⟩ = some (.int .i64 n) ∧ g < w.heap.size := by
  obtain ⟨L, B, mb, k, D, V, A, C, h, rfl⟩ := h
  exact ⟨h.n0, h.n96, h.disk.c0, h.glt⟩
/-- the blocks with one changed -/
def upd (S : Nat → Bk) (i : Nat) (b : Bk) : Nat → Bk := fun j => if j = i then b else S j
theorem upd_same (S : Nat → Bk) (i : Nat) (b : Bk) : upd S i b i = b := by simp [upd]
theorem upd_other (S : Nat → Bk) {i j : Nat} (b : Bk) (h : j ≠ i) : upd S i b j = S j := by simp [upd, h]
end Go.Proofs.Ytieeibdhaoaeaaa
