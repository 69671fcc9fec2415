/- The document's own disk in memory. -/
import Derived.Test.YtieeibdhaoaeaaaKN
set_option linter.unusedVariables false
set_option linter.unusedSimpArgs false
namespace Go.Proofs.Ytieeibdhaoaeaaa
open Go.RowKit

/-- the cells of a block of the document's disk -/
def blkV (b : Bk) (a : Option Addr) (c : Nat) : List Value := bytesV b.s ++ [.slice a b.v.length c, .bool b.b]
def blksL (l : List Nat) (S : Nat → Bk) (A : Nat → Option Addr) (C : Nat → Nat) : List Value := l.flatMap fun i => blkV (S i) (A i) (C i)
def secsV (v : List (List Int)) : List Value := v.flatMap bytesV
theorem length_blkV {b : Bk} (h : b.s.length = 32) (a : Option Addr) (c : Nat) : (blkV b a c).length = 34 := by simp [blkV, length_bytesV, h]
theorem length_blksL (l : List Nat) (S : Nat → Bk) (A : Nat → Option Addr) (C : Nat → Nat) (h : ∀ i ∈ l, (S i).s.length = 32) : (blksL l S A C).length = l.length * 34 := by
  induction l with
  | nil => rfl
  | cons x l ih =>
    have := ih (fun i hi => h i (List.mem_cons_of_mem _ hi))
    have e : blksL (x :: l) S A C = blkV (S x) (A x) (C x) ++ blksL l S A C := by simp [blksL]
    rw [e, List.length_append, this, length_blkV (h x (by simp)), List.length_cons]; omega
theorem blksL_congr {l : List Nat} {S S' : Nat → Bk} {A A' : Nat → Option Addr} {C C' : Nat → Nat} (h : ∀ i ∈ l, S i = S' i ∧ A i = A' i ∧ C i = C' i) : blksL l S A C = blksL l S' A' C' := by
  induction l with
  | nil => rfl
  | cons x l ih =>
    have e : ∀ S A C, blksL (x :: l) S A C = blkV (S x) (A x) (C x) ++ blksL l S A C := fun S A C => by simp [blksL]
    obtain ⟨h1, h2, h3⟩ := h x (by simp)
    rw [e, e, ih (fun i hi => h i (List.mem_cons_of_mem _ hi)), h1, h2, h3]
theorem range_split {n i : Nat} (h : i < n) : ∃ rest, List.range n = List.range i ++ i :: rest ∧ ∀ j ∈ rest, i < j ∧ j < n := by
  obtain ⟨m, rfl⟩ : ∃ m, n = i + (m + 1) := ⟨n - i - 1, by omega⟩
  refine ⟨((List.range m).map Nat.succ).map (i + ·), ?_, ?_⟩
  · rw [List.range_add, List.range_succ_eq_map]; simp
  · intro j hj
    simp only [List.map_map, List.mem_map, List.mem_range] at hj
    obtain ⟨a, ha, rfl⟩ := hj
    simp; omega
/-- the blocks with one of them shown -/
theorem blks_split {n i : Nat} (h : i < n) (S : Nat → Bk) (A : Nat → Option Addr) (C : Nat → Nat) : ∃ post, blksL (List.range n) S A C = blksL (List.range i) S A C ++ (blkV (S i) (A i) (C i) ++ post) ∧
    ∀ S' A' C', (∀ j, j ≠ i → S' j = S j ∧ A' j = A j ∧ C' j = C j) → blksL (List.range n) S' A' C' = blksL (List.range i) S A C ++ (blkV (S' i) (A' i) (C' i) ++ post) := by
  obtain ⟨rest, e, hr⟩ := range_split h
  refine ⟨blksL rest S A C, ?_, fun S' A' C' hs => ?_⟩
  · rw [e]; simp [blksL]
  · rw [e]
    have h1 : blksL (List.range i) S' A' C' = blksL (List.range i) S A C := blksL_congr (fun j hj => hs j (by have := List.mem_range.1 hj; omega))
    have h2 : blksL rest S' A' C' = blksL rest S A C := blksL_congr (fun j hj => hs j (by have := hr j hj; omega))
    rw [← h1, ← h2]; simp [blksL]
structure RefAt (w : World) (g n : Nat) (S : Nat → Bk) (c gb cp : Nat) (A : Nat → Option Addr) (C : Nat → Nat) : Prop where
  hd : BlkIs w g 96 [.slice (some ⟨gb, 0, none⟩) n cp]
  row : w.ownsRow 0 93 34 (.slice (some ⟨gb, 0, none⟩) n cp) n (blksL (List.range n) S A C)
  vers : ∀ i, i < n → w.ownsRow 0 53 32 (.slice (A i) (S i).v.length (C i)) (S i).v.length (secsV (S i).v)
  ok : ∀ i, i < n → OkS (S i).s ∧ ∀ x ∈ (S i).v, OkS x
  n1 : 1 ≤ n
  n96 : n ≤ 96
  few : ∀ i, i < n → (S i).v.length ≤ c
  apart : ∀ i j, i < n → j < n → i ≠ j → ∀ b, own (A i) = some b → own (A j) ≠ some b
def footR (g gb n : Nat) (A : Nat → Option Addr) : Nat → Prop := fun b => b = g ∨ b = gb ∨ ∃ j, j < n ∧ own (A j) = some b
/-- the document's disk of n blocks S at the block g, in the blocks F -/
def Ref (w : World) (g n : Nat) (S : Nat → Bk) (c : Nat) (F : Nat → Prop) : Prop := ∃ gb cp A C, RefAt w g n S c gb cp A C ∧ F = footR g gb n A
namespace RefAt
variable {w w' : World} {g n c gb cp : Nat} {S : Nat → Bk} {A : Nat → Option Addr} {C : Nat → Nat}
theorem glt (h : RefAt w g n S c gb cp A C) : g < w.heap.size := h.hd.lt
theorem blt (h : RefAt w g n S c gb cp A C) : gb < w.heap.size := (h.row.lt gb rfl).2
theorem typed (h : RefAt w g n S c gb cp A C) : ∃ cs, w.heap[gb]? = some (.cells cs 93 (0, 0)) := by
  rcases h.row.2 with ⟨q, _⟩ | ⟨x, cap, cur, q, _, hx, _⟩
  · cases q
  · obtain ⟨q, _, _⟩ := Value.slice.inj q
    cases q
    exact ⟨_, hx⟩
theorem vtyped (h : RefAt w g n S c gb cp A C) {j b : Nat} (hj : j < n) (hb : own (A j) = some b) : ∃ cs, w.heap[b]? = some (.cells cs 53 (0, 0)) := by
  rcases (h.vers j hj).2 with ⟨q, _⟩ | ⟨x, cap, cur, q, _, hx, _⟩
  · obtain ⟨q, _, _⟩ := Value.slice.inj q
    rw [q] at hb; simp [own] at hb
  · obtain ⟨q, _, _⟩ := Value.slice.inj q
    rw [q] at hb
    simp [own] at hb
    subst hb
    exact ⟨_, hx⟩
theorem gne (h : RefAt w g n S c gb cp A C) : g ≠ gb := by
  rintro rfl
  obtain ⟨cs, e⟩ := h.typed
  have := h.hd
  unfold BlkIs at this
  rw [e] at this
  simp at this
theorem vg (h : RefAt w g n S c gb cp A C) {j b : Nat} (hj : j < n) (hb : own (A j) = some b) : b ≠ g := by
  rintro rfl
  obtain ⟨cs, e⟩ := h.vtyped hj hb
  have := h.hd
  unfold BlkIs at this
  rw [e] at this
  simp at this
theorem vb (h : RefAt w g n S c gb cp A C) {j b : Nat} (hj : j < n) (hb : own (A j) = some b) : b ≠ gb := by
  rintro rfl
  obtain ⟨cs, e⟩ := h.vtyped hj hb
  obtain ⟨cs', e'⟩ := h.typed
  rw [e] at e'
  simp at e'
theorem vlt (h : RefAt w g n S c gb cp A C) {j b : Nat} (hj : j < n) (hb : own (A j) = some b) : b < w.heap.size := ((h.vers j hj).lt b (by rw [own_eq]; exact hb)).2
theorem foot_lt (h : RefAt w g n S c gb cp A C) : ∀ b, footR g gb n A b → b < w.heap.size := by
  rintro b (rfl | rfl | ⟨j, hj, hb⟩)
  · exact h.glt
  · exact h.blt
  · exact h.vlt hj hb
theorem keep {G : Nat → Prop} (h : RefAt w g n S c gb cp A C) (hk : Kept w w' G) (hd : ∀ b, footR g gb n A b → ¬ G b) : RefAt w' g n S c gb cp A C :=
  ⟨hk.blk h.hd (hd g (.inl rfl)), hk.row h.row (fun b e => by cases e; exact hd _ (.inr (.inl rfl))), fun i hi => hk.row (h.vers i hi) (fun b hb => hd b (.inr (.inr ⟨i, hi, by rw [← own_eq]; exact hb⟩))), h.ok, h.n1, h.n96, h.few, h.apart⟩
theorem fresh (h : RefAt w g n S c gb cp A C) (hb : Below w.heap.size w w') : RefAt w' g n S c gb cp A C := h.keep (G := fun _ => False) (Kept.fresh hb) (fun _ _ q => q)
theorem c0 (h : RefAt w g n S c gb cp A C) : w.cell? ⟨g, 0, none⟩ = some (.slice (some ⟨gb, 0, none⟩) n cp) := h.hd.cell 0
theorem at_ (h : RefAt w g n S c gb cp A C) {i j : Nat} (hi : i < n) (hj : j < 34) : w.cell? ⟨gb, i * 34 + j, none⟩ = (blkV (S i) (A i) (C i))[j]? := by
  rw [h.row.cellAt _ (by omega)]
  obtain ⟨post, e, _⟩ := blks_split hi S A C
  have hl : (blksL (List.range i) S A C).length = i * 34 := by
    rw [length_blksL _ _ _ _ (fun k hk => (h.ok k (by have := List.mem_range.1 hk; omega)).1.1), List.length_range]
  rw [e, List.getElem?_append_right (by omega), hl, show i * 34 + j - i * 34 = j by omega, List.getElem?_append_left (by rw [length_blkV (h.ok i hi).1.1]; exact hj)]
theorem cv (h : RefAt w g n S c gb cp A C) {i : Nat} (hi : i < n) : w.cell? ⟨gb, i * 34 + 32, none⟩ = some (.slice (A i) (S i).v.length (C i)) := by
  rw [h.at_ hi (by omega), blkV, List.getElem?_append_right (by rw [length_bytesV, (h.ok i hi).1.1]; omega), length_bytesV, (h.ok i hi).1.1]; rfl
theorem cb (h : RefAt w g n S c gb cp A C) {i : Nat} (hi : i < n) : w.cell? ⟨gb, i * 34 + 33, none⟩ = some (.bool (S i).b) := by
  rw [h.at_ hi (by omega), blkV, List.getElem?_append_right (by rw [length_bytesV, (h.ok i hi).1.1]; omega), length_bytesV, (h.ok i hi).1.1]; rfl
theorem frz (h : RefAt w g n S c gb cp A C) (j : Nat) : w.frozen? ⟨gb, j, none⟩ = false := h.row.frozenAt j
theorem sector (h : RefAt w g n S c gb cp A C) {i : Nat} (hi : i < n) : w.rangeAt gb (i * 34) (bytesV (S i).s) := fun j u hj => by
  have hj' : j < 32 := by
    rcases Nat.lt_or_ge j 32 with h1 | h1
    · exact h1
    · rw [List.getElem?_eq_none (by rw [length_bytesV, (h.ok i hi).1.1]; exact h1)] at hj; cases hj
  rw [h.at_ hi (by omega), blkV, List.getElem?_append_left (by rw [length_bytesV, (h.ok i hi).1.1]; exact hj')]; exact hj
/-- one of the cells of the i-th block changed -/
theorem set_ (h : RefAt w g n S c gb cp A C) {i : Nat} (hi : i < n) {j : Nat} (hj : j < 34) (u : Value) (b' : Bk) (a' : Option Addr) (c' : Nat) (hb : (blkV (S i) (A i) (C i)).set j u = blkV b' a' c') :
    (blksL (List.range n) S A C).set (i * 34 + j) u = blksL (List.range n) (upd S i b') (fun k => if k = i then a' else A k) (fun k => if k = i then c' else C k) := by
  obtain ⟨post, e, e2⟩ := blks_split hi S A C
  have hl : (blksL (List.range i) S A C).length = i * 34 := by
    rw [length_blksL _ _ _ _ (fun k hk => (h.ok k (by have := List.mem_range.1 hk; omega)).1.1), List.length_range]
  rw [e2 (upd S i b') (fun k => if k = i then a' else A k) (fun k => if k = i then c' else C k) (fun k hk => ⟨upd_other _ _ hk, by simp [hk], by simp [hk]⟩), e, List.set_append_right _ _ (by omega), hl, show i * 34 + j - i * 34 = j by omega,
    List.set_append_left _ _ (by rw [length_blkV (h.ok i hi).1.1]; exact hj), hb, upd_same]
  simp
/-- the sector of the i-th block changed -/
theorem splice_ (h : RefAt w g n S c gb cp A C) {i : Nat} (hi : i < n) {s : List Int} (hs : s.length = 32) :
    splice (blksL (List.range n) S A C) (i * 34) (bytesV s) = blksL (List.range n) (upd S i ⟨s, (S i).v, (S i).b⟩) A C := by
  obtain ⟨post, e, e2⟩ := blks_split hi S A C
  have hl : (blksL (List.range i) S A C).length = i * 34 := by
    rw [length_blksL _ _ _ _ (fun k hk => (h.ok k (by have := List.mem_range.1 hk; omega)).1.1), List.length_range]
  have h1 := splice_mid (blksL (List.range i) S A C) (blkV (S i) (A i) (C i)) post (bytesV s) 0 (by rw [length_blkV (h.ok i hi).1.1, length_bytesV, hs]; omega)
  rw [hl, Nat.add_zero] at h1
  rw [e2 (upd S i ⟨s, (S i).v, (S i).b⟩) A C (fun k hk => ⟨upd_other _ _ hk, rfl, rfl⟩), e, h1, upd_same]
  congr 2
  have h3 := splice_mid (α := Value) [] (bytesV (S i).s) [.slice (A i) (S i).v.length (C i), .bool (S i).b] (bytesV s) 0 (by rw [length_bytesV, length_bytesV, hs, (h.ok i hi).1.1]; omega)
  simp only [List.nil_append, List.length_nil, Nat.zero_add] at h3
  unfold blkV
  rw [h3, splice_whole _ _ (by rw [length_bytesV, length_bytesV, hs, (h.ok i hi).1.1])]
end RefAt
theorem Ref.keep {w w' : World} {g n c : Nat} {S : Nat → Bk} {F G : Nat → Prop} (h : Ref w g n S c F) (hk : Kept w w' G) (hd : ∀ b, F b → ¬ G b) : Ref w' g n S c F := by
  obtain ⟨gb, cp, A, C, h, rfl⟩ := h
  exact ⟨gb, cp, A, C, h.keep hk hd, rfl⟩
theorem Ref.fresh {w w' : World} {g n c : Nat} {S : Nat → Bk} {F : Nat → Prop} (h : Ref w g n S c F) (hb : Below w.heap.size w w') : Ref w' g n S c F := h.keep (G := fun _ => False) (Kept.fresh hb) (fun _ _ q => q)
theorem Ref.lt {w : World} {g n c : Nat} {S : Nat → Bk} {F : Nat → Prop} (h : Ref w g n S c F) : ∀ b, F b → b < w.heap.size := by
  obtain ⟨gb, cp, A, C, h, rfl⟩ := h
  exact h.foot_lt
theorem Ref.size {w : World} {g n c : Nat} {S : Nat → Bk} {F : Nat → Prop} (h : Ref w g n S c F) : 1 ≤ n ∧ n ≤ 96 ∧ ∃ gb cp, w.cell? ⟨g, 0, none⟩ = some (.slice (some ⟨gb, 0, none⟩) n cp) := by
  obtain ⟨gb, cp, A, C, h, rfl⟩ := h
  exact ⟨h.n1, h.n96, gb, cp, h.c0⟩
end Go.Proofs.Ytieeibdhaoaeaaa
