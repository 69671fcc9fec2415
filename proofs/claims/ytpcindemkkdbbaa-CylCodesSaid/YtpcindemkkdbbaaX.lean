/- Groups of one's own: their cells; contract of forks. -/
import Derived.Test.YtpcindemkkdbbaaW
namespace Go.Proofs.Ytpcindemkkdbbaa
set_option linter.unusedVariables false
set_option linter.unusedSimpArgs false
open Go.RowKit

/-- cells in pieces of seven -/
def flat7 (n : Nat) (f : Nat → List Value) : List Value := (List.range n).flatMap f
section
variable {n : Nat} {f : Nat → List Value} (hf : ∀ j, (f j).length = 7)
include hf
theorem length_flat7 : (flat7 n f).length = n * 7 := by
  induction n with
  | zero => rfl
  | succ n ih =>
    unfold flat7 at ih ⊢
    rw [List.range_succ, List.flatMap_append, List.length_append, ih]
    simp [hf]; omega
theorem at_flat7 {j i : Nat} (hj : j < n) (hi : i < 7) : (flat7 n f)[j * 7 + i]? = (f j)[i]? := by
  induction n with
  | zero => omega
  | succ n ih =>
    have hl := length_flat7 (n := n) hf
    have e : flat7 (n + 1) f = flat7 n f ++ f n := by unfold flat7; rw [List.range_succ, List.flatMap_append]; simp
    rw [e]
    by_cases h : j < n
    · rw [List.getElem?_append_left (by omega)]; exact ih h
    · obtain rfl : j = n := by omega
      rw [List.getElem?_append_right (by omega), hl]; congr 1; omega
theorem ext_flat7 {l : List Value} (hl : l.length = n * 7) (h : ∀ j i, j < n → i < 7 → l[j * 7 + i]? = (f j)[i]?) : l = flat7 n f := by
  apply List.ext_getElem?
  intro p
  by_cases hp : p < n * 7
  · have := h (p / 7) (p % 7) (by omega) (by omega)
    rw [show p / 7 * 7 + p % 7 = p by omega] at this
    rw [this, ← at_flat7 hf (by omega : p / 7 < n) (by omega : p % 7 < 7), show p / 7 * 7 + p % 7 = p by omega]
  · rw [List.getElem?_eq_none (by omega), List.getElem?_eq_none (by rw [length_flat7 hf]; omega)]
theorem put_flat7 {k : Nat} (hk : k < n) {v : List Value} (hv : v.length = 7) : (flat7 n f).take (k * 7) ++ v ++ (flat7 n f).drop (k * 7 + v.length) = flat7 n (fun j => if j = k then v else f j) := by
  have hl := length_flat7 (n := n) hf
  refine ext_flat7 (fun j => by by_cases e : j = k <;> simp [e, hv, hf]) (by simp [hl, hv]; omega) fun j i hj hi => ?_
  by_cases h1 : j < k
  · rw [List.append_assoc, List.getElem?_append_left (by rw [List.length_take, hl]; omega), List.getElem?_take, if_pos (by omega), at_flat7 hf hj hi, if_neg (by omega)]
  · by_cases h2 : j = k
    · subst h2
      rw [List.append_assoc, List.getElem?_append_right (by rw [List.length_take, hl]; omega), List.length_take, hl, List.getElem?_append_left (by omega), if_pos rfl]
      congr 1; omega
    · rw [List.getElem?_append_right (by simp [hl, hv]; omega), List.getElem?_drop, if_neg h2, ← at_flat7 hf hj hi]
      congr 1; simp [hl, hv]; omega
theorem set_flat7 {k i : Nat} (hk : k < n) (hi : i < 7) (v : Value) : (flat7 n f).set (k * 7 + i) v = flat7 n (fun j => if j = k then (f k).set i v else f j) := by
  have hl := length_flat7 (n := n) hf
  refine ext_flat7 (fun j => by by_cases e : j = k <;> simp [e, hf]) (by simp [hl]) fun j i2 hj hi2 => ?_
  rw [List.getElem?_set]
  by_cases h2 : j = k
  · subst h2
    simp only [if_true]
    rw [List.getElem?_set]
    by_cases h3 : i = i2
    · subst h3; simp [hl, hf, hi]; omega
    · rw [if_neg (by omega), if_neg h3, at_flat7 hf hj hi2]
  · rw [if_neg (by omega), at_flat7 hf hj hi2]
    simp only [if_neg h2]
end
theorem flat7_congr {n : Nat} {f g : Nat → List Value} (h : ∀ j, j < n → f j = g j) : flat7 n f = flat7 n g := by
  unfold flat7
  rw [List.flatMap_def, List.flatMap_def]
  congr 1
  exact List.map_congr_left fun j hj => h j (List.mem_range.1 hj)

def cy7 (x : Cy) (A : Option Addr) (c : Nat) (A2 : Option Addr) (d : Nat) : List Value := [.int .i64 x.ix, .int .i64 x.bl, .int .i64 x.fb, .int .i64 x.fi, .int .i64 x.ro, .slice A x.us.length c, .slice A2 x.is.length d]
def zero7 : List Value := [.int .i64 0, .int .i64 0, .int .i64 0, .int .i64 0, .int .i64 0, .slice none 0 0, .slice none 0 0]
/-- the rows of the groups: of the t-th one -/
def rowC (l : List Cy) (t : Nat) : List Int := if t % 2 = 0 then (cyN l (t / 2)).us else (cyN l (t / 2)).is
theorem rowC_us (l : List Cy) (j : Nat) : rowC l (2 * j) = (cyN l j).us := by
  unfold rowC; rw [if_pos (by omega), show 2 * j / 2 = j by omega]
theorem rowC_is (l : List Cy) (j : Nat) : rowC l (2 * j + 1) = (cyN l j).is := by
  unfold rowC; rw [if_neg (by omega), show (2 * j + 1) / 2 = j by omega]
def cellsC (l : List Cy) (R : Nat → Option Addr) (C : Nat → Nat) (j : Nat) : List Value := cy7 (cyN l j) (R (2 * j)) (C (2 * j)) (R (2 * j + 1)) (C (2 * j + 1))
theorem length_cellsC (l : List Cy) (R : Nat → Option Addr) (C : Nat → Nat) (j : Nat) : (cellsC l R C j).length = 7 := rfl
/-- rows of one's own, the first m ones -/
structure Rows (w : World) (B : Nat) (l : List Cy) (m : Nat) (R : Nat → Option Addr) (C : Nat → Nat) : Prop where
  row : ∀ t, t < m → RowI w B (R t) (C t) (rowC l t)
  apart : ∀ s t, s < m → t < m → s ≠ t → ∀ b, own (R s) = some b → own (R t) ≠ some b
/-- groups of one's own in the block g, in their rows -/
structure Grp (w : World) (B : Nat) (g : Nat) (l : List Cy) (R : Nat → Option Addr) (C : Nat → Nat) : Prop where
  blk : w.heap[g]? = some (.cells (flat7 l.length (cellsC l R C)).toArray 24 (0, 0))
  low : B ≤ g
  rows : Rows w B l (2 * l.length) R C
section
variable {w w' : World} {B g m : Nat} {l : List Cy} {R : Nat → Option Addr} {C : Nat → Nat} {S : Nat → Prop}
theorem Rows.keep (h : Rows w B l m R C) (hk : Kept w w' S) (hn : ∀ t, t < m → ∀ b, own (R t) = some b → ¬ S b) : Rows w' B l m R C :=
  ⟨fun t ht => (h.row t ht).keep hk (hn t ht), h.apart⟩
theorem Rows.next (h : Rows w B l m R C) (hb : Below w.heap.size w w') : Rows w' B l m R C := h.keep (S := fun _ => False) (Kept.fresh hb) (fun _ _ _ _ q => q)
theorem lt_heap {o : Obj} (h : w.heap[g]? = some o) : g < w.heap.size := (Array.getElem?_eq_some_iff.1 h).1
theorem Grp.lt (h : Grp w B g l R C) : g < w.heap.size := lt_heap h.blk
theorem Grp.next (h : Grp w B g l R C) (hb : Below w.heap.size w w') : Grp w' B g l R C := ⟨(hb.block g h.lt).trans h.blk, h.low, h.rows.next hb⟩
theorem RowI.typed {A : Option Addr} {c : Nat} {q : List Int} {t : TypeId} {a : Array Value} (h : RowI w B A c q) (hg : w.heap[g]? = some (.cells a t (0, 0))) (ht : t ≠ 3) : own A ≠ some g := fun e => by
  rcases h.open_ with ⟨rfl, _⟩ | ⟨g', cur, rfl, _, hc, _⟩
  · cases e
  · cases e
    rw [hc] at hg
    injection hg with hg
    injection hg with _ h2
    exact ht h2.symm
theorem Grp.cell (h : Grp w B g l R C) {j i : Nat} (hj : j < l.length) (hi : i < 7) : w.cell? ⟨g, j * 7 + i, none⟩ = (cellsC l R C j)[i]? := by
  rw [cellAt_of h.blk, List.getElem?_toArray, at_flat7 (length_cellsC l R C) hj hi]
theorem Grp.cyls (h : Grp w B g l R C) : Cyls w w.heap.size (some ⟨g, 0, none⟩) l := fun hn =>
  ⟨g, 0, fun j => R (2 * j), fun j => C (2 * j), fun j => R (2 * j + 1), fun j => C (2 * j + 1), rfl, h.lt, fun j hj => by
    have e := fun i (hi : i < 7) => h.cell hj hi
    have r1 := (h.rows.row (2 * j) (by omega)).ints
    have r2 := (h.rows.row (2 * j + 1) (by omega)).ints
    rw [rowC_us] at r1
    rw [rowC_is] at r2
    rw [Nat.zero_add]
    exact ⟨e 0 (by omega), e 1 (by omega), e 2 (by omega), e 3 (by omega), e 4 (by omega), e 5 (by omega), e 6 (by omega), r1, r2⟩⟩
end
theorem info24 : (Try.prog.info? 24).map (fun i => (i.zero, i.size, i.bytes)) = some (some (.agg #[.int .i64 0, .int .i64 0, .int .i64 0, .int .i64 0, .int .i64 0, .slice none 0 0, .slice none 0 0]), 7, 88) := by kernel_rfl
theorem make_cyls (n : Nat) (hn : n ≤ 1000) : ∃ M : Array Value, M.toList = flat7 n (fun _ => zero7) ∧ ∀ W : World, (Instr.makeSlice 39 (.int .i64 (n : Int)) (.int .i64 (n : Int))).run Try.prog W = .ok (.slice (some ⟨W.heap.size, 0, none⟩) n n) (W.alloc (.cells M 24)) := by
  obtain ⟨i0, hi0, hz0, hz1, hz2⟩ := info_parts info24
  refine ⟨madeCells #[.int .i64 0, .int .i64 0, .int .i64 0, .int .i64 0, .int .i64 0, .slice none 0 0, .slice none 0 0] (n * 7), ?_, fun W => ?_⟩
  · refine ext_flat7 (fun _ => rfl) (by simp [size_madeCells]) fun j i hj hi => ?_
    have h1 : j * 7 + i < n * 7 := by omega
    have h2 : (j * 7 + i) % 7 = i := by omega
    have h3 : (Array.range (n * 7))[j * 7 + i]? = some (j * 7 + i) := by rw [Array.getElem?_eq_getElem (by simpa using h1)]; simp
    rw [Array.getElem?_toList, madeCells, Array.getElem?_map, h3]
    simp only [Option.map_some]
    have : i = 0 ∨ i = 1 ∨ i = 2 ∨ i = 3 ∨ i = 4 ∨ i = 5 ∨ i = 6 := by omega
    rcases this with rfl | rfl | rfl | rfl | rfl | rfl | rfl <;> simp [zero7]
  · have := run_makeSlice (P := Try.prog) W 39 24 i0 _ Try.underlying39 hi0 hz0 .i64 .i64 n n (by omega) (Int.le_refl _) (by rw [hz1]; omega) (by rw [hz2]; omega) (by omega)
    rw [hz1] at this
    simpa [Value.cells] using this
end Go.Proofs.Ytpcindemkkdbbaa
