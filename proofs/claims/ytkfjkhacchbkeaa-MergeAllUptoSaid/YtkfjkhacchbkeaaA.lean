/- Items: patches with the numbers that they come behind; how they lie in memory. -/
import Derived.Test.YtkfjkhacchbkeaaGM
import Derived.Test.YtkfjkhacchbkeaaQO
namespace Go.Proofs.Ytkfjkhacchbkeaa
set_option linter.unusedVariables false
set_option linter.unusedSimpArgs false
open Go.RowKit

/-- a patch, and the numbers that it comes behind -/
structure It where
  p : Pat.Pt
  d : List Int
def itN (l : List It) (k : Nat) : It := l.getD k ⟨⟨0, 0, ByteArray.empty⟩, []⟩
theorem itN_lt {l : List It} {k : Nat} (h : k < l.length) : itN l k = l[k] := by
  unfold itN; rw [List.getD_eq_getElem?_getD, List.getElem?_eq_getElem h]; rfl
def It.small (x : It) : Prop := x.p.ok ∧ x.d.length ≤ 1000
def Small (l : List It) : Prop := ∀ k, k < l.length → (itN l k).small
def depsI (l : List It) : List (List Int) := l.map It.d
theorem length_depsI (l : List It) : (depsI l).length = l.length := by simp [depsI]
theorem rowI_depsI {l : List It} {k : Nat} (h : k < l.length) : rowI (depsI l) k = (itN l k).d := by
  rw [rowI_lt (by rw [length_depsI]; exact h), itN_lt h]; simp [depsI]
def rightTo (l : List It) (k : Nat) : Bool := (List.range k).all fun j => (itN l j).p.right
def rightL (l : List It) : Bool := decide (l.length ≤ 64) && rightTo l l.length && okB (depsI l)
theorem rightTo_succ (l : List It) (k : Nat) : rightTo l (k + 1) = (rightTo l k && (itN l k).p.right) := by simp [rightTo, List.range_succ]
theorem rightTo_stop {l : List It} {k : Nat} (hk : k < l.length) (h : (itN l k).p.right = false) : rightL l = false := by
  have : rightTo l l.length = false := by
    rw [Bool.eq_false_iff]
    intro ht
    have := List.all_eq_true.1 ht k (List.mem_range.2 hk)
    rw [h] at this; cases this
  simp [rightL, this]
theorem rightL_long {l : List It} (h : ¬ l.length ≤ 64) : rightL l = false := by simp [rightL, h]
theorem rightL_all {l : List It} (h : l.length ≤ 64) (h2 : rightTo l l.length = true) : rightL l = okB (depsI l) := by simp [rightL, h, h2]

/-- the cells of an item -/
structure ItAt (w : World) (B b o : Nat) (x : It) (A : Option Addr) (c : Nat) : Prop where
  c0 : w.cell? ⟨b, o, none⟩ = some (.int .i64 x.p.b)
  c1 : w.cell? ⟨b, o + 1, none⟩ = some (.int .i64 x.p.o)
  c2 : w.cell? ⟨b, o + 2, none⟩ = some (.string x.p.s)
  c3 : w.cell? ⟨b, o + 3, none⟩ = some (.slice A x.d.length c)
  row : Ints w B A x.d
/-- a slice's address under which, below block B, the cells are the items l -/
def Items (w : World) (B : Nat) (A : Option Addr) (l : List It) : Prop :=
  0 < l.length → ∃ (b off : Nat) (Af : Nat → Option Addr) (Cf : Nat → Nat), A = some ⟨b, off, none⟩ ∧ b < B ∧ ∀ j, j < l.length → ItAt w B b (off + j * 4) (itN l j) (Af j) (Cf j)
section
variable {w w' : World} {B B' : Nat} {A : Option Addr} {l : List It}
theorem ItAt.keep {b o : Nat} {x : It} {A : Option Addr} {c : Nat} (h : ItAt w B b o x A c) (hb : b < B) (hk : ∀ p : Addr, p.block < B → w'.cell? p = w.cell? p) : ItAt w' B b o x A c :=
  ⟨(hk _ hb).trans h.c0, (hk _ hb).trans h.c1, (hk _ hb).trans h.c2, (hk _ hb).trans h.c3, h.row.keep hk⟩
theorem ItAt.more {b o : Nat} {x : It} {A : Option Addr} {c : Nat} (h : ItAt w B b o x A c) (hB : B ≤ B') : ItAt w B' b o x A c :=
  ⟨h.c0, h.c1, h.c2, h.c3, h.row.more hB⟩
theorem Items.keep (h : Items w B A l) (hk : ∀ p : Addr, p.block < B → w'.cell? p = w.cell? p) : Items w' B A l := fun hn => by
  obtain ⟨b, off, Af, Cf, e, hb, hc⟩ := h hn
  exact ⟨b, off, Af, Cf, e, hb, fun j hj => (hc j hj).keep hb hk⟩
theorem Items.more (h : Items w B A l) (hB : B ≤ B') : Items w B' A l := fun hn => by
  obtain ⟨b, off, Af, Cf, e, hb, hc⟩ := h hn
  exact ⟨b, off, Af, Cf, e, by omega, fun j hj => (hc j hj).more hB⟩
theorem Items.below (h : Items w B A l) (hb : Below B w w') : Items w' B A l := h.keep fun _ hp => hb.cell hp
theorem Items.nil : Items w B A [] := fun h => by simp at h
end
theorem Items.next {w w' : World} {A : Option Addr} {l : List It} (h : Items w w.heap.size A l) (hb : Below w.heap.size w w') : Items w' w'.heap.size A l := (h.below hb).more hb.size
theorem Items.at_ {w : World} {B : Nat} {A : Option Addr} {l : List It} (h : Items w B A l) {k : Nat} (hk : k < l.length) : ∃ b off Ak ck, A = some ⟨b, off, none⟩ ∧ b < B ∧ ItAt w B b (off + k * 4) (itN l k) Ak ck := by
  obtain ⟨b, off, Af, Cf, e, hb, hc⟩ := h (by omega)
  exact ⟨b, off, _, _, e, hb, hc k hk⟩
theorem Items.take {w : World} {B : Nat} {A : Option Addr} {l : List It} (h : Items w B A l) (k : Nat) : Items w B A (l.take k) := fun hn => by
  rw [List.length_take] at hn
  obtain ⟨b, off, Af, Cf, e, hb, hc⟩ := h (by omega)
  refine ⟨b, off, Af, Cf, e, hb, fun j hj => ?_⟩
  rw [List.length_take] at hj
  have : itN (l.take k) j = itN l j := by rw [itN_lt (by rw [List.length_take]; exact hj), itN_lt (by omega), List.getElem_take]
  rw [this]; exact hc j (by omega)
theorem Small.take {l : List It} (h : Small l) (k : Nat) : Small (l.take k) := fun j hj => by
  rw [List.length_take] at hj
  have : itN (l.take k) j = itN l j := by rw [itN_lt (by rw [List.length_take]; exact hj), itN_lt (by omega), List.getElem_take]
  rw [this]; exact h j (by omega)

/-- the rows of deps that are laid -/
def depV (n k : Nat) (l : List It) (Af : Nat → Option Addr) (Cf : Nat → Nat) : List Value := (List.range n).map fun j => if j < k then .slice (Af j) (itN l j).d.length (Cf j) else .slice none 0 0
theorem length_depV (n k : Nat) (l : List It) (Af : Nat → Option Addr) (Cf : Nat → Nat) : (depV n k l Af Cf).length = n := by simp [depV]
theorem depV_at {n k j : Nat} (l : List It) (Af : Nat → Option Addr) (Cf : Nat → Nat) (h : j < n) : (depV n k l Af Cf)[j]? = some (if j < k then .slice (Af j) (itN l j).d.length (Cf j) else .slice none 0 0) := by
  simp [depV, h]
theorem depV_set (n k : Nat) (l : List It) (Af : Nat → Option Addr) (Cf : Nat → Nat) (hk : k < n) : (depV n k l Af Cf).set k (.slice (Af k) (itN l k).d.length (Cf k)) = depV n (k + 1) l Af Cf := by
  apply List.ext_getElem
  · simp [depV]
  · intro i h1 h2
    rw [List.getElem_set]
    by_cases e : k = i
    · subst e; simp [depV]
    · rw [if_neg e]
      simp only [depV, List.getElem_map, List.getElem_range]
      by_cases h : i < k
      · rw [if_pos h, if_pos (by omega)]
      · rw [if_neg h, if_neg (by omega)]
theorem info29 : (Try.prog.info? 29).map (fun i => (i.zero, i.size, i.bytes)) = some (some (.slice none 0 0), 1, 24) := by kernel_rfl
theorem make_rows (n : Nat) (hn : n ≤ 1000) : ∃ M : Array Value, (∀ l Af Cf, M.toList = depV n 0 l Af Cf) ∧ ∀ W : World, (Instr.makeSlice 27 (.int .i64 (n : Int)) (.int .i64 (n : Int))).run Try.prog W = .ok (.slice (some ⟨W.heap.size, 0, none⟩) n n) (W.alloc (.cells M 29)) := by
  obtain ⟨i0, hi0, hz0, hz1, hz2⟩ := info_parts info29
  refine ⟨madeCells #[Value.slice none 0 0] n, fun l Af Cf => ?_, fun W => ?_⟩
  · apply List.ext_getElem
    · simp [size_madeCells, depV]
    · intro i h1 h2; simp [madeCells, depV, Nat.mod_one]
  · have := run_makeSlice (P := Try.prog) W 27 29 i0 (.slice none 0 0) Try.underlying27 hi0 hz0 .i64 .i64 n n (by omega) (Int.le_refl _) (by rw [hz1]; omega) (by rw [hz2]; omega) (by omega)
    rw [hz1] at this
    simpa [Value.cells] using this
/-- deps, as they come -/
def DepsSays (w : World) (l : List It) (e : Ending) (w' : World) : Prop := ∃ A' c', e = .returned (.slice A' l.length c') ∧ Mat w' w'.heap.size A' (depsI l) ∧ Below w.heap.size w w'
end Go.Proofs.Ytkfjkhacchbkeaa
