/- Contract of Deps. -/
import Derived.Test.YtkfjkhacchbkeaaR
namespace Go.Proofs.Ytkfjkhacchbkeaa
set_option linter.unusedVariables false
set_option linter.unusedSimpArgs false
open Go.RowKit

/-- rows of numbers that a call makes, one behind the other -/
structure RwSt (base : Nat) (W : World) (q : List (List Nat)) (v : Value) (vs : Nat → Value) : Prop where
  grp : W.ownsRow base 29 1 v q.length ((List.range q.length).map vs)
  rows : ∀ j, j < q.length → W.ownsRow base 3 1 (vs j) (rowN q j).length (natsV (rowN q j))
theorem RwSt.next {base : Nat} {W W' : World} {q : List (List Nat)} {v : Value} {vs : Nat → Value} (h : RwSt base W q v vs) (hb : Below W.heap.size W W') : RwSt base W' q v vs :=
  ⟨own_lay h.grp hb, fun j hj => own_lay (h.rows j hj) hb⟩
theorem RwSt.nil (base : Nat) (W : World) : RwSt base W [] (.slice none 0 0) (fun _ => undef) := ⟨World.ownsRow_nil _ _ _ _, fun j hj => by cases hj⟩
theorem RwSt.push {base : Nat} {W w5 : World} {q : List (List Nat)} {row : List Nat} {v v' x : Value} {vs : Nat → Value} {t : Obj} (h : RwSt base W q v vs) (hr : W.ownsRow base 3 1 x row.length (natsV row))
    (hown : w5.ownsRow base 29 1 v' (q.length + 1) ((List.range q.length).map vs ++ [x])) (hg : (W.alloc t).grownBy w5 v.ownBlock) : RwSt base w5 (q ++ [row]) v' (fun j => if j = q.length then x else vs j) := by
  have hga := h.grp.alloc t
  refine ⟨?_, fun j hj => ?_⟩
  · have e : (List.range (q ++ [row]).length).map (fun j => if j = q.length then x else vs j) = (List.range q.length).map vs ++ [x] := by
      simp only [List.length_append, List.length_singleton, List.range_succ, List.map_append, List.map_cons, List.map_nil, if_true]
      congr 1
      apply List.map_congr_left
      intro j hj
      have := List.mem_range.1 hj
      rw [if_neg (by omega)]
    rw [e, List.length_append, List.length_singleton]
    exact hown
  · rw [rowN_snoc]
    by_cases e : j = q.length
    · simp only [if_pos e]
      have h2 := hr.alloc t
      exact h2.kept hg (own_apart h2 hga (by decide))
    · simp only [if_neg e]
      have hj' : j < q.length := by simp at hj; omega
      have h2 := (h.rows j hj').alloc t
      exact h2.kept hg (own_apart h2 hga (by decide))
theorem RwSt.mat {base : Nat} {W : World} {q : List (List Nat)} {v : Value} {vs : Nat → Value} (h : RwSt base W q v vs) : ∃ A c, v = .slice A q.length c ∧ Mat W W.heap.size A (rowsI q) := by
  obtain ⟨A, c, e, hout⟩ := own_slices h.grp
  refine ⟨A, c, e, fun h0 => ?_⟩
  rw [length_rowsI] at h0
  obtain ⟨g, rfl, hg, hcells⟩ := hout h0
  refine ⟨g, 0, rfl, hg, fun j hj => ?_⟩
  rw [length_rowsI] at hj
  have hr := h.rows j hj
  rw [natsV_intsV] at hr
  obtain ⟨Aj, cj, ej, _, _, hI⟩ := own_ints (n := (rowN q j).length) hr
  refine ⟨Aj, cj, ?_, by rw [rowI_rowsI]; exact hI⟩
  rw [Nat.zero_add, hcells j hj, rowI_rowsI, ← ej]
  simp [hj]

/-- the groups that one item's numbers are in, but for its own one -/
def othersOf (D : List (List Nat)) (of : List Nat) (g i : Nat) : List Nat := ((rowN D i).map (el of)).filter fun x => !(x == g)
def othersT (D : List (List Nat)) (of : List Nat) (g i t : Nat) : List Nat := (((rowN D i).take t).map (el of)).filter fun x => !(x == g)
def othersL (D : List (List Nat)) (of : List Nat) (g : Nat) (row : List Nat) : List Nat := row.flatMap (othersOf D of g)
theorem othersT_zero (D : List (List Nat)) (of : List Nat) (g i : Nat) : othersT D of g i 0 = [] := by simp [othersT]
theorem othersT_all (D : List (List Nat)) (of : List Nat) (g i : Nat) : othersT D of g i (rowN D i).length = othersOf D of g i := by simp [othersT, othersOf]
theorem othersT_hit {D : List (List Nat)} {of : List Nat} {g i t : Nat} (ht : t < (rowN D i).length) (h : el of (el (rowN D i) t) ≠ g) : othersT D of g i (t + 1) = othersT D of g i t ++ [el of (el (rowN D i) t)] := by
  unfold othersT
  rw [take_el _ _ ht, List.map_append, List.filter_append]
  simp [h]
theorem othersT_miss {D : List (List Nat)} {of : List Nat} {g i t : Nat} (ht : t < (rowN D i).length) (h : el of (el (rowN D i) t) = g) : othersT D of g i (t + 1) = othersT D of g i t := by
  unfold othersT
  rw [take_el _ _ ht, List.map_append, List.filter_append]
  simp [h]
theorem othersT_len (D : List (List Nat)) (of : List Nat) (g i t : Nat) : (othersT D of g i t).length ≤ t := by
  unfold othersT
  have h1 := List.length_filter_le (fun x => !(x == g)) (((rowN D i).take t).map (el of))
  rw [List.length_map, List.length_take] at h1
  omega
theorem othersL_snoc (D : List (List Nat)) (of : List Nat) (g : Nat) (row : List Nat) (i : Nat) : othersL D of g (row ++ [i]) = othersL D of g row ++ othersOf D of g i := by simp [othersL]
theorem othersL_len {D : List (List Nat)} (hD : OkD D) (of : List Nat) (g : Nat) (row : List Nat) : (othersL D of g row).length ≤ row.length * 256 := by
  induction row with
  | nil => simp [othersL]
  | cons x q ih =>
    have h1 := othersT_len D of g x (rowN D x).length
    rw [othersT_all] at h1
    have h2 := hD.len x
    simp only [othersL, List.flatMap_cons, List.length_append, List.length_cons] at ih ⊢
    omega
def ofL (l : List It) : List Nat := (gatherG (blkOf l) (depsN l) l.length).2
def depG (l : List It) (g : Nat) : List Nat := amongL (groupsL l).length (natsI (othersL (depsN l) (ofL l) g (rowN (groupsL l) g)))
def mdepsL (l : List It) : List (List Nat) := (List.range (groupsL l).length).map (depG l)
theorem length_mdepsL (l : List It) : (mdepsL l).length = (groupsL l).length := by simp [mdepsL]
theorem mdeps_take (l : List It) {g : Nat} (h : g < (groupsL l).length) : (mdepsL l).take (g + 1) = (mdepsL l).take g ++ [depG l g] := by
  rw [List.take_succ_eq_append_getElem (by rw [length_mdepsL]; exact h)]
  simp [mdepsL]

def arrV (m : Nat → Nat) : List Value := (List.range 64).map fun i => .int .i64 ((m i : Nat) : Int)
theorem arrV_at (m : Nat → Nat) {i : Nat} (h : i < 64) : (arrV m)[i]? = some (.int .i64 ((m i : Nat) : Int)) := by simp [arrV, h]
theorem arrV_set (m : Nat → Nat) (x g : Nat) : (arrV m).set x (.int .i64 ((g : Nat) : Int)) = arrV fun y => if y = x then g else m y := by
  apply List.ext_getElem
  · simp [arrV]
  · intro i h1 h2
    rw [List.getElem_set]
    by_cases e : x = i
    · subst e; simp [arrV]
    · rw [if_neg e]
      have : ¬ i = x := fun h => e h.symm
      simp [arrV, this]
def zero64 : Array Value := (List.replicate 64 (Value.int .i64 0)).toArray
theorem info64 : (Try.prog.info? 64).map (fun i => (i.zero, i.size)) = some (some (.agg zero64), 64) := by kernel_rfl
theorem arrV_zero : arrV (fun _ => 0) = zero64.toList := by
  have h : ∀ n, (List.range n).map (fun _ => Value.int .i64 ((0 : Nat) : Int)) = List.replicate n (Value.int .i64 0) := by
    intro n
    apply List.ext_getElem
    · simp
    · intro i h1 h2; simp
  unfold arrV zero64
  exact h 64
end Go.Proofs.Ytkfjkhacchbkeaa
