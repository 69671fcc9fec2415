/- Groups that grow in memory. -/
import Derived.Test.YtkfjkhacchbkeaaJ
import Derived.Laws.OwnMore
namespace Go.Proofs.Ytkfjkhacchbkeaa
set_option linter.unusedVariables false
set_option linter.unusedSimpArgs false
open Go.RowKit

/-- own rows of unlike elements do not lie in one block -/
theorem own_apart {W : World} {b1 b2 : Nat} {e1 e2 : TypeId} {s1 s2 : Nat} {v1 v2 : Value} {n1 n2 : Nat} {x1 x2 : List Value} (h1 : W.ownsRow b1 e1 s1 v1 n1 x1) (h2 : W.ownsRow b2 e2 s2 v2 n2 x2) (hne : e1 ≠ e2) : v1.ownBlock = none ∨ v1.ownBlock ≠ v2.ownBlock := by
  rcases h1.2 with ⟨rfl, _⟩ | ⟨g, cap, cur, rfl, _, hg, _⟩
  · exact .inl rfl
  · refine .inr fun e => ?_
    rcases h2.2 with ⟨rfl, _⟩ | ⟨g', cap', cur', rfl, _, hg', _⟩
    · cases e
    · simp only [Value.ownBlock, Option.some.injEq] at e
      subst e
      rw [hg] at hg'
      injection hg' with hg'
      injection hg' with _ h
      exact hne h
/-- own rows of numbers that begin with unlike ones do not lie in one block -/
theorem own_heads {W : World} {b1 b2 : Nat} {v1 v2 : Value} {q1 q2 : List Nat} (h1 : W.ownsRow b1 3 1 v1 q1.length (natsV q1)) (h2 : W.ownsRow b2 3 1 v2 q2.length (natsV q2)) (l1 : 0 < q1.length) (l2 : 0 < q2.length) (hne : el q1 0 ≠ el q2 0) : v1.ownBlock ≠ v2.ownBlock := by
  rcases h1.2 with ⟨rfl, e⟩ | ⟨g, cap, cur, rfl, _, hg, _⟩
  · omega
  · rcases h2.2 with ⟨rfl, e⟩ | ⟨g', cap', cur', rfl, _, hg', _⟩
    · omega
    · intro e
      simp only [Value.ownBlock, Option.some.injEq] at e
      subst e
      have e1 := h1.cellAt 0 (by omega)
      have e2 := h2.cellAt 0 (by omega)
      rw [e1] at e2
      simp only [natsV, List.getElem?_map, List.getElem?_eq_getElem l1, List.getElem?_eq_getElem l2, Option.map_some, Option.some.injEq, Value.int.injEq, true_and] at e2
      apply hne
      rw [el_lt l1, el_lt l2]
      omega
def ofV (n : Nat) (of : List Nat) : List Value := (List.range n).map fun i => .int .i64 (if i < of.length then ((el of i : Nat) : Int) else 0)
theorem length_ofV (n : Nat) (of : List Nat) : (ofV n of).length = n := by simp [ofV]
theorem ofV_at {n i : Nat} (of : List Nat) (h : i < n) : (ofV n of)[i]? = some (.int .i64 (if i < of.length then ((el of i : Nat) : Int) else 0)) := by simp [ofV, h]
theorem ofV_set (n : Nat) (of : List Nat) (g : Nat) (h : of.length < n) : (ofV n of).set of.length (.int .i64 ((g : Nat) : Int)) = ofV n (of ++ [g]) := by
  apply List.ext_getElem
  · simp [ofV]
  · intro i h1 h2
    rw [List.getElem_set]
    by_cases e : of.length = i
    · subst e
      rw [if_pos rfl]
      simp only [ofV, List.getElem_map, List.getElem_range, List.length_append, List.length_singleton]
      rw [if_pos (by omega), el_snoc, if_pos rfl]
    · rw [if_neg e]
      have e' : ¬ i = of.length := fun h => e h.symm
      simp only [ofV, List.getElem_map, List.getElem_range, List.length_append, List.length_singleton]
      by_cases h : i < of.length
      · simp [h, e', el_snoc, show i < of.length + 1 by omega]
      · simp [h, show ¬ i < of.length + 1 by omega]
theorem make_ofs (n : Nat) (hn : n ≤ 1000) : ∃ M : Array Value, M.toList = ofV n [] ∧ ∀ W : World, (Instr.makeSlice 29 (.int .i64 (n : Int)) (.int .i64 (n : Int))).run Try.prog W = .ok (.slice (some ⟨W.heap.size, 0, none⟩) n n) (W.alloc (.cells M 3)) := by
  obtain ⟨i0, hi0, hz0, hz1, hz2⟩ := info_parts info3
  refine ⟨madeCells #[Value.int .i64 0] n, ?_, fun W => ?_⟩
  · apply List.ext_getElem
    · simp [size_madeCells, ofV]
    · intro i h1 h2; simp [madeCells, ofV, Nat.mod_one]
  · have := run_makeSlice (P := Try.prog) W 29 3 i0 (.int .i64 0) Try.underlying29 hi0 hz0 .i64 .i64 n n (by omega) (Int.le_refl _) (by rw [hz1]; omega) (by rw [hz2]; omega) (by omega)
    rw [hz1] at this
    simpa [Value.cells] using this

/-- the groups' slice, their rows, and which group each is in -/
structure GaSt (w W : World) (n : Nat) (s : List (List Nat) × List Nat) (v : Value) (vs : Nat → Value) : Prop where
  grp : W.ownsRow (w.heap.size + 1) 29 1 v s.1.length ((List.range s.1.length).map vs)
  rows : ∀ j, j < s.1.length → W.ownsRow (w.heap.size + 1) 3 1 (vs j) (rowN s.1 j).length (natsV (rowN s.1 j))
  of : BlkIs W w.heap.size 3 (ofV n s.2)
  below : Below w.heap.size w W
  size : w.heap.size + 1 ≤ W.heap.size
variable {w W W' : World} {n k : Nat} {s : List (List Nat) × List Nat} {v : Value} {vs : Nat → Value} {bl : Nat → Int} {D : List (List Nat)}
theorem GaSt.next (h : GaSt w W n s v vs) (hb : Below W.heap.size W W') : GaSt w W' n s v vs :=
  ⟨own_lay h.grp hb, fun j hj => own_lay (h.rows j hj) hb, h.of.below hb h.of.lt, h.below.trans (hb.mono h.below.size), Nat.le_trans h.size hb.size⟩
theorem grown_keep {W W1 W' : World} {row : Option Nat} (h1 : Below W.heap.size W W1) (h : W1.grownBy W' row) : W.grownBy W' row :=
  ⟨h.os.trans h1.os, h.tape.trans h1.tape, h.output.trans h1.output, Nat.le_trans h1.size h.size, fun k hk hne => (h.block k (Nat.lt_of_lt_of_le hk h1.size) hne).trans (h1.block k hk)⟩
theorem GaSt.newAt (hlen : s.2.length = k) (hk : k < n) (h : GaSt w W n s v vs) {v' : Value} {w5 : World} {t : Obj}
    (hown : w5.ownsRow (w.heap.size + 1) 29 1 v' (s.1.length + 1) ((List.range s.1.length).map vs ++ [.slice (some ⟨W.heap.size, 0, none⟩) 1 1]))
    (hg : ((W.alloc (.cells #[.int .i64 ((k : Nat) : Int)] 3)).alloc t).grownBy w5 v.ownBlock) :
    BlkIs w5 w.heap.size 3 (ofV n s.2) ∧ GaSt w (w5.setCell ⟨w.heap.size, k, none⟩ (.int .i64 ((s.1.length : Nat) : Int))) n (newS s k) v' (fun j => if j = s.1.length then .slice (some ⟨W.heap.size, 0, none⟩) 1 1 else vs j) := by
  have hB2 : Below W.heap.size W ((W.alloc (.cells #[.int .i64 ((k : Nat) : Int)] 3)).alloc t) := ((Below.refl _ W).alloc (Nat.le_refl _) _).alloc (by simp) _
  have hg1 := grown_keep hB2 hg
  have hvb : ∀ g, v.ownBlock = some g → w.heap.size + 1 ≤ g := fun g e => (h.grp.lt g e).1
  have hof : BlkIs w5 w.heap.size 3 (ofV n s.2) := h.of.kept hg1 (fun e => by have := hvb _ e.symm; omega)
  have hB5 : Below w.heap.size w w5 := h.below.grown hg1 h.below.size (fun j e => by have := hvb j e; omega)
  have hset := hof.set_ k (.int .i64 ((s.1.length : Nat) : Int))
  rw [← hlen, ofV_set n s.2 s.1.length (by omega), hlen] at hset
  refine ⟨hof, ?_, fun j hj => ?_, hset, hB5.setCell (p := ⟨w.heap.size, k, none⟩) (Nat.le_refl _) _, by have := hg1.size; have := h.size; simp [World.setCell]; omega⟩
  · have e : (List.range (newS s k).1.length).map (fun j => if j = s.1.length then Value.slice (some ⟨W.heap.size, 0, none⟩) 1 1 else vs j) = (List.range s.1.length).map vs ++ [.slice (some ⟨W.heap.size, 0, none⟩) 1 1] := by
      simp only [newS, List.length_append, List.length_singleton, List.range_succ, List.map_append, List.map_cons, List.map_nil, if_true]
      congr 1
      apply List.map_congr_left
      intro j hj
      have := List.mem_range.1 hj
      rw [if_neg (by omega)]
    rw [e]
    have hl : (newS s k).1.length = s.1.length + 1 := by simp [newS]
    rw [hl]
    exact ownsRow_setCell_below hown (a := ⟨w.heap.size, k, none⟩) (Nat.lt_succ_self _) _
  · refine ownsRow_setCell_below ?_ (a := ⟨w.heap.size, k, none⟩) (Nat.lt_succ_self _) _
    have hr : rowN (newS s k).1 j = if j = s.1.length then [k] else rowN s.1 j := rowN_snoc _ _ _
    rw [hr]
    by_cases e : j = s.1.length
    · rw [if_pos e]
      simp only [if_pos e]
      have h1 := World.ownsRow_lit (base := w.heap.size + 1) (e := 3) (size := 1) W #[.int .i64 ((k : Nat) : Int)] 1 h.size (by unfold maxLen; omega) rfl
      have h2 := (h1.alloc t)
      have h3 := h2.kept hg (own_apart h2 (show ((W.alloc (.cells #[.int .i64 ((k : Nat) : Int)] 3)).alloc t).ownsRow (w.heap.size + 1) 29 1 v s.1.length ((List.range s.1.length).map vs) from (h.grp.alloc _).alloc _) (by decide))
      exact h3
    · rw [if_neg e]
      simp only [if_neg e]
      have hj' : j < s.1.length := by simp [newS] at hj; omega
      have h2 := ((h.rows j hj').alloc (.cells #[.int .i64 ((k : Nat) : Int)] 3)).alloc t
      exact h2.kept hg (own_apart h2 (show ((W.alloc (.cells #[.int .i64 ((k : Nat) : Int)] 3)).alloc t).ownsRow (w.heap.size + 1) 29 1 v s.1.length ((List.range s.1.length).map vs) from (h.grp.alloc _).alloc _) (by decide))
theorem GaSt.joinAt (hlen : s.2.length = k) (hk : k < n) {g bG cap : Nat} (hgl : g < s.1.length) (hI : Inv bl D k s) (h : GaSt w W n s (.slice (some ⟨bG, 0, none⟩) s.1.length cap) vs) {v5 : Value} {w5 : World} {t : Obj}
    (hown : w5.ownsRow (w.heap.size + 1) 3 1 v5 ((rowN s.1 g).length + 1) (natsV (rowN s.1 g) ++ [.int .i64 ((k : Nat) : Int)]))
    (hg : (W.alloc t).grownBy w5 (vs g).ownBlock) :
    w5.cell? ⟨bG, g, none⟩ = some (vs g) ∧ w5.frozen? ⟨bG, g, none⟩ = false ∧ BlkIs (w5.setCell ⟨bG, g, none⟩ v5) w.heap.size 3 (ofV n s.2) ∧
    GaSt w ((w5.setCell ⟨bG, g, none⟩ v5).setCell ⟨w.heap.size, k, none⟩ (.int .i64 ((g : Nat) : Int))) n (joinS s k g) (.slice (some ⟨bG, 0, none⟩) s.1.length cap) (fun j => if j = g then v5 else vs j) := by
  have hB2 : Below W.heap.size W (W.alloc t) := (Below.refl _ W).alloc (Nat.le_refl _) _
  have hg1 := grown_keep hB2 hg
  have hrg := h.rows g hgl
  have hvb : ∀ b, (vs g).ownBlock = some b → w.heap.size + 1 ≤ b := fun b e => (hrg.lt b e).1
  have hof : BlkIs w5 w.heap.size 3 (ofV n s.2) := h.of.kept hg1 (fun e => by have := hvb _ e.symm; omega)
  have hB5 : Below w.heap.size w w5 := h.below.grown hg1 h.below.size (fun j e => by have := hvb j e; omega)
  have hgrp5 := h.grp.kept hg1 (own_apart h.grp hrg (by decide))
  have hbG : w.heap.size + 1 ≤ bG := (h.grp.lt bG rfl).1
  have hcell := hgrp5.cellAt g (by omega)
  have hfr := hgrp5.frozenAt g
  have hst := hgrp5.stored g v5
  have hof2 : BlkIs (w5.setCell ⟨bG, g, none⟩ v5) w.heap.size 3 (ofV n s.2) := hof.other (by omega) _
  have hset := hof2.set_ k (.int .i64 ((g : Nat) : Int))
  rw [← hlen, ofV_set n s.2 g (by omega), hlen] at hset
  have hap := own_apart hown hgrp5 (by decide)
  have hrow5 : ∀ j, j < s.1.length → w5.ownsRow (w.heap.size + 1) 3 1 (if j = g then v5 else vs j) (rowN (joinS s k g).1 j).length (natsV (rowN (joinS s k g).1 j)) := fun j hj => by
    have hr : rowN (joinS s k g).1 j = if j = g then rowN s.1 g ++ [k] else rowN s.1 j := rowN_set _ _ _ _ hgl
    rw [hr]
    by_cases e : j = g
    · rw [if_pos e, if_pos e]
      simpa [natsV] using hown
    · rw [if_neg e, if_neg e]
      refine (h.rows j hj).kept hg1 (.inr (own_heads (h.rows j hj) hrg (hI.ne j hj) (hI.ne g hgl) ?_))
      rcases Nat.lt_or_gt_of_ne e with h1 | h1
      · exact Nat.ne_of_lt (hI.heads j g h1 hgl)
      · exact Nat.ne_of_gt (hI.heads g j h1 hj)
  refine ⟨?_, hfr, hof2, ?_, fun j hj => ?_, hset, ?_, ?_⟩
  · rw [hcell]; simp [hgl]
  · refine ownsRow_setCell_below ?_ (a := ⟨w.heap.size, k, none⟩) (Nat.lt_succ_self _) _
    have e : (List.range (joinS s k g).1.length).map (fun j => if j = g then v5 else vs j) = ((List.range s.1.length).map vs).set g v5 := by
      have hl : (joinS s k g).1.length = s.1.length := by simp [joinS]
      rw [hl]
      apply List.ext_getElem
      · simp
      · intro i h1 h2
        rw [List.getElem_set]
        by_cases e : g = i
        · subst e; simp
        · rw [if_neg e]
          simp only [List.getElem_map, List.getElem_range]
          rw [if_neg (fun h => e h.symm)]
    have hl : (joinS s k g).1.length = s.1.length := by simp [joinS]
    rw [e, hl]
    exact hst.1
  · refine ownsRow_setCell_below ?_ (a := ⟨w.heap.size, k, none⟩) (Nat.lt_succ_self _) _
    have hl : (joinS s k g).1.length = s.1.length := by simp [joinS]
    rw [hl] at hj
    have h5 := hrow5 j hj
    refine ownsRow_setCell_other h5 ?_ _
    rcases own_apart h5 hgrp5 (by decide) with h1 | h1
    · rw [h1]; simp
    · exact h1
  · exact (hB5.setCell (p := ⟨bG, g, none⟩) (by show w.heap.size ≤ bG; omega) _).setCell (p := ⟨w.heap.size, k, none⟩) (Nat.le_refl _) _
  · have := hg1.size; have := h.size; simp [World.setCell]; omega
end Go.Proofs.Ytkfjkhacchbkeaa
