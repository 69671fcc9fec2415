/- Plain words on Overlaps; items that are made, as cells. -/
import Derived.Test.YtkfjkhacchbkeaaB
import Derived.Test.YtkfjkhacchbkeaaGYA
import Derived.Test.YtkfjkhacchbkeaaQT
namespace Go.Proofs.Ytkfjkhacchbkeaa
set_option linter.unusedVariables false
set_option linter.unusedSimpArgs false
open Go.RowKit

theorem own_lay {w w1 : World} {base : Nat} {e : TypeId} {size : Nat} {v : Value} {n : Nat} {xs : List Value} (h : w.ownsRow base e size v n xs) (hb : Below w.heap.size w w1) : w1.ownsRow base e size v n xs := by
  refine ⟨h.1, ?_⟩
  rcases h.2 with h | ⟨g, cap, cur, h1, h2, h3, h4⟩
  · exact .inl h
  · exact .inr ⟨g, cap, cur, h1, h2, (hb.block g (Array.getElem?_eq_some_iff.1 h3).1).trans h3, h4⟩
/-- those of the first j patches that the i-th overlaps -/
def overTo (l : List Pat.Pt) (i j : Nat) : List Nat := (List.range j).filter fun n => (Pat.pn l n).over (Pat.pn l i)
theorem overTo_zero (l : List Pat.Pt) (i : Nat) : overTo l i 0 = [] := rfl
theorem overTo_succ (l : List Pat.Pt) (i j : Nat) : overTo l i (j + 1) = overTo l i j ++ (if (Pat.pn l j).over (Pat.pn l i) then [j] else []) := by
  unfold overTo
  rw [List.range_succ, List.filter_append]
  cases h : (Pat.pn l j).over (Pat.pn l i) <;> simp [h]
theorem overTo_len (l : List Pat.Pt) (i j : Nat) : (overTo l i j).length ≤ j := by
  have := List.length_filter_le (fun n => (Pat.pn l n).over (Pat.pn l i)) (List.range j); simpa [overTo] using this
theorem overTo_lt {l : List Pat.Pt} {i j n : Nat} (h : n ∈ overTo l i j) : n < j := by
  unfold overTo at h; exact List.mem_range.1 (List.mem_filter.1 h).1
/-- the items of patches: each behind those ahead that it overlaps -/
def overL (l : List Pat.Pt) : List It := (List.range l.length).map fun i => ⟨Pat.pn l i, natsI (overTo l i i)⟩
theorem length_overL (l : List Pat.Pt) : (overL l).length = l.length := by simp [overL]
theorem itN_overL {l : List Pat.Pt} {k : Nat} (h : k < l.length) : itN (overL l) k = ⟨Pat.pn l k, natsI (overTo l k k)⟩ := by
  rw [itN_lt (by rw [length_overL]; exact h)]; simp [overL]
/-- the deps of them -/
def overD (l : List Pat.Pt) : List (List Nat) := (List.range l.length).map fun i => overTo l i i
theorem length_overD (l : List Pat.Pt) : (overD l).length = l.length := by simp [overD]
theorem rowN_overD {l : List Pat.Pt} {k : Nat} (h : k < l.length) : rowN (overD l) k = overTo l k k := by
  rw [rowN_lt (by rw [length_overD]; exact h)]; simp [overD]
theorem depsI_overL (l : List Pat.Pt) : depsI (overL l) = rowsI (overD l) := by
  simp [depsI, overL, rowsI, overD, Function.comp_def]
theorem okD_over {l : List Pat.Pt} (h : l.length ≤ 256) : OkD (overD l) := by
  refine ⟨⟨by rw [length_overD]; exact h, fun n d hd => ?_⟩, fun n => ?_⟩
  · have hn := mem_row_lt hd
    rw [length_overD] at hn
    rw [rowN_overD hn] at hd
    exact overTo_lt hd
  · rcases Nat.lt_or_ge n l.length with hn | hn
    · rw [rowN_overD hn]; have := overTo_len l n n; omega
    · rw [rowN_nil (by rw [length_overD]; exact hn)]; simp
def Fine (l : List Pat.Pt) : Prop := ∀ k, k < l.length → (Pat.pn l k).ok
def patsB (l : List Pat.Pt) : Bool := decide (l.length ≤ 64) && (List.range l.length).all fun k => (Pat.pn l k).right
theorem small_overL {l : List Pat.Pt} (h : Fine l) (hl : l.length ≤ 1000) : Small (overL l) := fun k hk => by
  rw [length_overL] at hk
  rw [itN_overL hk]
  exact ⟨h k hk, by simp only [length_natsI]; have := overTo_len l k k; omega⟩
theorem rightL_overL (l : List Pat.Pt) : rightL (overL l) = patsB l := by
  unfold rightL patsB
  rw [length_overL, depsI_overL]
  by_cases h : l.length ≤ 64
  · rw [okB_of (okD_over (by omega)), Bool.and_true]
    congr 1
    unfold rightTo
    rw [Bool.eq_iff_iff, List.all_eq_true, List.all_eq_true]
    constructor <;> intro h1 k hk
    · have := h1 k hk; rw [itN_overL (List.mem_range.1 hk)] at this; exact this
    · rw [itN_overL (List.mem_range.1 hk)]; exact h1 k hk
  · simp [h]

/-- what stands in the cells of items: patches, and slices -/
def itC (st : Nat → Pat.Pt × Value) (i : Nat) : Value := if i % 4 = 0 then .int .i64 (st (i / 4)).1.b else if i % 4 = 1 then .int .i64 (st (i / 4)).1.o else if i % 4 = 2 then .string (st (i / 4)).1.s else (st (i / 4)).2
def itV (n : Nat) (st : Nat → Pat.Pt × Value) : List Value := (List.range (n * 4)).map (itC st)
theorem length_itV (n : Nat) (st : Nat → Pat.Pt × Value) : (itV n st).length = n * 4 := by simp [itV]
theorem itV_at {n k : Nat} (st : Nat → Pat.Pt × Value) (h : k < n * 4) : (itV n st)[k]? = some (itC st k) := by simp [itV, h]
theorem itC0 (st : Nat → Pat.Pt × Value) (k : Nat) : itC st (k * 4) = .int .i64 (st k).1.b := by
  unfold itC; rw [if_pos (by omega), show k * 4 / 4 = k by omega]
theorem itC1 (st : Nat → Pat.Pt × Value) (k : Nat) : itC st (k * 4 + 1) = .int .i64 (st k).1.o := by
  unfold itC; rw [if_neg (by omega), if_pos (by omega), show (k * 4 + 1) / 4 = k by omega]
theorem itC2 (st : Nat → Pat.Pt × Value) (k : Nat) : itC st (k * 4 + 2) = .string (st k).1.s := by
  unfold itC; rw [if_neg (by omega), if_neg (by omega), if_pos (by omega), show (k * 4 + 2) / 4 = k by omega]
theorem itC3 (st : Nat → Pat.Pt × Value) (k : Nat) : itC st (k * 4 + 3) = (st k).2 := by
  unfold itC; rw [if_neg (by omega), if_neg (by omega), if_neg (by omega), show (k * 4 + 3) / 4 = k by omega]
def upd (st : Nat → Pat.Pt × Value) (k : Nat) (x : Pat.Pt × Value) : Nat → Pat.Pt × Value := fun j => if j = k then x else st j
theorem upd_self (st : Nat → Pat.Pt × Value) (k : Nat) (x : Pat.Pt × Value) : upd st k x k = x := by simp [upd]
theorem upd_ne (st : Nat → Pat.Pt × Value) {k j : Nat} (x : Pat.Pt × Value) (h : j ≠ k) : upd st k x j = st j := by simp [upd, h]
theorem itV_ext {n : Nat} {L : List Value} {st : Nat → Pat.Pt × Value} (hL : L.length = n * 4) (h : ∀ i, i < n * 4 → L[i]? = some (itC st i)) : L = itV n st := by
  apply List.ext_getElem
  · rw [hL, length_itV]
  · intro i h1 h2
    have := h i (by omega)
    rw [List.getElem?_eq_getElem h1] at this
    injection this with this
    rw [this]; simp [itV]
theorem itV_row (n : Nat) (st : Nat → Pat.Pt × Value) (k : Nat) (v : Value) (hk : k < n) : (itV n st).set (k * 4 + 3) v = itV n (upd st k ((st k).1, v)) := by
  refine itV_ext (by simp [length_itV]) fun i hi => ?_
  rw [List.getElem?_set]
  by_cases e : k * 4 + 3 = i
  · subst e
    rw [if_pos rfl, if_pos (by rw [length_itV]; omega), itC3, upd_self]
  · rw [if_neg e, itV_at _ hi]
    by_cases hik : i / 4 = k
    · have h3 : i % 4 ≠ 3 := by omega
      unfold itC
      rw [hik, upd_self]
      have : i % 4 = 0 ∨ i % 4 = 1 ∨ i % 4 = 2 := by omega
      rcases this with h | h | h <;> simp [h]
    · unfold itC; rw [upd_ne st _ hik]
theorem itV_patch (n : Nat) (st : Nat → Pat.Pt × Value) (k : Nat) (p : Pat.Pt) (hk : k < n) : (((itV n st).set (k * 4) (.int .i64 p.b)).set (k * 4 + 1) (.int .i64 p.o)).set (k * 4 + 2) (.string p.s) = itV n (upd st k (p, (st k).2)) := by
  refine itV_ext (by simp [length_itV]) fun i hi => ?_
  rw [List.getElem?_set, List.getElem?_set, List.getElem?_set]
  simp only [List.length_set, length_itV]
  by_cases e2 : k * 4 + 2 = i
  · subst e2; rw [if_pos rfl, if_pos (by omega), itC2, upd_self]
  · rw [if_neg e2]
    by_cases e1 : k * 4 + 1 = i
    · subst e1; rw [if_pos rfl, if_pos (by omega), itC1, upd_self]
    · rw [if_neg e1]
      by_cases e0 : k * 4 = i
      · subst e0; rw [if_pos rfl, if_pos (by omega), itC0, upd_self]
      · rw [if_neg e0, itV_at _ hi]
        by_cases hik : i / 4 = k
        · have h3 : i % 4 = 3 := by omega
          unfold itC
          rw [hik, upd_self]
          simp [h3]
        · unfold itC; rw [upd_ne st _ hik]
theorem info46 : (Try.prog.info? 46).map (fun i => (i.zero, i.size, i.bytes)) = some (some (.agg #[.int .i64 0, .int .i64 0, .string ByteArray.empty, .slice none 0 0]), 4, 56) := by kernel_rfl
def st0 : Nat → Pat.Pt × Value := fun _ => (⟨0, 0, ByteArray.empty⟩, .slice none 0 0)
theorem make_items (n : Nat) (hn : n ≤ 1000) : ∃ M : Array Value, M.toList = itV n st0 ∧ ∀ W : World, (Instr.makeSlice 22 (.int .i64 (n : Int)) (.int .i64 (n : Int))).run Try.prog W = .ok (.slice (some ⟨W.heap.size, 0, none⟩) n n) (W.alloc (.cells M 46)) := by
  obtain ⟨i0, hi0, hz0, hz1, hz2⟩ := info_parts info46
  refine ⟨madeCells #[.int .i64 0, .int .i64 0, .string ByteArray.empty, .slice none 0 0] (n * 4), ?_, fun W => ?_⟩
  · refine itV_ext (by simp [size_madeCells]) fun i hi => ?_
    have : i % 4 = 0 ∨ i % 4 = 1 ∨ i % 4 = 2 ∨ i % 4 = 3 := by omega
    rcases this with h | h | h | h <;> simp [madeCells, itC, st0, h, hi]
  · have := run_makeSlice (P := Try.prog) W 22 46 i0 (.agg #[.int .i64 0, .int .i64 0, .string ByteArray.empty, .slice none 0 0]) Try.underlying22 hi0 hz0 .i64 .i64 n n (by omega) (Int.le_refl _) (by rw [hz1]; omega) (by rw [hz2]; omega) (by omega)
    rw [hz1] at this
    simpa [Value.cells, Nat.mul_comm] using this
end Go.Proofs.Ytkfjkhacchbkeaa
