/- Contracts of list, addAhead, Close. -/
import Derived.Test.YthffdkoncagimaaGE
namespace Go.Proofs.Ythffdkoncagimaa
set_option linter.unusedVariables false
set_option linter.unusedSimpArgs false
set_option maxRecDepth 100000
open Go.RowKit Go.Shelf

attribute [local go_sem] Oper.semAt_some
theorem info3 : (Try.prog.info? 3).map (fun i => (i.zero, i.size, i.bytes)) = some (some (.int .i64 0), 1, 8) := by kernel_rfl
theorem wide_depth {p : Prop} (h : Fence.wide.depth.isSome = true) : p := by cases h
def natsV (l : List Nat) : List Value := l.map fun i => Value.int .i64 ((i : Nat) : Int)
def intsV (l : List Int) : List Value := l.map fun i => Value.int .i64 i
theorem natsV_intsV (l : List Nat) : natsV l = intsV (natsI l) := by simp [natsV, intsV, natsI]
theorem length_natsV (l : List Nat) : (natsV l).length = l.length := by simp [natsV]
/-- a slice that owns ints is such a slice -/
theorem own_ints {w : World} {B : Nat} {v : Value} {n : Nat} {l : List Int} (h : w.ownsRow B 3 1 v n (intsV l)) : ∃ A c, v = .slice A l.length c ∧ l.length ≤ c ∧ c ≤ maxLen ∧ Ints w w.heap.size A l := by
  have hn : l.length = n := by have := h.1; simpa [intsV] using this
  subst hn
  rcases h.2 with ⟨rfl, hn⟩ | ⟨g, cap, cur, rfl, _, hg, hnc, hcm, _⟩
  · have hl : l = [] := List.eq_nil_of_length_eq_zero hn
    subst hl
    exact ⟨none, 0, rfl, Nat.le_refl _, Nat.zero_le _, Ints.nil⟩
  · refine ⟨some ⟨g, 0, none⟩, cap, rfl, hnc, hcm, fun _ => ⟨g, 0, rfl, (h.lt g rfl).2, fun j hj => ?_⟩⟩
    rw [Nat.zero_add, h.cellAt j (by omega), intsV, List.getElem?_map, List.getElem?_eq_getElem hj, nth_lt hj]; rfl

end Go.Proofs.Ythffdkoncagimaa
