/- Contract of addAhead. -/
import Derived.Test.YthffdkoncagimaaGF
import Derived.Stop.RegionWithIn
namespace Go.Proofs.Ythffdkoncagimaa
set_option linter.unusedVariables false
set_option linter.unusedSimpArgs false
set_option maxRecDepth 100000
open Go.RowKit Go.Shelf

attribute [local go_sem] Oper.semAt_some
def rowsI (D : List (List Nat)) : List (List Int) := D.map natsI
theorem length_rowsI (D : List (List Nat)) : (rowsI D).length = D.length := by simp [rowsI]
theorem rowI_rowsI (D : List (List Nat)) (n : Nat) : rowI (rowsI D) n = natsI (rowN D n) := by
  unfold rowI rowsI rowN
  rw [List.getD_eq_getElem?_getD, List.getD_eq_getElem?_getD, List.getElem?_map]
  cases h : D[n]? <;> rfl
theorem foldR_lt {D : List (List Nat)} {m : Nat → Bool} {K : Nat} (hm : ∀ x, m x = true → x < K) (hr : ∀ n, ∀ d ∈ rowN D n, d < K) (pre : List Nat) (x : Nat) (h : foldR D m pre x = true) : x < K := by
  have key : ∀ (pre : List Nat) (m : Nat → Bool), (∀ x, m x = true → x < K) → foldR D m pre x = true → x < K := by
    intro pre
    induction pre with
    | nil => intro m hm h; exact hm x h
    | cons a pre ih =>
      intro m hm h
      refine ih (addAll m (rowN D a)) (fun y hy => ?_) h
      rcases addAll_true.1 hy with hy | hy
      · exact hm y hy
      · exact hr a y hy
  exact key pre m hm h
theorem Right.row_lt {D : List (List Nat)} (hD : Right D) (n : Nat) : ∀ d ∈ rowN D n, d < D.length := fun d hd => Nat.lt_trans (hD.2 n d hd) (mem_row_lt hd)
theorem Ints.grown {w w' : World} {B g : Nat} {A : Option Addr} {l : List Int} (h : Ints w B A l) (hg : w.grownBy w' (some g)) (hB : B ≤ g) (hl : g < w.heap.size) : Ints w' B A l :=
  h.keep fun p hp => World.cell?_of_block (hg.block p.block (by omega) (fun e => by injection e with e; omega))
theorem Mat.grown {w w' : World} {B g : Nat} {A : Option Addr} {R : List (List Int)} (h : Mat w B A R) (hg : w.grownBy w' (some g)) (hB : B ≤ g) (hl : g < w.heap.size) : Mat w' B A R :=
  h.keep fun p hp => World.cell?_of_block (hg.block p.block (by omega) (fun e => by injection e with e; omega))
theorem marks_own {β : Type} (g : Nat) (f : β → Nat → Bool) : Own (fun s W => Marks W g (f s)) := fun s X Y row hs hg hrow =>
  BlkIs.kept hs hg (fun e' => by obtain ⟨o, ho, hc⟩ := hrow g e'.symm; rw [show X.heap[g]? = _ from hs] at ho; cases ho; cases hc)
theorem grown_own {β : Type} {B : Nat} (w : World) (g : Nat) (h : w.heap.size ≤ B) : OwnFrom B (fun (_ : β) W => w.grownBy W (some g)) := fun _ X Y row hs hg hrow =>
  ⟨hg.os.trans hs.os, hg.tape.trans hs.tape, hg.output.trans hs.output, Nat.le_trans hs.size hg.size, fun k hk hne =>
    (hg.block k (Nat.lt_of_lt_of_le hk hs.size) (fun e => by have := (hrow k e.symm).1; omega)).trans (hs.block k hk hne)⟩
theorem grown_keeps {B g : Nat} {W W' : World} (h : W.grownBy W' (some g)) (hg : g < B) : KeepsFrom B W W' := KeepsFrom.of_grownBy h (fun j e => by cases e; exact hg)

end Go.Proofs.Ythffdkoncagimaa
