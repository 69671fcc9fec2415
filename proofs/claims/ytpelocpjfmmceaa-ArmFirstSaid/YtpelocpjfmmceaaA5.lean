/- The arm, plain: many turns, one behind the other; all that are asked for. No program is imported. -/
import Derived.Test.YtpelocpjfmmceaaA2
set_option linter.unusedVariables false
set_option linter.unusedSimpArgs false
namespace Go.Proofs.Ytpelocpjfmmceaa

/-- many asked for, one behind the other -/
def askL : Ar → List Int → Option Ar
  | x, [] => some x
  | x, b :: r => if x.askE b = 0 then askL (x.ask b) r else none
/-- behind k turns -/
def stA (x : Ar) : Nat → Ar
  | 0 => x
  | k + 1 => (stA x k).next
/-- the blocks that the first k turns go to -/
def goL (x : Ar) : Nat → List Int
  | 0 => []
  | k + 1 => goL x k ++ [(stA x k).choose.1]
theorem length_goL (x : Ar) (k : Nat) : (goL x k).length = k := by
  induction k with
  | zero => rfl
  | succ k ih => rw [goL, List.length_append, ih]; rfl
theorem drop_one {l : List Rq} (hn : (blk l).Nodup) {b : Int} (hb : b ∈ blk l) : (dropL l b).length + 1 = l.length := by
  induction l with
  | nil => cases hb
  | cons r q ih =>
    have hc := List.nodup_cons.1 (show (r.b :: blk q).Nodup from hn)
    unfold dropL isB
    rw [List.filter_cons]
    by_cases e : r.b = b
    · rw [if_neg (by simp [e])]
      have : q.filter (fun y => !(y.b == b)) = q := by
        rw [List.filter_eq_self]
        intro y hy
        have : y.b ≠ b := fun h => hc.1 (by rw [e, ← h]; exact List.mem_map.2 ⟨y, hy, rfl⟩)
        simpa using this
      rw [this]; simp
    · rw [if_pos (by simpa using e)]
      have hb' : b ∈ blk q := by
        rcases List.mem_cons.1 (show b ∈ r.b :: blk q from hb) with h | h
        · exact absurd h.symm e
        · exact h
      have := ih hc.2 hb'
      unfold dropL isB at this
      simp only [List.length_cons]
      omega
namespace Ar
theorem next_len {c : Nat} {x : Ar} (h : Ok c x) (h0 : 0 < x.l.length) : x.next.l.length + 1 = x.l.length := by
  show (agedL (dropL x.l x.choose.1)).length + 1 = _
  rw [aged_len]
  exact drop_one h.nd (choose_mem h0)
theorem Ok.st {c : Nat} {x : Ar} (h : Ok c x) : ∀ k, k ≤ x.l.length → Ok (c + k) (stA x k) ∧ (stA x k).l.length + k = x.l.length := by
  intro k
  induction k with
  | zero => intro _; exact ⟨h, rfl⟩
  | succ k ih =>
    intro hk
    obtain ⟨h1, h2⟩ := ih (by omega)
    have h3 : 0 < (stA x k).l.length := by omega
    have := next_len h1 h3
    exact ⟨h1.next h3, by show (stA x k).next.l.length + (k + 1) = _; omega⟩
theorem ask_len {x : Ar} {b : Int} (h : x.askE b = 0) : (x.ask b).l.length = x.l.length + 1 := by
  unfold Ar.ask
  rw [if_pos h]
  show (x.l ++ [_]).length = _
  rw [List.length_append]; rfl
theorem Ok.askL {c : Nat} : ∀ (l : List Int) (x y : Ar), Ok c x → Go.Proofs.Ytpelocpjfmmceaa.askL x l = some y → Ok c y ∧ y.l.length = x.l.length + l.length ∧ y.s = x.s ∧ y.m = x.m ∧ y.p = x.p ∧ y.n = x.n ∧ y.u = x.u := by
  intro l
  induction l with
  | nil => intro x y h e; cases e; exact ⟨h, rfl, rfl, rfl, rfl, rfl, rfl⟩
  | cons b r ih =>
    intro x y h e
    unfold Go.Proofs.Ytpelocpjfmmceaa.askL at e
    by_cases he : x.askE b = 0
    · rw [if_pos he] at e
      obtain ⟨h1, h2, h3, h4, h5, h6, h7⟩ := ih _ _ (h.ask b) e
      have hx : x.ask b = { x with l := x.l ++ [⟨b, 0⟩] } := by unfold Ar.ask; rw [if_pos he]
      rw [ask_len he] at h2
      rw [hx] at h3 h4 h5 h6 h7
      exact ⟨h1, by simp; omega, h3, h4, h5, h6, h7⟩
    · rw [if_neg he] at e; cases e
end Ar
theorem askL_append (x : Ar) (l : List Int) (b : Int) : askL x (l ++ [b]) = (askL x l).bind fun y => if y.askE b = 0 then some (y.ask b) else none := by
  induction l generalizing x with
  | nil => simp [askL]
  | cons a r ih =>
    simp only [List.cons_append, askL]
    by_cases he : x.askE a = 0
    · rw [if_pos he, if_pos he, ih]
    · rw [if_neg he, if_neg he]; rfl
theorem askL_none {x : Ar} {l : List Int} {k : Nat} (h : askL x (l.take k) = none) : askL x l = none := by
  have key : ∀ (a b : List Int) (x : Ar), askL x a = none → askL x (a ++ b) = none := by
    intro a
    induction a with
    | nil => intro b x h; cases h
    | cons y r ih =>
      intro b x h
      simp only [List.cons_append, askL] at h ⊢
      by_cases he : x.askE y = 0
      · rw [if_pos he] at h ⊢; exact ih b _ h
      · rw [if_neg he]
  have := key _ (l.drop k) x h
  rwa [List.take_append_drop] at this
end Go.Proofs.Ytpelocpjfmmceaa
