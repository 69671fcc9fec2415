/- What was done and what is asked are marked, in whatever order; contract of Ready. -/
import Derived.Test.YthffdkoncagimaaGP
import Derived.WalkMore
namespace Go.Proofs.Ythffdkoncagimaa
set_option linter.unusedVariables false
set_option linter.unusedSimpArgs false
set_option maxRecDepth 100000
open Go.RowKit Go.Shelf

attribute [local go_sem] Oper.semAt_some
section
variable {P : Program} {ops : Array Oper} {Q : Exit → Act → World → Prop} {md : Region.Mode} {S : World → Prop}
/-- take one operation of a drawn region, the slot that it fills written out -/
theorem takeH {i : Nat} {oi : Oper} (d : Option Tmp) {v : Value} {fuel : Nat} {listed : Array Bool} {a : Act} {w : World} (hi : ops[i]? = some oi) (hd : oi.dst = d)
    (hs : Region.noSelect ops = true) (hf : Region.free md ops listed i = true) (hr : (Region.ready md ops listed).contains i = true)
    (hQ : ∀ c a w, Q (.panic c) (a.put d v) w → Q (.panic c) a w) (hw : Region.wanted oi (yielded ops a.tmps) = true) (hy : ∀ w, S w → (execOp a.eval oi).run P w = .ok (.value v) w) (hS : S w)
    (h : wpAnyH P md ops Q S fuel (listed.setIfInBounds i true) (a.put d v) w) : wpAnyH P md ops Q S (fuel + 1) listed a w := by
  subst hd
  exact wpAnyH_take hi hs hf hr hQ (Or.inl ⟨hw, hy⟩) hS h
end
theorem step_of {P : Program} {ops : Array Oper} {o : Oper} {a : Act} {w : World} {K : Act → World → Prop} {Q : Exit → Act → World → Prop} {E : Prop} (hg : o.guard = none) (h : Oper.wp P o a w K Q) : if Region.wanted o (yielded ops a.tmps) = true then Oper.wp P o a w K Q else E := by
  rw [if_pos (by simp [Region.wanted, hg])]
  exact h
/-- what lies in memory behind the marking -/
def RdPost (W : World) (m7 m8 : Nat → Bool) (F : Nat → Nat → Act) (e : Exit) (a : Act) (w' : World) : Prop :=
  e = .normal ∧ ∃ g7 g8, a = F g7 g8 ∧ g7 ≠ g8 ∧ W.heap.size ≤ g7 ∧ W.heap.size ≤ g8 ∧ Marks w' g7 m7 ∧ Marks w' g8 m8 ∧ Below W.heap.size W w'

/-- the frame behind it -/
def rdF (w : World) (A A2 A3 : Option Addr) (c c2 c3 : Nat) (D : List (List Nat)) (l k : List Int) (T7 T8 : Array Value) (g7 g8 : Nat) : Act := { tmps := ((.slice A D.length c) :: (.slice A2 l.length c2) :: (.slice A3 k.length c3) :: (.pointer (some ⟨w.heap.size, 0, none⟩)) :: (undef) :: (undef) :: (.slice none 0 0) :: (.pointer (some ⟨g7, 0, none⟩)) :: (.pointer (some ⟨g8, 0, none⟩)) :: (undef) :: (undef) :: (undef) :: (undef) :: (.slice A D.length c) :: (.bool true) :: (.bool false) :: (.slice A D.length c) :: (.slice A2 l.length c2) :: (.agg T7) :: (.slice A D.length c) :: (.slice A3 k.length c3) :: (.agg T8) :: (undef) :: (undef) :: (undef) :: (undef) :: (undef) :: (undef) :: (undef) :: (undef) :: (undef) :: (undef) :: (undef) :: (undef) :: (undef) :: (undef) :: (undef) :: (undef) :: (undef) :: (undef) :: (undef) :: (undef) :: (undef) :: (undef) :: (undef) :: (undef) :: (undef) :: (undef) :: []).toArray, defers := [] }

def rdStep (D : List (List Nat)) (s : (Nat → Bool) × List Nat) (n : Nat) : (Nat → Bool) × List Nat :=
  if s.1 n then s else if (rowN D n).all s.1 then (fun x => s.1 x || x == n, s.2 ++ [n]) else s
def rdFold (D : List (List Nat)) (m : Nat → Bool) (pre : List Nat) : (Nat → Bool) × List Nat := pre.foldl (rdStep D) (m, [])
theorem rdFold_snoc (D : List (List Nat)) (m : Nat → Bool) (pre : List Nat) (n : Nat) : rdFold D m (pre ++ [n]) = rdStep D (rdFold D m pre) n := by simp [rdFold]
theorem rdFold_len (D : List (List Nat)) (m : Nat → Bool) (pre : List Nat) : (rdFold D m pre).2.length ≤ pre.length := by
  have key : ∀ (pre : List Nat) (s : (Nat → Bool) × List Nat), (pre.foldl (rdStep D) s).2.length ≤ s.2.length + pre.length := by
    intro pre
    induction pre with
    | nil => intro s; simp
    | cons n pre ih =>
      intro s
      have := ih (rdStep D s n)
      have h2 : (rdStep D s n).2.length ≤ s.2.length + 1 := by
        unfold rdStep
        split
        · omega
        · split
          · simp
          · omega
      simp only [List.foldl_cons, List.length_cons]
      omega
  have := key pre (m, [])
  simpa [rdFold] using this
/-- Ready -/
def readyL (D : List (List Nat)) (l k : List Int) : List Nat := (rdFold D (markI D.length l) (listM 256 (markI D.length k))).2
def ReadySays (w : World) (D : List (List Nat)) (l k : List Int) (e : Ending) (w' : World) : Prop :=
  ∃ v, e = .returned v ∧ w'.ownsRow w.heap.size 3 1 v (readyL D l k).length (natsV (readyL D l k)) ∧ Below w.heap.size w w'

theorem blk_not_row {W : World} {g : Nat} {t e : TypeId} {L : List Value} (h : BlkIs W g t L) (hte : t ≠ e) {base size k : Nat} {v : Value} {xs : List Value} (hr : W.ownsRow base e size v k xs) : v.ownBlock = none ∨ v.ownBlock ≠ some g := by
  rcases hr.2 with ⟨rfl, _⟩ | ⟨g', cap, cur, rfl, _, hgb, _⟩
  · exact .inl rfl
  · refine .inr fun e' => ?_
    obtain rfl : g' = g := by simpa [Value.ownBlock] using e'
    have := (show W.heap[g']? = _ from h).symm.trans hgb
    simp at this
    exact hte this.2

theorem BlkIs.appended_other {W w5 : World} {g B base k : Nat} {t : TypeId} {L : List Value} {v u : Value} {xs : List Value} {tmp : Obj} (h : BlkIs W g t L) (hte : t ≠ 3) (hr : W.ownsRow base 3 1 v k xs) (hg : (W.alloc tmp).grownBy w5 v.ownBlock) (hne : g ≠ B) : BlkIs (w5.setCell ⟨B, 0, none⟩ u) g t L := by
  refine BlkIs.other ((h.alloc tmp).kept hg (fun e => ?_)) hne u
  rcases blk_not_row h hte hr with h1 | h1
  · rw [h1] at e; cases e
  · exact h1 e.symm

end Go.Proofs.Ythffdkoncagimaa
