/- Blocks of cells; a patch in a block; one step of a drawn region. -/
import Derived.Test.YtieeibdhaoaeaaaB
namespace Go.Proofs.Ytieeibdhaoaeaaa
open Go.RowKit

def BlkIs (w : World) (g : Nat) (t : TypeId) (l : List Value) : Prop := w.heap[g]? = some (.cells l.toArray t (0, 0))
theorem BlkIs.cell {w : World} {g : Nat} {t : TypeId} {l : List Value} (h : BlkIs w g t l) (k : Nat) : w.cell? ⟨g, k, none⟩ = l[k]? := by
  unfold BlkIs at h
  simp [World.cell?, h]
theorem BlkIs.frozen {w : World} {g : Nat} {t : TypeId} {l : List Value} (h : BlkIs w g t l) (k : Nat) : w.frozen? ⟨g, k, none⟩ = false := by
  unfold BlkIs at h
  simp [World.frozen?, h]
theorem BlkIs.set_ {w : World} {g : Nat} {t : TypeId} {l : List Value} (h : BlkIs w g t l) (k : Nat) (v : Value) : BlkIs (w.setCell ⟨g, k, none⟩ v) g t (l.set k v) := by
  unfold BlkIs at h ⊢
  simp [World.setCell, Array.getElem?_modify, h]
theorem BlkIs.lt {w : World} {g : Nat} {t : TypeId} {l : List Value} (h : BlkIs w g t l) : g < w.heap.size := by
  rcases Nat.lt_or_ge g w.heap.size with hlt | hge
  · exact hlt
  · unfold BlkIs at h; rw [Array.getElem?_eq_none hge] at h; cases h
theorem BlkIs.below {w w' : World} {g B : Nat} {t : TypeId} {l : List Value} (h : BlkIs w g t l) (hB : Below B w w') (hg : g < B) : BlkIs w' g t l := by
  unfold BlkIs at h ⊢
  rw [hB.block g hg]; exact h
theorem BlkIs.drew {w : World} {g : Nat} {t : TypeId} {l : List Value} (h : BlkIs w g t l) : BlkIs w.drew g t l := h

/-- a block that holds a patch -/
def Pt.cs (p : Pt) : List Value := [.int .i64 p.b, .int .i64 p.o, .string p.s]
def Boxed (w : World) (g : Nat) (p : Pt) : Prop := BlkIs w g 66 p.cs
theorem Boxed.cells {w : World} {g : Nat} {p : Pt} (h : Boxed w g p) : w.cell? ⟨g, 0, none⟩ = some (.int .i64 p.b) ∧ w.cell? ⟨g, 1, none⟩ = some (.int .i64 p.o) ∧ w.cell? ⟨g, 2, none⟩ = some (.string p.s) := ⟨h.cell 0, h.cell 1, h.cell 2⟩
theorem Boxed.below {w w' : World} {g B : Nat} {p : Pt} (h : Boxed w g p) (hB : Below B w w') (hg : g < B) : Boxed w' g p := BlkIs.below h hB hg
theorem boxed1 (w : World) (p : Pt) : Boxed (w.alloc (.cells p.cs.toArray 66)) w.heap.size p := heap_alloc_new w _
theorem boxed2 (w : World) (p q : Pt) : Boxed ((w.alloc (.cells p.cs.toArray 66)).alloc (.cells q.cs.toArray 66)) w.heap.size p ∧ Boxed ((w.alloc (.cells p.cs.toArray 66)).alloc (.cells q.cs.toArray 66)) (w.heap.size + 1) q := by
  refine ⟨?_, ?_⟩
  · exact (boxed1 w p).below ((Below.refl _ _).alloc (Nat.le_refl _) _) (by simp)
  · have := boxed1 (w.alloc (.cells p.cs.toArray 66)) q
    simpa using this
theorem below_alloc1 (w : World) (x : Obj) : Below w.heap.size w (w.alloc x) := (Below.refl _ w).alloc (Nat.le_refl _) x
theorem below_alloc2 (w : World) (x y : Obj) : Below w.heap.size w ((w.alloc x).alloc y) := (below_alloc1 w x).alloc (by simp) y
/-- two patches that came in, laid, and what a callee of the two leaves -/
theorem Boxed.two {w w1 : World} {p q : Pt} (hB : Below (w.heap.size + 1 + 1) ((w.alloc (.cells p.cs.toArray 66)).alloc (.cells q.cs.toArray 66)) w1) :
    Below w.heap.size w w1 ∧ Boxed w1 w.heap.size p ∧ Boxed w1 (w.heap.size + 1) q :=
  ⟨(below_alloc2 w _ _).trans (hB.mono (by omega)), (boxed2 w p q).1.below hB (by omega), (boxed2 w p q).2.below hB (by omega)⟩
/-- the same behind one callee more -/
theorem Boxed.more {w w1 w2 : World} {p q : Pt} (h : Below w.heap.size w w1 ∧ Boxed w1 w.heap.size p ∧ Boxed w1 (w.heap.size + 1) q) (hB : Below w1.heap.size w1 w2) :
    Below w.heap.size w w2 ∧ Boxed w2 w.heap.size p ∧ Boxed w2 (w.heap.size + 1) q :=
  ⟨h.1.trans (hB.mono h.1.size), h.2.1.below hB (BlkIs.lt h.2.1), h.2.2.below hB (BlkIs.lt h.2.2)⟩

section
variable {P : Program} {ops : Array Oper} {Q : Exit → Act → World → Prop} {md : Region.Mode} {S : World → Prop}
/-- take one operation of a drawn region, the slot that it fills written out -/
theorem takeH {i : Nat} {oi : Oper} (d : Option Tmp) {v : Value} {fuel : Nat} {listed : Array Bool} {a : Act} {w : World} (hi : ops[i]? = some oi) (hd : oi.dst = d)
    (hs : Region.noSelect ops = true) (hf : Region.free md ops listed i = true) (hr : (Region.ready md ops listed).contains i = true)
    (hQ : ∀ c a w, Q (.panic c) (a.put d v) w → Q (.panic c) a w) (hw : Region.wanted oi (yielded ops a.tmps) = true) (hy : ∀ w, S w → (execOp a.eval oi).run P w = .ok (.value v) w) (hS : S w)
    (h : wpAnyH P md ops Q S fuel (listed.setIfInBounds i true) (a.put d v) w) : wpAnyH P md ops Q S (fuel + 1) listed a w := by
  subst hd
  exact wpAnyH_take hi hs hf hr hQ (Or.inl ⟨hw, hy⟩) hS h
/-- pass over one whose guard is false -/
theorem skipH {i : Nat} {oi : Oper} (d : Option Tmp) {fuel : Nat} {listed : Array Bool} {a : Act} {w : World} (hi : ops[i]? = some oi) (hd : oi.dst = d)
    (hs : Region.noSelect ops = true) (hf : Region.free md ops listed i = true) (hr : (Region.ready md ops listed).contains i = true)
    (hQ : ∀ c a w, Q (.panic c) (a.put d undef) w → Q (.panic c) a w) (hw : Region.wanted oi (yielded ops a.tmps) = false) (hS : S w)
    (h : wpAnyH P md ops Q S fuel (listed.setIfInBounds i true) (a.put d undef) w) : wpAnyH P md ops Q S (fuel + 1) listed a w := by
  subst hd
  exact wpAnyH_take hi hs hf hr hQ (Or.inr ⟨hw, rfl⟩) hS h
end

end Go.Proofs.Ytieeibdhaoaeaaa
