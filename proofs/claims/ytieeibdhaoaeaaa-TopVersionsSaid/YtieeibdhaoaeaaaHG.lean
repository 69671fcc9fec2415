/- A sector stored in a disk, as a step; what waits. -/
import Derived.Test.YtieeibdhaoaeaaaHF
import Derived.Maps.RangeWalk
import Derived.Maps.Views
namespace Go.Proofs.Ytieeibdhaoaeaaa
open Go.RowKit

theorem wp_store_wide {P : Program} {op : Oper} {a : Act} {w : World} {K : Act → World → Prop} {Q : Exit → Act → World → Prop} (ty : TypeId) (x y : Operand) (ho : op.op = .store ty x y)
    (g o : Nat) (cs : List Value) (hx : a.eval x = .pointer (some ⟨g, o, none⟩)) (hy : a.eval y = .agg cs.toArray) (cur : Array Value) (t : TypeId) (hg : w.heap[g]? = some (.cells cur t (0, 0)))
    (hfit : o + cs.length ≤ cur.size) (hi : (P.info? ty).map (·.size) = some cs.length) (h1 : ∀ v ∈ cs, v.oneCell' = true) (N : Array Value) (hN : (splice cur.toList o cs).toArray = N)
    (h : K (a.put op.dst undef) (w.setRow g N)) : op.wp P a w K Q := by
  subst hN
  have hst := run_storeCells_at P g o t cs 0 cur w hg (by simpa using hfit) h1
  have hrun : (storeVar ty ⟨g, o, none⟩ (.agg cs.toArray)).run P w = .ok () (w.setRow g (splice cur.toList o cs).toArray) := by
    cases hq : P.info? ty with
    | none => simp [hq] at hi
    | some i =>
      have hi' : i.size = cs.length := by simpa [hq] using hi
      simp [storeVar, sizeOf, typeInfo, hq, hi', Value.cells, hst, splice]
  unfold Oper.wp execOp
  simp only [ho, hx, hy, Instr.storeAt, Instr.sureAddr, Sem.run_bind, Sem.run_pure, Result.andThen_ok, hrun]
  exact h

/-- what waits for a block: a slice whose last row begins with the sector S i -/
def Waits (w : World) (g mb : Nat) (n : Int) (D : DataW Value) (S : Nat → List Int) : Prop :=
  ∀ i : Int, Maps.has D (.int .i64 i) = true → ∃ (j gv q cap : Nat), i = (j : Int) ∧ (j : Int) < n ∧ (∀ z, D.atKey (.int .i64 i) z = .held (.slice (some ⟨gv, 0, none⟩) (q + 1) cap)) ∧ q < 1000000000 ∧
    w.rangeAt gv (q * 33) (bytesV (S j)) ∧ (S j).length = 32 ∧ AllB (S j) ∧ gv ≠ g ∧ gv ≠ mb ∧ gv < w.heap.size
end Go.Proofs.Ytieeibdhaoaeaaa
