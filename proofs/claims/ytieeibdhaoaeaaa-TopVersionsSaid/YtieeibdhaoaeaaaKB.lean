/- Two sectors compared; loads and comparisons as steps of a drawn region. -/
import Derived.Test.YtieeibdhaoaeaaaKA
import Derived.ChangeKeysEq
namespace Go.Proofs.Ytieeibdhaoaeaaa
open Go.RowKit

theorem items_any (d : Nat) (a b : List Int) (w : World) (ha : a.length = 32) (hb : b.length = 32) : ∀ is : List Nat, (∀ i ∈ is, i < 32) →
    (Op.eqItems (d + 1) 5 (Try.prog.cellsOf 5) (bytesV a).toArray (bytesV b).toArray is).run Try.prog w = .ok (is.all fun i => decide (nth a i = nth b i)) w
  | [], _ => by simp [Op.eqItems]
  | i :: is, hi => by
    have h32 := hi i (by simp)
    have hx : ∀ l : List Int, l.length = 32 → (bytesV l).toArray[i]? = some (.int .u8 (nth l i)) := fun l hl => by
      rw [List.getElem?_toArray, bytesV, List.getElem?_map, List.getElem?_eq_getElem (by omega), nth_lt (by omega)]; rfl
    have hc : Try.prog.cellsOf 5 = 1 := by kernel_rfl
    have hp := run_part_plain (P := Try.prog) (w := w) (e := 5) (by kernel_rfl) (off := i * Try.prog.cellsOf 5) (v := .int .u8 (nth a i)) (by rw [hc, Nat.mul_one]; exact hx a ha)
    have hq := run_part_plain (P := Try.prog) (w := w) (e := 5) (by kernel_rfl) (off := i * Try.prog.cellsOf 5) (v := .int .u8 (nth b i)) (by rw [hc, Nat.mul_one]; exact hx b hb)
    have he := run_equalIn_int (P := Try.prog) w d 5 .u8 .u8 (nth a i) (nth b i) Try.underlying5
    have ih := items_any d a b w ha hb is (fun j hj => hi j (by simp [hj]))
    simp only [Op.eqItems, Sem.run_bind, hp, hq, Result.andThen_ok, he]
    by_cases e : nth a i = nth b i
    · simp [e, ih]
    · simp [e]
theorem all_same {a b : List Int} (ha : a.length = 32) (hb : b.length = 32) : ((List.range 32).all fun i => decide (nth a i = nth b i)) = decide (a = b) := by
  by_cases e : a = b
  · subst e; simp
  · rw [decide_eq_false e]
    rw [List.all_eq_false]
    refine Classical.byContradiction fun hn => e (ext_nth (by rw [ha, hb]) fun i hi => ?_)
    refine Classical.byContradiction fun hne => hn ⟨i, List.mem_range.2 (by omega), by simpa using hne⟩
set_option maxRecDepth 100000 in
theorem eqAny (t : TypeId) (hu : Try.prog.underlying t = some (.array 32 5)) (a b : List Int) (ha : a.length = 32) (hb : b.length = 32) (w : World) : (Op.equalIn 10000 t (.agg (bytesV a).toArray) (.agg (bytesV b).toArray)).run Try.prog w = .ok (decide (a = b)) w := by
  obtain ⟨i5, hi5, _⟩ := Option.map_eq_some_iff.1 size5
  rw [show (10000 : Nat) = 9999 + 1 from rfl, run_equalIn_array (P := Try.prog) w 9999 _ _ hu hi5]
  have := items_any 9998 a b w ha hb (List.range 32) (fun i hi => List.mem_range.1 hi)
  rw [all_same ha hb] at this
  exact this
section
variable {P : Program} {ops : Array Oper} {o : Oper} {a : Act} {w : World} {K : Act → World → Prop} {Q : Exit → Act → World → Prop} {E : Prop}
theorem step_on (hw : Region.wanted o (yielded ops a.tmps) = true) (h : Oper.wp P o a w K Q) : if Region.wanted o (yielded ops a.tmps) = true then Oper.wp P o a w K Q else E := by
  rw [if_pos hw]; exact h
theorem exec_mid {ev : Operand → Value} (ty : TypeId) (x : Operand) (ho : o.op = .load ty x) (b off : Nat) (hx : ev x = .pointer (some ⟨b, off, none⟩)) (cs : List Value) (d : TypeDesc) (hc : w.rangeAt b off cs)
    (hu : P.underlying ty = some d) (hd : d.isRow = true) (hi : (P.info? ty).map (·.size) = some cs.length) : (execOp ev o).run P w = .ok (.value (.agg cs.toArray)) w := by
  unfold execOp
  simp only [ho, hx, Instr.loadAt, Instr.sureAddr, Sem.run_bind, Sem.run_pure, Result.andThen_ok, run_loadVar_mid w b off ty cs d hc hu hd hi]
theorem exec_row {ev : Operand → Value} (ty : TypeId) (x : Operand) (ho : o.op = .load ty x) (b : Nat) (hx : ev x = .pointer (some ⟨b, 0, none⟩)) (t : TypeId) (cs : Array Value) (fr : Nat × Nat) (d : TypeDesc) (hb : w.heap[b]? = some (.cells cs t fr))
    (hu : P.underlying ty = some d) (hd : (match d with | .struct _ | .array _ _ => true | _ => false) = true) (hi : (P.info? ty).map (·.size) = some cs.size) : (execOp ev o).run P w = .ok (.value (.agg cs)) w := by
  unfold execOp
  simp only [ho, hx, Instr.loadAt, Instr.sureAddr, Sem.run_bind, Sem.run_pure, Result.andThen_ok, run_loadVar_row w b t ty cs fr d hb hu hd hi]
theorem exec_eq {ev : Operand → Value} (t u : TypeId) (x y : Operand) (ho : o.op = .binOp .eql t x y u) (hu : Try.prog.underlying t = some (.array 32 5)) (p q : List Int) (hx : ev x = .agg (bytesV p).toArray) (hy : ev y = .agg (bytesV q).toArray) (hp : p.length = 32) (hq : q.length = 32) (hm : Try.prog.eqGuardType Try.prog.depth t = false) :
    (execOp ev o).run Try.prog w = .ok (.value (.bool (decide (p = q)))) w := by
  have := eqAny t hu p q hp hq w
  unfold execOp
  simp [ho, hx, hy, run_eqGuard_agg (hm := hm), binOp, Op.equal, Op.maxDepth, this]
end
end Go.Proofs.Ytieeibdhaoaeaaa
