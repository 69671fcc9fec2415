/- What 'Write' makes: a row of one version. -/
import Derived.Test.YtieeibdhaoaeaaaHD
import Derived.Deep.AppendLies
import Derived.Great.BuildSlice
namespace Go.Proofs.Ytieeibdhaoaeaaa
open Go.RowKit

/-- the cells of a row: a sector, and how many times -/
def rowL (s : List Int) (t : Int) : List Value := bytesV s ++ [.int .i64 t]
theorem length_rowL {s : List Int} (hs : s.length = 32) (t : Int) : (rowL s t).length = 33 := by simp [rowL, bytesV, hs]
theorem rowL_one (s : List Int) (t : Int) : ∀ u ∈ rowL s t, u.oneCell' = true := by
  intro u hu
  rcases List.mem_append.1 hu with h | h
  · exact bytesV_one _ u h
  · rw [List.mem_singleton] at h; subst h; rfl
theorem info83 : (Try.prog.info? 83).map (fun i => (i.zero, i.size, i.bytes)) = some (some (.agg (rowL (List.replicate 32 0) 0).toArray), 33, 40) := by kernel_rfl
set_option maxRecDepth 100000 in
theorem built83 (t : Int) : ∀ s : List Int, s.length = 32 → Try.prog.built 83 [(0, .agg (bytesV s).toArray), (1, .int .i64 t)] = some (rowL s t).toArray
  | [a0, a1, a2, a3, a4, a5, a6, a7, a8, a9, a10, a11, a12, a13, a14, a15, a16, a17, a18, a19, a20, a21, a22, a23, a24, a25, a26, a27, a28, a29, a30, a31], _ => by kernel_rfl
set_option maxRecDepth 100000 in
theorem fill83 (t : Int) : ∀ s : List Int, s.length = 32 → Instr.fill (fun i => some (i * 33, 33)) ((Array.range 33).map ((rowL (List.replicate 32 0) 0).toArray[· % 33]!)) [(0, .agg (rowL s t).toArray)] = some (rowL s t).toArray
  | [a0, a1, a2, a3, a4, a5, a6, a7, a8, a9, a10, a11, a12, a13, a14, a15, a16, a17, a18, a19, a20, a21, a22, a23, a24, a25, a26, a27, a28, a29, a30, a31], _ => by kernel_rfl

section
variable {P : Program} {ops : Array Oper} {o : Oper} {a : Act} {w : World} {K : Act → World → Prop} {Q : Exit → Act → World → Prop} {E : Prop}
theorem step_of (hg : o.guard = none) (h : Oper.wp P o a w K Q) : if Region.wanted o (yielded ops a.tmps) = true then Oper.wp P o a w K Q else E := by
  rw [if_pos (by simp [Region.wanted, hg])]
  exact h
theorem wp_build_eq (t : TypeId) (parts : List (Nat × Operand)) (ho : o.op = .build t parts.toArray) (L : List (Nat × Value)) (hL : parts.map (fun (i, x) => (i, a.eval x)) = L) (cs : Array Value) (hb : P.built t L = some cs)
    (h : K (a.put o.dst (.agg cs)) w) : o.wp P a w K Q := by
  have e : (parts.toArray.map fun (i, x) => (i, a.eval x)).toList = L := by simpa using hL
  exact wp_build t parts.toArray ho (by rw [e, hb]; rfl) (by rw [e, hb]; exact h)
theorem wp_slice83 (x : Operand) (t : TypeId) (ht : P.underlying t = some (.slice 83)) (ho : o.op = .buildSlice t 1 #[(0, x)]) (R : Array Value) (hx : a.eval x = .agg R)
    (i0 : TypeInfo) (hi : P.info? 83 = some i0) (hz : i0.zero = some (.agg (rowL (List.replicate 32 0) 0).toArray)) (hs : i0.size = 33)
    (hf : Instr.fill (fun i => some (i * 33, 33)) ((Array.range 33).map ((rowL (List.replicate 32 0) 0).toArray[· % 33]!)) [(0, .agg R)] = some R)
    (h : K (a.put o.dst (.slice (some ⟨w.heap.size, 0, none⟩) 1 1)) (w.alloc (.cells R 83))) : o.wp P a w K Q := by
  refine wp_buildSlice t 83 1 #[(0, x)] ho R i0 _ ht hi hz (by rw [hs]; decide) (by rw [hs]; decide) ?_ h
  rw [hs]
  simpa [hx, Value.cells, rowL, bytesV] using hf
theorem wp_update_held (m x v : Operand) (t : TypeId) (hop : o.op = Op.mapUpdate t m x v)
    (k e : TypeId) (KK : Go.Maps.Keyed P k) (ht : P.underlying t = some (.map k e)) (b n : Nat) (D : DataW Value)
    (hm : a.eval m = .map (some b)) (hown : w.ownsMap P k RV b n D) (hn : n < maxLen) (key val : Value) (kl : Lit) (hx : a.eval x = key) (hv : a.eval v = val) (hkey : keyOf P k key = some kl)
    (h : ∀ w', w'.ownsMap P k RV b (n + 1) (D.put kl (.held val)) → w.grownBy w' (some b) → K (a.put o.dst undef) w') : o.wp P a w K Q := by
  obtain ⟨w', hrun, r1, r2⟩ := hown.update KK ht hn hkey (show RV val = some (.held val, []) from rfl)
  unfold Oper.wp
  simp [execOp, hop, hm, hx, hv, hrun, Result.andThen]
  exact h w' r1 r2
end
end Go.Proofs.Ytieeibdhaoaeaaa
