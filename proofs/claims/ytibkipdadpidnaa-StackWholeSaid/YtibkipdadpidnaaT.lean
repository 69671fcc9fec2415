/- What is laid, and what is put off: the program's rolled. Its closure. -/
import Derived.Test.YtibkipdadpidnaaS
import Derived.Defers
import Derived.Deep.MidRow
set_option linter.unusedVariables false
set_option linter.unusedSimpArgs false
namespace Go.Proofs.Ytibkipdadpidnaa
open Go.RowKit
open Pat (Pt AllB undoP nth)
/-- what is to be put back, the uppermost first -/
def undos (k : Int → Bool) : List Int → List On → List Pt
  | _, [] => []
  | f, x :: r => undos k (Pat.put f x.p) r ++ (if k x.n = true then [] else [undoP f x.p])
def layAll (f : List Int) (l : List On) : List Int := withL (fun _ => true) f l
theorem layAll_cons (f : List Int) (x : On) (r : List On) : layAll f (x :: r) = layAll (Pat.put f x.p) r := by
  show withL _ (if true = true then Pat.put f x.p else f) r = _; rw [if_pos rfl]; rfl
theorem layAll_snoc (f : List Int) (l : List On) (x : On) : layAll f (l ++ [x]) = Pat.put (layAll f l) x.p := by
  unfold layAll; rw [withL_append]; show withL (fun _ => true) (if true = true then Pat.put (withL (fun _ => true) f l) x.p else _) [] = _; rw [if_pos rfl]; rfl
theorem undos_snoc (k : Int → Bool) : ∀ (l : List On) (f : List Int) (x : On), undos k f (l ++ [x]) = (if k x.n = true then [] else [undoP (layAll f l) x.p]) ++ undos k f l
  | [], f, x => by show undos k _ [] ++ _ = _ ++ []; rw [List.append_nil]; rfl
  | y :: r, f, x => by
    show undos k (Pat.put f y.p) (r ++ [x]) ++ _ = _
    rw [undos_snoc k r, layAll_cons, List.append_assoc]; rfl
theorem roll_undos (k : Int → Bool) : ∀ (l : List On) (f : List Int), rollL k f l = (undos k f l).foldl Pat.put (layAll f l)
  | [], f => rfl
  | x :: r, f => by
    show (if k x.n = true then rollL k (Pat.put f x.p) r else Pat.put (rollL k (Pat.put f x.p) r) (undoP f x.p)) = (undos k (Pat.put f x.p) r ++ _).foldl Pat.put _
    rw [layAll_cons, List.foldl_append, ← roll_undos k r]
    split
    · rfl
    · rfl
theorem undos_right {k : Int → Bool} : ∀ {l : List On} {f : List Int}, Rights l → f.length = 32 → ∀ u ∈ undos k f l, u.right = true
  | [], _, _, _, u, h => by cases h
  | x :: r, f, hr, hf, u, h => by
    rcases List.mem_append.1 h with h | h
    · exact undos_right hr.tail (Pat.length_put hr.head hf) u h
    · by_cases q : k x.n = true
      · rw [if_pos q] at h; cases h
      · rw [if_neg q, List.mem_singleton] at h
        rw [h]; exact Pat.undo_right hf hr.head
theorem run_copy_text2 (w : World) (dT sT ty elem : TypeId) (g o dLen dCap : Nat) (s : ByteArray) (cur : List Value) (t : TypeId)
    (hu : Try.prog.underlying dT = some (.slice elem)) (hs : (Try.prog.info? elem).map (·.size) = some 1)
    (hg : Pat.BlkIs w g t cur) (hn : s.size ≤ dLen) (hfit : o + s.size ≤ cur.length) :
    (Builtin.copy_ #[dT, sT] ty #[.slice (some ⟨g, o, none⟩) dLen dCap, .string s]).run Try.prog w =
      .ok (goInt s.size) (w.setRow g (splice cur o (Pat.bytesV (Pat.sb s))).toArray) := by
  have hst := run_storeCells_at Try.prog g o t (Pat.bytesV (Pat.sb s)) 0 cur.toArray w hg (by rw [Pat.length_bytesV, Pat.length_sb]; simpa using hfit) (Pat.bytesV_one _)
  cases hq : Try.prog.info? elem with
  | none => simp [hq] at hs
  | some i =>
    have hi : i.size = 1 := by simpa [hq] using hs
    have hb := Pat.bytes_of_str s
    have hst' : (storeCells ⟨g, o, none⟩ (s.data.map fun b => Value.int .u8 b.toNat).toList).run Try.prog w = .ok () (w.setRow g (splice cur o (Pat.bytesV (Pat.sb s))).toArray) := by
      rw [hb]
      simpa [splice] using hst
    have hmin : s.size.min dLen = s.size := Nat.min_eq_left hn
    simp [Builtin.copy_, run_underlying hu, Builtin.lenOf, Builtin.firstCells, sizeOf, typeInfo, hq]
    simp at hst'
    rw [hmin, List.take_of_length_le (by simp), hst']
    rfl
/-- a step of a drawn region: 'copy' of a text into what is longer -/
theorem step_copy_text2 {ops : Array Oper} {o : Oper} {a : Act} {w : World} {K : Act → World → Prop} {Q : Exit → Act → World → Prop} {E : Prop} (hgd : o.guard = none) (d s : Operand)
    (ho : o.op = .call { callee := .builtin .copy, args := #[d, s], argTypes := #[22, 9] })
    (g off dLen dCap : Nat) (t : ByteArray) (hd : a.eval d = .slice (some ⟨g, off, none⟩) dLen dCap) (hs : a.eval s = .string t)
    (cur : List Value) (ty : TypeId) (hg : Pat.BlkIs w g ty cur) (hn : t.size ≤ dLen) (hfit : off + t.size ≤ cur.length)
    (h : K (a.put o.dst (goInt t.size)) (w.setRow g (splice cur off (Pat.bytesV (Pat.sb t))).toArray)) :
    if Region.wanted o (yielded ops a.tmps) = true then Oper.wp Try.prog o a w K Q else E := by
  have hw : Region.wanted o (yielded ops a.tmps) = true := by simp [Region.wanted, hgd]
  rw [if_pos hw]
  have hrun := run_copy_text2 w 22 9 o.type 5 g off dLen dCap t cur ty Try.underlying22 Pat.size5 hg hn hfit
  unfold Oper.wp
  simp [execOp, ho, resolve, invoke, builtin, hd, hs, hrun, Result.andThen]
  exact h
theorem Kept.row' (w : World) (g : Nat) (cs : Array Value) : Kept w (w.setRow g cs) (fun b => b = g) := ⟨rfl, rfl, rfl, by simp, fun k _ hn => setRow_other w g k cs (fun e => hn e)⟩
set_option maxRecDepth 100000 in
set_option maxHeartbeats 1000000 in
/-- one put back -/
theorem und_any (R d : Nat) (cur : List Int) (u : Pt) (md : FrameMode) (w : World) (hR : Pat.BlkIs w R 71 (Pat.bytesV cur)) (hd : Pat.Boxed w d u) (hc : cur.length = 32) (hu : u.right = true) :
    CallsD Try.prog 67 #[.pointer (some ⟨R, 0, none⟩), .pointer (some ⟨d, 0, none⟩)] md w fun e md' w' => md' = md ∧ e = .returned (.tuple #[]) ∧ Pat.BlkIs w' R 71 (Pat.bytesV (Pat.put cur u)) ∧ Kept w w' (fun b => b = R) := by
  obtain ⟨h0, h1, h2, h3, h4, h5⟩ := Pat.Pt.right_out hu
  obtain ⟨d0, d1, d2⟩ := hd.cells
  have hdb := Pat.BlkIs.lt hd
  obtain ⟨ub, uo, us⟩ := u
  obtain ⟨n, rfl⟩ := Int.eq_ofNat_of_zero_le h2
  simp only at *
  have HR := Lib.hid hR
  have Hd := Lib.hid hd
  have hb := Pat.BlkIs.lt hR
  have X0 := Lib.hid (show w.drew.cell? ⟨d, 0, none⟩ = some (.int .i64 ub) ∧ w.drew.cell? ⟨d, 1, none⟩ = some (.int .i64 (n : Int)) ∧ w.drew.cell? ⟨d, 2, none⟩ = some (.string us) from ⟨d0, d1, d2⟩)
  have hn32 : (n : Int) ≤ 32 := by omega
  clear hR hd
  go_enter_d Try.func67, Try.ntmps67
  have hdR : d ≠ R := fun e => by
    rw [e] at Hd
    have := Hd.out.symm.trans HR.out
    simp only [Option.some.injEq, Obj.cells.injEq] at this
    exact absurd this.2.1 (by decide)
  have Hput : Hid (Pat.BlkIs (w.drew.setRow R (splice (Pat.bytesV cur) n (Pat.bytesV (Pat.sb us))).toArray) R 71 (Pat.bytesV (Pat.put cur ⟨ub, n, us⟩)) ∧ Kept w (w.drew.setRow R (splice (Pat.bytesV cur) n (Pat.bytesV (Pat.sb us))).toArray) (fun b => b = R)) := by
    refine ⟨?_, (Kept.refl w _).drew.trans (Kept.row' _ _ _) (fun b e => .inl e)⟩
    have e : Pat.bytesV (Pat.put cur ⟨ub, n, us⟩) = splice (Pat.bytesV cur) n (Pat.bytesV (Pat.sb us)) := (Pat.splice_bytes _ _ _).symm
    rw [e]
    exact setRow_heap w.drew R _ _ 71 (0, 0) HR.out
  have X1 := Lib.hid (show (w.drew.setRow R (splice (Pat.bytesV cur) n (Pat.bytesV (Pat.sb us))).toArray).cell? ⟨d, 0, none⟩ = some (.int .i64 ub) ∧ (w.drew.setRow R (splice (Pat.bytesV cur) n (Pat.bytesV (Pat.sb us))).toArray).cell? ⟨d, 1, none⟩ = some (.int .i64 (n : Int)) ∧ (w.drew.setRow R (splice (Pat.bytesV cur) n (Pat.bytesV (Pat.sb us))).toArray).cell? ⟨d, 2, none⟩ = some (.string us) from Pat.Boxed.cells (p := ⟨ub, n, us⟩) (Pat.BlkIs.other (Pat.BlkIs.drew Hd.out) hdR _))
  have hfit : n + us.size ≤ (Pat.bytesV cur).length := by rw [Pat.length_bytesV]; omega
  have hle : us.size ≤ 32 - n := by omega
  have Hf := Lib.hid hfit
  have Hl := Lib.hid hle
  have h32n : (32 = n) = False := by simp; omega
  clear hfit hle hu hdR d0 d1 d2
  go_wp2_with fail
  go_region_held3 (fun W => W.cell? ⟨d, 0, none⟩ = some (.int .i64 ub) ∧ W.cell? ⟨d, 1, none⟩ = some (.int .i64 (n : Int)) ∧ W.cell? ⟨d, 2, none⟩ = some (.string us))
    (first | exact X0.out | exact X1.out)
    (refine step_copy_text2 rfl (.tmp 4) (.tmp 6) rfl R n (32 - n) (32 - n) us rfl rfl (Pat.bytesV cur) 71 (Pat.BlkIs.drew HR.out) Hl.out Hf.out ?_)
  go_wp2
  go_end0
  exact ⟨rfl, Hput.out⟩
end Go.Proofs.Ytibkipdadpidnaa
