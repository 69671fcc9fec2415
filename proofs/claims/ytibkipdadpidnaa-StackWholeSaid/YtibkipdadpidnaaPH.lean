/- The contracts of 'Undo' and 'Idle'. -/
import Derived.Test.YtibkipdadpidnaaPG
namespace Go.Proofs.Ytibkipdadpidnaa.Pat
set_option linter.unusedVariables false
set_option linter.unusedSimpArgs false
set_option maxRecDepth 100000
open Go.RowKit

def undoP (l : List Int) (p : Pt) : Pt := cutP p.b l p.o.toNat (p.o.toNat + p.s.size)
theorem undo_right {l : List Int} {p : Pt} (hl : l.length = 32) (hp : p.right = true) : (undoP l p).right = true := by
  obtain ⟨h1, h2, h3, h4, h5, h6⟩ := Pt.right_out hp
  exact cutP_ok p.b l _ _ h1 h2 (by omega) (by omega) (by omega)
theorem Pt.cs_one (p : Pt) : p.cs.toArray.all (·.oneCell') = true := by simp [Pt.cs, Value.oneCell']
def zeroP : Pt := ⟨0, 0, ⟨#[]⟩⟩

/-- a result that lies in a block, beside one that does not -/
theorem results_cell_row_tmp {P : Program} {fn : Func} {p u : Tmp} {ty : TypeId} (h : fn.results = #[.cell p ty, .tmp u]) (tmps : Array Value) (w : World) (g : Nat) (t : TypeId) (cs : Array Value) (fr : Nat × Nat) (d : TypeDesc)
    (hp : tmps.getD p undef = .pointer (some ⟨g, 0, none⟩)) (hg : w.heap[g]? = some (.cells cs t fr))
    (hu : P.underlying ty = some d) (hd : (match d with | .struct _ | .array _ _ => true | _ => false) = true) (hi : (P.info? ty).map (·.size) = some cs.size) (v : Value) (hv : tmps.getD u undef = v) :
    (results fn tmps).run P w = .ok (.tuple #[.agg cs, v]) w := by
  subst hv
  have hp' : tmps[p]?.getD undef = .pointer (some ⟨g, 0, none⟩) := by simpa using hp
  rw [results_cell_tmp h, hp]
  simp [asAddr, Result.andThen, run_loadVar_row w g t ty cs fr d hg hu hd hi]

theorem undo_short (A : Option Addr) (n c : Nat) (p : Pt) (w : World) (h : n ≠ 32) :
    Calls Try.prog 51 #[.slice A n c, p.v] w fun e w' => e = .returned (.tuple #[zeroP.v, .int .i64 3]) ∧ Below w.heap.size w w' := by
  have h0 : ((n : Int) == 32) = false := by rw [beq_eq_false_iff_ne]; omega
  have h1 : (n == 32) = false := by rw [beq_eq_false_iff_ne]; exact h
  have HB : Hid (Below w.heap.size w ((w.alloc (.cells p.cs.toArray 38)).alloc (.cells zeroP.cs.toArray 38))) := below_alloc2 w _ _
  have HB2 : Hid (Boxed ((w.alloc (.cells p.cs.toArray 38)).alloc (.cells zeroP.cs.toArray 38)) (w.heap.size + 1) zeroP) := (boxed2 w p zeroP).2
  obtain ⟨b, o, s⟩ := p
  unfold Pt.v at *
  simp only [Pt.cs] at *
  go_enter Try.func51, Try.ntmps51
  go_wp2
  refine bodyPost_ret (v := .tuple #[zeroP.v, .int .i64 3]) ?_ rfl ⟨rfl, HB.out⟩
  exact results_cell_row_tmp rfl _ _ (w.heap.size + 1) 38 zeroP.cs.toArray (0, 0) _ rfl HB2.out Try.underlying38 rfl info38 _ rfl

theorem undo_no (A : Option Addr) (c : Nat) (p : Pt) (w : World) (hp : p.ok) (hr : p.right = false) :
    Calls Try.prog 51 #[.slice A 32 c, p.v] w fun e w' => e = .returned (.tuple #[zeroP.v, .int .i64 3]) ∧ Below w.heap.size w w' := by
  have R := Lib.hid (fun w => right_no p w hp hr)
  have HN := Lib.hid (fun w1 hB => @Boxed.two w w1 p zeroP hB)
  clear hr hp
  obtain ⟨b, o, s⟩ := p
  unfold Pt.v at *
  simp only [Pt.cs] at *
  go_enter Try.func51, Try.ntmps51
  go_wp2_with fail
  refine (R.out _).mono ?_
  rintro e w1 ⟨rfl, hB1⟩
  have t1 := HN.out _ (by simpa [zeroP] using hB1)
  have T := Lib.hid t1
  clear t1 hB1
  obtain ⟨d0, d1, d2⟩ := T.out.2.2.cells
  have hfz := T.out.2.2.frozen
  simp only [zeroP] at d0 d1 d2
  go_wp2
  have hh : BlkIs (((w1.setCell ⟨w.heap.size + 1, 0, none⟩ (.int .i64 0)).setCell ⟨w.heap.size + 1, 1, none⟩ (.int .i64 0)).setCell ⟨w.heap.size + 1, 2, none⟩ (.string ⟨#[]⟩)) (w.heap.size + 1) 38 zeroP.cs := ((BlkIs.set_ T.out.2.2 0 _).set_ 1 _).set_ 2 _
  have hB := ((T.out.1.setCell (p := ⟨w.heap.size + 1, 0, none⟩) (by simp) (.int .i64 0)).setCell (p := ⟨w.heap.size + 1, 1, none⟩) (by simp) (.int .i64 0)).setCell (p := ⟨w.heap.size + 1, 2, none⟩) (by simp) (.string ⟨#[]⟩)
  refine bodyPost_ret (v := .tuple #[zeroP.v, .int .i64 3]) ?_ rfl ⟨rfl, hB⟩
  exact results_cell_row_tmp rfl _ _ (w.heap.size + 1) 38 zeroP.cs.toArray (0, 0) _ rfl hh Try.underlying38 rfl info38 _ rfl

/-- one step of a drawn region: a store of a whole struct -/
theorem step_store_row {P : Program} {ops : Array Oper} {o : Oper} {a : Act} {w : World} {K : Act → World → Prop} {Q : Exit → Act → World → Prop} {E : Prop} (hgd : o.guard = none) (ty : TypeId) (x y : Operand) (ho : o.op = .store ty x y)
    (g : Nat) (cells : Array Value) (hx : a.eval x = .pointer (some ⟨g, 0, none⟩)) (hy : a.eval y = .agg cells)
    (t : TypeId) (old : Array Value) (hg : w.heap[g]? = some (.cells old t (0, 0))) (hi : (P.info? ty).map (·.size) = some cells.size)
    (hold : old.size = cells.size) (h1 : cells.all (·.oneCell') = true)
    (h : K (a.put o.dst undef) (w.setRow g cells)) : if Region.wanted o (yielded ops a.tmps) = true then Oper.wp P o a w K Q else E := by
  have hw : Region.wanted o (yielded ops a.tmps) = true := by simp [Region.wanted, hgd]
  rw [if_pos hw]
  exact wp_store_row ty x y ho g cells hx hy t old hg hi hold h1 h

set_option maxRecDepth 100000 in
set_option linter.unusedSimpArgs false in
set_option maxHeartbeats 1000000 in
theorem undo_yes (A : Option Addr) (c : Nat) (l : List Int) (p : Pt) (w : World) (hb : Bts w w.heap.size A l) (hl : l.length = 32) (hc : 32 ≤ c) (hr : p.right = true) :
    Calls Try.prog 51 #[.slice A 32 c, p.v] w fun e w' => e = .returned (.tuple #[(undoP l p).v, .int .i64 0]) ∧ Below w.heap.size w w' := by
  obtain ⟨p1, p2, p3, p4, p5, p6⟩ := Pt.right_out hr
  have hps : p.s.size ≤ 1000 := by omega
  have R := Lib.hid (fun w => right_yes p w hr)
  have E := Lib.hid (fun W => end_any p W p3 p4 hps)
  have HT := Lib.hid (fun w1 hB => @Boxed.two w w1 p zeroP hB)
  have HD : Hid (∀ W, St2 w p zeroP W → St2 w p zeroP W.drew) := fun W h => h.drew
  have HC : Hid (∀ W, St2 w p zeroP W → W.cell? ⟨w.heap.size, 0, none⟩ = some (.int .i64 p.b) ∧ W.cell? ⟨w.heap.size, 1, none⟩ = some (.int .i64 p.o) ∧ W.cell? ⟨w.heap.size, 2, none⟩ = some (.string p.s)) := fun W h => h.2.1.cells
  have HN := Lib.hid (fun W W' => @St2.next w W W' p zeroP)
  have C : Hid (∀ W, St2 w p zeroP W → Calls Try.prog 72 #[.int .i64 p.b, .slice A 32 c, .int .i64 (p.o.toNat : Int), .int .i64 (p.o + p.s.size)] W fun e w' => e = .returned (undoP l p).v ∧ Below W.heap.size W w') := by
    intro W h
    have := cut_any p.b A c l p.o.toNat (p.o.toNat + p.s.size) W ((hb.below h.1).more h.1.size) (by omega) (by omega) (by omega)
    rw [hl, show ((p.o.toNat + p.s.size : Nat) : Int) = p.o + p.s.size by omega] at this
    exact this
  have HL : Hid (∀ W, St2 w p zeroP W → (W.setRow (w.heap.size + 1) (undoP l p).cs.toArray).cell? ⟨w.heap.size, 0, none⟩ = some (.int .i64 p.b) ∧ (W.setRow (w.heap.size + 1) (undoP l p).cs.toArray).cell? ⟨w.heap.size, 1, none⟩ = some (.int .i64 p.o) ∧ (W.setRow (w.heap.size + 1) (undoP l p).cs.toArray).cell? ⟨w.heap.size, 2, none⟩ = some (.string p.s)) := by
    intro W h
    have hk : Boxed (W.setRow (w.heap.size + 1) (undoP l p).cs.toArray) w.heap.size p := BlkIs.other h.2.1 (by omega) _
    exact hk.cells
  clear hb hl hr
  obtain ⟨b, o, s⟩ := p
  obtain ⟨n, rfl⟩ := Int.eq_ofNat_of_zero_le p3
  simp only [Int.toNat_natCast] at *
  unfold Pt.v at *
  simp only [Pt.cs] at *
  go_enter Try.func51, Try.ntmps51
  go_wp2_with fail
  refine (R.out _).mono ?_
  rintro e w1 ⟨rfl, hB1⟩
  have HS := Lib.hid (HT.out _ (by simpa [zeroP] using hB1))
  replace HS := Lib.hid (HD.out _ HS.out)
  have X := Lib.hid (HC.out _ HS.out)
  clear hB1
  go_wp2_with fail
  refine wp_region_held_drew (S := (fun W =>
      W.cell? ⟨w.heap.size, 0, none⟩ = some (.int .i64 b) ∧ W.cell? ⟨w.heap.size, 1, none⟩ = some (.int .i64 (n : Int)) ∧ W.cell? ⟨w.heap.size, 2, none⟩ = some (.string s))) (by kernel_rfl) (X.out) (fun hHeld => ?_)
  refine takeH (i := 0) (some 15) (v := ?_) rfl rfl (by kernel_rfl) (by kernel_rfl) (by kernel_rfl) (fun _ _ _ h => h) (by rfl) ?_ (by assumption) ?_
  rotate_left
  · (intro w hSw; (try dsimp only at hSw); go_simp; try with_reducible rfl)
  simp only [Act.put, List.setIfInBounds_toArray, List.set_cons_zero, List.set_cons_succ]
  refine takeH (i := 1) (some 16) (v := ?_) rfl rfl (by kernel_rfl) (by kernel_rfl) (by kernel_rfl) (fun _ _ _ h => h) (by rfl) ?_ (by assumption) ?_
  rotate_left
  · (intro w hSw; (try dsimp only at hSw); go_simp; try with_reducible rfl)
  simp only [Act.put, List.setIfInBounds_toArray, List.set_cons_zero, List.set_cons_succ]
  refine takeH (i := 2) (some 17) (v := ?_) rfl rfl (by kernel_rfl) (by kernel_rfl) (by kernel_rfl) (fun _ _ _ h => h) (by rfl) ?_ (by assumption) ?_
  rotate_left
  · (intro w hSw; (try dsimp only at hSw); go_simp; try with_reducible rfl)
  simp only [Act.put, List.setIfInBounds_toArray, List.set_cons_zero, List.set_cons_succ]
  refine takeH (i := 3) (some 18) (v := ?_) rfl rfl (by kernel_rfl) (by kernel_rfl) (by kernel_rfl) (fun _ _ _ h => h) (by rfl) ?_ (by assumption) ?_
  rotate_left
  · (intro w hSw; (try dsimp only at hSw); go_simp; try with_reducible rfl)
  simp only [Act.put, List.setIfInBounds_toArray, List.set_cons_zero, List.set_cons_succ]
  refine takeH (i := 4) (some 19) (v := ?_) rfl rfl (by kernel_rfl) (by kernel_rfl) (by kernel_rfl) (fun _ _ _ h => h) (by rfl) ?_ (by assumption) ?_
  rotate_left
  · (intro w hSw; (try dsimp only at hSw); go_simp; try with_reducible rfl)
  simp only [Act.put, List.setIfInBounds_toArray, List.set_cons_zero, List.set_cons_succ]
  refine takeH (i := 5) (some 20) (v := ?_) rfl rfl (by kernel_rfl) (by kernel_rfl) (by kernel_rfl) (fun _ _ _ h => h) (by rfl) ?_ (by assumption) ?_
  rotate_left
  · (intro w hSw; (try dsimp only at hSw); go_simp; try with_reducible rfl)
  simp only [Act.put, List.setIfInBounds_toArray, List.set_cons_zero, List.set_cons_succ]
  refine wpAnyH_ready (rs := [6]) (by kernel_rfl) (by simp) ?_
  refine AllReadyH.cons rfl (fun K hK => ?_) AllReadyH.nil
  go_simp
  ((with_reducible refine (E.out _).mono ?_); rintro e w3 ⟨rfl, hB3⟩; replace HS := Lib.hid (HN.out _ _ HS.out hB3); replace X := Lib.hid (HC.out _ HS.out))
  refine hK _ _ (X.out) (fun hHeld => ?_)
  clear hK K
  try simp only [Act.put, List.setIfInBounds_toArray, List.set_cons_zero, List.set_cons_succ]
  refine wpAnyH_ready (rs := [7]) (by kernel_rfl) (by simp) ?_
  refine AllReadyH.cons rfl (fun K hK => ?_) AllReadyH.nil
  go_simp
  (refine (C.out _ HS.out).mono ?_; rintro e w3 ⟨rfl, hB3⟩; replace HS := Lib.hid (HN.out _ _ HS.out hB3); replace X := Lib.hid (HC.out _ HS.out))
  refine hK _ _ (X.out) (fun hHeld => ?_)
  clear hK K
  try simp only [Act.put, List.setIfInBounds_toArray, List.set_cons_zero, List.set_cons_succ]
  refine wpAnyH_ready (rs := [8]) (by kernel_rfl) (by simp) ?_
  refine AllReadyH.cons rfl (fun K hK => ?_) AllReadyH.nil
  refine step_store_row rfl 38 (.tmp 4) (.tmp 22) rfl (w.heap.size + 1) (undoP l ⟨b, n, s⟩).cs.toArray rfl rfl 38 zeroP.cs.toArray HS.out.2.2 info38 rfl (Pt.cs_one _) ?_
  refine hK _ _ (HL.out _ HS.out) (fun hHeld => ?_)
  clear hK K
  try simp only [Act.put, List.setIfInBounds_toArray, List.set_cons_zero, List.set_cons_succ]
  refine takeH (i := 9) (some 5) (v := ?_) rfl rfl (by kernel_rfl) (by kernel_rfl) (by kernel_rfl) (fun _ _ _ h => h) (by rfl) ?_ (by assumption) ?_
  rotate_left
  · (intro w hSw; (try dsimp only at hSw); go_simp; try with_reducible rfl)
  simp only [Act.put, List.setIfInBounds_toArray, List.set_cons_zero, List.set_cons_succ]
  refine wpAnyH_done (by kernel_rfl) ?_ _
  go_wp2
  have hh := setRow_heap _ (w.heap.size + 1) zeroP.cs.toArray (undoP l ⟨b, n, s⟩).cs.toArray 38 (0, 0) HS.out.2.2
  refine bodyPost_ret (v := .tuple #[(undoP l ⟨b, n, s⟩).v, .int .i64 0]) ?_ rfl ⟨rfl, below_setRow HS.out.1 (by omega) _⟩
  exact results_cell_row_tmp rfl _ _ (w.heap.size + 1) 38 (undoP l ⟨b, n, s⟩).cs.toArray (0, 0) _ rfl hh Try.underlying38 rfl info38 _ rfl
end Go.Proofs.Ytibkipdadpidnaa.Pat
