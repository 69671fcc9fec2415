/- The program's Under. -/
import Derived.Test.YtibkipdadpidnaaZ
set_option linter.unusedVariables false
set_option linter.unusedSimpArgs false
namespace Go.Proofs.Ytibkipdadpidnaa
open Go.RowKit
open Pat (Pt AllB undoP nth)
set_option maxRecDepth 100000 in
set_option maxHeartbeats 1000000 in
theorem low_any (cb : Nat) (n : Int) (q : Ly) (w : World) (hc : w.cell? ⟨cb, 0, none⟩ = some (.int .i64 n)) (hq : ∃ v, LayAt w q v) : Calls Try.prog 50 #[q.ptr, .pointer (some ⟨cb, 0, none⟩)] w fun e w' => e = .returned (.bool (decide (q.x.n < n))) ∧ Below w.heap.size w w' := by
  obtain ⟨v, hq⟩ := hq
  have d3 := hq.cells.2.2.2.1
  have hb := hq.lt
  have HB : Hid (Below w.heap.size w w.drew) := (Below.refl _ _).drew
  obtain ⟨qb, y, qp⟩ := q
  unfold Ly.ptr
  simp only at *
  clear hq
  go_enter Try.func50, Try.ntmps50
  go_wp2
  go_region
  go_wp2
  go_ret
  exact ⟨rfl, HB.out⟩
section
variable (B g : Nat) (L : List Ly) (s : Sk) (n : Int) (w : World)
set_option maxRecDepth 100000 in
set_option maxHeartbeats 2000000 in
theorem punder_no (hC : StkAt B w g L s) (ho : isOn s.l n = false) : Calls Try.prog 19 #[.pointer (some ⟨g, 0, none⟩), .int .i64 n] w fun e w' => e = .returned (.tuple #[.string ⟨#[]⟩, .int .i64 5]) ∧ Below w.heap.size w w' := by
  have hxs : xsL L = s.l := hC.xs
  rw [← hxs] at ho
  have HB1 : Hid (Below w.heap.size w (w.alloc (.cells #[.int .i64 n] 3))) := (Below.refl _ _).alloc (Nat.le_refl _) _
  have HA := Lib.hid (ask_no B g L s n _ (hC.fresh HB1.out) (off_at ho))
  clear hC hxs ho
  go_enter Try.func19, Try.ntmps19
  go_wp2_with (go_at_call 49; (with_reducible refine HA.out.mono ?_); rintro e w5 ⟨rfl, rfl⟩)
  go_ret2
  exact ⟨rfl, HB1.out⟩
set_option maxRecDepth 100000 in
set_option maxHeartbeats 4000000 in
theorem punder_yes (hC : StkAt B w g L s) (hr0 : Rights s.l) (hrise : RiseO s.l) (hl : s.l.length ≤ 900) (ho : isOn s.l n = true) : Calls Try.prog 19 #[.pointer (some ⟨g, 0, none⟩), .int .i64 n] w fun e w' => e = .returned (.tuple #[.string (underT s.f s.l n), .int .i64 0]) ∧ Below w.heap.size w w' := by
  have hxs : xsL L = s.l := hC.xs
  have hpr := patP_right hr0 ho
  have ho2 := ho
  rw [← hxs] at ho2
  obtain ⟨j, hj, e1, e2, e3⟩ := isOn_at ho2 (by rw [hxs]; exact hrise)
  rw [hxs] at e3
  have HB1 : Hid (Below w.heap.size w (w.alloc (.cells #[.int .i64 n] 3))) := (Below.refl _ _).alloc (Nat.le_refl _) _
  have hcb : (w.alloc (.cells #[.int .i64 n] 3)).cell? ⟨w.heap.size, 0, none⟩ = some (.int .i64 n) := cell_of_row _ w.heap.size 0 _ 3 (0, 0) (heap_alloc_new w _)
  have HA := Lib.hid (ask_yes B g L s n _ (hC.fresh HB1.out) j hj e1 e2)
  have hclo : ClosedL (fun m => decide (m < n)) s.l := by
    refine List.Pairwise.imp (fun {x y} hxy k1 k2 => ?_) (show s.l.Pairwise (fun x y => x.n < y.n) from hrise)
    have h1 := of_decide_eq_false k1
    have h2 := of_decide_eq_true k2
    omega
  have hRo := rolled_low B g L s w.heap.size (fun m => decide (m < n)) (w.alloc (.cells #[.int .i64 n] 3)) (hC.fresh HB1.out) hr0 hl (fun q W hq hW => low_any w.heap.size n q W ((hW.cell (p := ⟨w.heap.size, 0, none⟩) (by simp)).trans hcb) (((hC.fresh HB1.out).fresh hW).ch.mem hq))
  rw [roll_with hr0 hC.all hC.len hclo] at hRo
  have hUl : (withL (fun m => decide (m < n)) s.f s.l).length = 32 := withL_len hr0 hC.len
  have hUa : AllB (withL (fun m => decide (m < n)) s.f s.l) := withL_all hC.all
  have HLay : Hid (∀ V, Below w.heap.size w V → LayAt V (lyn L j) (topV (L.take j))) := fun V hV => (hC.ch j hj).fresh hV
  have HU : Hid (∀ W R, Pat.BlkIs W R 71 (Pat.bytesV (withL (fun m => decide (m < n)) s.f s.l)) → Calls Try.prog 51 #[.slice (some ⟨R, 0, none⟩) 32 32, (patP s.l n).v] W fun e w' => e = .returned (.tuple #[(undoP (withL (fun m => decide (m < n)) s.f s.l) (patP s.l n)).v, .int .i64 0]) ∧ Below W.heap.size W w') := fun W R hW =>
    Pat.undo_yes (some ⟨R, 0, none⟩) 32 _ (patP s.l n) W (bts_blk hW hUa hUl) hUl (by omega) hpr
  obtain ⟨U, hU⟩ : ∃ U, U = undoP (withL (fun m => decide (m < n)) s.f s.l) (patP s.l n) := ⟨_, rfl⟩
  have Hans : Hid (underT s.f s.l n = U.s) := by rw [hU]; rfl
  rw [← hU] at HU
  rw [Hans.out]
  rw [e3] at HU
  have HRo := Lib.hid hRo
  have hmf : ∀ (fn : Fn) (first cap : Array Value) (w : World), (Instr.makeFunc fn first cap).run Try.prog w = .ok (.func fn first cap) w := fun _ _ _ _ => rfl
  generalize withL (fun m => decide (m < n)) s.f s.l = mm at *
  clear hC hr0 hrise hl ho ho2 e1 e2 e3 hclo hRo hU hUa hpr hxs Hans hcb
  generalize lyn L j = q at *
  obtain ⟨qb, y, pb, po, ps⟩ := q
  obtain ⟨ub, uo, us⟩ := U
  unfold Ly.ptr at HA
  unfold Pat.Pt.v at HU
  unfold secV at HRo
  simp only at HA HU
  obtain ⟨R0, hR0⟩ : ∃ R0, R0 = Pat.bytesV mm := ⟨_, rfl⟩
  have HR0 := Lib.hid hR0
  have hsz2 : Hid ((Try.prog.info? 71).map (·.size) = some R0.toArray.size) := by unfold Hid; rw [hR0, List.size_toArray, Pat.length_bytesV, hUl]; exact size71
  have hone : Hid (R0.toArray.all (·.oneCell') = true) := by unfold Hid; rw [hR0]; exact all_oneCell_toArray (Pat.bytesV_one _)
  have hold : Hid ((Pat.bytesV (List.replicate 32 0)).toArray.size = R0.toArray.size) := by unfold Hid; rw [hR0, List.size_toArray, List.size_toArray, Pat.length_bytesV, Pat.length_bytesV, hUl]; rfl
  rw [← hR0] at HRo HU
  clear hR0 hUl
  go_enter Try.func19, Try.ntmps19
  go_wp2_with (first
    | (go_at_call 49; (with_reducible refine HA.out.mono ?_); rintro e w4 ⟨rfl, rfl⟩)
    | (go_at_call 42; (with_reducible refine HRo.out.mono ?_); rintro e w5 ⟨rfl, hb5⟩; have B5 := Lib.hid (Below.trans HB1.out (Below.mono hb5 HB1.out.size)); clear hb5)
    | (generalize hW : w5.alloc (Obj.cells _ 71) = w6; have b6 : Hid (w6.heap[w5.heap.size]? = some (.cells (Pat.bytesV (List.replicate 32 0)).toArray 71 (0, 0))) := (by rw [← hW]; exact heap_alloc_new w5 _); have B6 : Hid (Below w.heap.size w w6) := (by rw [← hW]; exact B5.out.alloc B5.out.size _); have b7 := Lib.hid (setRow_heap w6 w5.heap.size _ R0.toArray 71 (0, 0) b6.out); have B7 := Lib.hid (below_setRow B6.out B5.out.size R0.toArray); clear hW; refine wpList_store_row rfl 71 (.tmp 8) (.tmp 22) rfl w5.heap.size R0.toArray rfl rfl 71 _ b6.out hsz2.out hold.out hone.out ?_; generalize w6.setRow w5.heap.size R0.toArray = wr at *))
  -- what holds behind
  have HNx : Hid (∀ V, Below wr.heap.size wr V → (V.cell? ⟨qb, 0, none⟩ = some (.int .i64 pb) ∧ V.cell? ⟨qb, 1, none⟩ = some (.int .i64 po) ∧ V.cell? ⟨qb, 2, none⟩ = some (.string ps)) ∧ Pat.BlkIs V w5.heap.size 71 R0 ∧ Below w.heap.size w V) := fun V hV => by
    have hw := Below.trans B7.out (Below.mono hV B7.out.size)
    have hl := (HLay.out V hw).cells
    exact ⟨⟨hl.1, hl.2.1, hl.2.2.1⟩, (hV.block _ (Array.getElem?_eq_some_iff.1 b7.out).1).trans b7.out, hw⟩
  clear HLay
  have X0 := Lib.hid (HNx.out wr.drew (Below.refl _ _).drew).1
  have X1 := Lib.hid (HNx.out wr (Below.refl _ _)).1
  have BA := Lib.hid (show Below wr.heap.size wr (wr.alloc (.cells #[.int .i64 0, .int .i64 0, .string ⟨#[]⟩] 38)).drew from ((Below.refl _ _).alloc (Nat.le_refl _) _).drew)
  have XA := Lib.hid (HNx.out _ BA.out).1
  have QA : Hid (Pat.Boxed (wr.alloc (.cells #[.int .i64 0, .int .i64 0, .string ⟨#[]⟩] 38)).drew wr.heap.size Pat.zeroP) := Pat.boxed1 wr Pat.zeroP
  have HU0 := Lib.hid (HU.out wr.drew w5.heap.size (HNx.out wr.drew (Below.refl _ _).drew).2.1)
  have HUA := Lib.hid (HU.out _ w5.heap.size (HNx.out _ BA.out).2.1)
  have HSt : Hid (∀ (V : World) (d : Nat), Below wr.heap.size wr V → wr.heap.size ≤ d → Pat.Boxed V d Pat.zeroP → Below wr.heap.size wr (((V.setCell ⟨d, 0, none⟩ (.int .i64 ub)).setCell ⟨d, 1, none⟩ (.int .i64 uo)).setCell ⟨d, 2, none⟩ (.string us)) ∧ Pat.Boxed (((V.setCell ⟨d, 0, none⟩ (.int .i64 ub)).setCell ⟨d, 1, none⟩ (.int .i64 uo)).setCell ⟨d, 2, none⟩ (.string us)) d ⟨ub, uo, us⟩) := fun V d hV hd hq =>
    ⟨((hV.setCell (p := ⟨d, 0, none⟩) hd _).setCell (p := ⟨d, 1, none⟩) hd _).setCell (p := ⟨d, 2, none⟩) hd _, box_set hq ⟨ub, uo, us⟩⟩
  go_wp2_with fail
  go_region_held3 (fun V => V.cell? ⟨qb, 0, none⟩ = some (.int .i64 pb) ∧ V.cell? ⟨qb, 1, none⟩ = some (.int .i64 po) ∧ V.cell? ⟨qb, 2, none⟩ = some (.string ps))
    (first | exact X0.out | exact X1.out | exact XA.out | exact X6.out | exact X6a.out | exact X6u.out | exact Y7.out)
    (first
      | (go_at_call 51; (with_reducible refine HU0.out.mono ?_); rintro e w6 ⟨rfl, hb6⟩; have B6 := Lib.hid (show Below wr.heap.size wr w6 from ((Below.refl wr.heap.size wr).drew.trans hb6)); have X6 := Lib.hid (HNx.out w6 B6.out).1; have X6a := Lib.hid (HNx.out (w6.alloc (.cells #[.int .i64 0, .int .i64 0, .string ⟨#[]⟩] 38)) (B6.out.alloc B6.out.size _)).1; have B6u := Lib.hid (show Below wr.heap.size wr (w6.alloc (.cells #[.int .i64 ub, .int .i64 uo, .string us] 38)) from B6.out.alloc B6.out.size _); have X6u := Lib.hid (HNx.out _ B6u.out).1; clear hb6)
      | (go_at_call 51; (with_reducible refine HUA.out.mono ?_); rintro e w6 ⟨rfl, hb6⟩; have B6 := Lib.hid (Below.trans BA.out (Below.mono hb6 BA.out.size)); have X6 := Lib.hid (HNx.out w6 B6.out).1; have Q6 := Lib.hid (QA.out.below hb6 (Pat.BlkIs.lt QA.out)); have St6 := Lib.hid (HSt.out w6 wr.heap.size B6.out (Nat.le_refl _) Q6.out); have Y7 := Lib.hid (HNx.out _ St6.out.1).1; obtain ⟨q0, q1, q2⟩ := Q6.out.cells; simp only [Pat.zeroP] at q0 q1 q2; have qf := Q6.out.frozen; clear hb6)
      | fail)
  all_goals first
    | (have NX := Lib.hid (HNx.out _ St6.out.1).2.2
       have FBox := Lib.hid St6.out.2
       generalize (((w6.setCell ⟨wr.heap.size, 0, none⟩ (.int .i64 ub)).setCell ⟨wr.heap.size, 1, none⟩ (.int .i64 uo)).setCell ⟨wr.heap.size, 2, none⟩ (.string us)) = V at *
       generalize wr.heap.size = dd at *)
    | (have NX := Lib.hid (HNx.out _ B6u.out).2.2
       have FBox : Hid (Pat.Boxed (w6.alloc (.cells #[.int .i64 ub, .int .i64 uo, .string us] 38)) w6.heap.size ⟨ub, uo, us⟩) := Pat.boxed1 w6 ⟨ub, uo, us⟩
       generalize w6.alloc (.cells #[.int .i64 ub, .int .i64 uo, .string us] 38) = V at *
       generalize w6.heap.size = dd at *)
  all_goals
    obtain ⟨y0, y1, y2⟩ := FBox.out.cells
    have hdd := Pat.BlkIs.lt FBox.out
    simp only at y0 y1 y2
    go_wp2
    go_ret2
    exact ⟨rfl, NX.out⟩
end
end Go.Proofs.Ytibkipdadpidnaa
