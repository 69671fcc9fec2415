/- The program's Push, Pop, relink. -/
import Derived.Test.YtibkipdadpidnaaV
set_option linter.unusedVariables false
set_option linter.unusedSimpArgs false
namespace Go.Proofs.Ytibkipdadpidnaa
open Go.RowKit
open Pat (Pt AllB undoP nth)
theorem topV_ptr (L : List Ly) : ∃ o, topV L = .pointer o := by
  unfold topV
  cases L.getLast? with
  | none => exact ⟨none, rfl⟩
  | some q => exact ⟨_, rfl⟩
section
variable (B g : Nat) (L : List Ly) (s : Sk) (w : World)
set_option maxRecDepth 100000 in
set_option maxHeartbeats 1000000 in
theorem ppop_yes (x : On) (hC : StkAt B w g L s) (n : Nat) (hn : s.l.length = n + 1) (hx : onn s.l n = x) : Calls Try.prog 20 #[.pointer (some ⟨g, 0, none⟩)] w fun e w' => e = .returned (.tuple #[x.p.v, .int .i64 0]) ∧ PW B w g (popS s) w' := by
  have hLl : L.length = n + 1 := by rw [hC.llen, hn]
  have hq : (lyn L n).x = x := by rw [hC.lyx (by omega), hx]
  have hlay := hC.ch n (by omega)
  obtain ⟨d0, d1, d2, d3, d4⟩ := hlay.cells
  have hb := hlay.lt
  have t3 := hC.top
  have hg := hC.glt
  have hf := hC.free 33
  have htop : topV L = (lyn L n).ptr := by
    have := topV_take (L := L) (k := n) (by omega)
    rwa [List.take_of_length_le (by omega)] at this
  rw [htop] at t3
  have hd : s.l.dropLast = s.l.take n := by rw [List.dropLast_eq_take, hn]; rfl
  have hST := stk_top (l2 := s.l.take n) hC (Below.refl _ _) (hC.ch.take n) (by rw [List.map_take, hC.xs])
  have hgq : g ≠ (lyn L n).b := fun e => by
    have h1 := hC.head
    rw [e] at h1
    have := h1.symm.trans hlay
    simp only [Option.some.injEq, Obj.cells.injEq] at this
    exact absurd this.2.1 (by decide)
  have HF : Hid (PW B w g (popS s) ((w.setCell ⟨g, 33, none⟩ (topV (L.take n))).alloc (.cells #[.int .i64 x.p.b, .int .i64 x.p.o, .string x.p.s] 38))) := by
    have hb1 : Below (w.setCell ⟨g, 33, none⟩ (topV (L.take n))).heap.size (w.setCell ⟨g, 33, none⟩ (topV (L.take n))) ((w.setCell ⟨g, 33, none⟩ (topV (L.take n))).alloc (.cells #[.int .i64 x.p.b, .int .i64 x.p.o, .string x.p.s] 38)) := (Below.refl _ _).alloc (Nat.le_refl _) _
    exact ⟨⟨L.take n, by unfold popS; rw [hd]; exact hST.1.fresh hb1⟩, hST.2.trans (Kept.fresh (S := fun b => b = g) hb1) (fun b e => .inl e)⟩
  have HX : Hid (Pat.Boxed ((w.setCell ⟨g, 33, none⟩ (topV (L.take n))).alloc (.cells #[.int .i64 x.p.b, .int .i64 x.p.o, .string x.p.s] 38)) w.heap.size x.p) := by
    have := Pat.boxed1 (w.setCell ⟨g, 33, none⟩ (topV (L.take n))) x.p
    rwa [World.size_setCell] at this
  obtain ⟨V, hV⟩ := topV_ptr (L.take n)
  rw [hV] at d4 HF HX
  rw [← hq] at HF HX
  rw [← hq]
  clear hC hn hx hlay htop hd hST hV hq
  generalize lyn L n = q at *
  obtain ⟨qb, y, pb, po, ps⟩ := q
  unfold Ly.ptr at *
  unfold Pat.Pt.v
  simp only at *
  go_enter Try.func20, Try.ntmps20
  go_wp2
  refine bodyPost_ret (v := .tuple #[(⟨pb, po, ps⟩ : Pt).v, .int .i64 0]) ?_ rfl ⟨rfl, HF.out⟩
  exact Pat.results_cell_row_tmp rfl _ _ w.heap.size 38 (⟨pb, po, ps⟩ : Pt).cs.toArray (0, 0) _ rfl HX.out Try.underlying38 rfl Pat.info38 _ rfl
set_option maxRecDepth 100000 in
set_option maxHeartbeats 1000000 in
theorem ppush_no (p : Pt) (hC : StkAt B w g L s) (hp : p.ok) (hr0 : p.right = false) : Calls Try.prog 18 #[.pointer (some ⟨g, 0, none⟩), p.v] w fun e w' => e = .returned (.tuple #[.int .i64 0, .int .i64 3]) ∧ PW B w g s w' := by
  have HF : Hid (∀ w', Below w.heap.size w w' → PW B w g s w') := fun w' h => hC.pw h
  have HR := Lib.hid (fun W => Pat.right_any p W hp)
  have HB : Hid (Below w.heap.size w (w.alloc (.cells p.cs.toArray 38))) := Pat.below_alloc1 w _
  have hnot : ∀ (x : Bool) (w : World), (Op.unary .not (.bool x)).run Try.prog w = .ok (.bool (!x)) w := fun _ _ => rfl
  rw [hr0] at HR
  clear hC hp hr0
  obtain ⟨pb, po, ps⟩ := p
  unfold Pat.Pt.v at *
  simp only [Pat.Pt.cs] at *
  go_enter Try.func18, Try.ntmps18
  go_wp2_with (go_at_call 47; refine (HR.out _).mono ?_; rintro e w1 ⟨rfl, hb1⟩; have B1 := Lib.hid (HF.out w1 (Below.trans HB.out (Below.mono hb1 HB.out.size))); clear hb1)
  go_ret2
  exact ⟨rfl, B1.out⟩
set_option maxRecDepth 100000 in
set_option maxHeartbeats 2000000 in
theorem ppush_yes (p : Pt) (hC : StkAt B w g L s) (hl : s.l.length ≤ 190) (hk0 : 0 ≤ s.k) (hk1 : s.k < 100000000) (hr0 : p.right = true) : Calls Try.prog 18 #[.pointer (some ⟨g, 0, none⟩), p.v] w fun e w' => e = .returned (.tuple #[.int .i64 s.k, .int .i64 0]) ∧ PW B w g (pushS s p) w' := by
  have HR := Lib.hid (fun W => Pat.right_any p W (Pat.ok_of hr0))
  have HB : Hid (Below w.heap.size w (w.alloc (.cells p.cs.toArray 38))) := Pat.below_alloc1 w _
  have HX : Hid (∀ w1, Below (w.alloc (.cells p.cs.toArray 38)).heap.size (w.alloc (.cells p.cs.toArray 38)) w1 → Pat.Boxed w1 w.heap.size p) := fun w1 h => (Pat.boxed1 w p).below h (by simp)
  have hnot : ∀ (x : Bool) (w : World), (Op.unary .not (.bool x)).run Try.prog w = .ok (.bool (!x)) w := fun _ _ => rfl
  have HC := Lib.hid hC
  have hLl : L.length = s.l.length := hC.llen
  rw [hr0] at HR
  have HRs : Hid (∀ W, Below w.heap.size w W → Calls Try.prog 48 #[.agg #[.int .i64 s.k, topV L]] W fun e w' => ∃ A c, e = .returned (.slice A L.length c) ∧ RowP w' W.heap.size A c L ∧ Below W.heap.size W w') := fun W hW => rising_any L s.k W (hC.fresh hW).ch (by omega)
  have hl2 : ¬ ((200 : Int) ≤ (L.length : Int)) := by omega
  have hwk : IntKind.i64.wrap (s.k + 1) = s.k + 1 := IntWalk.i64_in _ (by omega)
  clear hC
  obtain ⟨pb, po, ps⟩ := p
  have HFn : Hid (∀ V, Below w.heap.size w V → StkAt B V g L s → PW B w g (pushS s ⟨pb, po, ps⟩) ((((V.setCell ⟨g, 32, none⟩ (.int .i64 (s.k + 1))).setCell ⟨g, 33, none⟩ (.pointer (some ⟨V.heap.size, 0, none⟩))).alloc (.cells #[.int .i64 pb, .int .i64 po, .string ps, .int .i64 s.k, topV L] 84)).drew)) := fun V hV hS => by
    have k1 := stk_num (s.k + 1) hS
    have hk2 := Kept.set (V.setCell ⟨g, 32, none⟩ (.int .i64 (s.k + 1))) g 33 (.pointer (some ⟨V.heap.size, 0, none⟩))
    have hz : ((V.setCell ⟨g, 32, none⟩ (.int .i64 (s.k + 1))).setCell ⟨g, 33, none⟩ (.pointer (some ⟨V.heap.size, 0, none⟩))).heap.size = V.heap.size := by simp
    have hh : ((V.setCell ⟨g, 32, none⟩ (.int .i64 (s.k + 1))).setCell ⟨g, 33, none⟩ (.pointer (some ⟨V.heap.size, 0, none⟩))).heap[g]? = some (.cells (Pat.bytesV s.f ++ [Value.int .i64 (s.k + 1), Value.pointer (some ⟨V.heap.size, 0, none⟩)]).toArray 82 (0, 0)) := by
      rw [heap_setCell_same _ g 33 _ 82 _ k1.1.head]
      congr 1
      congr 1
      have hl : (Pat.bytesV s.f).length = 32 := by rw [Pat.length_bytesV, hS.len]
      rw [show (33 : Nat) = (Pat.bytesV s.f).length + 1 by omega]
      simp
    have hch := k1.1.ch.keep hk2 (fun b e => by rw [e]; exact k1.1.isHead)
    generalize (V.setCell ⟨g, 32, none⟩ (.int .i64 (s.k + 1))).setCell ⟨g, 33, none⟩ (.pointer (some ⟨V.heap.size, 0, none⟩)) = W2 at *
    have hb3 : Below W2.heap.size W2 (W2.alloc (.cells #[.int .i64 pb, .int .i64 po, .string ps, .int .i64 s.k, topV L] 84)).drew := ((Below.refl _ _).alloc (Nat.le_refl _) _).drew
    have hlay : LayAt (W2.alloc (.cells #[.int .i64 pb, .int .i64 po, .string ps, .int .i64 s.k, topV L] 84)).drew ⟨V.heap.size, ⟨s.k, ⟨pb, po, ps⟩⟩⟩ (topV L) := by
      have := heap_alloc_new W2 (.cells #[.int .i64 pb, .int .i64 po, .string ps, .int .i64 s.k, topV L] 84)
      rw [hz] at this
      exact this
    refine ⟨⟨L ++ [⟨V.heap.size, ⟨s.k, ⟨pb, po, ps⟩⟩⟩], ?_, (hch.fresh hb3).snoc hlay, ?_, hS.lo, hS.len, hS.all⟩, ?_⟩
    · rw [topV_snoc]
      exact (hb3.block g (by rw [hz]; exact hS.glt)).trans hh
    · rw [List.map_append, hS.xs]; rfl
    · exact ((Kept.fresh (S := fun b => b = g) hV).trans (k1.2.trans hk2 (fun b e => .inl e)) (fun b e => .inl e)).trans (Kept.fresh (S := fun b => b = g) hb3) (fun b e => .inl e)
  unfold Pat.Pt.v at *
  simp only [Pat.Pt.cs] at *
  go_enter Try.func18, Try.ntmps18
  go_wp2_with (first
    | (go_at_call 47; (with_reducible refine (HR.out _).mono ?_); rintro e w1 ⟨rfl, hb1⟩; have B1 := Lib.hid (Below.trans HB.out (Below.mono hb1 HB.out.size)); have X1 := Lib.hid (HX.out w1 hb1); have t2 := (HC.out.fresh B1.out).num; have t3 := (HC.out.fresh B1.out).top; have hg1 := (HC.out.fresh B1.out).glt; clear hb1)
    | (go_at_call 48; (with_reducible refine (HRs.out _ B1.out).mono ?_); rintro e w2 ⟨A3, c3, rfl, hr3, hb3⟩; have B2 := Lib.hid (Below.trans B1.out (Below.mono hb3 B1.out.size)); have X2 := Lib.hid (X1.out.below hb3 (Pat.BlkIs.lt X1.out)); clear hr3 hb3))
  obtain ⟨p0, p1, p2⟩ := X2.out.cells
  simp only at p0 p1 p2
  have C2 := Lib.hid (HC.out.fresh B2.out)
  have t2' := C2.out.num
  have t3' := C2.out.top
  have hg2 := C2.out.glt
  have f32 := C2.out.free 32
  have f33 := C2.out.free 33
  have hpz := Pat.BlkIs.lt X2.out
  clear t2 t3 hg1
  go_region
  go_wp2
  go_ret2
  exact ⟨rfl, HFn.out w2 B2.out C2.out⟩
end
end Go.Proofs.Ytibkipdadpidnaa
