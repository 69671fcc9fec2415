/- The program's Get, Waiting, Needs, Push, Pop. -/
import Derived.Test.YtibkipdadpidnaaS
set_option linter.unusedVariables false
set_option linter.unusedSimpArgs false
namespace Go.Proofs.Ytibkipdadpidnaa
open Go.RowKit
open Pat (Pt AllB undoP nth)
/-- what a call that writes to the program's stack leaves -/
def PW (B : Nat) (w : World) (g : Nat) (s : Sk) (w' : World) : Prop := (∃ L, StkAt B w' g L s) ∧ Kept w w' (fun b => b = g)
theorem StkAt.pw {B : Nat} {w w' : World} {g : Nat} {L : List Ly} {s : Sk} (h : StkAt B w g L s) (hb : Below w.heap.size w w') : PW B w g s w' := ⟨⟨_, h.fresh hb⟩, Kept.fresh hb⟩
theorem stk_top {B : Nat} {w V : World} {g : Nat} {L L2 : List Ly} {s : Sk} {l2 : List On} (h : StkAt B w g L s) (hb : Below w.heap.size w V) (hc : Chain V L2) (hx : L2.map (·.x) = l2) :
    StkAt B (V.setCell ⟨g, 33, none⟩ (topV L2)) g L2 ⟨s.f, l2, s.k⟩ ∧ Kept w (V.setCell ⟨g, 33, none⟩ (topV L2)) (fun b => b = g) := by
  have h4 := h.fresh hb
  have hk := Kept.set V g 33 (topV L2)
  refine ⟨⟨?_, hc.keep hk (fun b e => by rw [e]; exact h4.isHead), hx, h.lo, h.len, h.all⟩, (Kept.fresh hb).trans hk (fun b e => .inl e)⟩
  rw [heap_setCell_same V g 33 _ 82 _ h4.head]
  congr 1
  congr 1
  have hl : (Pat.bytesV s.f).length = 32 := by rw [Pat.length_bytesV, h.len]
  rw [show (33 : Nat) = (Pat.bytesV s.f).length + 1 by omega]
  simp
theorem stk_num {B : Nat} {w : World} {g : Nat} {L : List Ly} {s : Sk} (k : Int) (h : StkAt B w g L s) :
    StkAt B (w.setCell ⟨g, 32, none⟩ (.int .i64 k)) g L ⟨s.f, s.l, k⟩ ∧ Kept w (w.setCell ⟨g, 32, none⟩ (.int .i64 k)) (fun b => b = g) := by
  have hk := Kept.set w g 32 (.int .i64 k)
  refine ⟨⟨?_, h.ch.keep hk (fun b e => by rw [e]; exact h.isHead), h.xs, h.lo, h.len, h.all⟩, hk⟩
  rw [heap_setCell_same w g 32 _ 82 _ h.head]
  congr 1
  congr 1
  have hl : (Pat.bytesV s.f).length = 32 := by rw [Pat.length_bytesV, h.len]
  rw [show (32 : Nat) = (Pat.bytesV s.f).length by omega]
  simp
theorem isOn_at {L : List Ly} {n : Int} (h : isOn (xsL L) n = true) (hr : RiseO (xsL L)) : ∃ j, j < L.length ∧ (lyn L j).x.n = n ∧ (∀ i, j < i → i < L.length → (lyn L i).x.n ≠ n) ∧ patP (xsL L) n = (lyn L j).x.p := by
  obtain ⟨x, hx, rfl⟩ := isOn_iff.1 h
  obtain ⟨q, hq, rfl⟩ := List.mem_map.1 hx
  obtain ⟨j, hj, rfl⟩ := mem_lyn hq
  refine ⟨j, hj, rfl, fun i h1 h2 e => ?_, patP_mem hr (xsL_mem (lyn_mem hj))⟩
  have hp := List.pairwise_iff_getElem.1 hr j i (by rw [length_xsL]; exact hj) (by rw [length_xsL]; exact h2) h1
  have e1 : (xsL L)[j]'(by rw [length_xsL]; exact hj) = (lyn L j).x := by simp [xsL, lyn_lt hj]
  have e2 : (xsL L)[i]'(by rw [length_xsL]; exact h2) = (lyn L i).x := by simp [xsL, lyn_lt h2]
  rw [e1, e2, e] at hp
  omega
theorem off_at {L : List Ly} {n : Int} (h : isOn (xsL L) n = false) : ∀ q ∈ L, q.x.n ≠ n := fun q hq e => by
  rw [isOn_iff.2 ⟨_, xsL_mem hq, e⟩] at h; cases h
section
variable (B g : Nat) (L : List Ly) (s : Sk) (n : Int) (w : World)
set_option maxRecDepth 100000 in
set_option maxHeartbeats 1000000 in
theorem pget_any (hC : StkAt B w g L s) (hr : RiseO s.l) : Calls Try.prog 26 #[.pointer (some ⟨g, 0, none⟩), .int .i64 n] w fun e w' => e = .returned (.tuple #[(patP s.l n).v, .bool (isOn s.l n)]) ∧ Below w.heap.size w w' := by
  have hxs : xsL L = s.l := hC.xs
  have HB1 : Hid (Below w.heap.size w (w.alloc (.cells #[.int .i64 0, .int .i64 0, .string ⟨#[]⟩] 38))) := (Below.refl _ _).alloc (Nat.le_refl _) _
  cases ho : isOn s.l n with
  | true =>
    rw [← hxs] at ho hr
    obtain ⟨j, hj, e1, e2, e3⟩ := isOn_at ho hr
    rw [← hxs, e3]
    have HA := Lib.hid (ask_yes B g L s n _ (hC.fresh HB1.out) j hj e1 e2)
    have hlay := (hC.fresh HB1.out).ch j hj
    obtain ⟨d0, d1, d2, _⟩ := hC.ch j hj |>.cells
    have hb := (hC.ch j hj).lt
    generalize lyn L j = q at *
    obtain ⟨qb, y, pb, po, ps⟩ := q
    unfold Ly.ptr at HA
    unfold Pat.Pt.v
    simp only at *
    have HX : Hid (Pat.Boxed (w.alloc (.cells #[.int .i64 pb, .int .i64 po, .string ps] 38)) w.heap.size ⟨pb, po, ps⟩ ∧ Below w.heap.size w (w.alloc (.cells #[.int .i64 pb, .int .i64 po, .string ps] 38))) := ⟨Pat.boxed1 w ⟨pb, po, ps⟩, (Below.refl _ _).alloc (Nat.le_refl _) _⟩
    clear hC hr hxs ho e1 e2 e3 hlay HB1
    go_enter Try.func26, Try.ntmps26
    go_wp2_with (refine HA.out.mono ?_; rintro e w5 ⟨rfl, rfl⟩)
    go_wp2
    refine bodyPost_ret (v := .tuple #[(⟨pb, po, ps⟩ : Pt).v, .bool true]) ?_ rfl ⟨rfl, HX.out.2⟩
    exact Pat.results_cell_row_tmp rfl _ _ w.heap.size 38 (⟨pb, po, ps⟩ : Pt).cs.toArray (0, 0) _ rfl HX.out.1 Try.underlying38 rfl Pat.info38 _ rfl
  | false =>
    have hz : patP s.l n = Pat.zeroP := by
      have : getP s.l n = none := by simpa [isOn] using ho
      unfold patP; rw [this]; rfl
    rw [← hxs] at ho
    have HA := Lib.hid (ask_no B g L s n _ (hC.fresh HB1.out) (off_at ho))
    have HX : Hid (Pat.Boxed (w.alloc (.cells #[.int .i64 0, .int .i64 0, .string ⟨#[]⟩] 38)) w.heap.size Pat.zeroP) := Pat.boxed1 w Pat.zeroP
    rw [hz]
    clear hC hr hxs ho hz
    go_enter Try.func26, Try.ntmps26
    go_wp2_with (refine HA.out.mono ?_; rintro e w5 ⟨rfl, rfl⟩)
    go_wp2
    refine bodyPost_ret (v := .tuple #[Pat.zeroP.v, .bool false]) ?_ rfl ⟨rfl, HB1.out⟩
    exact Pat.results_cell_row_tmp rfl _ _ w.heap.size 38 Pat.zeroP.cs.toArray (0, 0) _ rfl HX.out Try.underlying38 rfl Pat.info38 _ rfl
set_option maxRecDepth 100000 in
set_option maxHeartbeats 1000000 in
theorem pwaiting_any (hC : StkAt B w g L s) (hl : s.l.length ≤ 900) : Calls Try.prog 21 #[.pointer (some ⟨g, 0, none⟩)] w fun e w' => ∃ A c, e = .returned (.slice A (nums s.l).length c) ∧ RowI w' w.heap.size A c (nums s.l) ∧ Below w.heap.size w w' := by
  have hxs : xsL L = s.l := hC.xs
  have hLl : L.length ≤ 900 := by rw [hC.llen]; exact hl
  have HR := Lib.hid (rising_any L s.k w hC.ch hLl)
  have HN : Hid (∀ W A c, Below w.heap.size w W → RowP W w.heap.size A c L → Calls Try.prog 52 #[.slice A L.length c] W fun e w' => ∃ A' c', e = .returned (.slice A' (nums s.l).length c') ∧ RowI w' W.heap.size A' c' (nums s.l) ∧ Below W.heap.size W w') := fun W A c hW hR => by
    have := numbers_any w.heap.size A c L W hR (hC.fresh hW).ch.lays hLl
    rwa [hxs] at this
  have t2 := hC.num
  have t3 := hC.top
  have hg := hC.glt
  clear hC hxs
  go_enter Try.func21, Try.ntmps21
  go_wp2_with (first
    | (go_at_call 48; (with_reducible refine HR.out.mono ?_); rintro e w3 ⟨A3, c3, rfl, hr3, hb3⟩; have R3 := Lib.hid hr3; have B3 := Lib.hid hb3; clear hr3 hb3)
    | (go_at_call 52; (with_reducible refine (HN.out _ _ _ B3.out R3.out).mono ?_); rintro e w4 ⟨A4, c4, rfl, hr4, hb4⟩; have R4 := Lib.hid hr4; have B4 := Lib.hid hb4; clear hr4 hb4))
  go_ret
  exact ⟨A4, c4, rfl, Pat.base_le R4.out B3.out.size, Below.trans B3.out (Below.mono B4.out B3.out.size)⟩
set_option maxRecDepth 100000 in
set_option maxHeartbeats 1000000 in
theorem pneeds_any (hC : StkAt B w g L s) (hr0 : Rights s.l) (hr : RiseO s.l) (hl : s.l.length ≤ 900) : Calls Try.prog 25 #[.pointer (some ⟨g, 0, none⟩), .int .i64 n] w fun e w' => ∃ A c, e = .returned (.slice A (needsL s.l n).length c) ∧ RowI w' w.heap.size A c (needsL s.l n) ∧ Below w.heap.size w w' := by
  have hxs : xsL L = s.l := hC.xs
  have hLl : L.length ≤ 900 := by rw [hC.llen]; exact hl
  cases ho : isOn s.l n with
  | true =>
    rw [← hxs] at ho hr hr0
    obtain ⟨j, hj, e1, e2, e3⟩ := isOn_at ho hr
    have HA := Lib.hid (ask_yes B g L s n w hC j hj e1 e2)
    have HN := Lib.hid (needsOf_any L j hj w hC.ch (fun q hq => hr0 _ (xsL_mem hq)) hLl)
    have hY := needY_is hj hr
    rw [e1] at hY
    have hly : (needY L j).length ≤ 900 := by
      have h1 := List.length_filter_le (fun q : Ly => !(!meetP (lyn L j).x.p q.x.p)) (L.take j)
      have h2 := List.length_take_le j L
      unfold needY; omega
    have HM : Hid (∀ W A c, Below w.heap.size w W → RowP W w.heap.size A c (needY L j) → Calls Try.prog 52 #[.slice A (needY L j).length c] W fun e w' => ∃ A' c', e = .returned (.slice A' (needsL s.l n).length c') ∧ RowI w' W.heap.size A' c' (needsL s.l n) ∧ Below W.heap.size W w') := fun W A c hW hR => by
      have := numbers_any w.heap.size A c (needY L j) W hR (fun q hq => (hC.fresh hW).ch.lays q (List.mem_of_mem_take (List.mem_filter.1 hq).1)) hly
      rwa [hY, hxs] at this
    generalize needY L j = N at *
    generalize needsL s.l n = M at *
    unfold Ly.ptr at HA HN
    clear hC hr hr0 hxs ho e1 e2 e3 hY
    go_enter Try.func25, Try.ntmps25
    go_wp2_with (first
      | (go_at_call 49; (with_reducible refine HA.out.mono ?_); rintro e w5 ⟨rfl, rfl⟩)
      | (go_at_call 58; (with_reducible refine HN.out.mono ?_); rintro e w3 ⟨A3, c3, rfl, hr3, hb3⟩; have R3 := Lib.hid hr3; have B3 := Lib.hid hb3; clear hr3 hb3)
      | (go_at_call 52; (with_reducible refine (HM.out _ _ _ B3.out R3.out).mono ?_); rintro e w4 ⟨A4, c4, rfl, hr4, hb4⟩; have R4 := Lib.hid hr4; have B4 := Lib.hid hb4; clear hr4 hb4))
    go_ret
    exact ⟨A4, c4, rfl, Pat.base_le R4.out B3.out.size, Below.trans B3.out (Below.mono B4.out B3.out.size)⟩
  | false =>
    have hz : needsL s.l n = [] := by unfold needsL; rw [if_neg (by rw [ho]; decide)]
    rw [← hxs] at ho
    have HA := Lib.hid (ask_no B g L s n w hC (off_at ho))
    rw [hz]
    clear hC hr hr0 hxs ho hz
    go_enter Try.func25, Try.ntmps25
    go_wp2_with (go_at_call 49; (with_reducible refine HA.out.mono ?_); rintro e w5 ⟨rfl, rfl⟩)
    go_ret
    exact ⟨none, 0, rfl, World.ownsRow_nil _ _ _ _, Below.refl _ _⟩
set_option maxRecDepth 100000 in
set_option maxHeartbeats 1000000 in
theorem ppop_none (hC : StkAt B w g L s) (hn : s.l = []) : Calls Try.prog 20 #[.pointer (some ⟨g, 0, none⟩)] w fun e w' => e = .returned (.tuple #[Pat.zeroP.v, .int .i64 5]) ∧ PW B w g s w' := by
  have HF : Hid (∀ w', Below w.heap.size w w' → PW B w g s w') := fun w' h => hC.pw h
  have hL : L = [] := List.eq_nil_of_length_eq_zero (by rw [hC.llen, hn]; rfl)
  have HB1 : Hid (Below w.heap.size w (w.alloc (.cells #[.int .i64 0, .int .i64 0, .string ⟨#[]⟩] 38))) := (Below.refl _ _).alloc (Nat.le_refl _) _
  have HX : Hid (Pat.Boxed (w.alloc (.cells #[.int .i64 0, .int .i64 0, .string ⟨#[]⟩] 38)) w.heap.size Pat.zeroP) := Pat.boxed1 w Pat.zeroP
  have t3 := hC.top
  have hg := hC.glt
  rw [hL, topV_nil] at t3
  clear hC hn hL
  go_enter Try.func20, Try.ntmps20
  go_wp2
  refine bodyPost_ret (v := .tuple #[Pat.zeroP.v, .int .i64 5]) ?_ rfl ⟨rfl, HF.out _ HB1.out⟩
  exact Pat.results_cell_row_tmp rfl _ _ w.heap.size 38 Pat.zeroP.cs.toArray (0, 0) _ rfl HX.out Try.underlying38 rfl Pat.info38 _ rfl
end
end Go.Proofs.Ytibkipdadpidnaa
