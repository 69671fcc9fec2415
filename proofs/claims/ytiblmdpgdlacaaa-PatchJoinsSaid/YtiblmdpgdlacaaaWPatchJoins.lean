/- PatchJoins is true of every two patches, and leaves its arguments as they are. Conditions: none. Here: the walk of the law's text. -/
import Derived.Test.YtiblmdpgdlacaaaTB
namespace Go.Proofs.Ytiblmdpgdlacaaa
open Go.RowKit

theorem refjoin_early (p q : Pt) (w : World) (hp : p.ok) (hq : q.ok) (hn : p.both q = false) :
    Calls Try.prog 25 #[p.v, q.v] w fun e w' => e = .returned (.tuple #[zeroP.v, .bool false]) ∧ Below w.heap.size w w' := by
  have R1 := Lib.hid (fun W => refright_any p W hp)
  have R2 := Lib.hid (fun W => refright_any q W hq)
  have T0 := Lib.hid (St3.start w p q)
  have TN := Lib.hid (fun W (hB : Below (w.heap.size + 1 + 1 + 1) (((w.alloc (.cells p.cs.toArray 24)).alloc (.cells q.cs.toArray 24)).alloc (.cells zeroP.cs.toArray 24)) W) => T0.out.next (by simpa using hB))
  have HF : Hid (∀ W, St3 w p q W → W.cell? ⟨w.heap.size + 1 + 1, 0, none⟩ = some (.int .i64 0) ∧ W.cell? ⟨w.heap.size + 1 + 1, 1, none⟩ = some (.int .i64 0) ∧ W.cell? ⟨w.heap.size + 1 + 1, 2, none⟩ = some (.string ⟨#[]⟩) ∧ ∀ k, W.frozen? ⟨w.heap.size + 1 + 1, k, none⟩ = false) := fun W h => by
    obtain ⟨x, y, z⟩ := h.2.2.2.cells
    exact ⟨x, y, z, fun k => BlkIs.frozen h.2.2.2 k⟩
  have HE : Hid (∀ W, St3 w p q W → BlkIs (((W.setCell ⟨w.heap.size + 1 + 1, 0, none⟩ (.int .i64 0)).setCell ⟨w.heap.size + 1 + 1, 1, none⟩ (.int .i64 0)).setCell ⟨w.heap.size + 1 + 1, 2, none⟩ (.string ⟨#[]⟩)) (w.heap.size + 1 + 1) 24 zeroP.cs ∧
      Below w.heap.size w (((W.setCell ⟨w.heap.size + 1 + 1, 0, none⟩ (.int .i64 0)).setCell ⟨w.heap.size + 1 + 1, 1, none⟩ (.int .i64 0)).setCell ⟨w.heap.size + 1 + 1, 2, none⟩ (.string ⟨#[]⟩))) := fun W h =>
    ⟨((BlkIs.set_ h.2.2.2 0 _).set_ 1 _).set_ 2 _, ((h.1.setCell (p := ⟨w.heap.size + 1 + 1, 0, none⟩) (by simp; omega) (.int .i64 0)).setCell (p := ⟨w.heap.size + 1 + 1, 1, none⟩) (by simp; omega) (.int .i64 0)).setCell (p := ⟨w.heap.size + 1 + 1, 2, none⟩) (by simp; omega) (.string ⟨#[]⟩)⟩
  clear T0
  cases c1 : p.right with
  | false =>
    rw [c1] at R1
    clear c1 hp hq hn
    obtain ⟨b, o, s⟩ := p
    obtain ⟨b', o', s'⟩ := q
    unfold Pt.v at *
    simp only [Pt.cs, zeroP] at *
    go_enter Try.func25, Try.ntmps25
    go_wp2_with fail
    refine (R1.out _).mono ?_
    rintro e w1 ⟨rfl, hB1⟩
    have T1 := Lib.hid (TN.out _ (by simpa using hB1))
    obtain ⟨f0, f1, f2, f3⟩ := HF.out _ T1.out
    clear hB1
    go_wp2
    obtain ⟨hh, hB⟩ := HE.out _ T1.out
    refine bodyPost_ret (v := .tuple #[zeroP.v, .bool false]) ?_ rfl ⟨rfl, hB⟩
    exact results_cell_row_tmp rfl _ _ (w.heap.size + 1 + 1) 24 zeroP.cs.toArray (0, 0) _ rfl hh Try.underlying24 rfl info24 _ rfl
  | true =>
    cases c2 : q.right with
    | false =>
      rw [c1] at R1
      rw [c2] at R2
      clear c1 c2 hp hq hn
      obtain ⟨b, o, s⟩ := p
      obtain ⟨b', o', s'⟩ := q
      unfold Pt.v at *
      simp only [Pt.cs, zeroP] at *
      go_enter Try.func25, Try.ntmps25
      go_wp2_with fail
      refine (R1.out _).mono ?_
      rintro e w1 ⟨rfl, hB1⟩
      have T1 := Lib.hid (TN.out _ (by simpa using hB1))
      obtain ⟨e0, e1, e2, e3, e4, e5⟩ := T1.out.two.cells
      simp only at e0 e1 e2 e3 e4 e5
      clear hB1
      go_wp2_with fail
      refine (R2.out _).mono ?_
      rintro e w2 ⟨rfl, hB2⟩
      have T2 := Lib.hid (T1.out.next hB2)
      obtain ⟨f0, f1, f2, f3⟩ := HF.out _ T2.out
      clear hB2 e0 e1 e2 e3 e4 e5
      go_wp2
      obtain ⟨hh, hB⟩ := HE.out _ T2.out
      refine bodyPost_ret (v := .tuple #[zeroP.v, .bool false]) ?_ rfl ⟨rfl, hB⟩
      exact results_cell_row_tmp rfl _ _ (w.heap.size + 1 + 1) 24 zeroP.cs.toArray (0, 0) _ rfl hh Try.underlying24 rfl info24 _ rfl
    | true =>
      have hbb : (p.b == q.b) = false := by simpa [Pt.both, c1, c2] using hn
      rw [c1] at R1
      rw [c2] at R2
      clear c1 c2 hp hq hn
      obtain ⟨b, o, s⟩ := p
      obtain ⟨b', o', s'⟩ := q
      unfold Pt.v at *
      simp only [Pt.cs, zeroP] at *
      have hbn : ¬ b = b' := by simpa using hbb
      go_enter Try.func25, Try.ntmps25
      go_wp2_with fail
      refine (R1.out _).mono ?_
      rintro e w1 ⟨rfl, hB1⟩
      have T1 := Lib.hid (TN.out _ (by simpa using hB1))
      obtain ⟨e0, e1, e2, e3, e4, e5⟩ := T1.out.two.cells
      simp only at e0 e1 e2 e3 e4 e5
      clear hB1
      go_wp2_with fail
      refine (R2.out _).mono ?_
      rintro e w2 ⟨rfl, hB2⟩
      have T2 := Lib.hid (T1.out.next hB2)
      clear hB2 e0 e1 e2 e3 e4 e5
      obtain ⟨e0, e1, e2, e3, e4, e5⟩ := T2.out.two.cells
      simp only at e0 e1 e2 e3 e4 e5
      obtain ⟨f0, f1, f2, f3⟩ := HF.out _ T2.out
      go_wp2
      obtain ⟨hh, hB⟩ := HE.out _ T2.out
      refine bodyPost_ret (v := .tuple #[zeroP.v, .bool false]) ?_ rfl ⟨rfl, hB⟩
      exact results_cell_row_tmp rfl _ _ (w.heap.size + 1 + 1) 24 zeroP.cs.toArray (0, 0) _ rfl hh Try.underlying24 rfl info24 _ rfl

def joinA (p q : Pt) : Pt := if p.apart q then zeroP else joinP p q
theorem join_any (p q : Pt) (w : World) (hp : p.ok) (hq : q.ok) :
    Calls Try.prog 24 #[p.v, q.v] w fun e w' => e = .returned (.tuple #[(joinA p q).v, .bool (!p.apart q)]) ∧ Below w.heap.size w w' := by
  unfold joinA
  cases h : p.apart q
  · exact join_yes p q w hp hq h
  · exact join_no p q w hp hq h
theorem has_iff (p : Pt) (i : Nat) : p.has i = true ↔ p.o ≤ (i : Int) ∧ (i : Int) < p.o + p.s.size := by simp [Pt.has]
theorem two_has {p q : Pt} {F T i : Nat} (h : ((p.o ≤ (i : Int) ∧ (i : Int) < p.o + p.s.size) ∨ (q.o ≤ (i : Int) ∧ (i : Int) < q.o + q.s.size)) ↔ (F ≤ i ∧ i < T)) : (p.has i || q.has i) = (decide (F ≤ i) && decide (i < T)) := by
  rw [Bool.eq_iff_iff, Bool.or_eq_true, has_iff, has_iff, h, Bool.and_eq_true, decide_eq_true_eq, decide_eq_true_eq]
theorem refjoin_any (p q : Pt) (w : World) (hp : p.ok) (hq : q.ok) :
    Calls Try.prog 25 #[p.v, q.v] w fun e w' => e = .returned (.tuple #[(joinA p q).v, .bool (!p.apart q)]) ∧ Below w.heap.size w w' := by
  unfold joinA
  cases hb : p.both q with
  | false =>
    have h : p.apart q = true := by simp [Pt.apart, hb]
    rw [h]
    exact refjoin_early p q w hp hq hb
  | true =>
    obtain ⟨h1, h2, h3⟩ := Pt.both_out hb
    obtain ⟨p1, p2, p3, p4, p5, p6⟩ := Pt.right_out h1
    obtain ⟨q1, q2, q3, q4, q5, q6⟩ := Pt.right_out h2
    cases h : p.apart q with
    | false =>
      obtain ⟨_, _, _, h4, h5⟩ := apart_out h
      have hpe : p.e = p.o + p.s.size := rfl
      have hqe : q.e = q.o + q.s.size := rfl
      have := refjoin_run p q w (min p.o q.o).toNat (max p.e q.e).toNat 32 h1 h2 h3 (fun i _ => two_has (by omega)) (by omega) (by omega) (by omega) (by omega)
      exact this
    | true =>
      have h' : q.o + q.s.size < p.o ∨ p.o + p.s.size < q.o := by simpa [Pt.apart, hb] using h
      rcases h' with h4 | h4
      · have := refjoin_run p q w q.o.toNat (q.o.toNat + q.s.size) p.o.toNat h1 h2 h3 (fun i _ => two_has (by omega)) (by omega) (by omega) (by omega) (fun _ => ⟨by rw [Bool.or_eq_true, has_iff, has_iff]; omega, by omega⟩)
        rw [if_pos (by omega), decide_eq_true (show p.o.toNat < 32 by omega)] at this
        exact this
      · have := refjoin_run p q w p.o.toNat (p.o.toNat + p.s.size) q.o.toNat h1 h2 h3 (fun i _ => two_has (by omega)) (by omega) (by omega) (by omega) (fun _ => ⟨by rw [Bool.or_eq_true, has_iff, has_iff]; omega, by omega⟩)
        rw [if_pos (by omega), decide_eq_true (show q.o.toNat < 32 by omega)] at this
        exact this
theorem over_comm (p q : Pt) : p.over q = q.over p := by
  have hb : p.both q = q.both p := by
    unfold Pt.both
    rw [Bool.and_comm p.right, BEq.comm]
  unfold Pt.over
  rw [hb, Bool.and_assoc, Bool.and_assoc, Bool.and_comm (decide (p.o < q.o + q.s.size))]
end Go.Proofs.Ytiblmdpgdlacaaa
namespace Go.Proofs.Ytiblmdpgdlacaaa.patchJoins
open Go.RowKit

def Fm (w : World) (p q j : Pt) (g1 g2 : Nat) (W : World) : Prop := St2 w p q W ∧ Boxed W g1 j ∧ Boxed W g2 j
theorem Fm.next {w : World} {p q j : Pt} {g1 g2 : Nat} {W W' : World} (h : Fm w p q j g1 g2 W) (hB : Below W.heap.size W W') : Fm w p q j g1 g2 W' :=
  ⟨h.1.next hB, h.2.1.below hB (BlkIs.lt h.2.1), h.2.2.below hB (BlkIs.lt h.2.2)⟩

set_option maxRecDepth 100000 in
set_option linter.unusedSimpArgs false in
set_option maxHeartbeats 4000000 in
theorem walk (p q : Pt) (w : World) (hp : p.ok) (hq : q.ok) :
    Calls Try.prog 5 #[p.v, q.v] w fun e w' => e = .returned (.bool true) ∧ Below w.heap.size w w' := by
  have T0 := Lib.hid (St2.start w p q)
  have C1 := Lib.hid (fun W => join_any p q W hp hq)
  have C2 := Lib.hid (fun W => refjoin_any p q W hp hq)
  have K0 := Lib.hid live_any
  have K1 := Lib.hid (fun W => overlap_any p q W hp hq)
  have K2 := Lib.hid (fun W => refoverlap_any p q W hp hq)
  have K3 := Lib.hid (fun W => overlap_any q p W hq hp)
  rw [over_comm q p] at K3
  obtain ⟨j, hj⟩ : ∃ j, j = joinA p q := ⟨_, rfl⟩
  obtain ⟨ok, hok⟩ : ∃ ok, ok = !p.apart q := ⟨_, rfl⟩
  obtain ⟨ov, hov⟩ : ∃ ov, ov = p.over q := ⟨_, rfl⟩
  rw [← hj, ← hok] at C1 C2
  rw [← hov] at K1 K2 K3
  clear hj hok hov hp hq
  obtain ⟨b, o, s⟩ := p
  obtain ⟨b', o', s'⟩ := q
  obtain ⟨jb, jo, js⟩ := j
  unfold Pt.v at *
  simp only [Pt.cs] at *
  go_enter Try.func5, Try.ntmps5
  go_wp2_with fail
  refine (C1.out _).mono ?_
  rintro e w1 ⟨rfl, hB1⟩
  have hB1' := hB1.trans ((below_alloc1 w1 (.cells #[.int .i64 jb, .int .i64 jo, .string js] 24)).mono hB1.size)
  have T1 := Lib.hid (T0.out.next hB1')
  have X1 := Lib.hid (boxed1 w1 ⟨jb, jo, js⟩)
  clear hB1 hB1'
  obtain ⟨e0, e1, e2, e3, e4, e5⟩ := T1.out.cells
  simp only at e0 e1 e2 e3 e4 e5
  go_wp2_with fail
  refine (C2.out _).mono ?_
  rintro e w2 ⟨rfl, hB2⟩
  have hB2' := hB2.trans ((below_alloc1 w2 (.cells #[.int .i64 jb, .int .i64 jo, .string js] 24)).mono hB2.size)
  have HS0 : Fm w ⟨b, o, s⟩ ⟨b', o', s'⟩ ⟨jb, jo, js⟩ w1.heap.size w2.heap.size (w2.alloc (.cells #[.int .i64 jb, .int .i64 jo, .string js] 24)) := ⟨T1.out.next hB2', Boxed.below X1.out hB2' (BlkIs.lt X1.out), boxed1 w2 ⟨jb, jo, js⟩⟩
  have HS := Lib.hid (show Fm w ⟨b, o, s⟩ ⟨b', o', s'⟩ ⟨jb, jo, js⟩ w1.heap.size w2.heap.size (w2.alloc (.cells #[.int .i64 jb, .int .i64 jo, .string js] 24)).drew from ⟨HS0.1.drew, HS0.2⟩)
  clear hB2 hB2' HS0 e0 e1 e2 e3 e4 e5
  have HC : Hid (∀ W, Fm w ⟨b, o, s⟩ ⟨b', o', s'⟩ ⟨jb, jo, js⟩ w1.heap.size w2.heap.size W → W.cell? ⟨w.heap.size, 0, none⟩ = some (.int .i64 b) ∧ W.cell? ⟨w.heap.size, 1, none⟩ = some (.int .i64 o) ∧ W.cell? ⟨w.heap.size, 2, none⟩ = some (.string s) ∧ W.cell? ⟨w.heap.size + 1, 0, none⟩ = some (.int .i64 b') ∧ W.cell? ⟨w.heap.size + 1, 1, none⟩ = some (.int .i64 o') ∧ W.cell? ⟨w.heap.size + 1, 2, none⟩ = some (.string s') ∧ W.cell? ⟨w1.heap.size, 0, none⟩ = some (.int .i64 jb) ∧ W.cell? ⟨w1.heap.size, 1, none⟩ = some (.int .i64 jo) ∧ W.cell? ⟨w1.heap.size, 2, none⟩ = some (.string js) ∧ W.cell? ⟨w2.heap.size, 0, none⟩ = some (.int .i64 jb) ∧ W.cell? ⟨w2.heap.size, 1, none⟩ = some (.int .i64 jo) ∧ W.cell? ⟨w2.heap.size, 2, none⟩ = some (.string js)) := fun W h => by
    obtain ⟨x0, x1, x2, x3, x4, x5⟩ := h.1.cells
    obtain ⟨y0, y1, y2⟩ := h.2.1.cells
    obtain ⟨z0, z1, z2⟩ := h.2.2.cells
    exact ⟨x0, x1, x2, x3, x4, x5, y0, y1, y2, z0, z1, z2⟩
  have HN : Hid (∀ W W', Fm w ⟨b, o, s⟩ ⟨b', o', s'⟩ ⟨jb, jo, js⟩ w1.heap.size w2.heap.size W → Below W.heap.size W W' → Fm w ⟨b, o, s⟩ ⟨b', o', s'⟩ ⟨jb, jo, js⟩ w1.heap.size w2.heap.size W') := fun W W' h hB => h.next hB
  have X := Lib.hid (HC.out _ HS.out)
  go_wp2_with fail
  refine wp_region_held_drew (S := (fun W =>
      W.cell? ⟨w.heap.size, 0, none⟩ = some (.int .i64 b) ∧ W.cell? ⟨w.heap.size, 1, none⟩ = some (.int .i64 o) ∧ W.cell? ⟨w.heap.size, 2, none⟩ = some (.string s) ∧ W.cell? ⟨w.heap.size + 1, 0, none⟩ = some (.int .i64 b') ∧ W.cell? ⟨w.heap.size + 1, 1, none⟩ = some (.int .i64 o') ∧ W.cell? ⟨w.heap.size + 1, 2, none⟩ = some (.string s') ∧ W.cell? ⟨w1.heap.size, 0, none⟩ = some (.int .i64 jb) ∧ W.cell? ⟨w1.heap.size, 1, none⟩ = some (.int .i64 jo) ∧ W.cell? ⟨w1.heap.size, 2, none⟩ = some (.string js) ∧ W.cell? ⟨w2.heap.size, 0, none⟩ = some (.int .i64 jb) ∧ W.cell? ⟨w2.heap.size, 1, none⟩ = some (.int .i64 jo) ∧ W.cell? ⟨w2.heap.size, 2, none⟩ = some (.string js))) (by kernel_rfl) (X.out) (fun hHeld => ?_)
  refine wpAnyH_ready (rs := [0]) (by kernel_rfl) (by simp) ?_
  refine AllReadyH.cons rfl (fun K hK => ?_) AllReadyH.nil
  go_simp
  ((with_reducible refine (K0.out _).mono ?_); rintro e w9 ⟨rfl, hB9⟩; replace HS := Lib.hid (HN.out _ _ HS.out hB9); replace X := Lib.hid (HC.out _ HS.out))
  refine hK _ _ (X.out) (fun hHeld => ?_)
  clear hK K
  try simp only [Act.put, List.setIfInBounds_toArray, List.set_cons_zero, List.set_cons_succ]
  refine takeH (i := 1) (some 22) (v := ?_) rfl rfl (by kernel_rfl) (by kernel_rfl) (by kernel_rfl) (fun _ _ _ h => h) (by rfl) ?_ (by assumption) ?_
  rotate_left
  · (intro w hSw; (try dsimp only at hSw); go_simp; try with_reducible rfl)
  simp only [Act.put, List.setIfInBounds_toArray, List.set_cons_zero, List.set_cons_succ]
  refine takeH (i := 2) (some 23) (v := ?_) rfl rfl (by kernel_rfl) (by kernel_rfl) (by kernel_rfl) (fun _ _ _ h => h) (by rfl) ?_ (by assumption) ?_
  rotate_left
  · (intro w hSw; (try dsimp only at hSw); go_simp; try with_reducible rfl)
  simp only [Act.put, List.setIfInBounds_toArray, List.set_cons_zero, List.set_cons_succ]
  refine takeH (i := 3) (some 24) (v := ?_) rfl rfl (by kernel_rfl) (by kernel_rfl) (by kernel_rfl) (fun _ _ _ h => h) (by rfl) ?_ (by assumption) ?_
  rotate_left
  · (intro w hSw; (try dsimp only at hSw); go_simp; try with_reducible rfl)
  simp only [Act.put, List.setIfInBounds_toArray, List.set_cons_zero, List.set_cons_succ]
  refine takeH (i := 4) (some 25) (v := ?_) rfl rfl (by kernel_rfl) (by kernel_rfl) (by kernel_rfl) (fun _ _ _ h => h) (by rfl) ?_ (by assumption) ?_
  rotate_left
  · (intro w hSw; (try dsimp only at hSw); go_simp; try with_reducible rfl)
  simp only [Act.put, List.setIfInBounds_toArray, List.set_cons_zero, List.set_cons_succ]
  refine takeH (i := 5) (some 26) (v := ?_) rfl rfl (by kernel_rfl) (by kernel_rfl) (by kernel_rfl) (fun _ _ _ h => h) (by rfl) ?_ (by assumption) ?_
  rotate_left
  · (intro w hSw; (try dsimp only at hSw); go_simp; try with_reducible rfl)
  simp only [Act.put, List.setIfInBounds_toArray, List.set_cons_zero, List.set_cons_succ]
  refine takeH (i := 6) (some 27) (v := ?_) rfl rfl (by kernel_rfl) (by kernel_rfl) (by kernel_rfl) (fun _ _ _ h => h) (by rfl) ?_ (by assumption) ?_
  rotate_left
  · (intro w hSw; (try dsimp only at hSw); go_simp; try with_reducible rfl)
  simp only [Act.put, List.setIfInBounds_toArray, List.set_cons_zero, List.set_cons_succ]
  refine takeH (i := 7) (some 28) (v := ?_) rfl rfl (by kernel_rfl) (by kernel_rfl) (by kernel_rfl) (fun _ _ _ h => h) (by rfl) ?_ (by assumption) ?_
  rotate_left
  · (intro w hSw; (try dsimp only at hSw); go_simp; try with_reducible rfl)
  simp only [Act.put, List.setIfInBounds_toArray, List.set_cons_zero, List.set_cons_succ]
  refine takeH (i := 8) (some 29) (v := ?_) rfl rfl (by kernel_rfl) (by kernel_rfl) (by kernel_rfl) (fun _ _ _ h => h) (by rfl) ?_ (by assumption) ?_
  rotate_left
  · (intro w hSw; (try dsimp only at hSw); go_simp; try with_reducible rfl)
  simp only [Act.put, List.setIfInBounds_toArray, List.set_cons_zero, List.set_cons_succ]
  refine takeH (i := 9) (some 30) (v := ?_) rfl rfl (by kernel_rfl) (by kernel_rfl) (by kernel_rfl) (fun _ _ _ h => h) (by rfl) ?_ (by assumption) ?_
  rotate_left
  · (intro w hSw; (try dsimp only at hSw); go_simp; try with_reducible rfl)
  simp only [Act.put, List.setIfInBounds_toArray, List.set_cons_zero, List.set_cons_succ]
  refine takeH (i := 10) (some 31) (v := ?_) rfl rfl (by kernel_rfl) (by kernel_rfl) (by kernel_rfl) (fun _ _ _ h => h) (by rfl) ?_ (by assumption) ?_
  rotate_left
  · (intro w hSw; (try dsimp only at hSw); go_simp; try with_reducible rfl)
  simp only [Act.put, List.setIfInBounds_toArray, List.set_cons_zero, List.set_cons_succ]
  refine takeH (i := 11) (some 32) (v := ?_) rfl rfl (by kernel_rfl) (by kernel_rfl) (by kernel_rfl) (fun _ _ _ h => h) (by rfl) ?_ (by assumption) ?_
  rotate_left
  · (intro w hSw; (try dsimp only at hSw); go_simp; try with_reducible rfl)
  simp only [Act.put, List.setIfInBounds_toArray, List.set_cons_zero, List.set_cons_succ]
  refine takeH (i := 12) (some 33) (v := ?_) rfl rfl (by kernel_rfl) (by kernel_rfl) (by kernel_rfl) (fun _ _ _ h => h) (by rfl) ?_ (by assumption) ?_
  rotate_left
  · (intro w hSw; (try dsimp only at hSw); go_simp; try with_reducible rfl)
  simp only [Act.put, List.setIfInBounds_toArray, List.set_cons_zero, List.set_cons_succ]
  refine takeH (i := 13) (some 34) (v := ?_) rfl rfl (by kernel_rfl) (by kernel_rfl) (by kernel_rfl) (fun _ _ _ h => h) (by rfl) ?_ (by assumption) ?_
  rotate_left
  · (intro w hSw; (try dsimp only at hSw); go_simp; try with_reducible rfl)
  simp only [Act.put, List.setIfInBounds_toArray, List.set_cons_zero, List.set_cons_succ]
  refine takeH (i := 15) (some 36) (v := ?_) rfl rfl (by kernel_rfl) (by kernel_rfl) (by kernel_rfl) (fun _ _ _ h => h) (by rfl) ?_ (by assumption) ?_
  rotate_left
  · (intro w hSw; (try dsimp only at hSw); go_simp; try with_reducible rfl)
  simp only [Act.put, List.setIfInBounds_toArray, List.set_cons_zero, List.set_cons_succ]
  refine takeH (i := 16) (some 37) (v := ?_) rfl rfl (by kernel_rfl) (by kernel_rfl) (by kernel_rfl) (fun _ _ _ h => h) (by rfl) ?_ (by assumption) ?_
  rotate_left
  · (intro w hSw; (try dsimp only at hSw); go_simp; try with_reducible rfl)
  simp only [Act.put, List.setIfInBounds_toArray, List.set_cons_zero, List.set_cons_succ]
  refine wpAnyH_ready (rs := [14]) (by kernel_rfl) (by simp) ?_
  refine AllReadyH.cons rfl (fun K hK => ?_) AllReadyH.nil
  go_simp
  ((with_reducible refine (K1.out _).mono ?_); rintro e w9 ⟨rfl, hB9⟩; replace HS := Lib.hid (HN.out _ _ HS.out hB9); replace X := Lib.hid (HC.out _ HS.out))
  refine hK _ _ (X.out) (fun hHeld => ?_)
  clear hK K
  try simp only [Act.put, List.setIfInBounds_toArray, List.set_cons_zero, List.set_cons_succ]
  refine wpAnyH_ready (rs := [17]) (by kernel_rfl) (by simp) ?_
  refine AllReadyH.cons rfl (fun K hK => ?_) AllReadyH.nil
  go_simp
  ((with_reducible refine (K2.out _).mono ?_); rintro e w9 ⟨rfl, hB9⟩; replace HS := Lib.hid (HN.out _ _ HS.out hB9); replace X := Lib.hid (HC.out _ HS.out))
  refine hK _ _ (X.out) (fun hHeld => ?_)
  clear hK K
  try simp only [Act.put, List.setIfInBounds_toArray, List.set_cons_zero, List.set_cons_succ]
  refine takeH (i := 18) (some 39) (v := ?_) rfl rfl (by kernel_rfl) (by kernel_rfl) (by kernel_rfl) (fun _ _ _ h => h) (by rfl) ?_ (by assumption) ?_
  rotate_left
  · (intro w hSw; (try dsimp only at hSw); go_simp; try with_reducible rfl)
  simp only [Act.put, List.setIfInBounds_toArray, List.set_cons_zero, List.set_cons_succ]
  refine takeH (i := 19) (some 40) (v := ?_) rfl rfl (by kernel_rfl) (by kernel_rfl) (by kernel_rfl) (fun _ _ _ h => h) (by rfl) ?_ (by assumption) ?_
  rotate_left
  · (intro w hSw; (try dsimp only at hSw); go_simp; try with_reducible rfl)
  simp only [Act.put, List.setIfInBounds_toArray, List.set_cons_zero, List.set_cons_succ]
  refine takeH (i := 20) (some 41) (v := ?_) rfl rfl (by kernel_rfl) (by kernel_rfl) (by kernel_rfl) (fun _ _ _ h => h) (by rfl) ?_ (by assumption) ?_
  rotate_left
  · (intro w hSw; (try dsimp only at hSw); go_simp; try with_reducible rfl)
  simp only [Act.put, List.setIfInBounds_toArray, List.set_cons_zero, List.set_cons_succ]
  refine takeH (i := 21) (some 42) (v := ?_) rfl rfl (by kernel_rfl) (by kernel_rfl) (by kernel_rfl) (fun _ _ _ h => h) (by rfl) ?_ (by assumption) ?_
  rotate_left
  · (intro w hSw; (try dsimp only at hSw); go_simp; try with_reducible rfl)
  simp only [Act.put, List.setIfInBounds_toArray, List.set_cons_zero, List.set_cons_succ]
  refine takeH (i := 22) (some 43) (v := ?_) rfl rfl (by kernel_rfl) (by kernel_rfl) (by kernel_rfl) (fun _ _ _ h => h) (by rfl) ?_ (by assumption) ?_
  rotate_left
  · (intro w hSw; (try dsimp only at hSw); go_simp; try with_reducible rfl)
  simp only [Act.put, List.setIfInBounds_toArray, List.set_cons_zero, List.set_cons_succ]
  refine takeH (i := 24) (some 45) (v := ?_) rfl rfl (by kernel_rfl) (by kernel_rfl) (by kernel_rfl) (fun _ _ _ h => h) (by rfl) ?_ (by assumption) ?_
  rotate_left
  · (intro w hSw; (try dsimp only at hSw); go_simp; try with_reducible rfl)
  simp only [Act.put, List.setIfInBounds_toArray, List.set_cons_zero, List.set_cons_succ]
  refine takeH (i := 25) (some 46) (v := ?_) rfl rfl (by kernel_rfl) (by kernel_rfl) (by kernel_rfl) (fun _ _ _ h => h) (by rfl) ?_ (by assumption) ?_
  rotate_left
  · (intro w hSw; (try dsimp only at hSw); go_simp; try with_reducible rfl)
  simp only [Act.put, List.setIfInBounds_toArray, List.set_cons_zero, List.set_cons_succ]
  refine wpAnyH_ready (rs := [23]) (by kernel_rfl) (by simp) ?_
  refine AllReadyH.cons rfl (fun K hK => ?_) AllReadyH.nil
  go_simp
  ((with_reducible refine (K1.out _).mono ?_); rintro e w9 ⟨rfl, hB9⟩; replace HS := Lib.hid (HN.out _ _ HS.out hB9); replace X := Lib.hid (HC.out _ HS.out))
  refine hK _ _ (X.out) (fun hHeld => ?_)
  clear hK K
  try simp only [Act.put, List.setIfInBounds_toArray, List.set_cons_zero, List.set_cons_succ]
  refine wpAnyH_ready (rs := [26]) (by kernel_rfl) (by simp) ?_
  refine AllReadyH.cons rfl (fun K hK => ?_) AllReadyH.nil
  go_simp
  ((with_reducible refine (K3.out _).mono ?_); rintro e w9 ⟨rfl, hB9⟩; replace HS := Lib.hid (HN.out _ _ HS.out hB9); replace X := Lib.hid (HC.out _ HS.out))
  refine hK _ _ (X.out) (fun hHeld => ?_)
  clear hK K
  try simp only [Act.put, List.setIfInBounds_toArray, List.set_cons_zero, List.set_cons_succ]
  refine takeH (i := 27) (some 48) (v := ?_) rfl rfl (by kernel_rfl) (by kernel_rfl) (by kernel_rfl) (fun _ _ _ h => h) (by rfl) ?_ (by assumption) ?_
  rotate_left
  · (intro w hSw; (try dsimp only at hSw); go_simp; try with_reducible rfl)
  simp only [Act.put, List.setIfInBounds_toArray, List.set_cons_zero, List.set_cons_succ]
  refine takeH (i := 28) (some 49) (v := ?_) rfl rfl (by kernel_rfl) (by kernel_rfl) (by kernel_rfl) (fun _ _ _ h => h) (by rfl) ?_ (by assumption) ?_
  rotate_left
  · (intro w hSw; (try dsimp only at hSw); go_simp; try with_reducible rfl)
  simp only [Act.put, List.setIfInBounds_toArray, List.set_cons_zero, List.set_cons_succ]
  refine takeH (i := 29) (some 4) (v := ?_) rfl rfl (by kernel_rfl) (by kernel_rfl) (by kernel_rfl) (fun _ _ _ h => h) (by rfl) ?_ (by assumption) ?_
  rotate_left
  · (intro w hSw; (try dsimp only at hSw); go_simp; try with_reducible rfl)
  simp only [Act.put, List.setIfInBounds_toArray, List.set_cons_zero, List.set_cons_succ]
  refine wpAnyH_done (by kernel_rfl) ?_ _
  go_wp2
  go_ret
  exact ⟨by simp, HS.out.1.1⟩
end Go.Proofs.Ytiblmdpgdlacaaa.patchJoins
