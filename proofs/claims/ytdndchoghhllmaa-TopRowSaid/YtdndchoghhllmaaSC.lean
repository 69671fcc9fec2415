/- Deeds on both groups, one behind the other; what must be whatever is asked. -/
import Derived.Test.YtdndchoghhllmaaSB
set_option linter.unusedVariables false
set_option linter.unusedSimpArgs false
namespace Go.Proofs.Ytdndchoghhllmaa
open Go.RowKit
def ddn (ds : List Dd) (j : Nat) : Dd := ds.getD j ⟨0, 0, 0⟩
theorem ddn_lt {ds : List Dd} {j : Nat} (h : j < ds.length) : ddn ds j = ds[j] := by
  unfold ddn; rw [List.getD_eq_getElem?_getD, List.getElem?_eq_getElem h]; rfl
def Dd.wf (d : Dd) : Prop := WfI d.n ∧ WfI d.m
/-- a slice's address under which the cells are the deeds ds -/
def Deeds (w : World) (A : Option Addr) (ds : List Dd) : Prop :=
  0 < ds.length → ∃ b off, A = some ⟨b, off, none⟩ ∧ b < w.heap.size ∧ ∀ j, j < ds.length → w.cell? ⟨b, off + j * 3, none⟩ = some (.int .i64 (ddn ds j).k) ∧ w.cell? ⟨b, off + j * 3 + 1, none⟩ = some (.int .i64 (ddn ds j).n) ∧ w.cell? ⟨b, off + j * 3 + 2, none⟩ = some (.int .i64 (ddn ds j).m) ∧ (ddn ds j).wf
theorem Deeds.next {w w' : World} {A : Option Addr} {ds : List Dd} (h : Deeds w A ds) (hb : Below w.heap.size w w') : Deeds w' A ds := fun hn => by
  obtain ⟨b, off, e, hlt, hc⟩ := h hn
  refine ⟨b, off, e, Nat.lt_of_lt_of_le hlt hb.size, fun j hj => ?_⟩
  obtain ⟨c0, c1, c2, c3⟩ := hc j hj
  exact ⟨(hb.cell (p := ⟨b, off + j * 3, none⟩) hlt).trans c0, (hb.cell (p := ⟨b, off + j * 3 + 1, none⟩) hlt).trans c1, (hb.cell (p := ⟨b, off + j * 3 + 2, none⟩) hlt).trans c2, c3⟩
/-- what play leaves -/
def Played (w : World) (e : Ending) (w' : World) : Prop :=
  ∃ g h x, e = .returned (.tuple #[.pointer (some ⟨g, 0, none⟩), .pointer (some ⟨h, 0, none⟩), .bool true]) ∧ Two w.heap.size 60 w' g h x x ∧ x.Ok 60 ∧ Below w.heap.size w w'
theorem Two.more {B c d g h : Nat} {x y : Gs} {w : World} (t : Two B c w g h x y) (hd : c ≤ d) : Two B d w g h x y := by
  obtain ⟨h0, ⟨mb, L, h1, h3⟩, rest⟩ := t
  exact ⟨h0, ⟨mb, L, h1.more (by omega), h3⟩, rest⟩
theorem RefAt.base {B B' r c : Nat} {A : Option Addr} {L : List Gr} {k : Int} {w : World} (h : RefAt B w r A c L k) (hB : B' ≤ B) : RefAt B' w r A c L k :=
  ⟨h.head, ownBase h.row hB, Nat.le_trans hB h.lo, fun q hq => ⟨ownBase (h.nums q hq).1 hB, ownBase (h.nums q hq).2 hB⟩⟩
theorem PrgAt.base {B B' c g mb : Nat} {L : List Pr} {k : Int} {w : World} (h : PrgAt B c w g mb L k) (hB : B' ≤ B) : PrgAt B' c w g mb L k :=
  ⟨h.head, h.map, h.nd, h.ones, h.pats, h.ahs, h.ap, Nat.le_trans hB h.lo.1, Nat.le_trans hB h.lo.2.1, fun q hq b hb => Nat.le_trans hB (h.lo.2.2 q hq b hb)⟩
set_option maxRecDepth 100000 in
set_option maxHeartbeats 4000000 in
theorem play_any (A : Option Addr) (len cap : Nat) (ds : List Dd) (w : World) (hlen : ds.length = len) (hcap : len ≤ cap) (hmax : cap ≤ maxLen) (hds : Deeds w A ds) :
    Calls Try.prog 13 #[.slice A len cap] w (Played w) := by
  subst hlen
  have HNw := Lib.hid (new_any w)
  have HRw : Hid (∀ W, Calls Try.prog 33 #[] W fun e w' => ∃ r, e = .returned (.pointer (some ⟨r, 0, none⟩)) ∧ RefAt W.heap.size w' r none 0 [] 1 ∧ Below W.heap.size W w') := fun W => rnew_any W
  have HD := Lib.hid hds
  unfold maxLen at hmax
  clear hds
  go_enter Try.func13, Try.ntmps13
  go_wp2_with (first
    | (go_at_call 32; refine HNw.out.mono ?_; rintro e w1 ⟨g, mb, rfl, hp, hb1⟩; have HP := Lib.hid hp; have HB1 := Lib.hid hb1; clear hp hb1)
    | (go_at_call 33; refine (HRw.out w1).mono ?_; rintro e w2 ⟨h, rfl, hr, hb2⟩; have HR := Lib.hid hr; have HB2 := Lib.hid hb2; clear hr hb2))
  have HT : Hid (Two w.heap.size 0 w2 g h ⟨[], 1⟩ ⟨[], 1⟩) := ⟨Nat.le_trans HB1.out.size HB2.out.size, ⟨mb, [], HP.out.fresh HB2.out, rfl⟩, none, 0, [], HR.out.base HB1.out.size, rfl⟩
  have HB := Lib.hid (HB1.out.trans (HB2.out.mono HB1.out.size))
  clear HP HB1 HR HB2
  go_loopw [7] (fun i wr => ∃ (k : Nat) (x : Gs), k ≤ ds.length ∧ k ≤ 60 ∧ i = .int .i64 k ∧ Hid (Two w.heap.size k wr g h x x) ∧ Hid (x.Ok k) ∧ Hid (Below w.heap.size w wr)) (fun i _ => ds.length - (intOf i).toNat)
  case atStart => exact ⟨0, _, Nat.zero_le _, Nat.zero_le _, rfl, HT.out, Gs.ok_none, HB.out⟩
  case round =>
    obtain ⟨k, x, hk, hk60, rfl, hT, hO, hB⟩ := hrel
    rename World => wr
    have hk0 : (0 : Int) ≤ (k : Int) := by omega
    by_cases hlt : k < ds.length
    · have hlti : (k : Int) < (ds.length : Int) := by omega
      by_cases h60 : k < 60
      · have h60i : (k : Int) < 60 := by omega
        obtain ⟨b, off, rfl, hb, hc⟩ := (HD.out.next hB.out) (by omega)
        obtain ⟨c0, c1, c2, c3⟩ := hc k hlt
        have HDo := Lib.hid (do_any w.heap.size g h x (ddn ds k) c3.1 c3.2 wr hO.out (by omega) hT.out)
        have Hn := Lib.hid (hO.out.deed (ddn ds k))
        generalize ddn ds k = d at *
        obtain ⟨dk, db, dx⟩ := d
        unfold Dd.v DoSays at HDo
        clear hc c3
        generalize x.deed ⟨dk, db, dx⟩ = x2 at *
        go_wp2_with ((with_reducible refine HDo.out.mono ?_); rintro e w3 ⟨rfl, t3, b3, _⟩; have T3 := Lib.hid t3; have B3 := Lib.hid (hB.out.trans b3); clear t3 b3)
        go_roundw
        case rel => exact ⟨k + 1, x2, by omega, by omega, by go_num, T3.out, Hn.out, B3.out⟩
        case measure => simp [intOf]; omega
      · obtain rfl : k = 60 := by omega
        go_wp2
        go_ret3
        exact ⟨_, _, x, rfl, hT.out, hO.out, hB.out⟩
    · have hlti : ¬ (k : Int) < (ds.length : Int) := by omega
      go_wp2
      go_ret3
      exact ⟨_, _, x, rfl, hT.out.more (by omega), hO.out.more (by omega), hB.out⟩
/-- the program's groups alone -/
def PAt (B c : Nat) (w : World) (g : Nat) (x : Gs) : Prop := B ≤ w.heap.size ∧ x.Ok c ∧ ∃ mb L, PrgAt B (8 * c) w g mb L x.k ∧ gp L = x.l
theorem PAt.went {B c d g mb : Nat} {L : List Pr} {x z : Gs} {w w' : World} (hP : PrgAt B (8 * c) w g mb L x.k) (hB : B ≤ w.heap.size) (hO : z.Ok d) (hw : PWent B (8 * d) w g mb L z w') : PAt B d w' g z ∧ Below B w w' := by
  obtain ⟨L', h5, h6, h7, _⟩ := hw
  exact ⟨⟨Nat.le_trans hB h7.size, hO, mb, L', h5, h6⟩, h7.below hP.low hB⟩
def s0 : Gs := ⟨[], 1⟩
def s1 : Gs := s0.mk0
def s2 : Gs := s1.tn0 1 1 3 2
def s3 : Gs := s2.tk0 7
def s4 : Gs := s3.tn0 1 2 2 3
def s5 : Gs := s4.tn0 1 1 3 4
def s6 : Gs := s5.mk0
def s7 : Gs := s6.dp0 2 1
def s8 : Gs := s7.tn0 2 1 3 2
theorem live_is : s0.mkV = .tuple #[.int .i64 1, .int .i64 0] ∧ s4.turnE 1 1 3 = 0 ∧ s5.mkV = .tuple #[.int .i64 2, .int .i64 0] ∧ s6.dependE 2 1 = 0 ∧ s8.behind = [7] ∧ stG s8.l 1 = 4 := by
  refine ⟨by unfold Gs.mkV; rw [if_pos (by decide +kernel : s0.makeE = 0), show s0.k = 1 by decide +kernel], by decide +kernel, by unfold Gs.mkV; rw [if_pos (by decide +kernel : s5.makeE = 0), show s5.k = 2 by decide +kernel], by decide +kernel, by decide +kernel, by decide +kernel⟩
section
variable {B c g : Nat} {x : Gs} {w : World} {n m : Int}
theorem l0 (h : PAt B c w g x) (hc : c ≤ 900) : Calls Try.prog 27 #[.pointer (some ⟨g, 0, none⟩)] w fun e w' => e = .returned x.mkV ∧ PAt B (c + 1) w' g x.mk0 ∧ Below B w w' := by
  obtain ⟨hB, hO, mb, L, hP, hg⟩ := h
  exact (p0 hP hg hO (by omega) hB).mono fun e w' ⟨e1, e2⟩ => ⟨e1, PAt.went hP hB hO.mk0 e2⟩
theorem l1 (h : PAt B c w g x) (hn : WfI n) (hm : WfI m) (hc : c ≤ 900) : Calls Try.prog 30 #[.pointer (some ⟨g, 0, none⟩), .int .i64 n, .int .i64 m] w fun e w' => e = .returned (.int .i64 (x.dependE n m)) ∧ PAt B (c + 1) w' g (x.dp0 n m) ∧ Below B w w' := by
  obtain ⟨hB, hO, mb, L, hP, hg⟩ := h
  exact (p1 hP hg hn hm (by omega)).mono fun e w' ⟨e1, e2⟩ => ⟨e1, PAt.went hP hB (hO.dp0 n m) e2⟩
theorem l2 (h : PAt B c w g x) (hn : WfI n) : Calls Try.prog 21 #[.pointer (some ⟨g, 0, none⟩), .int .i64 n] w fun e w' => e = .returned (.int .i64 (x.turnE n 1 3)) ∧ PAt B (c + 1) w' g (x.tn0 n 1 3 2) ∧ Below B w w' := by
  obtain ⟨hB, hO, mb, L, hP, hg⟩ := h
  exact (p2 hP hg hn).mono fun e w' ⟨e1, e2⟩ => ⟨e1, PAt.went hP hB (hO.tn0 n _ _ _ (by decide) (by decide) (by decide) (by decide)) e2⟩
theorem l3 (h : PAt B c w g x) (hn : WfI n) : Calls Try.prog 31 #[.pointer (some ⟨g, 0, none⟩), .int .i64 n] w fun e w' => e = .returned (.int .i64 (x.turnE n 2 2)) ∧ PAt B (c + 1) w' g (x.tn0 n 2 2 3) ∧ Below B w w' := by
  obtain ⟨hB, hO, mb, L, hP, hg⟩ := h
  exact (p3 hP hg hn).mono fun e w' ⟨e1, e2⟩ => ⟨e1, PAt.went hP hB (hO.tn0 n _ _ _ (by decide) (by decide) (by decide) (by decide)) e2⟩
theorem l4 (h : PAt B c w g x) (hn : WfI n) : Calls Try.prog 22 #[.pointer (some ⟨g, 0, none⟩), .int .i64 n] w fun e w' => e = .returned (.int .i64 (x.turnE n 1 3)) ∧ PAt B (c + 1) w' g (x.tn0 n 1 3 4) ∧ Below B w w' := by
  obtain ⟨hB, hO, mb, L, hP, hg⟩ := h
  exact (p4 hP hg hn).mono fun e w' ⟨e1, e2⟩ => ⟨e1, PAt.went hP hB (hO.tn0 n _ _ _ (by decide) (by decide) (by decide) (by decide)) e2⟩
theorem l5 (h : PAt B c w g x) (hn : WfI n) : Calls Try.prog 28 #[.pointer (some ⟨g, 0, none⟩), .int .i64 n] w fun e w' => e = .returned (.int .i64 (x.abandonE n)) ∧ PAt B (c + 1) w' g (x.ab0 n) ∧ Below B w w' := by
  obtain ⟨hB, hO, mb, L, hP, hg⟩ := h
  exact (p5 hP hg hn).mono fun e w' ⟨e1, e2⟩ => ⟨e1, PAt.went hP hB (hO.ab0 n) e2⟩
theorem l6 (h : PAt B c w g x) (hc : c ≤ 900) (hm : WfI m) : Calls Try.prog 24 #[.pointer (some ⟨g, 0, none⟩), .int .i64 m] w fun e w' => e = .returned (.int .i64 (Gs.tkE m)) ∧ PAt B (c + 1) w' g (x.tk0 m) ∧ Below B w w' := by
  obtain ⟨hB, hO, mb, L, hP, hg⟩ := h
  exact (p6 hP hg hO (by omega) hm).mono fun e w' ⟨e1, e2⟩ => ⟨e1, PAt.went hP hB (hO.tk0 m) e2⟩
theorem l7 (h : PAt B c w g x) (hc : c ≤ 900) : Calls Try.prog 25 #[.pointer (some ⟨g, 0, none⟩)] w (GivesI w x.behind) := by
  obtain ⟨hB, hO, mb, L, hP, hg⟩ := h
  have hl : L.length ≤ 100 := by have := hO.len; rw [← hg, length_gp] at this; omega
  have := behind_any B (8 * c) g mb L x.k w hP (by omega) (by rw [hg]; exact hO.wf (by omega)) (by rw [hg]; exact hO.hin) hl (by rw [gs_eta hg]; exact hO.engaged_rises)
  rw [gs_eta hg] at this
  exact this.mono fun e w' ⟨A, c', e1, e2, e3⟩ => ⟨A, c', e1, e2.ints, e3⟩
theorem l8 (h : PAt B c w g x) (hn : WfI n) : Calls Try.prog 17 #[.pointer (some ⟨g, 0, none⟩), .int .i64 n] w fun e w' => e = .returned (.int .u8 (stG x.l n)) ∧ w = w' := by
  obtain ⟨_, _, mb, L, hP, hg⟩ := h
  have := state_any B (8 * c) g mb L x.k n w hP hn
  rwa [hg] at this
theorem PAt.fresh {w' : World} (h : PAt B c w g x) (hb : Below w.heap.size w w') : PAt B c w' g x := by
  obtain ⟨hB, hO, mb, L, hP, hg⟩ := h
  exact ⟨Nat.le_trans hB hb.size, hO, mb, L, hP.fresh hb, hg⟩
end
theorem wfi {n : Int} (h : -100000 ≤ n ∧ n ≤ 100000) : WfI n := by unfold WfI; omega
set_option maxRecDepth 100000 in
set_option maxHeartbeats 4000000 in
theorem live_any (w : World) : Calls Try.prog 14 #[] w fun e w' => e = .returned (.bool true) ∧ Below w.heap.size w w' := by
  obtain ⟨v0, v4, v5, v6, v8, v9⟩ := live_is
  have HNw := Lib.hid (new_any w)
  have K0 : Hid (∀ W g, PAt w.heap.size 0 W g s0 → Calls Try.prog 27 #[.pointer (some ⟨g, 0, none⟩)] W fun e w' => e = .returned (.tuple #[.int .i64 1, .int .i64 0]) ∧ PAt w.heap.size 1 w' g s1 ∧ Below w.heap.size W w') := fun W g h => by have := l0 h (by omega); rwa [v0] at this
  have K1 : Hid (∀ W g, PAt w.heap.size 1 W g s1 → Calls Try.prog 21 #[.pointer (some ⟨g, 0, none⟩), .int .i64 1] W fun e w' => e = .returned (.int .i64 (s1.turnE 1 1 3)) ∧ PAt w.heap.size 2 w' g s2 ∧ Below w.heap.size W w') := fun W g h => l2 h (wfi (by omega))
  have K2 : Hid (∀ W g, PAt w.heap.size 2 W g s2 → Calls Try.prog 24 #[.pointer (some ⟨g, 0, none⟩), .int .i64 7] W fun e w' => e = .returned (.int .i64 (Gs.tkE 7)) ∧ PAt w.heap.size 3 w' g s3 ∧ Below w.heap.size W w') := fun W g h => l6 h (by omega) (wfi (by omega))
  have K3 : Hid (∀ W g, PAt w.heap.size 3 W g s3 → Calls Try.prog 31 #[.pointer (some ⟨g, 0, none⟩), .int .i64 1] W fun e w' => e = .returned (.int .i64 (s3.turnE 1 2 2)) ∧ PAt w.heap.size 4 w' g s4 ∧ Below w.heap.size W w') := fun W g h => l3 h (wfi (by omega))
  have K4 : Hid (∀ W g, PAt w.heap.size 4 W g s4 → Calls Try.prog 22 #[.pointer (some ⟨g, 0, none⟩), .int .i64 1] W fun e w' => e = .returned (.int .i64 0) ∧ PAt w.heap.size 5 w' g s5 ∧ Below w.heap.size W w') := fun W g h => by have := l4 (n := 1) h (wfi (by omega)); rwa [v4] at this
  have K5 : Hid (∀ W g, PAt w.heap.size 5 W g s5 → Calls Try.prog 27 #[.pointer (some ⟨g, 0, none⟩)] W fun e w' => e = .returned (.tuple #[.int .i64 2, .int .i64 0]) ∧ PAt w.heap.size 6 w' g s6 ∧ Below w.heap.size W w') := fun W g h => by have := l0 h (by omega); rwa [v5] at this
  have K6 : Hid (∀ W g, PAt w.heap.size 6 W g s6 → Calls Try.prog 30 #[.pointer (some ⟨g, 0, none⟩), .int .i64 2, .int .i64 1] W fun e w' => e = .returned (.int .i64 0) ∧ PAt w.heap.size 7 w' g s7 ∧ Below w.heap.size W w') := fun W g h => by have := l1 (n := 2) (m := 1) h (wfi (by omega)) (wfi (by omega)) (by omega); rwa [v6] at this
  have K7 : Hid (∀ W g, PAt w.heap.size 7 W g s7 → Calls Try.prog 21 #[.pointer (some ⟨g, 0, none⟩), .int .i64 2] W fun e w' => e = .returned (.int .i64 (s7.turnE 2 1 3)) ∧ PAt w.heap.size 8 w' g s8 ∧ Below w.heap.size W w') := fun W g h => l2 h (wfi (by omega))
  have K8 : Hid (∀ W g, PAt w.heap.size 8 W g s8 → Calls Try.prog 25 #[.pointer (some ⟨g, 0, none⟩)] W fun e w' => ∃ b off c', e = .returned (.slice (some ⟨b, off, none⟩) 1 c') ∧ w'.cell? ⟨b, off, none⟩ = some (.int .i64 7) ∧ PAt w.heap.size 8 w' g s8 ∧ Below w.heap.size W w' ∧ Calls Try.prog 17 #[.pointer (some ⟨g, 0, none⟩), .int .i64 1] w' fun e w2 => e = .returned (.int .u8 4) ∧ w' = w2) := fun W g h => by
    have := l7 h (by omega)
    rw [v8] at this
    refine this.mono ?_
    rintro e w' ⟨A, c', rfl, hi, hb⟩
    obtain ⟨b, off, rfl, _, hc⟩ := hi (by decide)
    have h9 := h.fresh hb
    have hs := l8 (n := 1) h9 (wfi (by omega))
    rw [v9] at hs
    exact ⟨b, off, c', rfl, by simpa [inn] using hc 0 (by decide), h9, hb.mono h.1, hs⟩
  generalize s1.turnE 1 1 3 = e1 at *
  generalize s3.turnE 1 2 2 = e3 at *
  generalize s7.turnE 2 1 3 = e7 at *
  generalize Gs.tkE 7 = e2 at *
  have HP0 : Hid (∀ W g mb, PrgAt w.heap.size 0 W g mb [] 1 → Below w.heap.size w W → PAt w.heap.size 0 W g s0) := fun W g mb h hb => ⟨hb.size, Gs.ok_none, mb, [], h, rfl⟩
  clear v0 v4 v5 v6 v8 v9
  generalize s0 = s0 at *
  generalize s1 = s1 at *
  generalize s2 = s2 at *
  generalize s3 = s3 at *
  generalize s4 = s4 at *
  generalize s5 = s5 at *
  generalize s6 = s6 at *
  generalize s7 = s7 at *
  generalize s8 = s8 at *
  go_enter Try.func14, Try.ntmps14
  go_wp2_with (first
    | (go_at_call 32; refine HNw.out.mono ?_; rintro e w1 ⟨g, mb, rfl, hp, hb⟩; have P0 := Lib.hid (HP0.out w1 g mb hp hb); have B0 := Lib.hid hb; clear hp hb HNw)
    | (go_at_call 27; refine (K0.out _ _ P0.out).mono ?_; rintro e w2 ⟨rfl, hp, hb⟩; have P1 := Lib.hid hp; have B1 := Lib.hid (B0.out.trans hb); clear hp hb P0 B0)
    | (go_at_call 21; refine (K1.out _ _ P1.out).mono ?_; rintro e w3 ⟨rfl, hp, hb⟩; have P2 := Lib.hid hp; have B2 := Lib.hid (B1.out.trans hb); clear hp hb P1 B1)
    | (go_at_call 24; refine (K2.out _ _ P2.out).mono ?_; rintro e w4 ⟨rfl, hp, hb⟩; have P3 := Lib.hid hp; have B3 := Lib.hid (B2.out.trans hb); clear hp hb P2 B2)
    | (go_at_call 31; refine (K3.out _ _ P3.out).mono ?_; rintro e w5 ⟨rfl, hp, hb⟩; have P4 := Lib.hid hp; have B4 := Lib.hid (B3.out.trans hb); clear hp hb P3 B3)
    | (go_at_call 22; refine (K4.out _ _ P4.out).mono ?_; rintro e w6 ⟨rfl, hp, hb⟩; have P5 := Lib.hid hp; have B5 := Lib.hid (B4.out.trans hb); clear hp hb P4 B4)
    | (go_at_call 27; refine (K5.out _ _ P5.out).mono ?_; rintro e w7 ⟨rfl, hp, hb⟩; have P6 := Lib.hid hp; have B6 := Lib.hid (B5.out.trans hb); clear hp hb P5 B5)
    | (go_at_call 30; refine (K6.out _ _ P6.out).mono ?_; rintro e w8 ⟨rfl, hp, hb⟩; have P7 := Lib.hid hp; have B7 := Lib.hid (B6.out.trans hb); clear hp hb P6 B6)
    | (go_at_call 21; refine (K7.out _ _ P7.out).mono ?_; rintro e w9 ⟨rfl, hp, hb⟩; have P8 := Lib.hid hp; have B8 := Lib.hid (B7.out.trans hb); clear hp hb P7 B7)
    | (go_at_call 25; refine (K8.out _ _ P8.out).mono ?_; rintro e wa ⟨b, off, c', rfl, hc, hp, hb, hs⟩; have B9 := Lib.hid (B8.out.trans hb); have HSt := Lib.hid hs; clear hp hb hs P8 B8)
    | (go_at_call 17; refine HSt.out.mono ?_; rintro e w' ⟨rfl, rfl⟩))
  go_ret
  exact ⟨by simp, B9.out⟩
end Go.Proofs.Ytdndchoghhllmaa
