/- Both arms side by side: a deed on both. -/
import Derived.Test.YtpelocpjfmmceaaSC
set_option linter.unusedVariables false
set_option linter.unusedSimpArgs false
namespace Go.Proofs.Ytpelocpjfmmceaa
open Go.RowKit

theorem of_apart {B B2 g h c c2 : Nat} {A A2 : Option Addr} {x y : Ar} {w : World} (hP : PAt B w g A c x) (hR : RAt B2 w h A2 c2 y) : ∀ k, Of g A k → ¬ Of h A2 k := by
  have row : ∀ {E : TypeId} {B : Nat} {A : Option Addr} {c : Nat} {l : List Rq} {k : Nat}, RowQ E w B A c l → own A = some k → ∃ cur, w.heap[k]? = some (.cells cur E (0, 0)) := by
    intro E B A c l k hr e
    rcases hr.2 with ⟨z, _⟩ | ⟨k2, cap, cur, z, _, hk, _⟩
    · obtain ⟨rfl, _⟩ := Value.slice.inj z; cases e
    · obtain ⟨rfl, _⟩ := Value.slice.inj z
      obtain rfl : k2 = k := by simpa [own] using e
      exact ⟨_, hk⟩
  have clash : ∀ {k : Nat} {a b : Array Value} {T E : TypeId}, w.heap[k]? = some (.cells a T (0, 0)) → w.heap[k]? = some (.cells b E (0, 0)) → T = E := by
    intro k a b T E h1 h2
    have := h1.symm.trans h2
    simp at this
    exact this.2
  intro k q1 q2
  rcases q1 with rfl | q1
  · rcases q2 with rfl | q2
    · exact absurd (clash hP.head hR.head) (by decide)
    · obtain ⟨_, h2⟩ := row hR.row q2
      exact absurd (clash hP.head h2) (by decide)
  · obtain ⟨_, h1⟩ := row hP.row q1
    rcases q2 with rfl | q2
    · exact absurd (clash h1 hR.head) (by decide)
    · obtain ⟨_, h2⟩ := row hR.row q2
      exact absurd (clash h1 h2) (by decide)
/-- both arms, in blocks from B on -/
def Two (B : Nat) (w : World) (g h : Nat) (x y : Ar) : Prop := B ≤ w.heap.size ∧ (∃ A c, PAt B w g A c x) ∧ ∃ A c, RAt B w h A c y
namespace Two
variable {B g h : Nat} {w w' : World} {x y z : Ar}
theorem fresh (t : Two B w g h x y) (hb : Below w.heap.size w w') : Two B w' g h x y := by
  obtain ⟨h0, ⟨A, c, h1⟩, A2, c2, h2⟩ := t
  exact ⟨Nat.le_trans h0 hb.size, ⟨A, c, h1.fresh hb⟩, A2, c2, h2.fresh hb⟩
theorem p {A : Option Addr} {c : Nat} (t : Two B w g h x y) (hP : PAt B w g A c x) (hw : PWent B w g A z w') : Two B w' g h z y ∧ Below B w w' := by
  obtain ⟨h0, _, A2, c2, h2⟩ := t
  obtain ⟨A', c', h3, h4, _⟩ := hw
  exact ⟨⟨Nat.le_trans h0 h4.size, ⟨A', c', h3⟩, A2, c2, h2.keepOf h4 (fun k q q2 => of_apart hP h2 k q2 q)⟩, Went.below hP h0 h4⟩
theorem r {A : Option Addr} {c : Nat} (t : Two B w g h x y) (hR : RAt B w h A c y) (hw : RWent B w h A z w') : Two B w' g h x z ∧ Below B w w' := by
  obtain ⟨h0, ⟨A2, c2, h2⟩, _⟩ := t
  obtain ⟨A', c', h3, h4, _⟩ := hw
  exact ⟨⟨Nat.le_trans h0 h4.size, ⟨A2, c2, h2.keepOf h4 (fun k q q2 => of_apart h2 hR k q q2)⟩, A', c', h3⟩, Went.below hR h0 h4⟩
end Two
/-- a deed -/
structure Dd where
  k : Int
  n : Int
  p : Nat
def Dd.v (d : Dd) : Value := .agg #[.int .i64 d.k, .int .i64 d.n, .int .u8 d.p]
namespace Ar
def turn (x : Ar) : Ar := if 0 < x.l.length then x.next else x
def turnB (x : Ar) : Int := if 0 < x.l.length then x.choose.1 else 0
def turnO (x : Ar) : Bool := decide (0 < x.l.length)
def deed (x : Ar) (d : Dd) : Ar := if d.k = 0 then x.ask d.n else if d.k = 1 then x.cancel d.n else if d.k = 2 then x.turn else if d.k = 3 then x.setP d.p else x
theorem Ok.turn {c : Nat} {x : Ar} (h : Ok c x) : Ok (c + 1) x.turn := by
  unfold Ar.turn
  by_cases h0 : 0 < x.l.length
  · rw [if_pos h0]; exact h.next h0
  · rw [if_neg h0]; exact h.more (by omega)
theorem Ok.deed {c : Nat} {x : Ar} (h : Ok c x) (d : Dd) : Ok (c + 1) (x.deed d) := by
  unfold Ar.deed
  by_cases h0 : d.k = 0
  · rw [if_pos h0]; exact (h.ask d.n).more (by omega)
  rw [if_neg h0]
  by_cases h1 : d.k = 1
  · rw [if_pos h1]; exact (h.cancel d.n).more (by omega)
  rw [if_neg h1]
  by_cases h2 : d.k = 2
  · rw [if_pos h2]; exact h.turn
  rw [if_neg h2]
  by_cases h3 : d.k = 3
  · rw [if_pos h3]; exact (h.setP d.p).more (by omega)
  · rw [if_neg h3]; exact h.more (by omega)
end Ar
section
variable (B g h : Nat) (x y : Ar) (w : World)
theorem ask_two (b : Int) {q : Nat} (hO : x.Ok q) (t : Two B w g h x y) : Calls Try.prog 20 #[.pointer (some ⟨g, 0, none⟩), .int .i64 b] w fun e w' => e = .returned (.int .i64 (x.askE b)) ∧ Two B w' g h (x.ask b) y ∧ Below B w w' := by
  obtain ⟨h0, ⟨A, c, h1⟩, _⟩ := id t
  exact (ask_any B g A c x w b h1 hO.len hO.n0 hO.n1 h0).mono fun e w' ⟨e1, e2⟩ => ⟨e1, t.p h1 e2⟩
theorem rask_two (b : Int) {q : Nat} (hO : y.Ok q) (t : Two B w g h x y) : Calls Try.prog 39 #[.pointer (some ⟨h, 0, none⟩), .int .i64 b] w fun e w' => e = .returned (.int .i64 (y.askE b)) ∧ Two B w' g h x (y.ask b) ∧ Below B w w' := by
  obtain ⟨h0, _, A, c, h1⟩ := id t
  exact (rask_any B h A c y b w h1 hO.len h0).mono fun e w' ⟨e1, e2⟩ => ⟨e1, t.r h1 e2⟩
theorem cancel_two (b : Int) {q : Nat} (hO : x.Ok q) (t : Two B w g h x y) : Calls Try.prog 27 #[.pointer (some ⟨g, 0, none⟩), .int .i64 b] w fun e w' => e = .returned (.int .i64 (x.cancelE b)) ∧ Two B w' g h (x.cancel b) y ∧ Below B w w' := by
  obtain ⟨h0, ⟨A, c, h1⟩, _⟩ := id t
  exact (cancel_any B g A c x b w h1 (by have := hO.len; omega)).mono fun e w' ⟨e1, e2⟩ => ⟨e1, t.p h1 e2⟩
theorem rcancel_two (b : Int) {q : Nat} (hO : y.Ok q) (t : Two B w g h x y) : Calls Try.prog 49 #[.pointer (some ⟨h, 0, none⟩), .int .i64 b] w fun e w' => e = .returned (.int .i64 (y.cancelE b)) ∧ Two B w' g h x (y.cancel b) ∧ Below B w w' := by
  obtain ⟨h0, _, A, c, h1⟩ := id t
  exact (rcancel_any B h A c y w b hO.nd h1 (by have := hO.len; omega) h0).mono fun e w' ⟨e1, e2⟩ => ⟨e1, t.r h1 e2⟩
theorem set_two (p : Nat) (hp : p < 256) (t : Two B w g h x y) : Calls Try.prog 28 #[.pointer (some ⟨g, 0, none⟩), .int .u8 p] w fun e w' => e = .returned (.int .i64 (Ar.setE p)) ∧ Two B w' g h (x.setP p) y ∧ Below B w w' := by
  obtain ⟨h0, ⟨A, c, h1⟩, _⟩ := id t
  exact (set_any B g A c x w p hp h1).mono fun e w' ⟨e1, e2⟩ => ⟨e1, t.p h1 e2⟩
theorem rset_two (p : Nat) (hp : p < 256) (t : Two B w g h x y) : Calls Try.prog 50 #[.pointer (some ⟨h, 0, none⟩), .int .u8 p] w fun e w' => e = .returned (.int .i64 (Ar.setE p)) ∧ Two B w' g h x (y.setP p) ∧ Below B w w' := by
  obtain ⟨h0, _, A, c, h1⟩ := id t
  exact (rset_any B h A c y w p hp h1).mono fun e w' ⟨e1, e2⟩ => ⟨e1, t.r h1 e2⟩
theorem next_two {q : Nat} (hO : x.Ok q) (hq : q ≤ 1000) (t : Two B w g h x y) : Calls Try.prog 19 #[.pointer (some ⟨g, 0, none⟩)] w fun e w' => e = .returned (.tuple #[.int .i64 x.turnB, .bool x.turnO]) ∧ Two B w' g h x.turn y ∧ Below B w w' := by
  obtain ⟨h0, ⟨A, c, h1⟩, _⟩ := id t
  unfold Ar.turnB Ar.turnO Ar.turn
  by_cases hl : 0 < x.l.length
  · rw [if_pos hl, if_pos hl, decide_eq_true hl]
    exact (next_some B g A c x w hO hq h1 hl h0).mono fun e w' ⟨e1, e2⟩ => ⟨e1, t.p h1 e2⟩
  · rw [if_neg hl, if_neg hl, decide_eq_false hl]
    exact (next_none B g A c x w h1 (by omega)).mono fun e w' ⟨e1, e2⟩ => by subst e2; exact ⟨e1, t, (Below.refl _ _)⟩
theorem rnext_two {q : Nat} (hO : y.Ok q) (hq : q ≤ 1000) (t : Two B w g h x y) : Calls Try.prog 40 #[.pointer (some ⟨h, 0, none⟩)] w fun e w' => e = .returned (.tuple #[.int .i64 y.turnB, .bool y.turnO]) ∧ Two B w' g h x y.turn ∧ Below B w w' := by
  obtain ⟨h0, _, A, c, h1⟩ := id t
  unfold Ar.turnB Ar.turnO Ar.turn
  by_cases hl : 0 < y.l.length
  · rw [if_pos hl, if_pos hl, decide_eq_true hl]
    exact (rnext_some B h A c y w hO hq h1 hl h0).mono fun e w' ⟨e1, e2⟩ => ⟨e1, t.r h1 e2⟩
  · rw [if_neg hl, if_neg hl, decide_eq_false hl]
    exact (rnext_nothing B h A c y w h1 (by omega)).mono fun e w' ⟨e1, e2⟩ => by subst e2; exact ⟨e1, t, (Below.refl _ _)⟩
end
def DoSays (B : Nat) (w : World) (g h : Nat) (x : Ar) (d : Dd) (e : Ending) (w' : World) : Prop := e = .returned (.bool true) ∧ Two B w' g h (x.deed d) (x.deed d) ∧ Below B w w'

set_option maxRecDepth 100000 in
set_option maxHeartbeats 2000000 in
theorem do_0 (B g h : Nat) (x : Ar) (dn : Int) (dp : Nat) (hdp : dp < 256) (w : World) {q : Nat} (hO : x.Ok q) (t : Two B w g h x x) :
    Calls Try.prog 26 #[.pointer (some ⟨g, 0, none⟩), .pointer (some ⟨h, 0, none⟩), .agg #[.int .i64 0, .int .i64 dn, .int .u8 dp]] w (DoSays B w g h x ⟨0, dn, dp⟩) := by
  obtain ⟨W1, hW⟩ : ∃ W1, W1 = (w.alloc (.cells #[.int .i64 0, .int .i64 dn, .int .u8 dp] 58)).drew := ⟨_, rfl⟩
  have hB0 : Below w.heap.size w W1 := by rw [hW]; exact ((Below.refl _ _).alloc (Nat.le_refl _) _).drew
  have hW1 := t.fresh hB0
  obtain ⟨_, ⟨A, c, hP0⟩, A2, c2, hR0⟩ := id t
  have hP := hP0.fresh hB0
  have hR := hR0.fresh hB0
  have HA := Lib.hid (ask_any B g A c x W1 dn hP hO.len hO.n0 hO.n1 hW1.1)
  have hbx : W1.heap[w.heap.size]? = some (.cells #[.int .i64 0, .int .i64 dn, .int .u8 dp] 58 (0, 0)) := by rw [hW]; exact heap_alloc_new w _
  have HX : Hid (∀ w', PWent B W1 g A (x.ask dn) w' → Two B w' g h (x.ask dn) x ∧ Below B w w' ∧ w'.cell? ⟨w.heap.size, 1, none⟩ = some (.int .i64 dn) ∧ RAt B w' h A2 c2 x ∧ w.heap.size < w'.heap.size) := fun w' hw => by
    obtain ⟨t1, b1⟩ := Two.p hW1 hP hw
    obtain ⟨_, _, _, k, _⟩ := hw
    refine ⟨t1, (hB0.mono t.1).trans b1, ?_, hR.keepOf k (fun j q q2 => of_apart hP hR j q2 q), Nat.lt_of_lt_of_le (Array.getElem?_eq_some_iff.1 hbx).1 k.size⟩
    rw [k.cell (a := ⟨w.heap.size, 1, none⟩) (Array.getElem?_eq_some_iff.1 hbx).1 (fun q => by have := hP0.lt _ q; simp at this)]
    exact cell_of_row _ _ 1 _ _ (0, 0) hbx
  have HR : Hid (∀ W, Two B W g h (x.ask dn) x → RAt B W h A2 c2 x → w.heap.size < W.heap.size → W.cell? ⟨w.heap.size, 1, none⟩ = some (.int .i64 dn) → Calls Try.prog 39 #[.pointer (some ⟨h, 0, none⟩), .int .i64 dn] W fun e w' => e = .returned (.int .i64 (x.askE dn)) ∧ Two B w' g h (x.ask dn) (x.ask dn) ∧ Below B W w' ∧ w'.cell? ⟨w.heap.size, 1, none⟩ = some (.int .i64 dn)) := fun W t2 r2 l2 c3 => (rask_any B h A2 c2 x dn W r2 hO.len t2.1).mono fun e w' ⟨e1, hw⟩ => by
    obtain ⟨t1, b1⟩ := Two.r t2 r2 hw
    obtain ⟨_, _, _, k, _⟩ := hw
    exact ⟨e1, t1, b1, (k.cell (a := ⟨w.heap.size, 1, none⟩) l2 (fun q => by have := hR0.lt _ q; simp at this)).trans c3⟩
  have HE : Hid (∀ w', Two B w' g h (x.ask dn) (x.ask dn) → Below B w w' → DoSays B w g h x ⟨0, dn, dp⟩ (.returned (.bool true)) w') := fun w' h1 h2 => ⟨rfl, h1, h2⟩
  have X1 : Hid (W1.cell? ⟨w.heap.size, 1, none⟩ = some (.int .i64 dn)) := cell_of_row _ _ 1 _ _ (0, 0) hbx
  have X0 : Hid ((w.alloc (.cells #[.int .i64 0, .int .i64 dn, .int .u8 dp] 58)).cell? ⟨w.heap.size, 1, none⟩ = some (.int .i64 dn)) := by have := X1.out; rw [hW] at this; exact this
  rw [hW] at HA X1 HX
  generalize (x.ask dn) = xa at *
  generalize x.askE dn = ee at *
  clear t hB0 hbx hdp hW1 hP hP0 hW hO hR hR0
  go_enter Try.func26, Try.ntmps26
  go_wp2
  go_region_held3 (fun W => W.cell? ⟨w.heap.size, 1, none⟩ = some (.int .i64 dn)) (first | exact X0.out | exact X1.out | exact X3.out | exact X4.out)
    (first
      | (go_at_call 20; (with_reducible refine HA.out.mono ?_); rintro e w3 ⟨rfl, hw3⟩; obtain ⟨t3, b3, x3, r3, l3⟩ := HX.out w3 hw3; have T3 := Lib.hid t3; have B3 := Lib.hid b3; have X3 := Lib.hid x3; have R3 := Lib.hid r3; have L3 := Lib.hid l3; clear t3 b3 x3 hw3 r3 l3)
      | (go_at_call 39; (with_reducible refine (HR.out w3 T3.out R3.out L3.out X3.out).mono ?_); rintro e w4 ⟨rfl, t4, b4, x4⟩; have T4 := Lib.hid t4; have B4 := Lib.hid (B3.out.trans b4); have X4 := Lib.hid x4; clear t4 b4 x4)
      | fail)
  all_goals
    go_wp2
    go_ret
    exact HE.out _ T4.out B4.out

set_option maxRecDepth 100000 in
set_option maxHeartbeats 2000000 in
theorem do_1 (B g h : Nat) (x : Ar) (dn : Int) (dp : Nat) (hdp : dp < 256) (w : World) {q : Nat} (hO : x.Ok q) (t : Two B w g h x x) :
    Calls Try.prog 26 #[.pointer (some ⟨g, 0, none⟩), .pointer (some ⟨h, 0, none⟩), .agg #[.int .i64 1, .int .i64 dn, .int .u8 dp]] w (DoSays B w g h x ⟨1, dn, dp⟩) := by
  obtain ⟨W1, hW⟩ : ∃ W1, W1 = (w.alloc (.cells #[.int .i64 1, .int .i64 dn, .int .u8 dp] 58)).drew := ⟨_, rfl⟩
  have hB0 : Below w.heap.size w W1 := by rw [hW]; exact ((Below.refl _ _).alloc (Nat.le_refl _) _).drew
  have hW1 := t.fresh hB0
  obtain ⟨_, ⟨A, c, hP0⟩, A2, c2, hR0⟩ := id t
  have hP := hP0.fresh hB0
  have hR := hR0.fresh hB0
  have HA := Lib.hid (cancel_any B g A c x dn W1 hP (by have := hO.len; omega))
  have hbx : W1.heap[w.heap.size]? = some (.cells #[.int .i64 1, .int .i64 dn, .int .u8 dp] 58 (0, 0)) := by rw [hW]; exact heap_alloc_new w _
  have HX : Hid (∀ w', PWent B W1 g A (x.cancel dn) w' → Two B w' g h (x.cancel dn) x ∧ Below B w w' ∧ w'.cell? ⟨w.heap.size, 1, none⟩ = some (.int .i64 dn) ∧ RAt B w' h A2 c2 x ∧ w.heap.size < w'.heap.size) := fun w' hw => by
    obtain ⟨t1, b1⟩ := Two.p hW1 hP hw
    obtain ⟨_, _, _, k, _⟩ := hw
    refine ⟨t1, (hB0.mono t.1).trans b1, ?_, hR.keepOf k (fun j q q2 => of_apart hP hR j q2 q), Nat.lt_of_lt_of_le (Array.getElem?_eq_some_iff.1 hbx).1 k.size⟩
    rw [k.cell (a := ⟨w.heap.size, 1, none⟩) (Array.getElem?_eq_some_iff.1 hbx).1 (fun q => by have := hP0.lt _ q; simp at this)]
    exact cell_of_row _ _ 1 _ _ (0, 0) hbx
  have HR : Hid (∀ W, Two B W g h (x.cancel dn) x → RAt B W h A2 c2 x → w.heap.size < W.heap.size → W.cell? ⟨w.heap.size, 1, none⟩ = some (.int .i64 dn) → Calls Try.prog 49 #[.pointer (some ⟨h, 0, none⟩), .int .i64 dn] W fun e w' => e = .returned (.int .i64 (x.cancelE dn)) ∧ Two B w' g h (x.cancel dn) (x.cancel dn) ∧ Below B W w' ∧ w'.cell? ⟨w.heap.size, 1, none⟩ = some (.int .i64 dn)) := fun W t2 r2 l2 c3 => (rcancel_any B h A2 c2 x W dn hO.nd r2 (by have := hO.len; omega) t2.1).mono fun e w' ⟨e1, hw⟩ => by
    obtain ⟨t1, b1⟩ := Two.r t2 r2 hw
    obtain ⟨_, _, _, k, _⟩ := hw
    exact ⟨e1, t1, b1, (k.cell (a := ⟨w.heap.size, 1, none⟩) l2 (fun q => by have := hR0.lt _ q; simp at this)).trans c3⟩
  have HE : Hid (∀ w', Two B w' g h (x.cancel dn) (x.cancel dn) → Below B w w' → DoSays B w g h x ⟨1, dn, dp⟩ (.returned (.bool true)) w') := fun w' h1 h2 => ⟨rfl, h1, h2⟩
  have X1 : Hid (W1.cell? ⟨w.heap.size, 1, none⟩ = some (.int .i64 dn)) := cell_of_row _ _ 1 _ _ (0, 0) hbx
  have X0 : Hid ((w.alloc (.cells #[.int .i64 1, .int .i64 dn, .int .u8 dp] 58)).cell? ⟨w.heap.size, 1, none⟩ = some (.int .i64 dn)) := by have := X1.out; rw [hW] at this; exact this
  rw [hW] at HA X1 HX
  generalize (x.cancel dn) = xa at *
  generalize x.cancelE dn = ee at *
  clear t hB0 hbx hdp hW1 hP hP0 hW hO hR hR0
  go_enter Try.func26, Try.ntmps26
  go_wp2
  go_region_held3 (fun W => W.cell? ⟨w.heap.size, 1, none⟩ = some (.int .i64 dn)) (first | exact X0.out | exact X1.out | exact X3.out | exact X4.out)
    (first
      | (go_at_call 27; (with_reducible refine HA.out.mono ?_); rintro e w3 ⟨rfl, hw3⟩; obtain ⟨t3, b3, x3, r3, l3⟩ := HX.out w3 hw3; have T3 := Lib.hid t3; have B3 := Lib.hid b3; have X3 := Lib.hid x3; have R3 := Lib.hid r3; have L3 := Lib.hid l3; clear t3 b3 x3 hw3 r3 l3)
      | (go_at_call 49; (with_reducible refine (HR.out w3 T3.out R3.out L3.out X3.out).mono ?_); rintro e w4 ⟨rfl, t4, b4, x4⟩; have T4 := Lib.hid t4; have B4 := Lib.hid (B3.out.trans b4); have X4 := Lib.hid x4; clear t4 b4 x4)
      | fail)
  all_goals
    go_wp2
    go_ret
    exact HE.out _ T4.out B4.out

set_option maxRecDepth 100000 in
set_option maxHeartbeats 2000000 in
theorem do_3 (B g h : Nat) (x : Ar) (dn : Int) (dp : Nat) (hdp : dp < 256) (w : World) {q : Nat} (hO : x.Ok q) (t : Two B w g h x x) :
    Calls Try.prog 26 #[.pointer (some ⟨g, 0, none⟩), .pointer (some ⟨h, 0, none⟩), .agg #[.int .i64 3, .int .i64 dn, .int .u8 dp]] w (DoSays B w g h x ⟨3, dn, dp⟩) := by
  obtain ⟨W1, hW⟩ : ∃ W1, W1 = (w.alloc (.cells #[.int .i64 3, .int .i64 dn, .int .u8 dp] 58)).drew := ⟨_, rfl⟩
  have hB0 : Below w.heap.size w W1 := by rw [hW]; exact ((Below.refl _ _).alloc (Nat.le_refl _) _).drew
  have hW1 := t.fresh hB0
  obtain ⟨_, ⟨A, c, hP0⟩, A2, c2, hR0⟩ := id t
  have hP := hP0.fresh hB0
  have hR := hR0.fresh hB0
  have HA := Lib.hid (set_any B g A c x W1 dp hdp hP)
  have hbx : W1.heap[w.heap.size]? = some (.cells #[.int .i64 3, .int .i64 dn, .int .u8 dp] 58 (0, 0)) := by rw [hW]; exact heap_alloc_new w _
  have HX : Hid (∀ w', PWent B W1 g A (x.setP dp) w' → Two B w' g h (x.setP dp) x ∧ Below B w w' ∧ w'.cell? ⟨w.heap.size, 2, none⟩ = some (.int .u8 dp) ∧ RAt B w' h A2 c2 x ∧ w.heap.size < w'.heap.size) := fun w' hw => by
    obtain ⟨t1, b1⟩ := Two.p hW1 hP hw
    obtain ⟨_, _, _, k, _⟩ := hw
    refine ⟨t1, (hB0.mono t.1).trans b1, ?_, hR.keepOf k (fun j q q2 => of_apart hP hR j q2 q), Nat.lt_of_lt_of_le (Array.getElem?_eq_some_iff.1 hbx).1 k.size⟩
    rw [k.cell (a := ⟨w.heap.size, 2, none⟩) (Array.getElem?_eq_some_iff.1 hbx).1 (fun q => by have := hP0.lt _ q; simp at this)]
    exact cell_of_row _ _ 2 _ _ (0, 0) hbx
  have HR : Hid (∀ W, Two B W g h (x.setP dp) x → RAt B W h A2 c2 x → w.heap.size < W.heap.size → W.cell? ⟨w.heap.size, 2, none⟩ = some (.int .u8 dp) → Calls Try.prog 50 #[.pointer (some ⟨h, 0, none⟩), .int .u8 dp] W fun e w' => e = .returned (.int .i64 (Ar.setE dp)) ∧ Two B w' g h (x.setP dp) (x.setP dp) ∧ Below B W w' ∧ w'.cell? ⟨w.heap.size, 2, none⟩ = some (.int .u8 dp)) := fun W t2 r2 l2 c3 => (rset_any B h A2 c2 x W dp hdp r2).mono fun e w' ⟨e1, hw⟩ => by
    obtain ⟨t1, b1⟩ := Two.r t2 r2 hw
    obtain ⟨_, _, _, k, _⟩ := hw
    exact ⟨e1, t1, b1, (k.cell (a := ⟨w.heap.size, 2, none⟩) l2 (fun q => by have := hR0.lt _ q; simp at this)).trans c3⟩
  have HE : Hid (∀ w', Two B w' g h (x.setP dp) (x.setP dp) → Below B w w' → DoSays B w g h x ⟨3, dn, dp⟩ (.returned (.bool true)) w') := fun w' h1 h2 => ⟨rfl, h1, h2⟩
  have X1 : Hid (W1.cell? ⟨w.heap.size, 2, none⟩ = some (.int .u8 dp)) := cell_of_row _ _ 2 _ _ (0, 0) hbx
  have X0 : Hid ((w.alloc (.cells #[.int .i64 3, .int .i64 dn, .int .u8 dp] 58)).cell? ⟨w.heap.size, 2, none⟩ = some (.int .u8 dp)) := by have := X1.out; rw [hW] at this; exact this
  rw [hW] at HA X1 HX
  generalize (x.setP dp) = xa at *
  generalize Ar.setE dp = ee at *
  clear t hB0 hbx hdp hW1 hP hP0 hW hO hR hR0
  go_enter Try.func26, Try.ntmps26
  go_wp2
  go_region_held3 (fun W => W.cell? ⟨w.heap.size, 2, none⟩ = some (.int .u8 dp)) (first | exact X0.out | exact X1.out | exact X3.out | exact X4.out)
    (first
      | (go_at_call 28; (with_reducible refine HA.out.mono ?_); rintro e w3 ⟨rfl, hw3⟩; obtain ⟨t3, b3, x3, r3, l3⟩ := HX.out w3 hw3; have T3 := Lib.hid t3; have B3 := Lib.hid b3; have X3 := Lib.hid x3; have R3 := Lib.hid r3; have L3 := Lib.hid l3; clear t3 b3 x3 hw3 r3 l3)
      | (go_at_call 50; (with_reducible refine (HR.out w3 T3.out R3.out L3.out X3.out).mono ?_); rintro e w4 ⟨rfl, t4, b4, x4⟩; have T4 := Lib.hid t4; have B4 := Lib.hid (B3.out.trans b4); have X4 := Lib.hid x4; clear t4 b4 x4)
      | fail)
  all_goals
    go_wp2
    go_ret
    exact HE.out _ T4.out B4.out

set_option maxRecDepth 100000 in
set_option maxHeartbeats 2000000 in
theorem do_2 (B g h : Nat) (x : Ar) (dn : Int) (dp : Nat) (w : World) {q : Nat} (hO : x.Ok q) (hq : q ≤ 1000) (t : Two B w g h x x) :
    Calls Try.prog 26 #[.pointer (some ⟨g, 0, none⟩), .pointer (some ⟨h, 0, none⟩), .agg #[.int .i64 2, .int .i64 dn, .int .u8 dp]] w (DoSays B w g h x ⟨2, dn, dp⟩) := by
  have HA : Hid (∀ W, Below w.heap.size w W → Calls Try.prog 19 #[.pointer (some ⟨g, 0, none⟩)] W fun e w' => e = .returned (.tuple #[.int .i64 x.turnB, .bool x.turnO]) ∧ Two B w' g h x.turn x ∧ Below B w w') := fun W hW =>
    (next_two B g h x x W hO hq (t.fresh hW)).mono fun e w' ⟨h1, h2, h3⟩ => ⟨h1, h2, (hW.mono t.1).trans h3⟩
  have HR : Hid (∀ W, Two B W g h x.turn x → Below B w W → Calls Try.prog 40 #[.pointer (some ⟨h, 0, none⟩)] W fun e w' => e = .returned (.tuple #[.int .i64 x.turnB, .bool x.turnO]) ∧ Two B w' g h x.turn x.turn ∧ Below B w w') := fun W h1 h2 =>
    (rnext_two B g h x.turn x W hO hq h1).mono fun e w' ⟨h3, h4, h5⟩ => ⟨h3, h4, h2.trans h5⟩
  have HE : Hid (∀ w', Two B w' g h x.turn x.turn → Below B w w' → DoSays B w g h x ⟨2, dn, dp⟩ (.returned (.bool true)) w') := fun w' h1 h2 => ⟨rfl, h1, h2⟩
  have hB1 : Hid (Below w.heap.size w (w.alloc (.cells #[.int .i64 2, .int .i64 dn, .int .u8 dp] 58))) := (Below.refl _ _).alloc (Nat.le_refl _) _
  generalize x.turn = xa at *
  generalize x.turnB = tb at *
  generalize x.turnO = tn at *
  clear t hO
  go_enter Try.func26, Try.ntmps26
  go_wp2_with (first
    | (go_at_call 19; refine (HA.out _ hB1.out).mono ?_; rintro e w3 ⟨rfl, t3, b3⟩; have T3 := Lib.hid t3; have B3 := Lib.hid b3; clear t3 b3)
    | (go_at_call 40; refine (HR.out w3 T3.out B3.out).mono ?_; rintro e w4 ⟨rfl, t4, b4⟩; have T4 := Lib.hid t4; have B4 := Lib.hid b4; clear t4 b4))
  go_ret
  exact HE.out _ T4.out B4.out
theorem do_none (B g h : Nat) (x : Ar) (dk dn : Int) (dp : Nat) (hd : dk ≠ 0 ∧ dk ≠ 1 ∧ dk ≠ 2 ∧ dk ≠ 3) (w : World) (t : Two B w g h x x) :
    Calls Try.prog 26 #[.pointer (some ⟨g, 0, none⟩), .pointer (some ⟨h, 0, none⟩), .agg #[.int .i64 dk, .int .i64 dn, .int .u8 dp]] w (DoSays B w g h x ⟨dk, dn, dp⟩) := by
  have hB1 : Below w.heap.size w (w.alloc (.cells #[.int .i64 dk, .int .i64 dn, .int .u8 dp] 58)) := (Below.refl _ _).alloc (Nat.le_refl _) _
  have HE : Hid (DoSays B w g h x ⟨dk, dn, dp⟩ (.returned (.bool true)) (w.alloc (.cells #[.int .i64 dk, .int .i64 dn, .int .u8 dp] 58))) := ⟨rfl, by
    have e : x.deed ⟨dk, dn, dp⟩ = x := by unfold Ar.deed; rw [if_neg hd.1, if_neg hd.2.1, if_neg hd.2.2.1, if_neg hd.2.2.2]
    rw [e]
    exact t.fresh hB1, hB1.mono t.1⟩
  have e0 : (dk == 0) = false := by simpa using hd.1
  have e1 : (dk == 1) = false := by simpa using hd.2.1
  have e2 : (dk == 2) = false := by simpa using hd.2.2.1
  have e3 : (dk == 3) = false := by simpa using hd.2.2.2
  clear hd t hB1
  go_enter Try.func26, Try.ntmps26
  go_wp2
  go_ret
  exact HE.out
theorem do_any (B g h : Nat) (x : Ar) (d : Dd) (hdp : d.p < 256) (w : World) {q : Nat} (hO : x.Ok q) (hq : q ≤ 1000) (t : Two B w g h x x) :
    Calls Try.prog 26 #[.pointer (some ⟨g, 0, none⟩), .pointer (some ⟨h, 0, none⟩), d.v] w (DoSays B w g h x d) := by
  obtain ⟨dk, dn, dp⟩ := d
  by_cases h0 : dk = 0
  · subst h0; exact do_0 B g h x dn dp hdp w hO t
  by_cases h1 : dk = 1
  · subst h1; exact do_1 B g h x dn dp hdp w hO t
  by_cases h2 : dk = 2
  · subst h2; exact do_2 B g h x dn dp w hO hq t
  by_cases h3 : dk = 3
  · subst h3; exact do_3 B g h x dn dp hdp w hO t
  · exact do_none B g h x dk dn dp ⟨h0, h1, h2, h3⟩ w t
end Go.Proofs.Ytpelocpjfmmceaa
