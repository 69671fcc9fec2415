/- A deed on both stacks. -/
import Derived.Test.YtibkipdadpidnaaSA
set_option linter.unusedVariables false
set_option linter.unusedSimpArgs false
namespace Go.Proofs.Ytibkipdadpidnaa
open Go.RowKit
open Pat (Pt AllB undoP nth)
/-- a deed: its numbers lie under A -/
structure Dd where
  k : Int
  n : Int
  m : Int
  p : Pt
  A : Option Addr
  l : List Int
  c : Nat
def Dd.cells (d : Dd) : Array Value := #[.int .i64 d.k, .int .i64 d.n, .int .i64 d.m, .int .i64 d.p.b, .int .i64 d.p.o, .string d.p.s, .slice d.A d.l.length d.c]
def Dd.v (d : Dd) : Value := .agg d.cells
structure Dd.ok (w : World) (B : Nat) (d : Dd) : Prop where
  p : d.p.ok
  c : d.l.length ≤ d.c
  m : d.c ≤ maxLen
  i : Ints w B d.A d.l
  f : ∀ x ∈ d.l, WfI x
theorem Dd.ok.keep {w w' : World} {B : Nat} {d : Dd} (h : d.ok w B) (hb : Below B w w') : d.ok w' B := ⟨h.p, h.c, h.m, h.i.below hb, h.f⟩
def fewI (l : List Int) : List Int := l.take 40
theorem fewI_len (l : List Int) : (fewI l).length ≤ 40 := by unfold fewI; rw [List.length_take]; omega
theorem fewI_mem {l : List Int} {x : Int} (h : x ∈ fewI l) : x ∈ l := List.mem_of_mem_take h
def deed (s : Sk) (d : Dd) : Sk := if d.k = 0 then push0 s d.p else if d.k = 1 then popS s else if d.k = 2 then settle0 s (fewI d.l) else if d.k = 3 then squash0 s d.n d.m else s
theorem Ok.deed {c : Nat} {s : Sk} (h : Ok c s) (d : Dd) : Ok (c + 1) (deed s d) := by
  unfold Go.Proofs.Ytibkipdadpidnaa.deed
  split
  · exact h.push _
  · split
    · exact h.pop.more (by omega)
    · split
      · exact (h.settle _).more (by omega)
      · split
        · exact (h.squash _ _).more (by omega)
        · exact h.more (by omega)
set_option maxRecDepth 100000 in
set_option maxHeartbeats 1000000 in
theorem few_any (A : Option Addr) (l : List Int) (c : Nat) (w : World) (hn : l.length ≤ c) (hc : c ≤ maxLen) : Calls Try.prog 15 #[.slice A l.length c] w fun e w' => e = .returned (.slice A (fewI l).length c) ∧ w = w' := by
  have hf : (fewI l).length = if 40 < l.length then 40 else l.length := by unfold fewI; rw [List.length_take]; split <;> omega
  rw [hf]
  generalize l.length = n at *
  unfold maxLen at hc
  by_cases h : 40 < n
  · rw [if_pos h]
    have hi : (40 : Int) < (n : Int) := by omega
    have hc40 : (40 : Int) ≤ (c : Int) := by omega
    have hc41 : 40 ≤ c := by omega
    cases A with
    | none =>
      go_enter Try.func15, Try.ntmps15
      go_wp2
      go_ret
      exact ⟨rfl, rfl⟩
    | some a =>
      obtain ⟨b, off, q⟩ := a
      go_enter Try.func15, Try.ntmps15
      go_wp2
      go_ret
      exact ⟨rfl, rfl⟩
  · rw [if_neg h]
    have hi : ¬ (40 : Int) < (n : Int) := by omega
    go_enter Try.func15, Try.ntmps15
    go_wp2
    go_ret
    exact ⟨rfl, rfl⟩
def DoSays (B : Nat) (w : World) (g r : Nat) (s : Sk) (e : Ending) (w' : World) : Prop := e = .returned (.bool true) ∧ Two B w' g r s s ∧ KG g r w w'
/-- the box of a deed -/
def DdB (w : World) (b : Nat) (d : Dd) : Prop := w.heap[b]? = some (.cells d.cells 48 (0, 0))
namespace DdB
variable {w w' : World} {b : Nat} {d : Dd}
theorem lt (h : DdB w b d) : b < w.heap.size := (Array.getElem?_eq_some_iff.1 h).1
theorem keep {B g r : Nat} {s u : Sk} (h : DdB w b d) (t : Two B w g r s u) (hk : KG g r w w') : DdB w' b d := (hk.block b h.lt (fun e => by
  have hh : HeadB w b := by rcases e with rfl | rfl; exact t.gHead; exact t.rHead
  obtain ⟨cur, q, e1, e2⟩ := hh
  have := h.symm.trans e1
  simp only [Option.some.injEq, Obj.cells.injEq] at this
  rcases e2 with rfl | rfl
  · exact absurd this.2.1 (by decide)
  · exact absurd this.2.1 (by decide))).trans h
theorem cl (h : DdB w b d) : w.cell? ⟨b, 0, none⟩ = some (.int .i64 d.k) ∧ w.cell? ⟨b, 1, none⟩ = some (.int .i64 d.n) ∧ w.cell? ⟨b, 2, none⟩ = some (.int .i64 d.m) ∧ w.cell? ⟨b, 3, none⟩ = some (.int .i64 d.p.b) ∧ w.cell? ⟨b, 4, none⟩ = some (.int .i64 d.p.o) ∧ w.cell? ⟨b, 5, none⟩ = some (.string d.p.s) ∧ w.cell? ⟨b, 6, none⟩ = some (.slice d.A d.l.length d.c) :=
  ⟨cell_of_row _ _ 0 _ _ (0, 0) h, cell_of_row _ _ 1 _ _ (0, 0) h, cell_of_row _ _ 2 _ _ (0, 0) h, cell_of_row _ _ 3 _ _ (0, 0) h, cell_of_row _ _ 4 _ _ (0, 0) h, cell_of_row _ _ 5 _ _ (0, 0) h, cell_of_row _ _ 6 _ _ (0, 0) h⟩
end DdB
theorem boxed_keep {B g r b : Nat} {s u : Sk} {p : Pt} {w w' : World} (h : Pat.Boxed w b p) (t : Two B w g r s u) (hk : KG g r w w') : Pat.Boxed w' b p := (hk.block b (Pat.BlkIs.lt h) (fun e => by
  have hh : HeadB w b := by rcases e with rfl | rfl; exact t.gHead; exact t.rHead
  obtain ⟨cur, q, e1, e2⟩ := hh
  have := (show w.heap[b]? = _ from h).symm.trans e1
  simp only [Option.some.injEq, Obj.cells.injEq] at this
  rcases e2 with rfl | rfl
  · exact absurd this.2.1 (by decide)
  · exact absurd this.2.1 (by decide))).trans h
section
variable (B g r c : Nat) (s : Sk) (d : Dd) (w : World)
set_option maxRecDepth 100000 in
set_option maxHeartbeats 2000000 in
theorem do_0 (h0 : d.k = 0) (hd : d.ok w B) (hO : Ok c s) (hc : c ≤ 100) (t : Two B w g r s s) : Calls Try.prog 30 #[.pointer (some ⟨g, 0, none⟩), .pointer (some ⟨r, 0, none⟩), d.v] w (DoSays B w g r (push0 s d.p)) := by
  have hb0 : Below w.heap.size w (w.alloc (.cells d.cells 48)) := Pat.below_alloc1 w _
  have t1 := t.fresh hb0
  have hbx : DdB (w.alloc (.cells d.cells 48)) w.heap.size d := heap_alloc_new w _
  have HP : Hid (Calls Try.prog 18 #[.pointer (some ⟨g, 0, none⟩), d.p.v] (w.alloc (.cells d.cells 48)) fun e w' => e = .returned (.tuple #[.int .i64 (pushK s d.p), .int .i64 (pushE d.p)]) ∧ Two B w' g r (push0 s d.p) s ∧ KG g r w w' ∧ DdB w' w.heap.size d) := (q_push t1 hO (by omega) d.p hd.p).mono fun e w' q => ⟨q.1, q.2.1, (KG.fresh hb0).trans q.2.2, hbx.keep t1 q.2.2⟩
  have HR : Hid (∀ W, Two B W g r (push0 s d.p) s → KG g r w W → Calls Try.prog 59 #[.pointer (some ⟨r, 0, none⟩), d.p.v] W fun e w' => e = .returned (.tuple #[.int .i64 (pushK s d.p), .int .i64 (pushE d.p)]) ∧ Two B w' g r (push0 s d.p) (push0 s d.p) ∧ KG g r w w') := fun W t2 k => (d_push t2 hO (by omega) d.p hd.p).mono fun e w' q => ⟨q.1, q.2.1, k.trans q.2.2⟩
  clear hb0 t1 hbx hd hO t
  generalize push0 s d.p = s' at *
  generalize pushK s d.p = kk at *
  generalize pushE d.p = ee at *
  obtain ⟨dk, dn, dm, ⟨pb, po, ps⟩, A, l, lc⟩ := d
  simp only at h0
  subst h0
  unfold Dd.v
  unfold Dd.cells at *
  unfold Pat.Pt.v at HP HR
  simp only at *
  go_enter Try.func30, Try.ntmps30
  go_wp2_with (first
    | (go_at_call 18; (with_reducible refine HP.out.mono ?_); rintro e w3 ⟨rfl, t3, k3, hbx⟩; obtain ⟨_, _, _, b3, b4, b5, _⟩ := hbx.cl; have hbl := hbx.lt; simp only at b3 b4 b5; have T3 := Lib.hid t3; have K3 := Lib.hid k3; clear t3 k3 hbx)
    | (go_at_call 59; (with_reducible refine (HR.out _ T3.out K3.out).mono ?_); rintro e w4 ⟨rfl, t4, k4⟩; have T4 := Lib.hid t4; have K4 := Lib.hid k4; clear t4 k4))
  go_ret
  exact ⟨rfl, T4.out, K4.out⟩
set_option maxRecDepth 100000 in
set_option maxHeartbeats 2000000 in
theorem do_1 (h0 : d.k = 1) (hd : d.ok w B) (hO : Ok c s) (hc : c ≤ 100) (t : Two B w g r s s) : Calls Try.prog 30 #[.pointer (some ⟨g, 0, none⟩), .pointer (some ⟨r, 0, none⟩), d.v] w (DoSays B w g r (popS s)) := by
  have hb0 : Below w.heap.size w (w.alloc (.cells d.cells 48)) := Pat.below_alloc1 w _
  have t1 := t.fresh hb0
  have HP : Hid (Calls Try.prog 20 #[.pointer (some ⟨g, 0, none⟩)] (w.alloc (.cells d.cells 48)) fun e w' => e = .returned (.tuple #[(popP s).v, .int .i64 (popE s)]) ∧ Two B w' g r (popS s) s ∧ KG g r w w') := (q_pop t1).mono fun e w' q => ⟨q.1, q.2.1, (KG.fresh hb0).trans q.2.2⟩
  have HR : Hid (∀ W, Two B W g r (popS s) s → KG g r w W → Calls Try.prog 60 #[.pointer (some ⟨r, 0, none⟩)] W fun e w' => e = .returned (.tuple #[(popP s).v, .int .i64 (popE s)]) ∧ Two B w' g r (popS s) (popS s) ∧ KG g r w w' ∧ ∀ b, Pat.Boxed W b (popP s) → Pat.Boxed w' b (popP s)) := fun W t2 k => (d_pop t2 hO (by omega)).mono fun e w' q => ⟨q.1, q.2.1, k.trans q.2.2, fun b h => boxed_keep h t2 q.2.2⟩
  have HX : Hid (∀ (V : World) (x : Obj), Two B V g r (popS s) s → KG g r w V → Two B (V.alloc x) g r (popS s) s ∧ KG g r w (V.alloc x)) := fun V x h k => ⟨h.fresh (Pat.below_alloc1 V x), k.trans (KG.fresh (Pat.below_alloc1 V x))⟩
  have HY : Hid (∀ (V : World) (x : Obj), Two B V g r (popS s) (popS s) → KG g r w V → Two B (V.alloc x) g r (popS s) (popS s) ∧ KG g r w (V.alloc x)) := fun V x h k => ⟨h.fresh (Pat.below_alloc1 V x), k.trans (KG.fresh (Pat.below_alloc1 V x))⟩
  clear hb0 t1 hd hO t
  generalize popS s = s' at *
  generalize popP s = pp at *
  generalize popE s = ee at *
  obtain ⟨qb, qo, qs⟩ := pp
  obtain ⟨dk, dn, dm, ⟨pb, po, ps⟩, A, l, lc⟩ := d
  simp only at h0
  subst h0
  unfold Dd.v
  unfold Dd.cells at *
  unfold Pat.Pt.v at HP HR
  simp only at *
  go_enter Try.func30, Try.ntmps30
  go_wp2_with (first
    | (go_at_call 20; (with_reducible refine HP.out.mono ?_); rintro e w3 ⟨rfl, t3, k3⟩; have T3 := Lib.hid t3; have K3 := Lib.hid k3; clear t3 k3)
    | (go_at_call 60; (with_reducible refine (HR.out _ (HX.out _ _ T3.out K3.out).1 (HX.out _ _ T3.out K3.out).2).mono ?_); rintro e w4 ⟨rfl, t4, k4, x4⟩; have Z4 := Lib.hid (HY.out w4 (.cells #[.int .i64 qb, .int .i64 qo, .string qs] 38) t4 k4); have X4 := x4 _ (Pat.boxed1 w3 ⟨qb, qo, qs⟩); obtain ⟨b0, b1, b2⟩ := X4.cells; have hbl := Pat.BlkIs.lt X4; simp only at b0 b1 b2; clear t4 k4 x4 X4))
  go_ret
  exact ⟨rfl, Z4.out.1, Z4.out.2⟩
end
end Go.Proofs.Ytibkipdadpidnaa
