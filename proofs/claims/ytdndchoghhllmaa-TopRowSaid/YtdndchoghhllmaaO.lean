/- The program's groups in memory; ask, State. -/
import Derived.Test.YtdndchoghhllmaaN
set_option linter.unusedVariables false
set_option linter.unusedSimpArgs false
namespace Go.Proofs.Ytdndchoghhllmaa
open Go.RowKit
open Go.Maps (Keyed)
/-- a map's elements as they stand -/
def RV (v : Value) : Option (DataW Value × List MemPlace) := some (.held v, [])
/-- a group of the program, with its blocks: its own, its patches', that of those ahead -/
structure Pr where
  g : Gp
  b : Nat
  pm : Nat
  am : Nat
namespace Pr
def has (q : Pr) (b : Nat) : Prop := b = q.b ∨ b = q.pm ∨ b = q.am
def cs (q : Pr) : Array Value := #[.int .u8 q.g.s, .map (some q.pm), .map (some q.am)]
end Pr
def gp (L : List Pr) : List Gp := L.map (·.g)
theorem length_gp (L : List Pr) : (gp L).length = L.length := by simp [gp]
/-- all blocks are told apart -/
structure Apart (g mb : Nat) (L : List Pr) : Prop where
  gm : g ≠ mb
  one : ∀ q ∈ L, q.b ≠ g ∧ q.b ≠ mb ∧ q.pm ≠ g ∧ q.pm ≠ mb ∧ q.am ≠ g ∧ q.am ≠ mb ∧ q.b ≠ q.pm ∧ q.b ≠ q.am ∧ q.pm ≠ q.am
  two : ∀ q ∈ L, ∀ q' ∈ L, q.g.n ≠ q'.g.n → ∀ b, q.has b → ¬ q'.has b
/-- the program's groups: the object g, its map mb, behind at most c deeds -/
structure PrgAt (B c : Nat) (w : World) (g mb : Nat) (L : List Pr) (k : Int) : Prop where
  head : w.heap[g]? = some (.cells #[.int .i64 (k - 1), .map (some mb)] 67 (0, 0))
  map : ∃ D : DataW Value, w.ownsMap Try.prog 3 RV mb c D ∧ (∀ x, Maps.has D (.int .i64 x) = true ↔ x ∈ nos (gp L)) ∧ ∀ q ∈ L, ∀ z, D.atKey (.int .i64 q.g.n) z = .held (.pointer (some ⟨q.b, 0, none⟩))
  nd : (nos (gp L)).Nodup
  ones : ∀ q ∈ L, w.heap[q.b]? = some (.cells q.cs 63 (0, 0))
  pats : ∀ q ∈ L, SetAt w q.pm c q.g.p
  ahs : ∀ q ∈ L, SetAt w q.am c q.g.a
  ap : Apart g mb L
  lo : B ≤ g ∧ B ≤ mb ∧ ∀ q ∈ L, ∀ b, q.has b → B ≤ b
def OfP (g mb : Nat) (L : List Pr) : Nat → Prop := fun b => b = g ∨ b = mb ∨ ∃ q ∈ L, q.has b
/-- the blocks of which the program's groups are made -/
def PB (w : World) (b : Nat) : Prop := MapB w b ∨ (∃ cur, w.heap[b]? = some (.cells cur 63 (0, 0))) ∨ ∃ cur, w.heap[b]? = some (.cells cur 67 (0, 0))
/-- those of which the document's are -/
def RB (w : World) (b : Nat) : Prop := IntB w b ∨ (∃ cur, w.heap[b]? = some (.cells cur 77 (0, 0))) ∨ ∃ cur, w.heap[b]? = some (.cells cur 75 (0, 0))
theorem not_both {w : World} {b : Nat} (h : PB w b) : ¬ RB w b := by
  rintro (⟨c2, h2⟩ | ⟨c2, h2⟩ | ⟨c2, h2⟩) <;> rcases h with ⟨e1, e2, h⟩ | ⟨c1, h⟩ | ⟨c1, h⟩ <;> (rw [h] at h2; simp at h2)
namespace PrgAt
variable {B c d : Nat} {w w' : World} {g mb : Nat} {L : List Pr} {k : Int}
theorem glt (h : PrgAt B c w g mb L k) : g < w.heap.size := (Array.getElem?_eq_some_iff.1 h.head).1
theorem mlt (h : PrgAt B c w g mb L k) : mb < w.heap.size := by obtain ⟨D, h1, _⟩ := h.map; exact h1.lt
theorem pb (h : PrgAt B c w g mb L k) : ∀ b, OfP g mb L b → PB w b := by
  rintro b (rfl | rfl | ⟨q, hq, rfl | rfl | rfl⟩)
  · exact .inr (.inr ⟨_, h.head⟩)
  · obtain ⟨D, h1, _⟩ := h.map; exact .inl (ownsB h1)
  · exact .inr (.inl ⟨_, h.ones q hq⟩)
  · exact .inl (h.pats q hq).mapB
  · exact .inl (h.ahs q hq).mapB
theorem lt (h : PrgAt B c w g mb L k) : ∀ b, OfP g mb L b → b < w.heap.size := by
  rintro b (rfl | rfl | ⟨q, hq, rfl | rfl | rfl⟩)
  · exact h.glt
  · exact h.mlt
  · exact (Array.getElem?_eq_some_iff.1 (h.ones q hq)).1
  · exact (h.pats q hq).lt
  · exact (h.ahs q hq).lt
theorem low (h : PrgAt B c w g mb L k) : ∀ b, OfP g mb L b → B ≤ b := by
  rintro b (rfl | rfl | ⟨q, hq, hb⟩)
  · exact h.lo.1
  · exact h.lo.2.1
  · exact h.lo.2.2 q hq b hb
theorem more (h : PrgAt B c w g mb L k) (hc : c ≤ d) : PrgAt B d w g mb L k := by
  obtain ⟨D, h1, h2⟩ := h.map
  exact ⟨h.head, ⟨D, h1.mono hc, h2⟩, h.nd, h.ones, fun q hq => (h.pats q hq).more hc, fun q hq => (h.ahs q hq).more hc, h.ap, h.lo⟩
theorem keep {S : Nat → Prop} (h : PrgAt B c w g mb L k) (hk : Kept w w' S) (hn : ∀ b, OfP g mb L b → ¬ S b) : PrgAt B c w' g mb L k := by
  obtain ⟨D, h1, h2⟩ := h.map
  exact ⟨(hk.block g h.glt (hn g (.inl rfl))).trans h.head, ⟨D, hk.map h1 (hn mb (.inr (.inl rfl))), h2⟩, h.nd,
    fun q hq => (hk.block q.b (h.lt _ (.inr (.inr ⟨q, hq, .inl rfl⟩))) (hn _ (.inr (.inr ⟨q, hq, .inl rfl⟩)))).trans (h.ones q hq),
    fun q hq => (h.pats q hq).keep hk (hn _ (.inr (.inr ⟨q, hq, .inr (.inl rfl)⟩))), fun q hq => (h.ahs q hq).keep hk (hn _ (.inr (.inr ⟨q, hq, .inr (.inr rfl)⟩))), h.ap, h.lo⟩
theorem fresh (h : PrgAt B c w g mb L k) (hb : Below w.heap.size w w') : PrgAt B c w' g mb L k := h.keep (S := fun _ => False) (Kept.fresh hb) (fun _ _ q => q)
theorem hcells (h : PrgAt B c w g mb L k) : w.cell? ⟨g, 0, none⟩ = some (.int .i64 (k - 1)) ∧ w.cell? ⟨g, 1, none⟩ = some (.map (some mb)) :=
  ⟨cell_of_row w g 0 _ _ (0, 0) h.head, cell_of_row w g 1 _ _ (0, 0) h.head⟩
theorem free (h : PrgAt B c w g mb L k) (j : Nat) : w.frozen? ⟨g, j, none⟩ = false := frozen_of_row w g j _ 67 h.head
theorem ocells (h : PrgAt B c w g mb L k) {q : Pr} (hq : q ∈ L) : w.cell? ⟨q.b, 0, none⟩ = some (.int .u8 q.g.s) ∧ w.cell? ⟨q.b, 1, none⟩ = some (.map (some q.pm)) ∧ w.cell? ⟨q.b, 2, none⟩ = some (.map (some q.am)) ∧ (∀ j, w.frozen? ⟨q.b, j, none⟩ = false) ∧ q.b < w.heap.size :=
  ⟨cell_of_row w q.b 0 _ _ (0, 0) (h.ones q hq), cell_of_row w q.b 1 _ _ (0, 0) (h.ones q hq), cell_of_row w q.b 2 _ _ (0, 0) (h.ones q hq), fun j => frozen_of_row w q.b j _ 63 (h.ones q hq), (Array.getElem?_eq_some_iff.1 (h.ones q hq)).1⟩
/-- the group of a number -/
theorem of_ (h : PrgAt B c w g mb L k) {n : Int} (hn : n ∈ nos (gp L)) : ∃ q ∈ L, q.g = ofN (gp L) n ∧ q.g.n = n := by
  obtain ⟨x, hx, e⟩ := List.mem_map.1 hn
  obtain ⟨q, hq, rfl⟩ := List.mem_map.1 hx
  have := ofN_self h.nd (List.mem_map.2 ⟨q, hq, rfl⟩ : q.g ∈ gp L)
  rw [e] at this
  exact ⟨q, hq, this.symm, e⟩
theorem uniq (h : PrgAt B c w g mb L k) {q q' : Pr} (hq : q ∈ L) (hq' : q' ∈ L) (e : q.g.n = q'.g.n) : q = q' := by
  have hnd : (L.map fun q => q.g.n).Nodup := by have := h.nd; unfold nos gp at this; rwa [List.map_map] at this
  clear h
  induction L with
  | nil => cases hq
  | cons a r ih =>
    obtain ⟨n1, n2⟩ := List.nodup_cons.1 (show (a.g.n :: r.map fun q => q.g.n).Nodup from hnd)
    rcases List.mem_cons.1 hq with e1 | e1
    · rcases List.mem_cons.1 hq' with e2 | e2
      · rw [e1, e2]
      · exact absurd (List.mem_map.2 ⟨q', e2, by rw [← e, e1]⟩) n1
    · rcases List.mem_cons.1 hq' with e2 | e2
      · exact absurd (List.mem_map.2 ⟨q, e1, by rw [e, e2]⟩) n1
      · exact ih e1 e2 n2
end PrgAt
theorem zeroP (w : World) : (zeroValue 53).run Try.prog w = .ok (.pointer none) w := by
  have := (by kernel_rfl : (Try.prog.info? 53).map (·.zero) = some (some (.pointer none)))
  cases hq : Try.prog.info? 53 with
  | none => simp [hq] at this
  | some i => simp [hq] at this; simp [zeroValue, typeInfo, hq, this]
section
variable (B c g mb : Nat) (L : List Pr) (k n : Int) (w : World)
set_option maxRecDepth 100000 in
set_option maxHeartbeats 1000000 in
/-- ask for a group that is there -/
theorem ask_in (h : PrgAt B c w g mb L k) {q : Pr} (hq : q ∈ L) (hn : WfI q.g.n) : Calls Try.prog 39 #[.pointer (some ⟨g, 0, none⟩), .int .i64 q.g.n] w fun e w' => e = .returned (.tuple #[.pointer (some ⟨q.b, 0, none⟩), .int .i64 0]) ∧ w = w' := by
  obtain ⟨_, c1⟩ := h.hcells
  have hg := h.glt
  obtain ⟨D, h1, h2, h3⟩ := h.map
  have H1 := Lib.hid h1
  have HK := Lib.hid (keyI hn)
  have Hh : Hid (Maps.has D (.int .i64 q.g.n) = true) := (h2 _).2 (in_nos (List.mem_map.2 ⟨q, hq, rfl⟩))
  have Hat : Hid (∀ v ps, RV v = some (D.atKey (.int .i64 q.g.n) (.held (.pointer none)), ps) → v = .pointer (some ⟨q.b, 0, none⟩)) := fun v ps hv => by
    rw [h3 q hq (.held (.pointer none))] at hv
    unfold RV at hv
    injection hv with hv
    injection hv with hv _
    injection hv
  generalize q.g.n = n at *
  generalize q.b = qb at *
  clear h h1 h2 h3 hn
  go_enter Try.func39, Try.ntmps39
  go_wp2_with (at_lookup; refine wpList_lookup_own_ok _ rfl _ _ 65 rfl 3 53 lawI Try.underlying65 RV (zeroP _) (.held (.pointer none)) [] rfl mb c D rfl H1.out _ _ rfl HK.out ?_; intro v ps hv; rw [Hh.out]; obtain rfl := Hat.out v ps hv; clear hv)
  go_ret2
  exact ⟨rfl, rfl⟩
set_option maxRecDepth 100000 in
set_option maxHeartbeats 1000000 in
/-- ask for one that is not -/
theorem ask_out (h : PrgAt B c w g mb L k) (hn : WfI n) (hno : n ∉ nos (gp L)) : Calls Try.prog 39 #[.pointer (some ⟨g, 0, none⟩), .int .i64 n] w fun e w' => e = .returned (.tuple #[.pointer none, .int .i64 5]) ∧ w = w' := by
  obtain ⟨_, c1⟩ := h.hcells
  have hg := h.glt
  obtain ⟨D, h1, h2, h3⟩ := h.map
  have H1 := Lib.hid h1
  have HK := Lib.hid (keyI hn)
  have Hh : Hid (Maps.has D (.int .i64 n) = false) := by
    unfold Hid
    cases q : Maps.has D (.int .i64 n) with
    | false => rfl
    | true => exact absurd ((h2 n).1 q) hno
  clear h h1 h2 h3 hn hno
  go_enter Try.func39, Try.ntmps39
  go_wp2_with (at_lookup; refine wpList_lookup_own_ok _ rfl _ _ 65 rfl 3 53 lawI Try.underlying65 RV (zeroP _) (.held (.pointer none)) [] rfl mb c D rfl H1.out _ _ rfl HK.out ?_; intro v ps hv; rw [Hh.out]; clear hv)
  go_ret2
  exact ⟨rfl, rfl⟩
set_option maxRecDepth 100000 in
set_option maxHeartbeats 1000000 in
theorem state_any (h : PrgAt B c w g mb L k) (hn : WfI n) : Calls Try.prog 17 #[.pointer (some ⟨g, 0, none⟩), .int .i64 n] w fun e w' => e = .returned (.int .u8 (stG (gp L) n)) ∧ w = w' := by
  by_cases hin : n ∈ nos (gp L)
  · obtain ⟨q, hq, e1, e2⟩ := h.of_ hin
    have Hs : Hid (stG (gp L) n = q.g.s) := by unfold Hid stG; rw [if_pos hin, e1]
    have HA := ask_in B c g mb L k w h hq (by rw [e2]; exact hn)
    rw [e2] at HA
    replace HA := Lib.hid HA
    obtain ⟨d0, _, _, _, hb⟩ := h.ocells hq
    generalize q.g.s = s at *
    generalize q.b = qb at *
    clear h hn hin e1 e2
    go_enter Try.func17, Try.ntmps17
    go_wp2_with (refine HA.out.mono ?_; rintro e w' ⟨rfl, rfl⟩)
    go_ret
    exact ⟨by rw [Hs.out]; rfl, rfl⟩
  · have Hs : Hid (stG (gp L) n = 0) := by unfold Hid stG; rw [if_neg hin]
    have HA := Lib.hid (ask_out B c g mb L k n w h hn hin)
    clear h hn hin
    go_enter Try.func17, Try.ntmps17
    go_wp2_with (refine HA.out.mono ?_; rintro e w' ⟨rfl, rfl⟩)
    go_ret
    exact ⟨by rw [Hs.out]; rfl, rfl⟩
end
end Go.Proofs.Ytdndchoghhllmaa
