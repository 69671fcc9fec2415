/- Memory: rows of numbers, what a call keeps, a group's cells. -/
import Derived.Test.YtpcindemkkdbbaaA
import Derived.WalkLawsBesides
import Derived.WalkSpells
import Derived.WalkMore
import Derived.Deep.QuietTactic
import Derived.BigQuiet
import Derived.Outline
import Derived.IntWalk
import Derived.Below
import Derived.Deep.Draws
import Derived.Laws.OwnMore
import Derived.Laws.AppendOwn
namespace Go.Proofs.Ytpcindemkkdbbaa
set_option linter.unusedVariables false
set_option linter.unusedSimpArgs false
open Go.RowKit

theorem ret_int {k : IntKind} {a b : Int} (h : a = b) : Ending.returned (.int k a) = .returned (.int k b) := by rw [h]
theorem ret_bool {a b : Bool} (h : a = b) : Ending.returned (.bool a) = .returned (.bool b) := by rw [h]
/-- under A, below block B, the cells are the numbers l -/
def Ints (w : World) (B : Nat) (A : Option Addr) (l : List Int) : Prop :=
  0 < l.length → ∃ b off, A = some ⟨b, off, none⟩ ∧ b < B ∧ ∀ j, j < l.length → w.cell? ⟨b, off + j, none⟩ = some (.int .i64 (nth l j))
section
variable {w w' : World} {B B' : Nat} {A : Option Addr} {l : List Int}
theorem Ints.keep (h : Ints w B A l) (hk : ∀ p : Addr, p.block < B → w'.cell? p = w.cell? p) : Ints w' B A l := fun hn => by
  obtain ⟨b, off, e, hb, hc⟩ := h hn
  exact ⟨b, off, e, hb, fun j hj => (hk _ hb).trans (hc j hj)⟩
theorem Ints.more (h : Ints w B A l) (hB : B ≤ B') : Ints w B' A l := fun hn => by
  obtain ⟨b, off, e, hb, hc⟩ := h hn
  exact ⟨b, off, e, by omega, hc⟩
theorem Ints.below (h : Ints w B A l) (hb : Below B w w') : Ints w' B A l := h.keep fun _ hp => hb.cell hp
theorem Ints.next (h : Ints w w.heap.size A l) (hb : Below w.heap.size w w') : Ints w' w'.heap.size A l := (h.below hb).more hb.size
theorem Ints.nil : Ints w B A [] := fun h => by simp at h
theorem Ints.take (h : Ints w B A l) (n : Nat) : Ints w B A (l.take n) := fun hn => by
  rw [List.length_take] at hn
  obtain ⟨b, off, e, hb, hc⟩ := h (by omega)
  refine ⟨b, off, e, hb, fun j hj => ?_⟩
  rw [List.length_take] at hj
  rw [nth_take (by omega) (by omega)]
  exact hc j (by omega)
end
def intsV (l : List Int) : List Value := l.map fun i => Value.int .i64 i
theorem length_intsV (l : List Int) : (intsV l).length = l.length := by simp [intsV]
theorem intsV_at {l : List Int} {k : Nat} (h : k < l.length) : (intsV l)[k]? = some (.int .i64 (nth l k)) := by
  rw [intsV, List.getElem?_map, List.getElem?_eq_getElem h, nth_lt h]; rfl
theorem intsV_one (l : List Int) : ∀ v ∈ intsV l, v.oneCell' = true := fun v hv => by
  obtain ⟨x, _, rfl⟩ := List.mem_map.1 hv; rfl
/-- which block a slice lies in -/
def own (A : Option Addr) : Option Nat := A.map (·.block)
theorem own_eq (A : Option Addr) (n c : Nat) : (Value.slice A n c).ownBlock = own A := by cases A <;> rfl
/-- a row of numbers of one's own -/
def RowI (w : World) (B : Nat) (A : Option Addr) (c : Nat) (l : List Int) : Prop := w.ownsRow B 3 1 (.slice A l.length c) l.length (intsV l)
theorem own_ints {w : World} {B n : Nat} {v : Value} {l : List Int} (h : w.ownsRow B 3 1 v n (intsV l)) : n = l.length ∧ ∃ A c, v = .slice A l.length c ∧ RowI w B A c l := by
  have hn : l.length = n := by have := h.1; simpa [intsV] using this
  subst hn
  refine ⟨rfl, ?_⟩
  rcases h.2 with ⟨rfl, hn⟩ | ⟨g, cap, cur, rfl, _, hg, hnc, hcm, _⟩
  · rw [hn] at h
    exact ⟨none, 0, by rw [hn], by unfold RowI; rw [hn]; exact h⟩
  · exact ⟨_, cap, rfl, h⟩
theorem RowI.ints {w : World} {B : Nat} {A : Option Addr} {c : Nat} {l : List Int} (h : RowI w B A c l) : Ints w w.heap.size A l := fun h0 => by
  rcases h.2 with ⟨q, hn⟩ | ⟨g, cap, cur, q, _, hg, hnc, hcm, _⟩
  · omega
  · have e := (Value.slice.inj q).1
    subst e
    refine ⟨g, 0, rfl, (h.lt g rfl).2, fun j hj => ?_⟩
    rw [Nat.zero_add, h.cellAt j (by omega), intsV_at hj]
/-- all but the blocks S is as it was -/
structure Kept (w w' : World) (S : Nat → Prop) : Prop where
  os : w'.os = w.os
  tape : w'.tape = w.tape
  output : w'.output = w.output
  size : w.heap.size ≤ w'.heap.size
  block : ∀ k, k < w.heap.size → ¬ S k → w'.heap[k]? = w.heap[k]?
namespace Kept
variable {w w1 w2 : World} {S S' : Nat → Prop}
theorem refl (w : World) (S : Nat → Prop) : Kept w w S := ⟨rfl, rfl, rfl, Nat.le_refl _, fun _ _ _ => rfl⟩
theorem trans (h : Kept w w1 S) (k : Kept w1 w2 S') (hs : ∀ b, S' b → S b ∨ w.heap.size ≤ b) : Kept w w2 S :=
  ⟨k.os.trans h.os, k.tape.trans h.tape, k.output.trans h.output, Nat.le_trans h.size k.size, fun b hb hn => by
    rw [k.block b (Nat.lt_of_lt_of_le hb h.size) (fun q => by rcases hs b q with q | q; exact hn q; omega)]
    exact h.block b hb hn⟩
theorem more (h : Kept w w1 S) (hs : ∀ b, S b → S' b ∨ w.heap.size ≤ b) : Kept w w1 S' := (refl w S').trans h hs
theorem below {B : Nat} (h : Kept w w1 S) (hs : ∀ b, S b → B ≤ b) (hB : B ≤ w.heap.size) : Below B w w1 :=
  ⟨h.os, h.tape, h.output, h.size, fun k hk => h.block k (by omega) (fun q => by have := hs k q; omega)⟩
theorem of_below {B : Nat} (h : Below B w w1) (hs : ∀ b, B ≤ b → S b ∨ w.heap.size ≤ b) : Kept w w1 S :=
  ⟨h.os, h.tape, h.output, h.size, fun k hk hn => by
    rcases Nat.lt_or_ge k B with h1 | h1
    · exact h.block k h1
    · rcases hs k h1 with q | q
      · exact absurd q hn
      · omega⟩
theorem fresh (h : Below w.heap.size w w1) : Kept w w1 S := of_below h fun _ hb => .inr hb
theorem grown {row : Option Nat} (h : w.grownBy w1 row) (hs : ∀ k, row = some k → S k ∨ w.heap.size ≤ k) : Kept w w1 S :=
  ⟨h.os, h.tape, h.output, h.size, fun k hk hn => h.block k hk (fun q => by rcases hs k q.symm with q | q; exact hn q; omega)⟩
theorem drew (h : Kept w w1 S) : Kept w w1.drew S := ⟨h.os, h.tape, h.output, h.size, h.block⟩
theorem cell (h : Kept w w1 S) {a : Addr} (hlt : a.block < w.heap.size) (hn : ¬ S a.block) : w1.cell? a = w.cell? a := World.cell?_of_block (h.block _ hlt hn)
theorem row (h : Kept w w1 S) {base : Nat} {e : TypeId} {size : Nat} {v : Value} {n : Nat} {xs : List Value} (hr : w.ownsRow base e size v n xs) (hn : ∀ k, v.ownBlock = some k → ¬ S k) : w1.ownsRow base e size v n xs := by
  refine ⟨hr.1, ?_⟩
  rcases hr.2 with h0 | ⟨g, cap, cur, rfl, hb, hgg, rest⟩
  · exact .inl h0
  · refine .inr ⟨g, cap, cur, rfl, hb, ?_, rest⟩
    rw [h.block g (Array.getElem?_eq_some_iff.1 hgg).1 (hn g rfl)]
    exact hgg
end Kept

theorem bdn {B : Nat} {a w : World} (h : Below B a w) (n : Nat) : Below B a (w.drewN n) := ⟨h.os, h.tape, h.output, h.size, h.block⟩
/-- the cells of a group -/
structure CyAt (w : World) (B b o : Nat) (x : Cy) (A : Option Addr) (c : Nat) (A2 : Option Addr) (d : Nat) : Prop where
  c0 : w.cell? ⟨b, o, none⟩ = some (.int .i64 x.ix)
  c1 : w.cell? ⟨b, o + 1, none⟩ = some (.int .i64 x.bl)
  c2 : w.cell? ⟨b, o + 2, none⟩ = some (.int .i64 x.fb)
  c3 : w.cell? ⟨b, o + 3, none⟩ = some (.int .i64 x.fi)
  c4 : w.cell? ⟨b, o + 4, none⟩ = some (.int .i64 x.ro)
  c5 : w.cell? ⟨b, o + 5, none⟩ = some (.slice A x.us.length c)
  c6 : w.cell? ⟨b, o + 6, none⟩ = some (.slice A2 x.is.length d)
  us : Ints w B A x.us
  is : Ints w B A2 x.is
/-- a slice's address under which, below block B, the cells are the groups l -/
def Cyls (w : World) (B : Nat) (A : Option Addr) (l : List Cy) : Prop :=
  0 < l.length → ∃ (b off : Nat) (Af : Nat → Option Addr) (Cf : Nat → Nat) (Ag : Nat → Option Addr) (Cg : Nat → Nat), A = some ⟨b, off, none⟩ ∧ b < B ∧ ∀ j, j < l.length → CyAt w B b (off + j * 7) (cyN l j) (Af j) (Cf j) (Ag j) (Cg j)
section
variable {w w' : World} {B B' : Nat} {A : Option Addr} {l : List Cy}
theorem CyAt.keep {b o : Nat} {x : Cy} {A A2 : Option Addr} {c c2 : Nat} (h : CyAt w B b o x A c A2 c2) (hb : b < B) (hk : ∀ p : Addr, p.block < B → w'.cell? p = w.cell? p) : CyAt w' B b o x A c A2 c2 :=
  ⟨(hk _ hb).trans h.c0, (hk _ hb).trans h.c1, (hk _ hb).trans h.c2, (hk _ hb).trans h.c3, (hk _ hb).trans h.c4, (hk _ hb).trans h.c5, (hk _ hb).trans h.c6, h.us.keep hk, h.is.keep hk⟩
theorem CyAt.more {b o : Nat} {x : Cy} {A A2 : Option Addr} {c c2 : Nat} (h : CyAt w B b o x A c A2 c2) (hB : B ≤ B') : CyAt w B' b o x A c A2 c2 :=
  ⟨h.c0, h.c1, h.c2, h.c3, h.c4, h.c5, h.c6, h.us.more hB, h.is.more hB⟩
theorem Cyls.keep (h : Cyls w B A l) (hk : ∀ p : Addr, p.block < B → w'.cell? p = w.cell? p) : Cyls w' B A l := fun hn => by
  obtain ⟨b, off, Af, Cf, Ag, Cg, e, hb, hc⟩ := h hn
  exact ⟨b, off, Af, Cf, Ag, Cg, e, hb, fun j hj => (hc j hj).keep hb hk⟩
theorem Cyls.more (h : Cyls w B A l) (hB : B ≤ B') : Cyls w B' A l := fun hn => by
  obtain ⟨b, off, Af, Cf, Ag, Cg, e, hb, hc⟩ := h hn
  exact ⟨b, off, Af, Cf, Ag, Cg, e, by omega, fun j hj => (hc j hj).more hB⟩
theorem Cyls.below (h : Cyls w B A l) (hb : Below B w w') : Cyls w' B A l := h.keep fun _ hp => hb.cell hp
theorem Cyls.next (h : Cyls w w.heap.size A l) (hb : Below w.heap.size w w') : Cyls w' w'.heap.size A l := (h.below hb).more hb.size
theorem Cyls.nil : Cyls w B A [] := fun h => by simp at h
theorem Cyls.at_ (h : Cyls w B A l) {k : Nat} (hk : k < l.length) : ∃ b off Ak ck A2 c2, A = some ⟨b, off, none⟩ ∧ b < B ∧ CyAt w B b (off + k * 7) (cyN l k) Ak ck A2 c2 := by
  obtain ⟨b, off, Af, Cf, Ag, Cg, e, hb, hc⟩ := h (by omega)
  exact ⟨b, off, _, _, _, _, e, hb, hc k hk⟩
theorem Cyls.take (h : Cyls w B A l) (n : Nat) : Cyls w B A (l.take n) := fun hn => by
  rw [List.length_take] at hn
  obtain ⟨b, off, Af, Cf, Ag, Cg, e, hb, hc⟩ := h (by omega)
  refine ⟨b, off, Af, Cf, Ag, Cg, e, hb, fun j hj => ?_⟩
  rw [List.length_take] at hj
  rw [cyN_take (by omega) (by omega)]
  exact hc j (by omega)
end
end Go.Proofs.Ytpcindemkkdbbaa
