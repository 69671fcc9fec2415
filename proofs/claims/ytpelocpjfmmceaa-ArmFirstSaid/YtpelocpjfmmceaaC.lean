/- Memory: rows of numbers, rows of requests, an arm; what a call keeps. -/
import Derived.Test.YtpelocpjfmmceaaProg
import Derived.Test.YtpelocpjfmmceaaA
import Derived.WalkKit
import Derived.WalkLawsBesides
import Derived.WalkSpells
import Derived.WalkMore
import Derived.Deep.QuietTactic
import Derived.BigQuiet
import Derived.BigRegion
import Derived.Lib.Hide
import Derived.Outline
import Derived.IntWalk
import Derived.Below
import Derived.Deep.AppendLies
import Derived.Deep.Draws
import Derived.Laws.CopyOwn
import Derived.Laws.OwnMore
import Derived.Laws.AppendOwn
import Derived.Deep.RegionLaw
import Derived.Deep.RegionHeld3
import Derived.Maps.AppendAt
set_option linter.unusedVariables false
set_option linter.unusedSimpArgs false
namespace Go.Proofs.Ytpelocpjfmmceaa
open Go.RowKit

theorem ret_int {k : IntKind} {a b : Int} (h : a = b) : Ending.returned (.int k a) = .returned (.int k b) := by rw [h]
theorem ret_bool {a b : Bool} (h : a = b) : Ending.returned (.bool a) = .returned (.bool b) := by rw [h]
/-- under A, below block B, the cells are the numbers l -/
def Ints (w : World) (B : Nat) (A : Option Addr) (l : List Int) : Prop :=
  0 < l.length → ∃ b off, A = some ⟨b, off, none⟩ ∧ b < B ∧ ∀ j, j < l.length → w.cell? ⟨b, off + j, none⟩ = some (.int .i64 (inn l j))
section
variable {w w' : World} {B B' : Nat} {A : Option Addr} {l : List Int}
theorem Ints.keep (h : Ints w B A l) (hk : ∀ p : Addr, p.block < B → w'.cell? p = w.cell? p) : Ints w' B A l := fun hn => by
  obtain ⟨b, off, e, hb, hc⟩ := h hn
  exact ⟨b, off, e, hb, fun j hj => (hk _ hb).trans (hc j hj)⟩
theorem Ints.more (h : Ints w B A l) (hB : B ≤ B') : Ints w B' A l := fun hn => by
  obtain ⟨b, off, e, hb, hc⟩ := h hn
  exact ⟨b, off, e, by omega, hc⟩
theorem Ints.below (h : Ints w B A l) (hb : Below B w w') : Ints w' B A l := h.keep fun _ hp => hb.cell hp
theorem Ints.next (h : Ints w w.heap.size A l) (hb : Below w.heap.size w w') : Ints w' w'.heap.size A l := (h.below hb).more hb.size
theorem Ints.nil : Ints w B A [] := fun h => by simp at h
theorem Ints.take (h : Ints w B A l) (n : Nat) : Ints w B A (l.take n) := fun hn => by
  rw [List.length_take] at hn
  obtain ⟨b, off, e, hb, hc⟩ := h (by omega)
  refine ⟨b, off, e, hb, fun j hj => ?_⟩
  rw [List.length_take] at hj
  rw [inn_take (by omega)]
  exact hc j (by omega)
theorem Ints.at_ (h : Ints w B A l) {k : Nat} (hk : k < l.length) : ∃ b off, A = some ⟨b, off, none⟩ ∧ b < B ∧ w.cell? ⟨b, off + k, none⟩ = some (.int .i64 (inn l k)) := by
  obtain ⟨b, off, e, hb, hc⟩ := h (by omega)
  exact ⟨b, off, e, hb, hc k hk⟩
end
def intsV (l : List Int) : List Value := l.map fun i => Value.int .i64 i
theorem length_intsV (l : List Int) : (intsV l).length = l.length := by simp [intsV]
theorem intsV_at {l : List Int} {k : Nat} (h : k < l.length) : (intsV l)[k]? = some (.int .i64 (inn l k)) := by
  rw [intsV, List.getElem?_map, List.getElem?_eq_getElem h, inn_lt h]; rfl
theorem intsV_one (l : List Int) : ∀ v ∈ intsV l, v.oneCell' = true := fun v hv => by
  obtain ⟨x, _, rfl⟩ := List.mem_map.1 hv; rfl
theorem intsV_take (l : List Int) (k : Nat) : (intsV l).take k = intsV (l.take k) := by simp [intsV, List.map_take]
theorem intsV_append (a b : List Int) : intsV (a ++ b) = intsV a ++ intsV b := by simp [intsV]
/-- which block a slice lies in -/
def own (A : Option Addr) : Option Nat := A.map (·.block)
theorem own_eq (A : Option Addr) (n c : Nat) : (Value.slice A n c).ownBlock = own A := by cases A <;> rfl
theorem own_form {w : World} {B n size : Nat} {E : TypeId} {v : Value} {xs : List Value} (h : w.ownsRow B E size v n xs) : ∃ A c, v = .slice A n c := by
  rcases h.2 with ⟨rfl, hn⟩ | ⟨g, cap, cur, rfl, _⟩
  · exact ⟨none, 0, by rw [hn]⟩
  · exact ⟨_, cap, rfl⟩
/-- a row of numbers of one's own -/
def RowI (w : World) (B : Nat) (A : Option Addr) (c : Nat) (l : List Int) : Prop := w.ownsRow B 3 1 (.slice A l.length c) l.length (intsV l)
theorem own_ints {w : World} {B n : Nat} {v : Value} {l : List Int} (h : w.ownsRow B 3 1 v n (intsV l)) : n = l.length ∧ ∃ A c, v = .slice A l.length c ∧ RowI w B A c l := by
  have hn : l.length = n := by have := h.1; simpa [intsV] using this
  subst hn
  obtain ⟨A, c, rfl⟩ := own_form h
  exact ⟨rfl, A, c, rfl, h⟩
theorem RowI.ints {w : World} {B : Nat} {A : Option Addr} {c : Nat} {l : List Int} (h : RowI w B A c l) : Ints w w.heap.size A l := fun h0 => by
  rcases h.2 with ⟨q, hn⟩ | ⟨g, cap, cur, q, _, hg, hnc, hcm, _⟩
  · omega
  · have e := (Value.slice.inj q).1
    subst e
    refine ⟨g, 0, rfl, (h.lt g rfl).2, fun j hj => ?_⟩
    rw [Nat.zero_add, h.cellAt j (by omega), intsV_at hj]
/-- all but the blocks S is as it was -/
structure Kept (w w' : World) (S : Nat → Prop) : Prop where
  os : w'.os = w.os
  tape : w'.tape = w.tape
  output : w'.output = w.output
  size : w.heap.size ≤ w'.heap.size
  block : ∀ k, k < w.heap.size → ¬ S k → w'.heap[k]? = w.heap[k]?
namespace Kept
variable {w w1 w2 : World} {S S' : Nat → Prop}
theorem refl (w : World) (S : Nat → Prop) : Kept w w S := ⟨rfl, rfl, rfl, Nat.le_refl _, fun _ _ _ => rfl⟩
theorem trans (h : Kept w w1 S) (k : Kept w1 w2 S') (hs : ∀ b, S' b → S b ∨ w.heap.size ≤ b) : Kept w w2 S :=
  ⟨k.os.trans h.os, k.tape.trans h.tape, k.output.trans h.output, Nat.le_trans h.size k.size, fun b hb hn => by
    rw [k.block b (Nat.lt_of_lt_of_le hb h.size) (fun q => by rcases hs b q with q | q; exact hn q; omega)]
    exact h.block b hb hn⟩
theorem more (h : Kept w w1 S) (hs : ∀ b, S b → S' b ∨ w.heap.size ≤ b) : Kept w w1 S' := (refl w S').trans h hs
theorem below {B : Nat} (h : Kept w w1 S) (hs : ∀ b, S b → B ≤ b) (hB : B ≤ w.heap.size) : Below B w w1 :=
  ⟨h.os, h.tape, h.output, h.size, fun k hk => h.block k (by omega) (fun q => by have := hs k q; omega)⟩
theorem of_below {B : Nat} (h : Below B w w1) (hs : ∀ b, B ≤ b → S b ∨ w.heap.size ≤ b) : Kept w w1 S :=
  ⟨h.os, h.tape, h.output, h.size, fun k hk hn => by
    rcases Nat.lt_or_ge k B with h1 | h1
    · exact h.block k h1
    · rcases hs k h1 with q | q
      · exact absurd q hn
      · omega⟩
theorem fresh (h : Below w.heap.size w w1) : Kept w w1 S := of_below h fun _ hb => .inr hb
theorem grown {row : Option Nat} (h : w.grownBy w1 row) (hs : ∀ k, row = some k → S k ∨ w.heap.size ≤ k) : Kept w w1 S :=
  ⟨h.os, h.tape, h.output, h.size, fun k hk hn => h.block k hk (fun q => by rcases hs k q.symm with q | q; exact hn q; omega)⟩
theorem drew (h : Kept w w1 S) : Kept w w1.drew S := ⟨h.os, h.tape, h.output, h.size, h.block⟩
theorem cell (h : Kept w w1 S) {a : Addr} (hlt : a.block < w.heap.size) (hn : ¬ S a.block) : w1.cell? a = w.cell? a := World.cell?_of_block (h.block _ hlt hn)
theorem frozen (h : Kept w w1 S) {a : Addr} (hlt : a.block < w.heap.size) (hn : ¬ S a.block) : w1.frozen? a = w.frozen? a := World.frozen?_of_block (h.block _ hlt hn)
theorem row (h : Kept w w1 S) {base : Nat} {e : TypeId} {size : Nat} {v : Value} {n : Nat} {xs : List Value} (hr : w.ownsRow base e size v n xs) (hn : ∀ k, v.ownBlock = some k → ¬ S k) : w1.ownsRow base e size v n xs := by
  refine ⟨hr.1, ?_⟩
  rcases hr.2 with h0 | ⟨g, cap, cur, rfl, hb, hgg, rest⟩
  · exact .inl h0
  · refine .inr ⟨g, cap, cur, rfl, hb, ?_, rest⟩
    rw [h.block g (Array.getElem?_eq_some_iff.1 hgg).1 (hn g rfl)]
    exact hgg
theorem set (w : World) (b o : Nat) (v : Value) : Kept w (w.setCell ⟨b, o, none⟩ v) (fun k => k = b) := ⟨rfl, rfl, rfl, by simp, fun k _ hn => heap_setCell_other w ⟨b, o, none⟩ k v hn⟩
end Kept
theorem bdn {B : Nat} {a w : World} (h : Below B a w) (n : Nat) : Below B a (w.drewN n) := ⟨h.os, h.tape, h.output, h.size, h.block⟩
theorem bcell {W w1 : World} (hb : Below W.heap.size W w1) : (∀ b o, b < W.heap.size → w1.cell? ⟨b, o, none⟩ = W.cell? ⟨b, o, none⟩) ∧ (∀ b o, b < W.heap.size → w1.frozen? ⟨b, o, none⟩ = W.frozen? ⟨b, o, none⟩) :=
  ⟨fun b o h => hb.cell (p := ⟨b, o, none⟩) h, fun b o h => hb.frozen (p := ⟨b, o, none⟩) h⟩

/-! ### rows of requests -/
namespace Rq
def cs (r : Rq) : List Value := [.int .i64 r.b, .int .i64 r.a]
def v (r : Rq) : Value := .agg #[.int .i64 r.b, .int .i64 r.a]
end Rq
def flatQ (l : List Rq) : List Value := l.flatMap Rq.cs
theorem flatQ_cons (h : Rq) (l : List Rq) : flatQ (h :: l) = h.cs ++ flatQ l := by simp [flatQ]
theorem length_flatQ (l : List Rq) : (flatQ l).length = l.length * 2 := by
  induction l with
  | nil => rfl
  | cons h r ih => rw [flatQ_cons, List.length_append, ih]; simp [Rq.cs]; omega
theorem flatQ_append (a b : List Rq) : flatQ (a ++ b) = flatQ a ++ flatQ b := by simp [flatQ]
theorem flatQ_take (l : List Rq) (k : Nat) : (flatQ l).take (k * 2) = flatQ (l.take k) := by
  induction l generalizing k with
  | nil => simp [flatQ]
  | cons h r ih =>
    cases k with
    | zero => simp [flatQ]
    | succ k => rw [List.take_succ_cons, flatQ_cons, flatQ_cons, ← ih, show (k + 1) * 2 = k * 2 + 2 by omega]; simp [Rq.cs]
theorem flatQ_drop (l : List Rq) (k : Nat) : (flatQ l).drop (k * 2) = flatQ (l.drop k) := by
  induction l generalizing k with
  | nil => simp [flatQ]
  | cons h r ih =>
    cases k with
    | zero => simp
    | succ k => rw [List.drop_succ_cons, flatQ_cons, ← ih, show (k + 1) * 2 = k * 2 + 2 by omega]; simp [Rq.cs]
theorem flatQ_get {l : List Rq} {k j : Nat} (hk : k < l.length) (hj : j < 2) : (flatQ l)[k * 2 + j]? = (rn l k).cs[j]? := by
  have h := List.getElem?_drop (xs := flatQ l) (i := k * 2) (j := j)
  rw [← h, flatQ_drop, List.drop_eq_getElem_cons hk, flatQ_cons, List.getElem?_append_left (by simpa [Rq.cs] using hj), rn_lt hk]
theorem flatQ_one (l : List Rq) : ∀ u ∈ flatQ l, u.oneCell' = true := by
  intro u hu
  obtain ⟨h, _, hm⟩ := List.mem_flatMap.1 hu
  simp [Rq.cs] at hm
  rcases hm with rfl | rfl <;> rfl
def modQ (l : List Rq) (k : Nat) (f : Rq → Rq) : List Rq := l.set k (f (rn l k))
theorem flatQ_set {l : List Rq} {k : Nat} (hk : k < l.length) (f : Rq → Rq) (j : Nat) (u : Value) (hf : ∀ h : Rq, (f h).cs = h.cs.set j u) (hj : j < 2) : (flatQ l).set (k * 2 + j) u = flatQ (modQ l k f) := by
  induction l generalizing k with
  | nil => simp at hk
  | cons h r ih =>
    cases k with
    | zero =>
      rw [show (0 * 2 + j) = j by omega, flatQ_cons, List.set_append_left _ _ (by simpa [Rq.cs] using hj), ← hf]
      simp [modQ, rn, flatQ_cons]
    | succ k =>
      have hk' : k < r.length := by simpa using hk
      rw [flatQ_cons, List.set_append_right _ _ (by simp [Rq.cs]; omega), show (k + 1) * 2 + j - h.cs.length = k * 2 + j by simp [Rq.cs]; omega, ih hk']
      simp [modQ, rn, flatQ_cons]
/-- values laid over others, from the o-th on -/
def setV (xs : List Value) (o : Nat) : List Value → List Value
  | [] => xs
  | v :: vs => setV (xs.set o v) (o + 1) vs
theorem grown_trans {w w1 w2 : World} {g : Nat} (h : w.grownBy w1 (some g)) (k : w1.grownBy w2 (some g)) : w.grownBy w2 (some g) :=
  ⟨k.os.trans h.os, k.tape.trans h.tape, k.output.trans h.output, Nat.le_trans h.size k.size, fun z hz hz2 => (k.block z (Nat.lt_of_lt_of_le hz h.size) hz2).trans (h.block z hz hz2)⟩
theorem own_setCells {B : Nat} {e : TypeId} {size g n cap : Nat} : ∀ (vs : List Value) (o : Nat) (xs : List Value) (w : World), w.ownsRow B e size (.slice (some ⟨g, 0, none⟩) n cap) n xs →
    (w.setCells g o vs).ownsRow B e size (.slice (some ⟨g, 0, none⟩) n cap) n (setV xs o vs) ∧ w.grownBy (w.setCells g o vs) (some g)
  | [], _, _, w, h => ⟨h, World.grownBy.refl w _⟩
  | v :: vs, o, xs, w, h => by
    obtain ⟨h1, h2⟩ := h.stored o v
    obtain ⟨h3, h4⟩ := own_setCells vs (o + 1) (xs.set o v) _ h1
    exact ⟨h3, grown_trans h2 h4⟩
theorem setV_append (a b : List Value) (o : Nat) : ∀ (vs : List Value) , setV (a ++ b) (a.length + o) vs = a ++ setV b o vs := by
  intro vs
  induction vs generalizing b o with
  | nil => rfl
  | cons v vs ih =>
    unfold setV
    rw [List.set_append_right _ _ (by omega), show a.length + o - a.length = o by omega, show a.length + o + 1 = a.length + (o + 1) by omega, ih]
theorem length_cs (r : Rq) : r.cs.length = 2 := rfl
theorem cs_one (r : Rq) : ∀ u ∈ r.cs, u.oneCell' = true := by
  intro u hu
  simp [Rq.cs] at hu
  rcases hu with rfl | rfl <;> rfl
theorem flatQ_put {l : List Rq} {k : Nat} (hk : k < l.length) (x : Rq) : setV (flatQ l) (k * 2) x.cs = flatQ (l.set k x) := by
  induction l generalizing k with
  | nil => simp at hk
  | cons h r ih =>
    cases k with
    | zero => simp [flatQ_cons, Rq.cs, setV]
    | succ k =>
      have := setV_append h.cs (flatQ r) (k * 2) x.cs
      rw [flatQ_cons, show (k + 1) * 2 = h.cs.length + k * 2 by rw [length_cs]; omega, this, ih (by simpa using hk), List.set_cons_succ, flatQ_cons]
/-- a row of requests of one's own -/
def RowQ (E : TypeId) (w : World) (B : Nat) (A : Option Addr) (c : Nat) (l : List Rq) : Prop := w.ownsRow B E 2 (.slice A l.length c) l.length (flatQ l)
theorem own_take {w : World} {B size : Nat} {E : TypeId} {b cap n : Nat} {xs : List Value} (h : w.ownsRow B E size (.slice (some ⟨b, 0, none⟩) n cap) n xs) {i : Nat} (hi : i ≤ n) :
    w.ownsRow B E size (.slice (some ⟨b, 0, none⟩) i cap) i (xs.take (i * size)) := by
  rcases h.2 with ⟨q, _⟩ | ⟨g, c, cur, q, hB, hg, h1, h2, h3, h4⟩
  · cases q
  · cases q
    refine ⟨by rw [List.length_take, h.1, Nat.min_eq_left]; exact Nat.mul_le_mul_right _ hi, .inr ⟨b, cap, cur, rfl, hB, hg, by omega, h2, h3, ?_⟩⟩
    rw [← h4, List.take_take, Nat.min_eq_left (Nat.mul_le_mul_right _ hi)]
theorem own_cap {w : World} {B size : Nat} {E : TypeId} {A : Option Addr} {n c : Nat} {xs : List Value} (h : w.ownsRow B E size (.slice A n c) n xs) : n ≤ c ∧ c ≤ maxLen := by
  rcases h.2 with ⟨q, q0⟩ | ⟨g, cap, cur, q, hB, hg, h1, h2, h3, h4⟩
  · obtain ⟨_, h1, h2⟩ := Value.slice.inj q
    rw [q0]; exact ⟨Nat.zero_le _, by omega⟩
  · obtain ⟨_, h3, h5⟩ := Value.slice.inj q
    subst h5; exact ⟨h1, h2⟩
namespace RowQ
variable {E : TypeId} {w w' : World} {B : Nat} {A : Option Addr} {c : Nat} {l : List Rq}
theorem at_ (h : RowQ E w B A c l) {k : Nat} (hk : k < l.length) : ∃ b, A = some ⟨b, 0, none⟩ ∧ l.length ≤ c ∧ c ≤ maxLen ∧ b < w.heap.size ∧ B ≤ b ∧ w.cell? ⟨b, k * 2, none⟩ = some (.int .i64 (rn l k).b) ∧ w.cell? ⟨b, k * 2 + 1, none⟩ = some (.int .i64 (rn l k).a) ∧ ∀ j, w.frozen? ⟨b, j, none⟩ = false := by
  obtain ⟨b, cap, q, hB, hb⟩ := h.form (by omega)
  obtain ⟨rfl, _, rfl⟩ := Value.slice.inj q
  have hc : ∀ j, j < 2 → w.cell? ⟨b, k * 2 + j, none⟩ = (rn l k).cs[j]? := fun j hj => by
    rw [h.cellAt (k * 2 + j) (by omega), flatQ_get hk hj]
  exact ⟨b, rfl, (own_cap h).1, (own_cap h).2, hb, hB, hc 0 (by omega), hc 1 (by omega), fun j => h.frozenAt j⟩
theorem keep {S : Nat → Prop} (h : RowQ E w B A c l) (hk : Kept w w' S) (hn : ∀ k, own A = some k → ¬ S k) : RowQ E w' B A c l := hk.row h (fun k e => hn k (by rw [← own_eq A l.length c]; exact e))
theorem fresh (h : RowQ E w B A c l) (hb : Below w.heap.size w w') : RowQ E w' B A c l := h.keep (S := fun _ => False) (Kept.fresh hb) (fun _ _ q => q)
theorem lt (h : RowQ E w B A c l) : ∀ k, own A = some k → B ≤ k ∧ k < w.heap.size := fun k e => World.ownsRow.lt h k (by rw [own_eq]; exact e)
end RowQ
namespace RowI
variable {w w' : World} {B : Nat} {A : Option Addr} {c : Nat} {l : List Int}
theorem keep {S : Nat → Prop} (h : RowI w B A c l) (hk : Kept w w' S) (hn : ∀ k, own A = some k → ¬ S k) : RowI w' B A c l := hk.row h (fun k e => hn k (by rw [← own_eq A l.length c]; exact e))
theorem fresh (h : RowI w B A c l) (hb : Below w.heap.size w w') : RowI w' B A c l := h.keep (S := fun _ => False) (Kept.fresh hb) (fun _ _ q => q)
theorem lt (h : RowI w B A c l) : ∀ k, own A = some k → B ≤ k ∧ k < w.heap.size := fun k e => World.ownsRow.lt h k (by rw [own_eq]; exact e)
end RowI

/-! ### an arm -/
def hP (x : Ar) (v : Value) : Array Value := #[.int .u8 x.p, .int .i64 x.n, .int .i64 x.s, .int .i64 x.m, .bool x.u, v]
def hR (x : Ar) (v : Value) : Array Value := #[.int .u8 x.p, .int .i64 x.n, .int .i64 x.s, .bool (!x.u), .int .i64 x.m, v]
/-- an arm in memory: its own block, its row -/
structure ArmAt (hd : Ar → Value → Array Value) (T E : TypeId) (B : Nat) (w : World) (g : Nat) (A : Option Addr) (c : Nat) (x : Ar) : Prop where
  head : w.heap[g]? = some (.cells (hd x (.slice A x.l.length c)) T (0, 0))
  row : RowQ E w B A c x.l
  ne : T ≠ E
  lo : B ≤ g
/-- what belongs to it -/
def Of (g : Nat) (A : Option Addr) : Nat → Prop := fun k => k = g ∨ own A = some k
namespace ArmAt
variable {hd : Ar → Value → Array Value} {T E : TypeId} {B : Nat} {w w' : World} {g : Nat} {A : Option Addr} {c : Nat} {x : Ar}
theorem glt (h : ArmAt hd T E B w g A c x) : g < w.heap.size := (Array.getElem?_eq_some_iff.1 h.head).1
theorem apart (h : ArmAt hd T E B w g A c x) : own A ≠ some g := by
  intro q
  rcases h.row.2 with ⟨e, _⟩ | ⟨k, cap, cur, e, _, hk, _⟩
  · obtain ⟨rfl, _⟩ := Value.slice.inj e; cases q
  · obtain ⟨rfl, _⟩ := Value.slice.inj e
    obtain rfl : k = g := by simpa [own] using q
    have := h.head.symm.trans hk
    simp at this
    exact h.ne this.2
theorem keep {S : Nat → Prop} (h : ArmAt hd T E B w g A c x) (hk : Kept w w' S) (h1 : ¬ S g) (h2 : ∀ k, own A = some k → ¬ S k) : ArmAt hd T E B w' g A c x :=
  ⟨by rw [hk.block g h.glt h1]; exact h.head, h.row.keep hk h2, h.ne, h.lo⟩
theorem keepOf {S : Nat → Prop} (h : ArmAt hd T E B w g A c x) (hk : Kept w w' S) (h1 : ∀ k, Of g A k → ¬ S k) : ArmAt hd T E B w' g A c x := h.keep hk (h1 g (.inl rfl)) (fun k e => h1 k (.inr e))
theorem fresh (h : ArmAt hd T E B w g A c x) (hb : Below w.heap.size w w') : ArmAt hd T E B w' g A c x :=
  h.keep (S := fun _ => False) (Kept.fresh hb) (fun q => q) (fun _ _ q => q)
theorem free (h : ArmAt hd T E B w g A c x) (j : Nat) : w.frozen? ⟨g, j, none⟩ = false := frozen_of_row w g j _ T h.head
theorem low (h : ArmAt hd T E B w g A c x) : ∀ k, Of g A k → B ≤ k := by
  rintro k (rfl | q)
  · exact h.lo
  · exact (h.row.lt k q).1
theorem lt (h : ArmAt hd T E B w g A c x) : ∀ k, Of g A k → k < w.heap.size := by
  rintro k (rfl | q)
  · exact h.glt
  · exact (h.row.lt k q).2
end ArmAt
/-- the program's arm; the document's -/
abbrev PAt := ArmAt hP 67 74
abbrev RAt := ArmAt hR 70 81
section
variable {B : Nat} {w : World} {g : Nat} {A : Option Addr} {c : Nat} {x : Ar}
theorem pcells (h : PAt B w g A c x) : w.cell? ⟨g, 0, none⟩ = some (.int .u8 x.p) ∧ w.cell? ⟨g, 1, none⟩ = some (.int .i64 x.n) ∧ w.cell? ⟨g, 2, none⟩ = some (.int .i64 x.s) ∧ w.cell? ⟨g, 3, none⟩ = some (.int .i64 x.m) ∧ w.cell? ⟨g, 4, none⟩ = some (.bool x.u) ∧ w.cell? ⟨g, 5, none⟩ = some (.slice A x.l.length c) := by
  have := fun j => cell_of_row w g j _ _ (0, 0) h.head
  exact ⟨this 0, this 1, this 2, this 3, this 4, this 5⟩
theorem rcells (h : RAt B w g A c x) : w.cell? ⟨g, 0, none⟩ = some (.int .u8 x.p) ∧ w.cell? ⟨g, 1, none⟩ = some (.int .i64 x.n) ∧ w.cell? ⟨g, 2, none⟩ = some (.int .i64 x.s) ∧ w.cell? ⟨g, 3, none⟩ = some (.bool (!x.u)) ∧ w.cell? ⟨g, 4, none⟩ = some (.int .i64 x.m) ∧ w.cell? ⟨g, 5, none⟩ = some (.slice A x.l.length c) := by
  have := fun j => cell_of_row w g j _ _ (0, 0) h.head
  exact ⟨this 0, this 1, this 2, this 3, this 4, this 5⟩
end
/-- what a call that writes to an arm leaves -/
def Went (hd : Ar → Value → Array Value) (T E : TypeId) (B : Nat) (w : World) (g : Nat) (A : Option Addr) (x : Ar) (w' : World) : Prop :=
  ∃ A' c', ArmAt hd T E B w' g A' c' x ∧ Kept w w' (Of g A) ∧ ∀ k, own A' = some k → own A = some k ∨ w.heap.size ≤ k
abbrev PWent := Went hP 67 74
abbrev RWent := Went hR 70 81
end Go.Proofs.Ytpelocpjfmmceaa
