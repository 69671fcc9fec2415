/- Blocks at hand in memory: a row of them, a cache; what a call keeps. -/
import Derived.Test.YthibnnllecdpaaaProg
import Derived.Test.YthibnnllecdpaaaB
import Derived.WalkKit
import Derived.WalkLawsBesides
import Derived.WalkSpells
import Derived.Deep.QuietTactic
import Derived.BigQuiet
import Derived.Lib.Hide
import Derived.Outline
import Derived.IntWalk
import Derived.Below
import Derived.Deep.AppendLies
import Derived.Laws.CopyOwn
import Derived.Laws.OwnMore
import Derived.Deep.RegionLaw
import Derived.Deep.RegionHeld3
namespace Go.Proofs.Ythibnnllecdpaaa
open Go.RowKit

theorem ret_int {k : IntKind} {a b : Int} (h : a = b) : Ending.returned (.int k a) = .returned (.int k b) := by rw [h]
theorem ret_bool {a b : Bool} (h : a = b) : Ending.returned (.bool a) = .returned (.bool b) := by rw [h]
namespace H
def cs (h : H) : List Value := [.int .i64 h.b, .int .i64 h.p, .bool h.d, .bool h.t]
def v (h : H) : Value := .agg #[.int .i64 h.b, .int .i64 h.p, .bool h.d, .bool h.t]
end H
def flat (l : List H) : List Value := l.flatMap H.cs
theorem flat_cons (h : H) (l : List H) : flat (h :: l) = h.cs ++ flat l := by simp [flat]
theorem length_flat (l : List H) : (flat l).length = l.length * 4 := by
  induction l with
  | nil => rfl
  | cons h r ih => rw [flat_cons, List.length_append, ih]; simp [H.cs]; omega
theorem flat_append (a b : List H) : flat (a ++ b) = flat a ++ flat b := by simp [flat]
theorem flat_take (l : List H) (k : Nat) : (flat l).take (k * 4) = flat (l.take k) := by
  induction l generalizing k with
  | nil => simp [flat]
  | cons h r ih =>
    cases k with
    | zero => simp [flat]
    | succ k => rw [List.take_succ_cons, flat_cons, flat_cons, ← ih, show (k + 1) * 4 = k * 4 + 4 by omega]; simp [H.cs]
theorem flat_drop (l : List H) (k : Nat) : (flat l).drop (k * 4) = flat (l.drop k) := by
  induction l generalizing k with
  | nil => simp [flat]
  | cons h r ih =>
    cases k with
    | zero => simp
    | succ k => rw [List.drop_succ_cons, flat_cons, ← ih, show (k + 1) * 4 = k * 4 + 4 by omega]; simp [H.cs]
theorem flat_get {l : List H} {k j : Nat} (hk : k < l.length) (hj : j < 4) : (flat l)[k * 4 + j]? = (nthH l k).cs[j]? := by
  have h := List.getElem?_drop (xs := flat l) (i := k * 4) (j := j)
  rw [← h, flat_drop, List.drop_eq_getElem_cons hk, flat_cons, List.getElem?_append_left (by simpa [H.cs] using hj), nthH_lt hk]
theorem flat_one (l : List H) : ∀ u ∈ flat l, u.oneCell' = true := by
  intro u hu
  obtain ⟨h, _, hm⟩ := List.mem_flatMap.1 hu
  simp [H.cs] at hm
  rcases hm with rfl | rfl | rfl | rfl <;> rfl
theorem flat_set {l : List H} {k : Nat} (hk : k < l.length) (f : H → H) (j : Nat) (u : Value) (hf : ∀ h : H, (f h).cs = h.cs.set j u) (hj : j < 4) : (flat l).set (k * 4 + j) u = flat (modH l k f) := by
  induction l generalizing k with
  | nil => simp at hk
  | cons h r ih =>
    cases k with
    | zero =>
      rw [show (0 * 4 + j) = j by omega, flat_cons, List.set_append_left _ _ (by simpa [H.cs] using hj), ← hf]
      simp [modH, nthH, flat_cons]
    | succ k =>
      have hk' : k < r.length := by simpa using hk
      rw [flat_cons, List.set_append_right _ _ (by simp [H.cs]; omega), show (k + 1) * 4 + j - h.cs.length = k * 4 + j by simp [H.cs]; omega, ih hk']
      simp [modH, nthH, flat_cons]

/-- a cache in memory: its own block, its row -/
structure CacheAt (T E : TypeId) (B : Nat) (w : World) (g : Nat) (v : Value) (m : Int) (l : List H) : Prop where
  head : w.heap[g]? = some (.cells #[.int .i64 m, v] T (0, 0))
  row : w.ownsRow B E 4 v l.length (flat l)
  ne : T ≠ E
  lo : B ≤ g
/-- all but the blocks S is as it was -/
structure Kept (w w' : World) (S : Nat → Prop) : Prop where
  os : w'.os = w.os
  tape : w'.tape = w.tape
  output : w'.output = w.output
  size : w.heap.size ≤ w'.heap.size
  block : ∀ k, k < w.heap.size → ¬ S k → w'.heap[k]? = w.heap[k]?
def At (g : Nat) (v : Value) : Nat → Prop := fun k => k = g ∨ v.ownBlock = some k
namespace Kept
variable {w w1 w2 : World} {S S' : Nat → Prop}
theorem refl (w : World) (S : Nat → Prop) : Kept w w S := ⟨rfl, rfl, rfl, Nat.le_refl _, fun _ _ _ => rfl⟩
theorem trans (h : Kept w w1 S) (k : Kept w1 w2 S') (hs : ∀ b, S' b → S b ∨ w.heap.size ≤ b) : Kept w w2 S :=
  ⟨k.os.trans h.os, k.tape.trans h.tape, k.output.trans h.output, Nat.le_trans h.size k.size, fun b hb hn => by
    rw [k.block b (Nat.lt_of_lt_of_le hb h.size) (fun q => by rcases hs b q with q | q; exact hn q; omega)]
    exact h.block b hb hn⟩
theorem more (h : Kept w w1 S) (hs : ∀ b, S b → S' b ∨ w.heap.size ≤ b) : Kept w w1 S' := (refl w S').trans h hs
theorem below {B : Nat} (h : Kept w w1 S) (hs : ∀ b, S b → B ≤ b) (hB : B ≤ w.heap.size) : Below B w w1 :=
  ⟨h.os, h.tape, h.output, h.size, fun k hk => h.block k (by omega) (fun q => by have := hs k q; omega)⟩
theorem of_below {B : Nat} (h : Below B w w1) (hs : ∀ b, B ≤ b → S b ∨ w.heap.size ≤ b) : Kept w w1 S :=
  ⟨h.os, h.tape, h.output, h.size, fun k hk hn => by
    rcases Nat.lt_or_ge k B with h1 | h1
    · exact h.block k h1
    · rcases hs k h1 with q | q
      · exact absurd q hn
      · omega⟩
theorem fresh (h : Below w.heap.size w w1) : Kept w w1 S := of_below h fun _ hb => .inr hb
theorem grown {row : Option Nat} (h : w.grownBy w1 row) (hs : ∀ k, row = some k → S k ∨ w.heap.size ≤ k) : Kept w w1 S :=
  ⟨h.os, h.tape, h.output, h.size, fun k hk hn => h.block k hk (fun q => by rcases hs k q.symm with q | q; exact hn q; omega)⟩
theorem drew (h : Kept w w1 S) : Kept w w1.drew S := ⟨h.os, h.tape, h.output, h.size, h.block⟩
theorem cell (h : Kept w w1 S) {a : Addr} (hlt : a.block < w.heap.size) (hn : ¬ S a.block) : w1.cell? a = w.cell? a := World.cell?_of_block (h.block _ hlt hn)
theorem frozen (h : Kept w w1 S) {a : Addr} (hlt : a.block < w.heap.size) (hn : ¬ S a.block) : w1.frozen? a = w.frozen? a := World.frozen?_of_block (h.block _ hlt hn)
theorem row (h : Kept w w1 S) {base : Nat} {e : TypeId} {size : Nat} {v : Value} {n : Nat} {xs : List Value} (hr : w.ownsRow base e size v n xs) (hn : ∀ k, v.ownBlock = some k → ¬ S k) : w1.ownsRow base e size v n xs := by
  refine ⟨hr.1, ?_⟩
  rcases hr.2 with h0 | ⟨g, cap, cur, rfl, hb, hgg, rest⟩
  · exact .inl h0
  · refine .inr ⟨g, cap, cur, rfl, hb, ?_, rest⟩
    rw [h.block g (Array.getElem?_eq_some_iff.1 hgg).1 (hn g rfl)]
    exact hgg
end Kept
namespace CacheAt
variable {T E : TypeId} {B : Nat} {w w' : World} {g : Nat} {v : Value} {m : Int} {l : List H}
theorem glt (h : CacheAt T E B w g v m l) : g < w.heap.size := (Array.getElem?_eq_some_iff.1 h.head).1
theorem apart (h : CacheAt T E B w g v m l) : v.ownBlock ≠ some g := by
  intro q
  rcases h.row.2 with ⟨rfl, _⟩ | ⟨k, cap, cur, rfl, _, hk, _⟩
  · simp [Value.ownBlock] at q
  · have : k = g := by simpa [Value.ownBlock] using q
    subst this
    have := h.head.symm.trans hk
    simp at this
    exact h.ne this.2
theorem keep {S : Nat → Prop} (h : CacheAt T E B w g v m l) (hk : Kept w w' S) (h1 : ¬ S g) (h2 : ∀ k, v.ownBlock = some k → ¬ S k) : CacheAt T E B w' g v m l :=
  ⟨by rw [hk.block g h.glt h1]; exact h.head, hk.row h.row h2, h.ne, h.lo⟩
theorem fresh (h : CacheAt T E B w g v m l) (hb : Below w.heap.size w w') : CacheAt T E B w' g v m l :=
  h.keep (S := fun _ => False) (Kept.fresh hb) (fun q => q) (fun _ _ q => q)
theorem drew (h : CacheAt T E B w g v m l) : CacheAt T E B w.drew g v m l := ⟨h.head, h.row, h.ne, h.lo⟩
theorem most (h : CacheAt T E B w g v m l) : w.cell? ⟨g, 0, none⟩ = some (.int .i64 m) := by rw [cell_of_row w g 0 _ T (0, 0) h.head]; rfl
theorem slot (h : CacheAt T E B w g v m l) : w.cell? ⟨g, 1, none⟩ = some v := by rw [cell_of_row w g 1 _ T (0, 0) h.head]; rfl
theorem free (h : CacheAt T E B w g v m l) (j : Nat) : w.frozen? ⟨g, j, none⟩ = false := frozen_of_row w g j _ T h.head
theorem low (h : CacheAt T E B w g v m l) : ∀ k, At g v k → B ≤ k := by
  rintro k (rfl | q)
  · exact h.lo
  · exact (h.row.lt k q).1
/-- the row's value -/
theorem form (h : CacheAt T E B w g v m l) : ∃ A cap, v = .slice A l.length cap ∧ l.length ≤ cap ∧ cap ≤ maxLen := by
  rcases h.row.2 with ⟨rfl, h0⟩ | ⟨k, cap, cur, rfl, _, _, h1, h2, _⟩
  · exact ⟨none, 0, by rw [h0], by omega, by simp [maxLen]⟩
  · exact ⟨_, cap, rfl, h1, h2⟩
end CacheAt
/-- the cells of the k-th block of a row -/
theorem row_at {E : TypeId} {B : Nat} {w : World} {v : Value} {l : List H} (h : w.ownsRow B E 4 v l.length (flat l)) {k : Nat} (hk : k < l.length) :
    ∃ b cap, v = .slice (some ⟨b, 0, none⟩) l.length cap ∧ l.length ≤ cap ∧ cap ≤ maxLen ∧ b < w.heap.size ∧ B ≤ b ∧ w.cell? ⟨b, k * 4, none⟩ = some (.int .i64 (nthH l k).b) ∧ w.cell? ⟨b, k * 4 + 1, none⟩ = some (.int .i64 (nthH l k).p) ∧ w.cell? ⟨b, k * 4 + 2, none⟩ = some (.bool (nthH l k).d) ∧ w.cell? ⟨b, k * 4 + 3, none⟩ = some (.bool (nthH l k).t) ∧ ∀ j, w.frozen? ⟨b, j, none⟩ = false := by
  obtain ⟨b, cap, rfl, hB, hb⟩ := h.form (by omega)
  have hc : ∀ j, j < 4 → w.cell? ⟨b, k * 4 + j, none⟩ = (nthH l k).cs[j]? := fun j hj => by
    rw [h.cellAt (k * 4 + j) (by omega), flat_get hk hj]
  refine ⟨b, cap, rfl, ?_, ?_, hb, hB, hc 0 (by omega), hc 1 (by omega), hc 2 (by omega), hc 3 (by omega), fun j => h.frozenAt j⟩
  · rcases h.2 with ⟨q, _⟩ | ⟨_, _, _, q, _, _, h1, _⟩
    · cases q
    · cases q; exact h1
  · rcases h.2 with ⟨q, _⟩ | ⟨_, _, _, q, _, _, _, h1, _⟩
    · cases q
    · cases q; exact h1
/-- what a call that writes to a cache leaves -/
def Went (T E : TypeId) (B : Nat) (w : World) (g : Nat) (v : Value) (m : Int) (l : List H) (w' : World) : Prop :=
  ∃ v', CacheAt T E B w' g v' m l ∧ Kept w w' (At g v) ∧ ∀ k, v'.ownBlock = some k → v.ownBlock = some k ∨ w.heap.size ≤ k
def idxI (l : List H) (x : Int) : Int := if has l x then (idx l x : Int) else -1
theorem idxI_yes {l : List H} {x : Int} (h : has l x = true) : idxI l x = (idx l x : Int) := by simp [idxI, h]
theorem idxI_no {l : List H} {x : Int} (h : has l x = false) : idxI l x = -1 := by simp [idxI, h]
end Go.Proofs.Ythibnnllecdpaaa
