/- A group of one's own is turned; contract of use. -/
import Derived.Test.YtpcindemkkdbbaaY
namespace Go.Proofs.Ytpcindemkkdbbaa
set_option linter.unusedVariables false
set_option linter.unusedSimpArgs false
open Go.RowKit

theorem piece_set {W : World} {g n j i : Nat} {f : Nat → List Value} (h : W.heap[g]? = some (.cells (flat7 n f).toArray 24 (0, 0))) (hf : ∀ j, (f j).length = 7) (hj : j < n) (hi : i < 7) (v : Value) :
    (W.setCell ⟨g, j * 7 + i, none⟩ v).heap[g]? = some (.cells (flat7 n (fun k => if k = j then (f j).set i v else f k)).toArray 24 (0, 0)) ∧ ∀ k, (if k = j then (f j).set i v else f k).length = 7 := by
  refine ⟨?_, fun k => by by_cases e : k = j <;> simp [e, hf]⟩
  rw [set_heap h]
  congr 3
  rw [List.setIfInBounds_toArray, set_flat7 hf hj hi]
def useC (x : Cy) (b : Int) : Cy := { x with us := withI x.us b, fb := x.fb - 1, ro := (b + 1) % x.bl }
def takeI (x : Cy) (i : Int) : Cy := { x with is := withI x.is i, fi := x.fi - 1 }
def giveC (x : Cy) (b : Int) : Cy := { x with us := withoutI x.us b, fb := x.fb + 1 }
def leaveC (x : Cy) (i : Int) : Cy := { x with is := withoutI x.is i, fi := x.fi + 1 }
theorem rowC_set {l : List Cy} {j : Nat} (hj : j < l.length) (x : Cy) (t : Nat) : rowC (l.set j x) t = if t / 2 = j then (if t % 2 = 0 then x.us else x.is) else rowC l t := by
  unfold rowC
  rw [cyN_set hj]
  by_cases e : t / 2 = j
  · simp [e]
  · simp [e]
/-- a group's row and its numbers have turned -/
theorem Grp.put {w w1 w2 : World} {B g j s : Nat} {l : List Cy} {R : Nat → Option Addr} {C : Nat → Nat} (h : Grp w B g l R C) (hj : j < l.length) (hs : s < 2) (x : Cy) {A : Option Addr} {c : Nat}
    (hx : (if s = 0 then x.is else x.us) = (if s = 0 then (cyN l j).is else (cyN l j).us)) (hr : RowI w1 B A c (if s = 0 then x.us else x.is)) (hk : Kept w w1 (fun b => own (R (2 * j + s)) = some b)) (ho : ∀ b, own A = some b → own (R (2 * j + s)) = some b ∨ w.heap.size ≤ b)
    (hk2 : Kept w1 w2 (fun b => b = g)) (hb : w2.heap[g]? = some (.cells (flat7 l.length (fun i => if i = j then (if s = 0 then cy7 x A c (R (2 * j + 1)) (C (2 * j + 1)) else cy7 x (R (2 * j)) (C (2 * j)) A c) else cellsC l R C i)).toArray 24 (0, 0))) :
    Grp w2 B g (l.set j x) (fun t => if t = 2 * j + s then A else R t) (fun t => if t = 2 * j + s then c else C t) := by
  have hlen : (l.set j x).length = l.length := by simp
  have hg1 : w1.heap[g]? = some (.cells (flat7 l.length (cellsC l R C)).toArray 24 (0, 0)) := (hk.block g h.lt (fun q => (h.rows.row (2 * j + s) (by omega)).typed h.blk (by decide) q)).trans h.blk
  have hAg : own A ≠ some g := hr.typed hg1 (by decide)
  have hold : ∀ t, t < 2 * l.length → t ≠ 2 * j + s → RowI w2 B (R t) (C t) (rowC l t) := fun t ht hn =>
    ((h.rows.row t ht).keep hk (fun b hb q => h.rows.apart t (2 * j + s) ht (by omega) hn b hb q)).keep hk2 (fun b hb q => (h.rows.row t ht).typed h.blk (by decide) (by rw [hb, show b = g from q]))
  refine ⟨?_, h.low, ⟨fun t ht => ?_, fun t u ht hu hn b hb q => ?_⟩⟩
  · rw [hb, hlen]
    congr 3
    refine flat7_congr fun i hi => ?_
    unfold cellsC
    dsimp only
    rw [cyN_set hj]
    by_cases e : i = j
    · rw [if_pos e, if_pos e, e]
      rcases (by omega : s = 0 ∨ s = 1) with rfl | rfl
      · rw [if_pos rfl, if_pos (by omega : 2 * j = 2 * j + 0), if_pos (by omega : 2 * j = 2 * j + 0), if_neg (by omega : ¬ 2 * j + 1 = 2 * j + 0), if_neg (by omega : ¬ 2 * j + 1 = 2 * j + 0)]
      · rw [if_neg (by omega : ¬ 1 = 0), if_neg (by omega : ¬ 2 * j = 2 * j + 1), if_neg (by omega : ¬ 2 * j = 2 * j + 1), if_pos rfl, if_pos rfl]
    · rw [if_neg e, if_neg e, if_neg (by omega : ¬ 2 * i = 2 * j + s), if_neg (by omega : ¬ 2 * i = 2 * j + s), if_neg (by omega : ¬ 2 * i + 1 = 2 * j + s), if_neg (by omega : ¬ 2 * i + 1 = 2 * j + s)]
  · rw [hlen] at ht
    rw [rowC_set hj]
    by_cases e : t = 2 * j + s
    · simp only [if_pos e]
      have h2 := hr.keep hk2 (fun b hb q => hAg (by rw [hb, show b = g from q]))
      rw [if_pos (by omega)]
      rcases (by omega : s = 0 ∨ s = 1) with rfl | rfl
      · rw [if_pos rfl] at h2; rw [if_pos (by omega)]; exact h2
      · rw [if_neg (by omega)] at h2; rw [if_neg (by omega)]; exact h2
    · simp only [if_neg e]
      have h2 := hold t ht e
      by_cases e2 : t / 2 = j
      · rw [if_pos e2]
        unfold rowC at h2
        rw [e2] at h2
        rcases (by omega : s = 0 ∨ s = 1) with rfl | rfl
        · rw [if_neg (by omega : ¬ t % 2 = 0)] at h2 ⊢; rw [if_pos rfl, if_pos rfl] at hx; rw [hx]; exact h2
        · rw [if_pos (by omega : t % 2 = 0)] at h2 ⊢; rw [if_neg (by omega), if_neg (by omega)] at hx; rw [hx]; exact h2
      · rw [if_neg e2]; exact h2
  · rw [hlen] at ht hu
    have key : ∀ t b, t < 2 * l.length → t ≠ 2 * j + s → own (R t) = some b → own A ≠ some b := fun t b ht hn hb q => by
      rcases ho b q with r | r
      · exact h.rows.apart t (2 * j + s) ht (by omega) hn b hb r
      · have := ((h.rows.row t ht).lt hb).2; omega
    by_cases e : t = 2 * j + s
    · simp only [if_pos e] at hb
      simp only [if_neg (fun e2 => hn (by rw [e, ← e2]) : ¬ u = 2 * j + s)] at q
      exact key u b hu (fun e2 => hn (by rw [e, e2])) q hb
    · simp only [if_neg e] at hb
      by_cases e2 : u = 2 * j + s
      · simp only [if_pos e2] at q; exact key t b ht e hb q
      · simp only [if_neg e2] at q; exact h.rows.apart t u ht hu hn b hb q
theorem Grp.more {w : World} {B B' g : Nat} {l : List Cy} {R : Nat → Option Addr} {C : Nat → Nat} (h : Grp w B g l R C) (hB : B' ≤ B) : Grp w B' g l R C :=
  ⟨h.blk, Nat.le_trans hB h.low, ⟨fun t ht => (h.rows.row t ht).more hB, h.rows.apart⟩⟩
theorem Grp.keep {w w' : World} {B g : Nat} {l : List Cy} {R : Nat → Option Addr} {C : Nat → Nat} {S : Nat → Prop} (h : Grp w B g l R C) (hk : Kept w w' S) (hS : ∀ b, S b → b < B) : Grp w' B g l R C :=
  ⟨(hk.block g h.lt (fun q => by have := hS g q; have := h.low; omega)).trans h.blk, h.low, h.rows.keep hk (fun t ht b hb q => by have := hS b q; have := ((h.rows.row t ht).lt hb).1; omega)⟩
/-- groups of one's own, under a slice -/
def GrpO (w : World) (B : Nat) (A : Option Addr) (c : Nat) (l : List Cy) : Prop := (A = none ∧ l = [] ∧ c = 0) ∨ ∃ g R C, A = some ⟨g, 0, none⟩ ∧ c = l.length ∧ Grp w B g l R C
theorem GrpO.cyls {w : World} {B c : Nat} {A : Option Addr} {l : List Cy} (h : GrpO w B A c l) : Cyls w w.heap.size A l := by
  rcases h with ⟨rfl, rfl, rfl⟩ | ⟨g, R, C, rfl, rfl, h⟩
  · exact Cyls.nil
  · exact h.cyls
/-- what Take, File, Dir answer: groups, an address, an error -/
structure An where
  l : List Cy
  g : Int
  b : Int
  e : Int
def AnSays (w : World) (r : An) (e : Ending) (w' : World) : Prop :=
  ∃ A c, e = .returned (.tuple #[.slice A r.l.length c, .agg #[.int .i64 r.g, .int .i64 r.b], .int .i64 r.e]) ∧ GrpO w' w.heap.size A c r.l ∧ Below w.heap.size w w'
def AnSays2 (w : World) (r : An) (e : Ending) (w' : World) : Prop :=
  ∃ A c, e = .returned (.tuple #[.slice A r.l.length c, .int .i64 r.e]) ∧ GrpO w' w.heap.size A c r.l ∧ Below w.heap.size w w'
end Go.Proofs.Ytpcindemkkdbbaa
