/- The way round: numbers from one on, and then from 0 on. -/
import Derived.Test.YtpcindemkkdbbaaC
import Derived.RangeFuncNested
import Derived.RangeFuncLeaves
import Derived.RangeFuncBox
import Derived.RangeFuncFrom
import Derived.RangeFuncWrites
import Derived.Shelf.Abstract
import Derived.OwnWalkIn
import Derived.TacticsInMore
import Derived.LoopNIn
import Derived.LoopIn
namespace Go.Proofs.Ytpcindemkkdbbaa
set_option linter.unusedVariables false
set_option linter.unusedSimpArgs false
open Go.RowKit Go.Shelf

attribute [local go_sem] Oper.semAt_some
/-- all numbers below m, from f on, round -/
def wayN (m f k : Nat) : List (Fin m) := if h : 0 < m then (List.range k).map fun i => ⟨(f + i) % m, Nat.mod_lt _ h⟩ else []
theorem wayN_succ {m : Nat} (h : 0 < m) (f k : Nat) : wayN m f (k + 1) = wayN m f k ++ [⟨(f + k) % m, Nat.mod_lt _ h⟩] := by
  simp [wayN, h, List.range_succ]
theorem wayN_zero (m f : Nat) : wayN m f 0 = [] := by unfold wayN; split <;> rfl
theorem length_wayN {m : Nat} (h : 0 < m) (f k : Nat) : (wayN m f k).length = k := by simp [wayN, h]
theorem wayN_pre {m : Nat} (h : 0 < m) (f : Nat) {j k : Nat} (hj : j ≤ k) : wayN m f j <+: wayN m f k := by
  refine ⟨((List.range (k - j)).map fun i => ⟨(f + (j + i)) % m, Nat.mod_lt _ h⟩), ?_⟩
  have e : k = j + (k - j) := by omega
  conv => rhs; rw [e]
  simp [wayN, h, List.range_add, Function.comp_def]

set_option maxRecDepth 100000 in
set_option maxHeartbeats 1000000 in
theorem round1_in (F : Fence) (n : Nat) (h6 : F.fn 70) (hro : F.round = none) (hn : 1 ≤ n) (l Bm Bf n₀ m f : Nat) (hm : 0 < m) (hm2 : m ≤ 1000) (hf2 : f ≤ 1000) (J Jx : List (Fin m) → World → Prop)
    (hY : ∀ pre x W, J pre W → pre.length < m → YieldAt F (n - 1) Try.prog l #[.int .i64 ((x : Fin m).1 : Nat)] W fun e W' =>
      (e = .returned (.bool true) ∧ J (pre ++ [x]) W' ∧ Below n₀ W W') ∨ (e = .returned (.bool false) ∧ Jx (pre ++ [x]) W'))
    (W : World) (hBm : W.cell? ⟨Bm, 0, none⟩ = some (.int .i64 m)) (hBf : W.cell? ⟨Bf, 0, none⟩ = some (.int .i64 f)) (h1 : Bm < n₀) (h2 : Bf < n₀) (h0 : J [] W) :
    CallsIn F n Try.prog 70 #[.func (.yield l) #[] #[], .pointer (some ⟨Bm, 0, none⟩), .pointer (some ⟨Bf, 0, none⟩)] W fun e W' => (∃ v, e = .returned v) ∧
      ((∃ ys, ys = wayN m f m ∧ J ys W') ∨ (∃ pre, pre <+: wayN m f m ∧ Jx pre W')) := by
  refine callsIn_of_wp Try.func70 rfl h6 ?_ hro
  simp only [Try.ntmps70, List.size_toArray, List.length_cons, List.length_nil, Nat.reduceAdd, Nat.reduceSub, Array.replicate_succ, Array.replicate_zero, List.push_toArray, List.append_toArray, List.nil_append, List.cons_append]
  gi_wp2
  gi_loopw [6] (fun i wr => ∃ k : Nat, k ≤ m ∧ i = .int .i64 k ∧ J (wayN m f k) wr ∧ Below n₀ W wr) (fun i _ => m - (intOf i).toNat)
  case atStart => exact ⟨0, Nat.zero_le _, rfl, by rw [wayN_zero]; exact h0, Below.refl _ _⟩
  case round =>
    obtain ⟨k, hk, rfl, hJ, hB⟩ := hrel
    have cm : wr.cell? ⟨Bm, 0, none⟩ = some (.int .i64 m) := (hB.cell (p := ⟨Bm, 0, none⟩) h1).trans hBm
    have cf : wr.cell? ⟨Bf, 0, none⟩ = some (.int .i64 f) := (hB.cell (p := ⟨Bf, 0, none⟩) h2).trans hBf
    by_cases hlt : k < m
    · have hki : (k : Int) < (m : Int) := by omega
      have hk0 : (0 : Int) ≤ (k : Int) := by omega
      have hmi : (0 : Int) < (m : Int) := by omega
      have Hs := Lib.hid (wayN_succ hm f k)
      have Hp := Lib.hid (wayN_pre hm f (j := k + 1) (k := m) (by omega))
      obtain ⟨fn, tmps, assign, body, hy, hR⟩ := hY _ ⟨(f + k) % m, Nat.mod_lt _ hm⟩ wr hJ (by rw [length_wayN hm]; exact hlt)
      have HR := Lib.hid hR
      have e : (((f + k) % m : Nat) : Int) = ((f : Int) + (k : Int)) % (m : Int) := by simp
      dsimp only at hy
      rw [e] at hy
      clear hR hY e
      gi_wp2
      refine HR.out.mono ?_
      rintro e W3 (⟨rfl, hJ3, hk3⟩ | ⟨rfl, hJx3⟩)
      · gi_wp2
        go_roundw
        case rel => exact ⟨k + 1, by omega, by go_num, by rw [Hs.out]; exact hJ3, hB.trans hk3⟩
        case measure => simp [intOf]; omega
      · gi_wp2
        refine bodyPost_ret (results_none rfl _ _ _) rfl ?_
        exact ⟨⟨_, rfl⟩, .inr ⟨_, by rw [Hs.out] at Hp; exact Hp.out, hJx3⟩⟩
    · obtain rfl : k = m := by omega
      gi_wp2
      go_end0
      exact ⟨⟨_, rfl⟩, .inl ⟨_, rfl, hJ⟩⟩

set_option maxHeartbeats 1000000 in
theorem round_in (F : Fence) (n : Nat) (h5 : F.fn 54) (hro : F.round = none) (f m : Int) (w : World) :
    CallsIn F n Try.prog 54 #[.int .i64 f, .int .i64 m] w fun e w' => e = .returned (.func (.func 70) #[] #[.pointer (some ⟨w.heap.size + 1, 0, none⟩), .pointer (some ⟨w.heap.size, 0, none⟩)]) ∧ w' = (w.alloc (.cells #[.int .i64 f] 3)).alloc (.cells #[.int .i64 m] 3) := by
  refine callsIn_of_wp Try.func54 rfl h5 ?_ hro
  simp only [Try.ntmps54, List.size_toArray, List.length_cons, List.length_nil, Nat.reduceAdd, Nat.reduceSub, Array.replicate_succ, Array.replicate_zero, List.push_toArray, List.append_toArray, List.nil_append, List.cons_append]
  gi_wp2
  go_ret
  exact ⟨rfl, rfl⟩

theorem round_stops (F : Fence) (n : Nat) (h6 : F.fn 70) (hro : F.round = none) (hn : 1 ≤ n) (Bm Bf n₀ m f : Nat) (hm : 0 < m) (hm2 : m ≤ 1000) (hf2 : f ≤ 1000) (w : World) (h1 : Bm < n₀) (h2 : Bf < n₀) (hn₀ : n₀ ≤ w.heap.size)
    (hBm : w.cell? ⟨Bm, 0, none⟩ = some (.int .i64 m)) (hBf : w.cell? ⟨Bf, 0, none⟩ = some (.int .i64 f)) :
    SeqStopsK F n Try.prog 70 #[.pointer (some ⟨Bm, 0, none⟩), .pointer (some ⟨Bf, 0, none⟩)] (fun x : Fin m => #[Value.int .i64 (x.1 : Nat)]) (Below n₀) (fun ys => ys = wayN m f m) (fun pre => pre <+: wayN m f m) m w := fun l J Jx W hW _ _ hY h0 =>
  round1_in F n h6 hro hn l Bm Bf n₀ m f hm hm2 hf2 J Jx hY W ((hW.cell (p := ⟨Bm, 0, none⟩) (by show Bm < _; omega)).trans hBm) ((hW.cell (p := ⟨Bf, 0, none⟩) (by show Bf < _; omega)).trans hBf) h1 h2 h0

/-- what is said of blocks of cells alone stays where nothing but other objects turns -/
def Same (W W' : World) : Prop := ∀ (b : Nat) (c : Array Value) (t : TypeId) (fr : Nat × Nat), W.heap[b]? = some (Obj.cells c t fr) → W'.heap[b]? = some (Obj.cells c t fr)
theorem same_of_grown {W W' : World} {row : Option Nat} (hg : W.grownBy W' row) (hrow : ∀ r, row = some r → ∃ o : Obj, W.heap[r]? = some o ∧ o.isCells = false) : Same W W' := fun b c t fr h => by
  rw [hg.block b (Array.getElem?_eq_some_iff.1 h).1 (fun e => by
    obtain ⟨o, ho, hc⟩ := hrow b e.symm
    rw [h] at ho; cases ho; cases hc)]
  exact h
theorem own_same {β : Type} {I : β → World → Prop} (h : ∀ s W W', Same W W' → W.heap.size ≤ W'.heap.size → I s W → I s W') : Own I := fun s W W' row hs hg hr => h s W W' (same_of_grown hg hr) hg.size hs
def Blk (W : World) (b : Nat) (t : TypeId) (c : Array Value) : Prop := W.heap[b]? = some (.cells c t (0, 0))
theorem Blk.same {W W' : World} {b : Nat} {t : TypeId} {c : Array Value} (h : Blk W b t c) (hs : Same W W') : Blk W' b t c := hs _ _ _ _ h
theorem Blk.keep {W W' : World} {b : Nat} {t : TypeId} {c : Array Value} {S : Nat → Prop} (h : Blk W b t c) (hk : Kept W W' S) (hn : ¬ S b) : Blk W' b t c := (hk.block b (Array.getElem?_eq_some_iff.1 h).1 hn).trans h
end Go.Proofs.Ytpcindemkkdbbaa
