/- The two iterators over marks; contract of add. -/
import Derived.RangeFuncBox
import Derived.RangeFuncLeaves
import Derived.RangeFuncWrites
import Derived.RangeFuncFrom
import Derived.RangeFuncNested
import Derived.Shelf.Abstract
import Derived.WalkKit
import Derived.OwnWalkIn
import Derived.TacticsInMore
import Derived.LoopNIn
import Derived.LoopIn
import Derived.Maps.AppendAt
import Derived.Test.YthffdkoncagimaaGC
import Derived.Test.YthffdkoncagimaaGD
namespace Go.Proofs.Ythffdkoncagimaa
set_option linter.unusedVariables false
set_option linter.unusedSimpArgs false
set_option maxRecDepth 100000
open Go.RowKit Go.Shelf

attribute [local go_sem] Oper.semAt_some

theorem take_el (q : List Nat) (k : Nat) (h : k < q.length) : q.take (k + 1) = q.take k ++ [el q k] := by
  rw [List.take_succ_eq_append_getElem h, el_lt h]
theorem lt_cell {w : World} {b o : Nat} {v : Value} (h : w.cell? ⟨b, o, none⟩ = some v) : b < w.heap.size := by
  rcases Nat.lt_or_ge b w.heap.size with hb | hb
  · exact hb
  · exact absurd h (by simp [World.cell?, Array.getElem?_eq_none hb])
/-- what lay below n₀ lies as it lay, and so do the blocks Bn and g -/
def KeepsTwo (n₀ Bn g : Nat) (A B : World) : Prop := Below n₀ A B ∧ B.heap[Bn]? = A.heap[Bn]? ∧ B.heap[g]? = A.heap[g]?
theorem KeepsTwo.refl (n₀ Bn g : Nat) (A : World) : KeepsTwo n₀ Bn g A A := ⟨Below.refl _ _, rfl, rfl⟩
theorem KeepsTwo.trans {n₀ Bn g : Nat} {A B C : World} (h : KeepsTwo n₀ Bn g A B) (k : KeepsTwo n₀ Bn g B C) : KeepsTwo n₀ Bn g A C := ⟨h.1.trans k.1, k.2.1.trans h.2.1, k.2.2.trans h.2.2⟩
theorem KeepsTwo.cell {n₀ Bn g : Nat} {A B : World} (h : KeepsTwo n₀ Bn g A B) : B.cell? ⟨Bn, 0, none⟩ = A.cell? ⟨Bn, 0, none⟩ := World.cell?_of_block h.2.1
theorem KeepsTwo.marks {n₀ Bn g : Nat} {A B : World} {m : Nat → Bool} (h : KeepsTwo n₀ Bn g A B) (hm : Marks A g m) : Marks B g m := by
  unfold Marks BlkIs at hm ⊢; rw [h.2.2]; exact hm
theorem keepsTwo_b {n₀ Bn g : Nat} {w : World} (hn : n₀ ≤ w.heap.size) (hB : Bn < w.heap.size) (hg : g < w.heap.size) (W : World) (l : Nat) (o o' : Obj) (hl : w.heap.size ≤ l) (h : W.heap[l]? = some o) (hc : o.isCells = false) (hw : o.isWalk = false) : KeepsTwo n₀ Bn g W (W.putObj l o') :=
  ⟨belowK_b hn W l o o' hl h hc hw, (grownBy_putObj' W l o').block Bn (by have := (Array.getElem?_eq_some_iff.1 h).1; omega) (fun e => by cases e; omega),
    (grownBy_putObj' W l o').block g (by have := (Array.getElem?_eq_some_iff.1 h).1; omega) (fun e => by cases e; omega)⟩

set_option maxRecDepth 100000 in
set_option maxHeartbeats 1000000 in
theorem rise_in (n : Nat) (hn : 1 ≤ n) (l Bn g n₀ : Nat) (m : Nat → Bool) (J Jx : List Nat → World → Prop)
    (hY : ∀ pre x W, J pre W → pre.length < 256 → x < 256 → m x = true → YieldAt Fence.wide (n - 1) Try.prog l #[.int .i64 ((x : Nat) : Int)] W fun e W' =>
      (e = .returned (.bool true) ∧ J (pre ++ [x]) W' ∧ KeepsTwo n₀ Bn g W W') ∨ (e = .returned (.bool false) ∧ Jx (pre ++ [x]) W'))
    (W : World) (hBn : W.cell? ⟨Bn, 0, none⟩ = some (.pointer (some ⟨g, 0, none⟩))) (hM : Marks W g m) (h0 : J [] W) :
    CallsIn Fence.wide n Try.prog 43 #[.func (.yield l) #[] #[], .pointer (some ⟨Bn, 0, none⟩)] W fun e W' => (∃ v, e = .returned v) ∧
      ((∃ ys, ys = listM 256 m ∧ J ys W') ∨ (∃ pre, pre <+: listM 256 m ∧ Jx pre W')) := by
  refine callsIn_of_wp Try.func43 rfl trivial ?_ rfl
  simp only [Try.ntmps43, List.size_toArray, List.length_cons, List.length_nil, Nat.reduceAdd, Nat.reduceSub, Array.replicate_succ, Array.replicate_zero, List.push_toArray, List.append_toArray, List.nil_append, List.cons_append]
  gi_wp2
  gi_loopw [4] (fun i wr => ∃ k : Nat, k ≤ 256 ∧ i = .int .i64 k ∧ J (listM k m) wr ∧ KeepsTwo n₀ Bn g W wr)
    (fun i _ => 256 - (intOf i).toNat)
  case atStart => exact ⟨0, Nat.zero_le _, rfl, h0, KeepsTwo.refl _ _ _ _⟩
  case round =>
    obtain ⟨k, hk, rfl, hJ, hKe⟩ := hrel
    have hBc : wr.cell? ⟨Bn, 0, none⟩ = some (.pointer (some ⟨g, 0, none⟩)) := hKe.cell.trans hBn
    by_cases hlt : k < 256
    · have hcell := (hKe.marks hM).cell hlt
      have hki : (k : Int) < 256 := by omega
      have hk0 : (0 : Int) ≤ (k : Int) := by omega
      have hsucc := listM_succ k m
      cases hm : m k with
      | false =>
        rw [hm] at hcell hsucc
        simp only [Bool.false_eq_true, if_false, List.append_nil] at hsucc
        have Hs := Lib.hid hsucc
        clear hsucc hm
        gi_wp2
        refine ⟨fun _ h => (by cases h), ?_⟩
        gi_wp2
        go_roundw
        case rel => exact ⟨k + 1, by omega, by go_num, by rw [Hs.out]; exact hJ, hKe⟩
        case measure => simp [intOf]; omega
      | true =>
        rw [hm] at hcell hsucc
        simp only [if_true] at hsucc
        have hpre : listM k m ++ [k] <+: listM 256 m := by rw [← hsucc]; exact listM_pre (by omega) m
        have Hs := Lib.hid hsucc
        have Hpre := Lib.hid hpre
        obtain ⟨fn, tmps, assign, body, hy, hR⟩ := hY _ k wr hJ (by have := length_listM k m; omega) hlt hm
        have HR := Lib.hid hR
        clear hsucc hm hpre hR hY
        gi_wp2
        refine HR.out.mono ?_
        rintro e W3 (⟨rfl, hJ3, hk3⟩ | ⟨rfl, hJx3⟩)
        · gi_wp2
          go_roundw
          case rel => exact ⟨k + 1, by omega, by go_num, by rw [Hs.out]; exact hJ3, hKe.trans hk3⟩
          case measure => simp [intOf]; omega
        · gi_wp2
          refine bodyPost_ret (results_none rfl _ _ _) rfl ?_
          exact ⟨⟨_, rfl⟩, .inr ⟨_, Hpre.out, hJx3⟩⟩
    · obtain rfl : k = 256 := by omega
      gi_wp2
      go_end0
      exact ⟨⟨_, rfl⟩, .inl ⟨_, rfl, hJ⟩⟩

theorem riseMake_in (n : Nat) (v : Value) (w : World) (g : Nat) (hv : v = .pointer (some ⟨g, 0, none⟩)) :
    CallsIn Fence.wide n Try.prog 37 #[v] w fun e w' => e = .returned (.func (.func 43) #[] #[.pointer (some ⟨w.heap.size, 0, none⟩)]) ∧ w' = w.alloc (.cells #[v] 70) := by
  subst hv
  refine callsIn_of_wp Try.func37 rfl trivial ?_ rfl
  simp only [Try.ntmps37, List.size_toArray, List.length_cons, List.length_nil, Nat.reduceAdd, Nat.reduceSub, Array.replicate_succ, Array.replicate_zero, List.push_toArray, List.append_toArray, List.nil_append, List.cons_append]
  gi_wp2
  go_ret
  exact ⟨rfl, rfl⟩
/-- a number that is marked -/
abbrev On (m : Nat → Bool) := { x : Nat // x < 256 ∧ m x = true }
def plainO {m : Nat → Bool} (p : List (On m)) : List Nat := p.map (·.1)
theorem plainO_snoc {m : Nat → Bool} (p : List (On m)) (x : On m) : plainO (p ++ [x]) = plainO p ++ [x.1] := by simp [plainO]
theorem length_plainO {m : Nat → Bool} (p : List (On m)) : (plainO p).length = p.length := by simp [plainO]

theorem rise_stops (n : Nat) (hn : 1 ≤ n) (Bn g n₀ : Nat) (m : Nat → Bool) (w : World) (hBl : Bn < w.heap.size) (hg : g < w.heap.size)
    (hc : w.cell? ⟨Bn, 0, none⟩ = some (.pointer (some ⟨g, 0, none⟩))) (hM : Marks w g m) :
    SeqStopsK Fence.wide n Try.prog 43 #[.pointer (some ⟨Bn, 0, none⟩)] (fun x : On m => #[Value.int .i64 ((x.1 : Nat) : Int)]) (KeepsTwo n₀ Bn g) (fun ys => plainO ys = listM 256 m) (fun pre => plainO pre <+: listM 256 m) 256 w := fun l J Jx W hW _ _ hY h0 => by
  refine CallsIn.mono (rise_in n hn l Bn g n₀ m (fun p W => ∃ q : List (On m), plainO q = p ∧ J q W) (fun p W => ∃ q : List (On m), plainO q = p ∧ Jx q W) ?_ W ((hW.cell (p := ⟨Bn, 0, none⟩) hBl).trans hc) (BlkIs.below hM hW hg) ⟨[], rfl, h0⟩) ?_
  · rintro _ x W1 ⟨q, rfl, hq⟩ hl hx hm
    obtain ⟨fn, tmps, assign, body, hy, hR⟩ := hY q ⟨x, hx, hm⟩ W1 hq (by simpa [plainO] using hl)
    refine ⟨fn, tmps, assign, body, hy, hR.mono ?_⟩
    rintro e W' (⟨he, hJ, hk⟩ | ⟨he, hJ⟩)
    · exact .inl ⟨he, ⟨_, by simp [plainO], hJ⟩, hk⟩
    · exact .inr ⟨he, _, by simp [plainO], hJ⟩
  · rintro e W' ⟨he, ⟨ys, rfl, q, hq, hJ⟩ | ⟨pre, hp, q, rfl, hJ⟩⟩
    · exact ⟨he, .inl ⟨q, hq, hJ⟩⟩
    · exact ⟨he, .inr ⟨q, hp, hJ⟩⟩

end Go.Proofs.Ythffdkoncagimaa
