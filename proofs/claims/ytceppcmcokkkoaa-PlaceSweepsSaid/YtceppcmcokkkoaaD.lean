/- The iterator over the bits that are set. -/
import Derived.RangeFuncBox
import Derived.RangeFuncLeaves
import Derived.Shelf.Abstract
import Derived.WalkKit
import Derived.OwnWalkIn
import Derived.TacticsInMore
import Derived.LoopNIn
import Derived.LoopIn
import Derived.Maps.AppendAt
import Derived.Test.YtceppcmcokkkoaaO
import Derived.Test.YtceppcmcokkkoaaB
namespace Go.Proofs.Ytceppcmcokkkoaa
open Go.RowKit Go.Shelf

theorem ntz_tz (x : Int) (h0 : 0 ≤ x) (h1 : x ≤ 255) : wrap64 (Lib.ntz8 x) = tz8 x := by
  have e := Lib.ntz8_eq ⟨x.toNat, by omega⟩
  have hl := Lib.trailingZeros8_le8 ⟨x.toNat, by omega⟩
  simp only [Int.toNat_of_nonneg h0] at e
  simp only at hl
  unfold tz8
  rw [e]
  exact IntWalk.wrap64_in _ ⟨by omega, by omega⟩
theorem pop_pop (x : Int) (h0 : 0 ≤ x) (h1 : x ≤ 255) : wrap64 (Lib.pop8 x) = pop8 x := by
  have e := Lib.pop8_eq ⟨x.toNat, by omega⟩
  have hl := Lib.onesCount_le8 ⟨x.toNat, by omega⟩
  simp only [Int.toNat_of_nonneg h0] at e
  simp only at hl
  unfold pop8
  rw [e]
  exact IntWalk.wrap64_in _ ⟨by omega, by omega⟩
theorem tz_any (x : Int) (w : World) (h0 : 0 ≤ x) (h1 : x ≤ 255) :
    Calls Try.prog 68 #[.int .u8 x] w fun e w' => e = .returned (.int .i64 (tz8 x)) ∧ w = w' := by
  have E := Lib.hid (ntz_tz x h0 h1)
  go_enter Try.func68, Try.ntmps68
  go_wp2
  go_ret
  exact ⟨ret_int E.out, rfl⟩
theorem pop_any (x : Int) (w : World) (h0 : 0 ≤ x) (h1 : x ≤ 255) :
    Calls Try.prog 61 #[.int .u8 x] w fun e w' => e = .returned (.int .i64 (pop8 x)) ∧ w = w' := by
  have E := Lib.hid (pop_pop x h0 h1)
  go_enter Try.func61, Try.ntmps61
  go_wp2
  go_ret
  exact ⟨ret_int E.out, rfl⟩
theorem tz_at (x : Int) (t : Nat) (w : World) (h0 : 0 ≤ x) (h1 : x ≤ 255) (ht : tz8 x = (t : Int)) :
    Calls Try.prog 68 #[.int .u8 x] w fun e w' => e = .returned (.int .i64 (t : Int)) ∧ w = w' := by
  rw [← ht]; exact tz_any x w h0 h1

attribute [local go_sem] Oper.semAt_some

/-- what lay below n₀ lies as it lay, and so does the block Bn -/
def KeepsBox (n₀ Bn : Nat) (A B : World) : Prop := Below n₀ A B ∧ B.heap[Bn]? = A.heap[Bn]?
theorem KeepsBox.refl (n₀ Bn : Nat) (A : World) : KeepsBox n₀ Bn A A := ⟨Below.refl _ _, rfl⟩
theorem KeepsBox.trans {n₀ Bn : Nat} {A B C : World} (h : KeepsBox n₀ Bn A B) (k : KeepsBox n₀ Bn B C) : KeepsBox n₀ Bn A C := ⟨h.1.trans k.1, k.2.trans h.2⟩
theorem KeepsBox.cell {n₀ Bn : Nat} {A B : World} (h : KeepsBox n₀ Bn A B) : B.cell? ⟨Bn, 0, none⟩ = A.cell? ⟨Bn, 0, none⟩ := World.cell?_of_block h.2
theorem keepsBox_b {n₀ Bn : Nat} {w : World} (hn : n₀ ≤ w.heap.size) (hB : Bn < w.heap.size) (W : World) (l : Nat) (o o' : Obj) (hl : w.heap.size ≤ l) (h : W.heap[l]? = some o) (hc : o.isCells = false) (hw : o.isWalk = false) : KeepsBox n₀ Bn W (W.putObj l o') :=
  ⟨belowK_b hn W l o o' hl h hc hw, (grownBy_putObj' W l o').block Bn (by have := (Array.getElem?_eq_some_iff.1 h).1; omega) (fun e => by cases e; omega)⟩

set_option maxRecDepth 100000 in
set_option maxHeartbeats 1000000 in
theorem ones1_in (n : Nat) (hn : 1 ≤ n) (l Bn n₀ : Nat) (A : Option Addr) (c : Nat) (xs : List Int) (hxs : xs.length ≤ 1000) (J Jx : List Nat → World → Prop)
    (hY : ∀ pre x W, J pre W → pre.length < (ones xs).length → x < 8000 → YieldAt Fence.wide (n - 1) Try.prog l #[.int .i64 ((x : Nat) : Int)] W fun e W' =>
      (e = .returned (.bool true) ∧ J (pre ++ [x]) W' ∧ KeepsBox n₀ Bn W W') ∨ (e = .returned (.bool false) ∧ Jx (pre ++ [x]) W'))
    (W : World) (hBn : W.cell? ⟨Bn, 0, none⟩ = some (.slice A xs.length c)) (hL : Bts W n₀ A xs) (h0 : J [] W) :
    CallsIn Fence.wide n Try.prog 67 #[.func (.yield l) #[] #[], .pointer (some ⟨Bn, 0, none⟩)] W fun e W' => (∃ v, e = .returned v) ∧
      ((∃ ys, ys = ones xs ∧ J ys W') ∨ (∃ pre, pre <+: ones xs ∧ Jx pre W')) := by
  refine callsIn_of_wp Try.func67 rfl trivial ?_ rfl
  simp only [Try.ntmps67, List.size_toArray, List.length_cons, List.length_nil, Nat.reduceAdd, Nat.reduceSub, Array.replicate_succ, Array.replicate_zero, List.push_toArray, List.append_toArray, List.nil_append, List.cons_append]
  gi_wp2
  gi_loopw [7] (fun i wr => ∃ k : Nat, k ≤ xs.length ∧ i = .int .i64 k ∧ J (onesTo xs k) wr ∧ KeepsBox n₀ Bn W wr)
    (fun i _ => xs.length - (intOf i).toNat)
  case atStart => exact ⟨0, Nat.zero_le _, rfl, h0, KeepsBox.refl _ _ _⟩
  case round =>
    obtain ⟨k, hk, rfl, hJ, hBe⟩ := hrel
    have hBc : wr.cell? ⟨Bn, 0, none⟩ = some (.slice A xs.length c) := hBe.cell.trans hBn
    by_cases hlt : k < xs.length
    · obtain ⟨b, off, rfl, hb, hc⟩ := (hL.below hBe.1).at_ hlt
      have hx := hL.1.nth k
      have hlti : (k : Int) < (xs.length : Int) := by omega
      gi_wp2
      gi_loopw [4] (fun r w2 => ∃ (part : List Nat) (x : Int), r = .int .u8 x ∧ 0 ≤ x ∧ x ≤ 255 ∧ onesB (nth xs k) = part ++ onesB x ∧ J (onesTo xs k ++ part.map (8 * k + ·)) w2 ∧ KeepsBox n₀ Bn W w2)
        (fun r _ => (intOf r).toNat)
      case atStart => exact ⟨[], _, rfl, hx.1, hx.2, rfl, by simpa using hJ, hBe⟩
      case round =>
        obtain ⟨part, x, rfl, hx0, hx1, hpart, hJ2, hB2⟩ := hrel
        by_cases hxz : x = 0
        · subst hxz
          have hJ3 : J (onesTo xs (k + 1)) wr := by
            rw [onesTo_succ, hpart, onesB_zero, List.append_nil]; exact hJ2
          gi_wp2
          go_roundw
          case rel => exact ⟨k + 1, by omega, by go_num, hJ3, hB2⟩
          case measure => simp [intOf]; omega
        · obtain ⟨hst, hl0, hl1, ht0, ht1⟩ := onesB_step x hx0 hx1 hxz
          have hne : (x != 0) = true := by simp [hxz]
          obtain ⟨t, ht⟩ := Int.eq_ofNat_of_zero_le ht0
          rw [ht] at ht1
          have htn : (tz8 x).toNat = t := by rw [ht]; rfl
          rw [htn] at hst
          have hpart2 : onesB (nth xs k) = (part ++ [t]) ++ onesB (low x) := by rw [hpart, hst]; simp
          have hpre : onesTo xs k ++ part.map (8 * k + ·) ++ [8 * k + t] <+: ones xs := by
            refine List.IsPrefix.trans ?_ (onesTo_pre xs (show k + 1 ≤ xs.length by omega))
            rw [onesTo_succ, hpart2]
            simp only [List.map_append, List.map_cons, List.map_nil, List.append_assoc]
            exact ⟨(onesB (low x)).map (8 * k + ·), by simp⟩
          have hY1 := hY _ (8 * k + t) wr hJ2 (by have := hpre.length_le; simp at this ⊢; omega) (by omega)
          have e1 : ((8 * k + t : Nat) : Int) = (k : Int) * 8 + (t : Int) := by omega
          rw [e1] at hY1
          have hJe : onesTo xs k ++ (part ++ [t]).map (8 * k + ·) = onesTo xs k ++ part.map (8 * k + ·) ++ [8 * k + t] := by simp
          have Ht := Lib.hid ht
          have HJe := Lib.hid hJe
          have Hp2 := Lib.hid hpart2
          have Hpre := Lib.hid hpre
          have hks : (k : Int) ≤ 1000 := by omega
          have hx2 : 0 < x := by omega
          obtain ⟨fn, tmps, assign, body, hy, hR⟩ := hY1
          clear ht hJe hpart2 hpre e1 hst htn hpart hY hxz
          have HR := Lib.hid hR
          clear hR
          gi_wp2_with (refine ⟨trivial, ?_⟩; gi_at_call 68; refine (callsIn_wide.2 (tz_at x t _ hx0 hx1 Ht.out)).mono ?_; rintro e w' ⟨rfl, rfl⟩)
          refine HR.out.mono ?_
          rintro e W3 (⟨rfl, hJ3, hk3⟩ | ⟨rfl, hJx3⟩)
          · gi_wp2
            go_roundw
            case rel => exact ⟨part ++ [t], low x, rfl, hl0, by omega, Hp2.out, by rw [HJe.out]; exact hJ3, hB2.trans hk3⟩
            case measure => simp only [intOf]; have := hl1; show (low x).toNat < _; simp; omega
          · gi_wp2
            refine bodyPost_ret (results_none rfl _ _ _) rfl ?_
            exact ⟨⟨_, rfl⟩, .inr ⟨_, Hpre.out, hJx3⟩⟩
    · obtain rfl : k = xs.length := by omega
      gi_wp2
      go_end0
      exact ⟨⟨_, rfl⟩, .inl ⟨_, rfl, hJ⟩⟩

theorem onesMake_in (n : Nat) (v : Value) (c l : Nat) (A : Option Addr) (hv : v = .slice A l c) (w : World) :
    CallsIn Fence.wide n Try.prog 60 #[v] w fun e w' => e = .returned (.func (.func 67) #[] #[.pointer (some ⟨w.heap.size, 0, none⟩)]) ∧ w' = w.alloc (.cells #[v] 43) := by
  subst hv
  refine callsIn_of_wp Try.func60 rfl trivial ?_ rfl
  simp only [Try.ntmps60, List.size_toArray, List.length_cons, List.length_nil, Nat.reduceAdd, Nat.reduceSub, Array.replicate_succ, Array.replicate_zero, List.push_toArray, List.append_toArray, List.nil_append, List.cons_append]
  gi_wp2
  go_ret
  exact ⟨rfl, rfl⟩

/-- the number of a bit -/
abbrev Bitno := { x : Nat // x < 8000 }
def plainB (p : List Bitno) : List Nat := p.map (·.1)

theorem ones_stops (n : Nat) (hn : 1 ≤ n) (Bn n₀ : Nat) (A : Option Addr) (c : Nat) (xs : List Int) (hxs : xs.length ≤ 1000) (w : World) (hBl : Bn < w.heap.size) (hn₀ : n₀ ≤ w.heap.size)
    (hc : w.cell? ⟨Bn, 0, none⟩ = some (.slice A xs.length c)) (hL : Bts w n₀ A xs) :
    SeqStopsK Fence.wide n Try.prog 67 #[.pointer (some ⟨Bn, 0, none⟩)] (fun x : Bitno => #[Value.int .i64 ((x.1 : Nat) : Int)]) (KeepsBox n₀ Bn) (fun ys => plainB ys = ones xs) (fun pre => plainB pre <+: ones xs) (ones xs).length w := fun l J Jx W hW _ _ hY h0 => by
  refine CallsIn.mono (ones1_in n hn l Bn n₀ A c xs hxs (fun p W => ∃ q, plainB q = p ∧ J q W) (fun p W => ∃ q, plainB q = p ∧ Jx q W) ?_ W ((hW.cell (p := ⟨Bn, 0, none⟩) hBl).trans hc) (hL.below (hW.mono hn₀)) ⟨[], rfl, h0⟩) ?_
  · rintro _ x W1 ⟨q, rfl, hq⟩ hl hx
    obtain ⟨fn, tmps, assign, body, hy, hR⟩ := hY q ⟨x, hx⟩ W1 hq (by simpa [plainB] using hl)
    refine ⟨fn, tmps, assign, body, hy, hR.mono ?_⟩
    rintro e W' (⟨he, hJ, hk⟩ | ⟨he, hJ⟩)
    · exact .inl ⟨he, ⟨_, by simp [plainB], hJ⟩, hk⟩
    · exact .inr ⟨he, _, by simp [plainB], hJ⟩
  · rintro e W' ⟨he, ⟨ys, rfl, q, hq, hJ⟩ | ⟨pre, hp, q, rfl, hJ⟩⟩
    · exact ⟨he, .inl ⟨q, hq, hJ⟩⟩
    · exact ⟨he, .inr ⟨q, hp, hJ⟩⟩
end Go.Proofs.Ytceppcmcokkkoaa
