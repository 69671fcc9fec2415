/- Rows of numbers in memory; contracts of Right, there, and of the document's own Right. -/
import Derived.Test.YthffdkoncagimaaProg
import Derived.Test.YthffdkoncagimaaGA
import Derived.WalkKit
import Derived.WalkLawsBesides
import Derived.WalkSpells
import Derived.Deep.QuietTactic
import Derived.BigQuiet
import Derived.Lib.Hide
import Derived.Outline
import Derived.IntWalk
import Derived.Below
namespace Go.Proofs.Ythffdkoncagimaa
set_option linter.unusedVariables false
set_option linter.unusedSimpArgs false
set_option maxRecDepth 100000
open Go.RowKit

theorem ret_int {k : IntKind} {a b : Int} (h : a = b) : Ending.returned (.int k a) = .returned (.int k b) := by rw [h]
theorem ret_bool {a b : Bool} (h : a = b) : Ending.returned (.bool a) = .returned (.bool b) := by rw [h]
def nth (l : List Int) (k : Nat) : Int := l.getD k 0
theorem nth_lt {l : List Int} {k : Nat} (h : k < l.length) : nth l k = l[k] := by
  unfold nth; rw [List.getD_eq_getElem?_getD, List.getElem?_eq_getElem h]; rfl
/-- a slice's address under which, below block B, the cells are the ints l -/
def Ints (w : World) (B : Nat) (A : Option Addr) (l : List Int) : Prop :=
  0 < l.length → ∃ b off, A = some ⟨b, off, none⟩ ∧ b < B ∧ ∀ j, j < l.length → w.cell? ⟨b, off + j, none⟩ = some (.int .i64 (nth l j))
section
variable {w w' : World} {B B' : Nat} {A : Option Addr} {l : List Int}
theorem Ints.at_ (h : Ints w B A l) {k : Nat} (hk : k < l.length) : ∃ b off, A = some ⟨b, off, none⟩ ∧ b < B ∧ w.cell? ⟨b, off + k, none⟩ = some (.int .i64 (nth l k)) := by
  obtain ⟨b, off, e, hb, hc⟩ := h (by omega)
  exact ⟨b, off, e, hb, hc k hk⟩
theorem Ints.keep (h : Ints w B A l) (hk : ∀ p : Addr, p.block < B → w'.cell? p = w.cell? p) : Ints w' B A l := fun hn => by
  obtain ⟨b, off, e, hb, hc⟩ := h hn
  exact ⟨b, off, e, hb, fun j hj => (hk _ hb).trans (hc j hj)⟩
theorem Ints.more (h : Ints w B A l) (hB : B ≤ B') : Ints w B' A l := fun hn => by
  obtain ⟨b, off, e, hb, hc⟩ := h hn
  exact ⟨b, off, e, by omega, hc⟩
theorem Ints.below (h : Ints w B A l) (hb : Below B w w') : Ints w' B A l := h.keep fun _ hp => hb.cell hp
theorem Ints.nil : Ints w B A [] := fun h => by simp at h
end
def natsI (l : List Nat) : List Int := l.map fun i : Nat => (i : Int)
theorem length_natsI (l : List Nat) : (natsI l).length = l.length := by simp [natsI]
def el (l : List Nat) (k : Nat) : Nat := l.getD k 0
theorem el_lt {l : List Nat} {k : Nat} (h : k < l.length) : el l k = l[k] := by
  unfold el; rw [List.getD_eq_getElem?_getD, List.getElem?_eq_getElem h]; rfl
theorem nth_nats (q : List Nat) (k : Nat) (h : k < q.length) : nth (natsI q) k = ((el q k : Nat) : Int) := by
  rw [nth_lt (by rw [length_natsI]; exact h), el_lt h]; simp [natsI]

/-- the n-th row -/
def rowI (R : List (List Int)) (n : Nat) : List Int := R.getD n []
theorem rowI_lt {R : List (List Int)} {n : Nat} (h : n < R.length) : rowI R n = R[n] := by
  unfold rowI; rw [List.getD_eq_getElem?_getD, List.getElem?_eq_getElem h]; rfl
/-- a slice's address under which, below block B, the cells are slices of the ints R -/
def Mat (w : World) (B : Nat) (A : Option Addr) (R : List (List Int)) : Prop :=
  0 < R.length → ∃ b off, A = some ⟨b, off, none⟩ ∧ b < B ∧ ∀ j, j < R.length → ∃ Aj cj, w.cell? ⟨b, off + j, none⟩ = some (.slice Aj (rowI R j).length cj) ∧ Ints w B Aj (rowI R j)
section
variable {w w' : World} {B B' : Nat} {A : Option Addr} {R : List (List Int)}
theorem Mat.at_ (h : Mat w B A R) {k : Nat} (hk : k < R.length) : ∃ b off Ak ck, A = some ⟨b, off, none⟩ ∧ b < B ∧ w.cell? ⟨b, off + k, none⟩ = some (.slice Ak (rowI R k).length ck) ∧ Ints w B Ak (rowI R k) := by
  obtain ⟨b, off, e, hb, hc⟩ := h (by omega)
  obtain ⟨Aj, cj, h1, h2⟩ := hc k hk
  exact ⟨b, off, Aj, cj, e, hb, h1, h2⟩
theorem Mat.keep (h : Mat w B A R) (hk : ∀ p : Addr, p.block < B → w'.cell? p = w.cell? p) : Mat w' B A R := fun hn => by
  obtain ⟨b, off, e, hb, hc⟩ := h hn
  refine ⟨b, off, e, hb, fun j hj => ?_⟩
  obtain ⟨Aj, cj, h1, h2⟩ := hc j hj
  exact ⟨Aj, cj, (hk _ hb).trans h1, h2.keep hk⟩
theorem Mat.more (h : Mat w B A R) (hB : B ≤ B') : Mat w B' A R := fun hn => by
  obtain ⟨b, off, e, hb, hc⟩ := h hn
  refine ⟨b, off, e, by omega, fun j hj => ?_⟩
  obtain ⟨Aj, cj, h1, h2⟩ := hc j hj
  exact ⟨Aj, cj, h1, h2.more hB⟩
theorem Mat.below (h : Mat w B A R) (hb : Below B w w') : Mat w' B A R := h.keep fun _ hp => hb.cell hp
theorem Mat.nil : Mat w B A [] := fun h => by simp at h
end
/-- deps that came in are right -/
def okRow (n : Nat) (l : List Int) (k : Nat) : Bool := (List.range k).all fun j => decide (0 ≤ nth l j) && decide (nth l j < (n : Int))
def okTo (R : List (List Int)) (k : Nat) : Bool := (List.range k).all fun n => decide ((rowI R n).length ≤ 256) && okRow n (rowI R n) (rowI R n).length
def okB (R : List (List Int)) : Bool := decide (R.length ≤ 256) && okTo R R.length
theorem okRow_succ (n : Nat) (l : List Int) (k : Nat) : okRow n l (k + 1) = (okRow n l k && (decide (0 ≤ nth l k) && decide (nth l k < (n : Int)))) := by
  simp [okRow, List.range_succ]
theorem okTo_succ (R : List (List Int)) (k : Nat) : okTo R (k + 1) = (okTo R k && (decide ((rowI R k).length ≤ 256) && okRow k (rowI R k) (rowI R k).length)) := by
  simp [okTo, List.range_succ]
theorem okRow_stop {n : Nat} {l : List Int} {k : Nat} (hk : k < l.length) (h : ¬ (0 ≤ nth l k ∧ nth l k < (n : Int))) : okRow n l l.length = false := by
  rw [Bool.eq_false_iff]
  intro ht
  have := List.all_eq_true.1 ht k (List.mem_range.2 hk)
  simp only [Bool.and_eq_true, decide_eq_true_eq] at this
  exact h this
theorem okTo_stop {R : List (List Int)} {k : Nat} (hk : k < R.length) (h : (decide ((rowI R k).length ≤ 256) && okRow k (rowI R k) (rowI R k).length) = false) : okB R = false := by
  rw [Bool.eq_false_iff]
  intro ht
  have h1 : okTo R R.length = true := by unfold okB at ht; simp only [Bool.and_eq_true] at ht; exact ht.2
  have := List.all_eq_true.1 h1 k (List.mem_range.2 hk)
  rw [h] at this; cases this
theorem okB_long {R : List (List Int)} (h : ¬ R.length ≤ 256) : okB R = false := by simp [okB, h]
theorem okB_all {R : List (List Int)} (h : R.length ≤ 256) (h2 : okTo R R.length = true) : okB R = true := by simp [okB, h, h2]
theorem okRow_zero (n : Nat) (l : List Int) : okRow n l 0 = true := rfl
theorem okTo_zero (R : List (List Int)) : okTo R 0 = true := rfl

theorem there_any (A : Option Addr) (n c : Nat) (i : Int) (w : World) :
    Calls Try.prog 35 #[.slice A n c, .int .i64 i] w fun e w' => e = .returned (.bool (decide (0 ≤ i) && decide (i < (n : Int)))) ∧ w = w' := by
  by_cases h0 : 0 ≤ i
  · go_enter Try.func35, Try.ntmps35
    go_wp2
    go_ret
    exact ⟨by simp [h0], rfl⟩
  · go_enter Try.func35, Try.ntmps35
    go_wp2
    go_ret
    exact ⟨by simp; omega, rfl⟩

set_option maxRecDepth 100000 in
set_option maxHeartbeats 1000000 in
theorem right_any (A : Option Addr) (c : Nat) (R : List (List Int)) (w : World) (hl : R.length ≤ 1000) (hr : ∀ k, k < R.length → (rowI R k).length ≤ 1000) (hM : Mat w w.heap.size A R) :
    Calls Try.prog 34 #[.slice A R.length c] w fun e w' => e = .returned (.bool (okB R)) ∧ w = w' := by
  by_cases h256 : R.length ≤ 256
  · go_enter Try.func34, Try.ntmps34
    go_wp2
    go_loop [12] (fun i => ∃ k : Nat, k ≤ R.length ∧ i = .int .i64 k ∧ okTo R k = true) (fun i => R.length - (intOf i).toNat)
    case atStart => exact ⟨0, Nat.zero_le _, rfl, rfl⟩
    case round =>
      obtain ⟨k, hk, rfl, hok⟩ := hrel
      have Hok := Lib.hid hok
      clear hok
      by_cases hlt : k < R.length
      · have hlti : (k : Int) < (R.length : Int) := by omega
        have hk0 : (0 : Int) ≤ (k : Int) := by omega
        obtain ⟨b, off, Ak, ck, rfl, hb, hc, hI⟩ := hM.at_ hlt
        have hrk := hr k hlt
        have Hstop := Lib.hid (@okTo_stop R k hlt)
        have Hs := Lib.hid (okTo_succ R k)
        obtain ⟨l, hl2⟩ : ∃ l, l = rowI R k := ⟨_, rfl⟩
        rw [← hl2] at hc hI hrk Hstop Hs
        clear hl2 hr hM
        by_cases h2 : l.length ≤ 256
        · go_wp2
          go_loop [22] (fun i => ∃ j : Nat, j ≤ l.length ∧ i = .int .i64 j ∧ okRow k l j = true) (fun i => l.length - (intOf i).toNat)
          case atStart => exact ⟨0, Nat.zero_le _, rfl, rfl⟩
          case round =>
            obtain ⟨j, hj, rfl, hokj⟩ := hrel
            have Hokj := Lib.hid hokj
            clear hokj
            by_cases hltj : j < l.length
            · have hltji : (j : Int) < (l.length : Int) := by omega
              have hj0 : (0 : Int) ≤ (j : Int) := by omega
              obtain ⟨bj, oj, rfl, hbj, hcj⟩ := hI.at_ hltj
              have Hst := Lib.hid (@okRow_stop k l j hltj)
              have Hsj := Lib.hid (okRow_succ k l j)
              obtain ⟨x, hx⟩ : ∃ x, x = nth l j := ⟨_, rfl⟩
              rw [← hx] at hcj Hst Hsj
              clear hx hI
              by_cases hx0 : 0 ≤ x
              · by_cases hxk : x < (k : Int)
                · go_wp2
                  go_round
                  case rel => exact ⟨j + 1, by omega, by go_num, by rw [Hsj.out, Hokj.out]; simp [hx0, hxk]⟩
                  case measure => simp [intOf]; omega
                · have Hf := Lib.hid (Hstop.out (by rw [Hst.out (fun h => hxk h.2), Bool.and_false]))
                  go_wp2
                  go_ret
                  exact ⟨ret_bool Hf.out.symm, rfl⟩
              · have hx1 : x < 0 := by omega
                have Hf := Lib.hid (Hstop.out (by rw [Hst.out (fun h => hx0 h.1), Bool.and_false]))
                go_wp2
                go_ret
                exact ⟨ret_bool Hf.out.symm, rfl⟩
            · obtain rfl : j = l.length := by omega
              go_wp2
              go_round
              case rel => exact ⟨k + 1, by omega, by go_num, by rw [Hs.out, Hok.out, Hokj.out]; simp [h2]⟩
              case measure => simp [intOf]; omega
        · have Hf := Lib.hid (Hstop.out (by simp [h2]))
          go_wp2
          go_ret
          exact ⟨ret_bool Hf.out.symm, rfl⟩
      · obtain rfl : k = R.length := by omega
        have Hf := Lib.hid (okB_all h256 Hok.out)
        go_wp2
        go_ret
        exact ⟨ret_bool Hf.out.symm, rfl⟩
  · have Hf := Lib.hid (okB_long h256)
    go_enter Try.func34, Try.ntmps34
    go_wp2
    go_ret
    exact ⟨ret_bool Hf.out.symm, rfl⟩
set_option maxRecDepth 100000 in
set_option maxHeartbeats 1000000 in
theorem refright_any (A : Option Addr) (c : Nat) (R : List (List Int)) (w : World) (hl : R.length ≤ 1000) (hr : ∀ k, k < R.length → (rowI R k).length ≤ 1000) (hM : Mat w w.heap.size A R) :
    Calls Try.prog 38 #[.slice A R.length c] w fun e w' => e = .returned (.bool (okB R)) ∧ w = w' := by
  by_cases h256 : R.length ≤ 256
  · go_enter Try.func38, Try.ntmps38
    go_wp2
    go_loop [3] (fun i => ∃ k : Nat, k ≤ R.length ∧ i = .int .i64 k ∧ okTo R k = true) (fun i => R.length - (intOf i).toNat)
    case atStart => exact ⟨0, Nat.zero_le _, rfl, rfl⟩
    case round =>
      obtain ⟨k, hk, rfl, hok⟩ := hrel
      have Hok := Lib.hid hok
      clear hok
      by_cases hlt : k < R.length
      · have hlti : (k : Int) < (R.length : Int) := by omega
        have hk0 : (0 : Int) ≤ (k : Int) := by omega
        obtain ⟨b, off, Ak, ck, rfl, hb, hc, hI⟩ := hM.at_ hlt
        have hrk := hr k hlt
        have Hstop := Lib.hid (@okTo_stop R k hlt)
        have Hs := Lib.hid (okTo_succ R k)
        obtain ⟨l, hl2⟩ : ∃ l, l = rowI R k := ⟨_, rfl⟩
        rw [← hl2] at hc hI hrk Hstop Hs
        clear hl2 hr hM
        by_cases h2 : l.length ≤ 256
        · go_wp2
          go_loop [4] (fun i => ∃ j : Nat, j ≤ l.length ∧ i = .int .i64 j ∧ okRow k l j = true) (fun i => l.length - (intOf i).toNat)
          case atStart => exact ⟨0, Nat.zero_le _, rfl, rfl⟩
          case round =>
            obtain ⟨j, hj, rfl, hokj⟩ := hrel
            have Hokj := Lib.hid hokj
            clear hokj
            by_cases hltj : j < l.length
            · have hltji : (j : Int) < (l.length : Int) := by omega
              have hj0 : (0 : Int) ≤ (j : Int) := by omega
              obtain ⟨bj, oj, rfl, hbj, hcj⟩ := hI.at_ hltj
              have Hst := Lib.hid (@okRow_stop k l j hltj)
              have Hsj := Lib.hid (okRow_succ k l j)
              obtain ⟨x, hx⟩ : ∃ x, x = nth l j := ⟨_, rfl⟩
              rw [← hx] at hcj Hst Hsj
              clear hx hI
              by_cases hx0 : 0 ≤ x
              · by_cases hxk : x < (k : Int)
                · go_wp2
                  go_round
                  case rel => exact ⟨j + 1, by omega, by go_num, by rw [Hsj.out, Hokj.out]; simp [hx0, hxk]⟩
                  case measure => simp [intOf]; omega
                · have Hf := Lib.hid (Hstop.out (by rw [Hst.out (fun h => hxk h.2), Bool.and_false]))
                  go_wp2
                  go_ret
                  exact ⟨ret_bool Hf.out.symm, rfl⟩
              · have hx1 : x < 0 := by omega
                have Hf := Lib.hid (Hstop.out (by rw [Hst.out (fun h => hx0 h.1), Bool.and_false]))
                go_wp2
                go_ret
                exact ⟨ret_bool Hf.out.symm, rfl⟩
            · obtain rfl : j = l.length := by omega
              go_wp2
              go_round
              case rel => exact ⟨k + 1, by omega, by go_num, by rw [Hs.out, Hok.out, Hokj.out]; simp [h2]⟩
              case measure => simp [intOf]; omega
        · have Hf := Lib.hid (Hstop.out (by simp [h2]))
          go_wp2
          go_ret
          exact ⟨ret_bool Hf.out.symm, rfl⟩
      · obtain rfl : k = R.length := by omega
        have Hf := Lib.hid (okB_all h256 Hok.out)
        go_wp2
        go_ret
        exact ⟨ret_bool Hf.out.symm, rfl⟩
  · have Hf := Lib.hid (okB_long h256)
    go_enter Try.func38, Try.ntmps38
    go_wp2
    go_ret
    exact ⟨ret_bool Hf.out.symm, rfl⟩
end Go.Proofs.Ythffdkoncagimaa
