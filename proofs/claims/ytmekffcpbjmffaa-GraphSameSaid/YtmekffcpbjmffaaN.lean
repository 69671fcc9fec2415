/- What came in: rows of numbers; few and some. -/
import Derived.Test.YtmekffcpbjmffaaM
import Derived.ChangeShapes
import Derived.OpenShut
import Derived.Deep.Matrix
namespace Go.Proofs.Ytmekffcpbjmffaa
open Go.RowKit

/-- A slice of integers that came in: it is nil; or it leads to a row of 'cap' cells, the numbers 'zs' (the first 'len' are its elements). -/
def IsRow (k : IntKind) (w : World) (a : Option Addr) (len cap : Nat) (zs : List Int) : Prop :=
  (a = none ∧ len = 0 ∧ cap = 0 ∧ zs = []) ∨
  ∃ x, a = some x ∧ len ≤ cap ∧ cap ≤ maxLen ∧ zs.length = cap ∧ (∀ i, i < zs.length → w.cell? (x.add i) = some (.int k (zs.getD i 0))) ∧ ∀ n ∈ zs, (Lit.int k n).wf = true
theorem add_plain {b off j : Nat} : (⟨b, off, none⟩ : Addr).add j = ⟨b, off + j, none⟩ := by unfold Addr.add; split <;> simp_all
theorem IsRow.ints {w : World} {a : Option Addr} {len cap : Nat} {zs : List Int} (h : IsRow .i64 w a len cap zs) : len ≤ cap ∧ cap ≤ maxLen ∧ Ints w w.heap.size a (zs.take len) ∧ (zs.take len).length = len := by
  rcases h with ⟨rfl, rfl, rfl, rfl⟩ | ⟨x, rfl, hl, hm, hz, hc, _⟩
  · exact ⟨Nat.le_refl _, Nat.zero_le _, Ints.nil, rfl⟩
  · have hn : (zs.take len).length = len := by rw [List.length_take]; omega
    refine ⟨hl, hm, fun hp => ?_, hn⟩
    obtain ⟨b, off, spot⟩ := x
    have hc0 := hc 0 (by omega)
    have hspot : spot = none := by simpa [Addr.add] using World.cell?_spot hc0
    subst hspot
    refine ⟨b, off, rfl, lt_cell (by simpa [Addr.add] using hc0), fun j hj => ?_⟩
    have hcj := hc j (by omega)
    rw [add_plain] at hcj
    rw [hcj]
    unfold nth
    rw [List.getD_eq_getElem?_getD, List.getD_eq_getElem?_getD, List.getElem?_take, if_pos (by omega)]
theorem Ints.take {w : World} {B : Nat} {A : Option Addr} {l : List Int} (h : Ints w B A l) (k : Nat) : Ints w B A (l.take k) := fun hp => by
  rw [List.length_take] at hp
  obtain ⟨b, off, e, hb, hc⟩ := h (by omega)
  refine ⟨b, off, e, hb, fun j hj => ?_⟩
  rw [List.length_take] at hj
  rw [hc j (by omega)]
  unfold nth
  rw [List.getD_eq_getElem?_getD, List.getD_eq_getElem?_getD, List.getElem?_take, if_pos (by omega)]
/-- rows of integers that came in -/
structure IsMat (w : World) (a : Option Addr) (len cap : Nat) (R : List (List Int)) (A : Nat → Option Addr) (C : Nat → Nat) : Prop where
  hlen : R.length = len
  hcap : len ≤ cap
  hmax : cap ≤ maxLen
  at_ : 0 < len → ∃ b off, a = some ⟨b, off, none⟩ ∧ b < w.heap.size ∧ ∀ j, j < len → w.cell? ⟨b, off + j, none⟩ = some (.slice (A j) (rowI R j).length (C j)) ∧ Ints w w.heap.size (A j) (rowI R j) ∧ (rowI R j).length ≤ C j ∧ C j ≤ maxLen
def fewR (R : List (List Int)) : List (List Int) := (R.take 40).map (·.take 40)
theorem length_fewR (R : List (List Int)) : (fewR R).length = min 40 R.length := by simp [fewR]
theorem rowI_fewR (R : List (List Int)) (k : Nat) (h : k < (fewR R).length) : rowI (fewR R) k = (rowI R k).take 40 := by
  rw [length_fewR] at h
  rw [rowI_lt (by rw [length_fewR]; exact h), rowI_lt (by omega)]
  simp [fewR]
theorem fewR_small (R : List (List Int)) : (fewR R).length ≤ 40 ∧ ∀ k, k < (fewR R).length → (rowI (fewR R) k).length ≤ 40 :=
  ⟨by rw [length_fewR]; omega, fun k h => by rw [rowI_fewR R k h, List.length_take]; omega⟩

/-- a slice of slices that is its own -/
theorem own_slices {w : World} {B : Nat} {v : Value} {n : Nat} {xs : List Value} (h : w.ownsRow B 23 1 v n xs) : ∃ A c, v = .slice A n c ∧ (0 < n → ∃ g, A = some ⟨g, 0, none⟩ ∧ g < w.heap.size ∧ ∀ j, j < n → w.cell? ⟨g, j, none⟩ = xs[j]?) := by
  rcases h.2 with ⟨rfl, rfl⟩ | ⟨g, cap, cur, rfl, hbg, hg, hnc, hcm, _⟩
  · exact ⟨none, 0, rfl, fun h => by omega⟩
  · exact ⟨_, cap, rfl, fun _ => ⟨g, rfl, (h.lt g rfl).2, fun j hj => h.cellAt j (by omega)⟩⟩

def rowV (A : Nat → Option Addr) (C : Nat → Nat) (R : List (List Int)) (k : Nat) : Value := .slice (A k) (rowI (fewR R) k).length (C k)

def FewSays (w : World) (R : List (List Int)) (e : Ending) (w' : World) : Prop := ∃ A' c', e = .returned (.slice A' (fewR R).length c') ∧ Mat w' w'.heap.size A' (fewR R) ∧ Below w.heap.size w w'

set_option maxRecDepth 100000 in
set_option maxHeartbeats 1000000 in
theorem few_any (a : Option Addr) (len cap : Nat) (R : List (List Int)) (A : Nat → Option Addr) (C : Nat → Nat) (w : World) (h : IsMat w a len cap R A C) :
    Calls Try.prog 13 #[.slice a len cap] w (FewSays w R) := by
  obtain ⟨hlen, hcap, hmax, hat⟩ := h
  have hmax' := hmax
  unfold maxLen at hmax'
  obtain ⟨i0, hi, hz0, hz1, hz2⟩ := info_parts info23
  have Hat := Lib.hid hat
  have Hlen := Lib.hid hlen
  have hn : (fewR R).length = min 40 len := by rw [length_fewR, hlen]
  obtain ⟨n, hnn⟩ : ∃ n, n = (fewR R).length := ⟨_, rfl⟩
  rw [← hnn] at hn
  have Hnn := Lib.hid hnn
  clear hlen hat hnn
  by_cases h40 : 40 < len
  · have hn40 : n = 40 := by omega
    clear hn
    subst hn40
    have hd : decide ((40 : Int) < (len : Int)) = true := by simp; omega
    go_enter Try.func13, Try.ntmps13
    go_wp2_with fail
    go_loopw [3, 4] (fun v i wr => ∃ k : Nat, k ≤ 40 ∧ i = .int .i64 k ∧ wr.ownsRow w.heap.size 23 1 v k ((List.range k).map (rowV A C R)) ∧ Below w.heap.size w wr) (fun _ i _ => 40 - (intOf i).toNat)
    case atStart => exact ⟨0, Nat.zero_le _, rfl, World.ownsRow_nil _ _ _ _, Below.refl _ _⟩
    case round =>
      obtain ⟨k, hk, rfl, hown, hB⟩ := hrel
      rename World => wr
      by_cases hlt : k < 40
      · have hlti : (k : Int) < ((40 : Nat) : Int) := by omega
        have hk0 : (0 : Int) ≤ (k : Int) := by omega
        obtain ⟨b, off, rfl, hb, hj⟩ := Hat.out (by omega)
        obtain ⟨hcw, hI, hrc, hrm⟩ := hj k (by omega)
        unfold maxLen at hrm
        have hc := (Below.cell hB (p := ⟨b, off + k, none⟩) hb).trans hcw
        have hfl := rowI_fewR R k (by rw [← Hnn.out]; omega)
        have hfn : (rowI (fewR R) k).length = min 40 (rowI R k).length := by rw [hfl, List.length_take]
        have hrv : rowV A C R k = .slice (A k) (rowI (fewR R) k).length (C k) := rfl
        have Hrange : Hid ((List.range (k + 1)).map (rowV A C R) = (List.range k).map (rowV A C R) ++ [.slice (A k) (rowI (fewR R) k).length (C k)]) := by
          unfold Hid
          rw [List.range_succ, List.map_append]
          rfl
        obtain ⟨m, hm⟩ : ∃ m, m = (rowI R k).length := ⟨_, rfl⟩
        obtain ⟨q, hq⟩ : ∃ q, q = (rowI (fewR R) k).length := ⟨_, rfl⟩
        rw [← hm] at hc hrc hfn
        rw [← hq] at hfn Hrange
        have hsz := hB.size
        clear hcw hI hfl hrv hm hq hj
        by_cases h40r : 40 < m
        · have hq40 : q = 40 := by omega
          clear hfn
          subst hq40
          go_wp2_with (at_builtin; refine wpList_append_own _ rfl _ _ 22 rfl w.heap.size 23 i0 (.slice none 0 0) 1 24 Try.underlying22 hi hz0 hz1 hz2 rfl (by decide) _ _ _ rfl (hown.alloc _) ⟨wr.heap.size, 0, none⟩ 1 1 [.slice (A k) 40 (C k)] rfl rfl (cell_one_new _ _ _) (by simp [Value.oneCell']) (by unfold maxLen; omega) (by omega) (by simp; omega) ?_)
          intro v' w1 hown' hgrow _
          have hB1 : Below w.heap.size w w1 := hB.trans ((((Below.refl _ wr).alloc hsz _)).grown hgrow (by simp; omega) (fun j e => (hown.lt j e).1))
          go_wp2_with fail
          go_roundw
          case rel => exact ⟨k + 1, by omega, by go_num, by rw [Hrange.out]; exact hown', hB1⟩
          case measure => simp [intOf]; omega
        · have hqm : q = m := by omega
          clear hfn
          subst hqm
          go_wp2_with (at_builtin; refine wpList_append_own _ rfl _ _ 22 rfl w.heap.size 23 i0 (.slice none 0 0) 1 24 Try.underlying22 hi hz0 hz1 hz2 rfl (by decide) _ _ _ rfl (hown.alloc _) ⟨wr.heap.size, 0, none⟩ 1 1 [.slice (A k) q (C k)] rfl rfl (cell_one_new _ _ _) (by simp [Value.oneCell']) (by unfold maxLen; omega) (by omega) (by simp; omega) ?_)
          intro v' w1 hown' hgrow _
          have hB1 : Below w.heap.size w w1 := hB.trans ((((Below.refl _ wr).alloc hsz _)).grown hgrow (by simp; omega) (fun j e => (hown.lt j e).1))
          go_wp2_with fail
          go_roundw
          case rel => exact ⟨k + 1, by omega, by go_num, by rw [Hrange.out]; exact hown', hB1⟩
          case measure => simp [intOf]; omega
      · have hlti : ¬ (k : Int) < ((40 : Nat) : Int) := by omega
        obtain rfl : k = 40 := by omega
        obtain ⟨A', c', rfl, hout⟩ := own_slices hown
        have HX : Hid (Mat wr wr.heap.size A' (fewR R)) := by
          intro hp
          rw [← Hnn.out] at hp
          obtain ⟨g, rfl, hg, hcells⟩ := hout hp
          obtain ⟨b, off, _, hb, hj⟩ := Hat.out (by omega)
          refine ⟨g, 0, rfl, hg, fun j hjn => ?_⟩
          have hj2 := hjn
          rw [← Hnn.out] at hjn
          obtain ⟨_, hI, _, _⟩ := hj j (by omega)
          refine ⟨A j, C j, ?_, ?_⟩
          · rw [Nat.zero_add, hcells j hjn, List.getElem?_map, List.getElem?_range hjn]; rfl
          · rw [rowI_fewR R j hj2]
            exact ((hI.below hB).more hB.size).take 40
        have HB := Lib.hid hB
        clear hB hown hout
        go_wp2_with fail
        go_ret
        exact ⟨A', c', by rw [← Hnn.out]; rfl, HX.out, HB.out⟩
  · have hnl : n = len := by omega
    clear hn
    subst hnl
    have hd : decide ((40 : Int) < (n : Int)) = false := by simp; omega
    go_enter Try.func13, Try.ntmps13
    go_wp2_with fail
    go_loopw [3, 4] (fun v i wr => ∃ k : Nat, k ≤ n ∧ i = .int .i64 k ∧ wr.ownsRow w.heap.size 23 1 v k ((List.range k).map (rowV A C R)) ∧ Below w.heap.size w wr) (fun _ i _ => n - (intOf i).toNat)
    case atStart => exact ⟨0, Nat.zero_le _, rfl, World.ownsRow_nil _ _ _ _, Below.refl _ _⟩
    case round =>
      obtain ⟨k, hk, rfl, hown, hB⟩ := hrel
      rename World => wr
      by_cases hlt : k < n
      · have hlti : (k : Int) < ((n : Nat) : Int) := by omega
        have hk0 : (0 : Int) ≤ (k : Int) := by omega
        obtain ⟨b, off, rfl, hb, hj⟩ := Hat.out (by omega)
        obtain ⟨hcw, hI, hrc, hrm⟩ := hj k (by omega)
        unfold maxLen at hrm
        have hc := (Below.cell hB (p := ⟨b, off + k, none⟩) hb).trans hcw
        have hfl := rowI_fewR R k (by rw [← Hnn.out]; omega)
        have hfn : (rowI (fewR R) k).length = min 40 (rowI R k).length := by rw [hfl, List.length_take]
        have hrv : rowV A C R k = .slice (A k) (rowI (fewR R) k).length (C k) := rfl
        have Hrange : Hid ((List.range (k + 1)).map (rowV A C R) = (List.range k).map (rowV A C R) ++ [.slice (A k) (rowI (fewR R) k).length (C k)]) := by
          unfold Hid
          rw [List.range_succ, List.map_append]
          rfl
        obtain ⟨m, hm⟩ : ∃ m, m = (rowI R k).length := ⟨_, rfl⟩
        obtain ⟨q, hq⟩ : ∃ q, q = (rowI (fewR R) k).length := ⟨_, rfl⟩
        rw [← hm] at hc hrc hfn
        rw [← hq] at hfn Hrange
        have hsz := hB.size
        clear hcw hI hfl hrv hm hq hj
        by_cases h40r : 40 < m
        · have hq40 : q = 40 := by omega
          clear hfn
          subst hq40
          go_wp2_with (at_builtin; refine wpList_append_own _ rfl _ _ 22 rfl w.heap.size 23 i0 (.slice none 0 0) 1 24 Try.underlying22 hi hz0 hz1 hz2 rfl (by decide) _ _ _ rfl (hown.alloc _) ⟨wr.heap.size, 0, none⟩ 1 1 [.slice (A k) 40 (C k)] rfl rfl (cell_one_new _ _ _) (by simp [Value.oneCell']) (by unfold maxLen; omega) (by omega) (by simp; omega) ?_)
          intro v' w1 hown' hgrow _
          have hB1 : Below w.heap.size w w1 := hB.trans ((((Below.refl _ wr).alloc hsz _)).grown hgrow (by simp; omega) (fun j e => (hown.lt j e).1))
          go_wp2_with fail
          go_roundw
          case rel => exact ⟨k + 1, by omega, by go_num, by rw [Hrange.out]; exact hown', hB1⟩
          case measure => simp [intOf]; omega
        · have hqm : q = m := by omega
          clear hfn
          subst hqm
          go_wp2_with (at_builtin; refine wpList_append_own _ rfl _ _ 22 rfl w.heap.size 23 i0 (.slice none 0 0) 1 24 Try.underlying22 hi hz0 hz1 hz2 rfl (by decide) _ _ _ rfl (hown.alloc _) ⟨wr.heap.size, 0, none⟩ 1 1 [.slice (A k) q (C k)] rfl rfl (cell_one_new _ _ _) (by simp [Value.oneCell']) (by unfold maxLen; omega) (by omega) (by simp; omega) ?_)
          intro v' w1 hown' hgrow _
          have hB1 : Below w.heap.size w w1 := hB.trans ((((Below.refl _ wr).alloc hsz _)).grown hgrow (by simp; omega) (fun j e => (hown.lt j e).1))
          go_wp2_with fail
          go_roundw
          case rel => exact ⟨k + 1, by omega, by go_num, by rw [Hrange.out]; exact hown', hB1⟩
          case measure => simp [intOf]; omega
      · have hlti : ¬ (k : Int) < ((n : Nat) : Int) := by omega
        obtain rfl : k = n := by omega
        obtain ⟨A', c', rfl, hout⟩ := own_slices hown
        have HX : Hid (Mat wr wr.heap.size A' (fewR R)) := by
          intro hp
          rw [← Hnn.out] at hp
          obtain ⟨g, rfl, hg, hcells⟩ := hout hp
          obtain ⟨b, off, _, hb, hj⟩ := Hat.out (by omega)
          refine ⟨g, 0, rfl, hg, fun j hjn => ?_⟩
          have hj2 := hjn
          rw [← Hnn.out] at hjn
          obtain ⟨_, hI, _, _⟩ := hj j (by omega)
          refine ⟨A j, C j, ?_, ?_⟩
          · rw [Nat.zero_add, hcells j hjn, List.getElem?_map, List.getElem?_range hjn]; rfl
          · rw [rowI_fewR R j hj2]
            exact ((hI.below hB).more hB.size).take 40
        have HB := Lib.hid hB
        clear hB hown hout
        go_wp2_with fail
        go_ret
        exact ⟨A', c', by rw [← Hnn.out]; rfl, HX.out, HB.out⟩

theorem some_any (a : Option Addr) (len cap : Nat) (w : World) (hl : len ≤ cap) (hm : cap ≤ maxLen) :
    Calls Try.prog 14 #[.slice a len cap] w fun e w' => e = .returned (.slice a (min len 60) cap) ∧ w = w' := by
  unfold maxLen at hm
  by_cases h : 60 < len
  · rw [Nat.min_eq_right (by omega)]
    go_enter Try.func14, Try.ntmps14
    go_wp2_with fail
    go_ret
    exact ⟨rfl, rfl⟩
  · rw [Nat.min_eq_left (by omega)]
    go_enter Try.func14, Try.ntmps14
    go_wp2_with fail
    go_ret
    exact ⟨rfl, rfl⟩
end Go.Proofs.Ytmekffcpbjmffaa
