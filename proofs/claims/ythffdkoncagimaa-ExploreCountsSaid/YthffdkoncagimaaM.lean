/- deps that came in, cut short: few, little. -/
import Derived.Test.YthffdkoncagimaaL
import Derived.Test.YthffdkoncagimaaGN
import Derived.Test.YthffdkoncagimaaGU
set_option linter.unusedVariables false
set_option linter.unusedSimpArgs false
set_option maxRecDepth 100000
namespace Go.Proofs.Ythffdkoncagimaa
open Go.RowKit Go.Shelf Go.ChangeShapes Go.WideShapes Go.Deep
/-- rows of integers that came in -/
structure IsMat (w : World) (a : Option Addr) (len cap : Nat) (R : List (List Int)) (A : Nat → Option Addr) (C : Nat → Nat) : Prop where
  hlen : R.length = len
  hcap : len ≤ cap
  hmax : cap ≤ maxLen
  at_ : 0 < len → ∃ b off, a = some ⟨b, off, none⟩ ∧ b < w.heap.size ∧ ∀ j, j < len → w.cell? ⟨b, off + j, none⟩ = some (.slice (A j) (rowI R j).length (C j)) ∧ Ints w w.heap.size (A j) (rowI R j) ∧ (rowI R j).length ≤ C j ∧ C j ≤ maxLen
def fewR (R : List (List Int)) : List (List Int) := (R.take 15).map (·.take 16)
theorem length_fewR (R : List (List Int)) : (fewR R).length = min 15 R.length := by simp [fewR]
theorem rowI_fewR (R : List (List Int)) (k : Nat) (h : k < (fewR R).length) : rowI (fewR R) k = (rowI R k).take 16 := by
  rw [length_fewR] at h
  rw [rowI_lt (by rw [length_fewR]; exact h), rowI_lt (by omega)]
  simp [fewR]
theorem fewR_small (R : List (List Int)) : (fewR R).length ≤ 15 ∧ ∀ k, k < (fewR R).length → (rowI (fewR R) k).length ≤ 16 :=
  ⟨by rw [length_fewR]; omega, fun k h => by rw [rowI_fewR R k h, List.length_take]; omega⟩

/-- a slice of slices that is its own -/
theorem own_slices {w : World} {B : Nat} {v : Value} {n : Nat} {xs : List Value} (h : w.ownsRow B 35 1 v n xs) : ∃ A c, v = .slice A n c ∧ n ≤ c ∧ c ≤ maxLen ∧ (0 < n → ∃ g, A = some ⟨g, 0, none⟩ ∧ g < w.heap.size ∧ ∀ j, j < n → w.cell? ⟨g, j, none⟩ = xs[j]?) := by
  rcases h.2 with ⟨rfl, rfl⟩ | ⟨g, cap, cur, rfl, hbg, hg, hnc, hcm, _⟩
  · exact ⟨none, 0, rfl, Nat.le_refl _, by unfold maxLen; omega, fun h => by omega⟩
  · exact ⟨_, cap, rfl, hnc, hcm, fun _ => ⟨g, rfl, (h.lt g rfl).2, fun j hj => h.cellAt j (by omega)⟩⟩

def rowV (A : Nat → Option Addr) (C : Nat → Nat) (R : List (List Int)) (k : Nat) : Value := .slice (A k) (rowI (fewR R) k).length (C k)

def FewSays (w : World) (R : List (List Int)) (e : Ending) (w' : World) : Prop := ∃ A' c', e = .returned (.slice A' (fewR R).length c') ∧ (fewR R).length ≤ c' ∧ c' ≤ maxLen ∧ Mat w' w'.heap.size A' (fewR R) ∧ Below w.heap.size w w'

set_option maxRecDepth 100000 in
set_option maxHeartbeats 1000000 in
theorem few_any (a : Option Addr) (len cap : Nat) (R : List (List Int)) (A : Nat → Option Addr) (C : Nat → Nat) (w : World) (h : IsMat w a len cap R A C) :
    Calls Try.prog 7 #[.slice a len cap] w (FewSays w R) := by
  obtain ⟨hlen, hcap, hmax, hat⟩ := h
  have hmax' := hmax
  unfold maxLen at hmax'
  obtain ⟨i0, hi, hz0, hz1, hz2⟩ := info_parts infoL
  have Hat := Lib.hid hat
  have Hlen := Lib.hid hlen
  have hn : (fewR R).length = min 15 len := by rw [length_fewR, hlen]
  obtain ⟨n, hnn⟩ : ∃ n, n = (fewR R).length := ⟨_, rfl⟩
  rw [← hnn] at hn
  have Hnn := Lib.hid hnn
  clear hlen hat hnn
  by_cases h40 : 15 < len
  · have hn40 : n = 15 := by omega
    clear hn
    subst hn40
    have hd : decide ((15 : Int) < (len : Int)) = true := by simp; omega
    go_enter Try.func7, Try.ntmps7
    go_wp2_with fail
    go_loopw [3, 4] (fun v i wr => ∃ k : Nat, k ≤ 15 ∧ i = .int .i64 k ∧ wr.ownsRow w.heap.size 35 1 v k ((List.range k).map (rowV A C R)) ∧ Below w.heap.size w wr) (fun _ i _ => 15 - (intOf i).toNat)
    case atStart => exact ⟨0, Nat.zero_le _, rfl, World.ownsRow_nil _ _ _ _, Below.refl _ _⟩
    case round =>
      obtain ⟨k, hk, rfl, hown, hB⟩ := hrel
      rename World => wr
      by_cases hlt : k < 15
      · have hlti : (k : Int) < ((15 : Nat) : Int) := by omega
        have hk0 : (0 : Int) ≤ (k : Int) := by omega
        obtain ⟨b, off, rfl, hb, hj⟩ := Hat.out (by omega)
        obtain ⟨hcw, hI, hrc, hrm⟩ := hj k (by omega)
        unfold maxLen at hrm
        have hc := (Below.cell hB (p := ⟨b, off + k, none⟩) hb).trans hcw
        have hfl := rowI_fewR R k (by rw [← Hnn.out]; omega)
        have hfn : (rowI (fewR R) k).length = min 16 (rowI R k).length := by rw [hfl, List.length_take]
        have hrv : rowV A C R k = .slice (A k) (rowI (fewR R) k).length (C k) := rfl
        have Hrange : Hid ((List.range (k + 1)).map (rowV A C R) = (List.range k).map (rowV A C R) ++ [.slice (A k) (rowI (fewR R) k).length (C k)]) := by
          unfold Hid
          rw [List.range_succ, List.map_append]
          rfl
        obtain ⟨m, hm⟩ : ∃ m, m = (rowI R k).length := ⟨_, rfl⟩
        obtain ⟨q, hq⟩ : ∃ q, q = (rowI (fewR R) k).length := ⟨_, rfl⟩
        rw [← hm] at hc hrc hfn
        rw [← hq] at hfn Hrange
        have hsz := hB.size
        clear hcw hI hfl hrv hm hq hj
        by_cases h40r : 16 < m
        · have hq40 : q = 16 := by omega
          clear hfn
          subst hq40
          go_wp2_with (at_builtin; refine wpList_append_own _ rfl _ _ 22 rfl w.heap.size 35 i0 (.slice none 0 0) 1 24 Try.underlying22 hi hz0 hz1 hz2 rfl (by decide) _ _ _ rfl (hown.alloc _) ⟨wr.heap.size, 0, none⟩ 1 1 [.slice (A k) 16 (C k)] rfl rfl (cell_one_new _ _ _) (by simp [Value.oneCell']) (by unfold maxLen; omega) (by omega) (by simp; omega) ?_)
          intro v' w1 hown' hgrow _
          have hB1 : Below w.heap.size w w1 := hB.trans ((((Below.refl _ wr).alloc hsz _)).grown hgrow (by simp; omega) (fun j e => (hown.lt j e).1))
          go_wp2_with fail
          go_roundw
          case rel => exact ⟨k + 1, by omega, by go_num, by rw [Hrange.out]; exact hown', hB1⟩
          case measure => simp [intOf]; omega
        · have hqm : q = m := by omega
          clear hfn
          subst hqm
          go_wp2_with (at_builtin; refine wpList_append_own _ rfl _ _ 22 rfl w.heap.size 35 i0 (.slice none 0 0) 1 24 Try.underlying22 hi hz0 hz1 hz2 rfl (by decide) _ _ _ rfl (hown.alloc _) ⟨wr.heap.size, 0, none⟩ 1 1 [.slice (A k) q (C k)] rfl rfl (cell_one_new _ _ _) (by simp [Value.oneCell']) (by unfold maxLen; omega) (by omega) (by simp; omega) ?_)
          intro v' w1 hown' hgrow _
          have hB1 : Below w.heap.size w w1 := hB.trans ((((Below.refl _ wr).alloc hsz _)).grown hgrow (by simp; omega) (fun j e => (hown.lt j e).1))
          go_wp2_with fail
          go_roundw
          case rel => exact ⟨k + 1, by omega, by go_num, by rw [Hrange.out]; exact hown', hB1⟩
          case measure => simp [intOf]; omega
      · have hlti : ¬ (k : Int) < ((15 : Nat) : Int) := by omega
        obtain rfl : k = 15 := by omega
        obtain ⟨A', c', rfl, hoc, hom, hout⟩ := own_slices hown
        have HX : Hid (Mat wr wr.heap.size A' (fewR R)) := by
          intro hp
          rw [← Hnn.out] at hp
          obtain ⟨g, rfl, hg, hcells⟩ := hout hp
          obtain ⟨b, off, _, hb, hj⟩ := Hat.out (by omega)
          refine ⟨g, 0, rfl, hg, fun j hjn => ?_⟩
          have hj2 := hjn
          rw [← Hnn.out] at hjn
          obtain ⟨_, hI, _, _⟩ := hj j (by omega)
          refine ⟨A j, C j, ?_, ?_⟩
          · rw [Nat.zero_add, hcells j hjn, List.getElem?_map, List.getElem?_range hjn]; rfl
          · rw [rowI_fewR R j hj2]
            exact ((hI.below hB).more hB.size).take 16
        have HB := Lib.hid hB
        clear hB hown hout
        go_wp2_with fail
        go_ret
        exact ⟨A', c', by rw [← Hnn.out]; rfl, by rw [← Hnn.out]; exact hoc, hom, HX.out, HB.out⟩
  · have hnl : n = len := by omega
    clear hn
    subst hnl
    have hd : decide ((15 : Int) < (n : Int)) = false := by simp; omega
    go_enter Try.func7, Try.ntmps7
    go_wp2_with fail
    go_loopw [3, 4] (fun v i wr => ∃ k : Nat, k ≤ n ∧ i = .int .i64 k ∧ wr.ownsRow w.heap.size 35 1 v k ((List.range k).map (rowV A C R)) ∧ Below w.heap.size w wr) (fun _ i _ => n - (intOf i).toNat)
    case atStart => exact ⟨0, Nat.zero_le _, rfl, World.ownsRow_nil _ _ _ _, Below.refl _ _⟩
    case round =>
      obtain ⟨k, hk, rfl, hown, hB⟩ := hrel
      rename World => wr
      by_cases hlt : k < n
      · have hlti : (k : Int) < ((n : Nat) : Int) := by omega
        have hk0 : (0 : Int) ≤ (k : Int) := by omega
        obtain ⟨b, off, rfl, hb, hj⟩ := Hat.out (by omega)
        obtain ⟨hcw, hI, hrc, hrm⟩ := hj k (by omega)
        unfold maxLen at hrm
        have hc := (Below.cell hB (p := ⟨b, off + k, none⟩) hb).trans hcw
        have hfl := rowI_fewR R k (by rw [← Hnn.out]; omega)
        have hfn : (rowI (fewR R) k).length = min 16 (rowI R k).length := by rw [hfl, List.length_take]
        have hrv : rowV A C R k = .slice (A k) (rowI (fewR R) k).length (C k) := rfl
        have Hrange : Hid ((List.range (k + 1)).map (rowV A C R) = (List.range k).map (rowV A C R) ++ [.slice (A k) (rowI (fewR R) k).length (C k)]) := by
          unfold Hid
          rw [List.range_succ, List.map_append]
          rfl
        obtain ⟨m, hm⟩ : ∃ m, m = (rowI R k).length := ⟨_, rfl⟩
        obtain ⟨q, hq⟩ : ∃ q, q = (rowI (fewR R) k).length := ⟨_, rfl⟩
        rw [← hm] at hc hrc hfn
        rw [← hq] at hfn Hrange
        have hsz := hB.size
        clear hcw hI hfl hrv hm hq hj
        by_cases h40r : 16 < m
        · have hq40 : q = 16 := by omega
          clear hfn
          subst hq40
          go_wp2_with (at_builtin; refine wpList_append_own _ rfl _ _ 22 rfl w.heap.size 35 i0 (.slice none 0 0) 1 24 Try.underlying22 hi hz0 hz1 hz2 rfl (by decide) _ _ _ rfl (hown.alloc _) ⟨wr.heap.size, 0, none⟩ 1 1 [.slice (A k) 16 (C k)] rfl rfl (cell_one_new _ _ _) (by simp [Value.oneCell']) (by unfold maxLen; omega) (by omega) (by simp; omega) ?_)
          intro v' w1 hown' hgrow _
          have hB1 : Below w.heap.size w w1 := hB.trans ((((Below.refl _ wr).alloc hsz _)).grown hgrow (by simp; omega) (fun j e => (hown.lt j e).1))
          go_wp2_with fail
          go_roundw
          case rel => exact ⟨k + 1, by omega, by go_num, by rw [Hrange.out]; exact hown', hB1⟩
          case measure => simp [intOf]; omega
        · have hqm : q = m := by omega
          clear hfn
          subst hqm
          go_wp2_with (at_builtin; refine wpList_append_own _ rfl _ _ 22 rfl w.heap.size 35 i0 (.slice none 0 0) 1 24 Try.underlying22 hi hz0 hz1 hz2 rfl (by decide) _ _ _ rfl (hown.alloc _) ⟨wr.heap.size, 0, none⟩ 1 1 [.slice (A k) q (C k)] rfl rfl (cell_one_new _ _ _) (by simp [Value.oneCell']) (by unfold maxLen; omega) (by omega) (by simp; omega) ?_)
          intro v' w1 hown' hgrow _
          have hB1 : Below w.heap.size w w1 := hB.trans ((((Below.refl _ wr).alloc hsz _)).grown hgrow (by simp; omega) (fun j e => (hown.lt j e).1))
          go_wp2_with fail
          go_roundw
          case rel => exact ⟨k + 1, by omega, by go_num, by rw [Hrange.out]; exact hown', hB1⟩
          case measure => simp [intOf]; omega
      · have hlti : ¬ (k : Int) < ((n : Nat) : Int) := by omega
        obtain rfl : k = n := by omega
        obtain ⟨A', c', rfl, hoc, hom, hout⟩ := own_slices hown
        have HX : Hid (Mat wr wr.heap.size A' (fewR R)) := by
          intro hp
          rw [← Hnn.out] at hp
          obtain ⟨g, rfl, hg, hcells⟩ := hout hp
          obtain ⟨b, off, _, hb, hj⟩ := Hat.out (by omega)
          refine ⟨g, 0, rfl, hg, fun j hjn => ?_⟩
          have hj2 := hjn
          rw [← Hnn.out] at hjn
          obtain ⟨_, hI, _, _⟩ := hj j (by omega)
          refine ⟨A j, C j, ?_, ?_⟩
          · rw [Nat.zero_add, hcells j hjn, List.getElem?_map, List.getElem?_range hjn]; rfl
          · rw [rowI_fewR R j hj2]
            exact ((hI.below hB).more hB.size).take 16
        have HB := Lib.hid hB
        clear hB hown hout
        go_wp2_with fail
        go_ret
        exact ⟨A', c', by rw [← Hnn.out]; rfl, by rw [← Hnn.out]; exact hoc, hom, HX.out, HB.out⟩

theorem few_bound (R : List (List Int)) : (fewR R).length ≤ 1000 ∧ ∀ k, k < (fewR R).length → (rowI (fewR R) k).length ≤ 1000 :=
  ⟨by have := (fewR_small R).1; omega, fun k h => by have := (fewR_small R).2 k h; omega⟩
def litR (R : List (List Int)) (n : Nat) : List (List Int) := (fewR R).take n
theorem rowI_take (R : List (List Int)) (n k : Nat) (h : k < (R.take n).length) : rowI (R.take n) k = rowI R k := by
  rw [List.length_take] at h
  unfold rowI
  rw [List.getD_eq_getElem?_getD, List.getD_eq_getElem?_getD, List.getElem?_take, if_pos (by omega)]
theorem Mat.take {w : World} {B : Nat} {A : Option Addr} {R : List (List Int)} (h : Mat w B A R) (n : Nat) : Mat w B A (R.take n) := fun hp => by
  have hl := hp
  rw [List.length_take] at hl
  obtain ⟨b, off, e, hb, hc⟩ := h (by omega)
  refine ⟨b, off, e, hb, fun j hj => ?_⟩
  rw [rowI_take R n j hj]
  rw [List.length_take] at hj
  exact hc j (by omega)
theorem lit_bound (R : List (List Int)) (n : Nat) : (litR R n).length ≤ n ∧ (litR R n).length ≤ 1000 ∧ ∀ k, k < (litR R n).length → (rowI (litR R n) k).length ≤ 1000 := by
  have hb := few_bound R
  have hl : (litR R n).length = min n (fewR R).length := List.length_take ..
  refine ⟨by omega, by omega, fun k h => ?_⟩
  unfold litR at h ⊢
  rw [rowI_take _ _ _ h]
  rw [List.length_take] at h
  exact hb.2 k (by omega)
def LitSays (w : World) (R : List (List Int)) (n : Nat) (e : Ending) (w' : World) : Prop := ∃ A' c', e = .returned (.slice A' (litR R n).length c') ∧ Mat w' w'.heap.size A' (litR R n) ∧ Below w.heap.size w w'
set_option maxHeartbeats 1000000 in
theorem little_any (a : Option Addr) (len cap : Nat) (R : List (List Int)) (A : Nat → Option Addr) (C : Nat → Nat) (n : Nat) (w : World) (h : IsMat w a len cap R A C) (hn : n < 1000) :
    Calls Try.prog 15 #[.slice a len cap, .int .i64 (n : Int)] w (LitSays w R n) := by
  have HF := Lib.hid (few_any a len cap R A C w h)
  have hfl := (few_bound R).1
  have hl : (litR R n).length = min n (fewR R).length := List.length_take ..
  unfold FewSays at HF
  unfold LitSays
  clear h
  have HL : Hid (litR R n = (fewR R).take n) := rfl
  generalize litR R n = X at *
  generalize fewR R = F at *
  generalize hq : F.length = q at *
  have Hq := Lib.hid hq
  have hn0 : (0 : Int) ≤ (n : Int) := by omega
  by_cases hlt : n < q
  · rw [show min n q = n by omega] at hl
    have hlt' : (n : Int) < (q : Int) := by omega
    go_enter Try.func15, Try.ntmps15
    go_wp2_with (go_at_call 7; refine HF.out.mono ?_; rintro e w1 ⟨A', c', rfl, hoc, hom, hM, hB⟩; have HM := Lib.hid hM; have HB := Lib.hid hB; unfold maxLen at hom; have hnc : (n : Int) ≤ (c' : Int) := (by omega); clear hM hB)
    go_ret
    exact ⟨A', c', by rw [hl]; rfl, by rw [HL.out]; exact HM.out.take n, HB.out⟩
  · rw [show min n q = q by omega] at hl
    have hlt' : ¬ (n : Int) < (q : Int) := by omega
    go_enter Try.func15, Try.ntmps15
    go_wp2_with (go_at_call 7; refine HF.out.mono ?_; rintro e w1 ⟨A', c', rfl, hoc, hom, hM, hB⟩; have HM := Lib.hid hM; have HB := Lib.hid hB; clear hM hB)
    go_ret
    exact ⟨A', c', by rw [hl]; rfl, by rw [HL.out]; exact HM.out.take n, HB.out⟩
end Go.Proofs.Ythffdkoncagimaa
