/- The document's Widest. -/
import Derived.Test.YthffdkoncagimaaZ
import Derived.Test.YthffdkoncagimaaX
import Derived.Test.YthffdkoncagimaaGYG
import Derived.Deep.RegionHeld3
set_option linter.unusedVariables false
set_option linter.unusedSimpArgs false
namespace Go.Proofs.Ythffdkoncagimaa
open Go.RowKit Go.Shelf
set_option maxRecDepth 100000 in
set_option maxHeartbeats 1000000 in
theorem rwidest_no (A : Option Addr) (c : Nat) (R : List (List Int)) (w : World) (hf : fitB R = false) (hl : R.length ≤ 1000) (hr : ∀ k, k < R.length → (rowI R k).length ≤ 1000) (hM : Mat w w.heap.size A R) :
    Calls Try.prog 13 #[.slice A R.length c] w fun e w' => e = .returned (.tuple #[.int .i64 0, .int .i64 3]) ∧ Below w.heap.size w w' := by
  have HF := fits_any A c R w hl hr hM
  rw [hf] at HF
  have HR := Lib.hid HF
  clear hM hr hf HF
  go_enter Try.func13, Try.ntmps13
  go_wp2_with (go_at_call 22; (with_reducible refine HR.out.mono ?_); rintro e w4 ⟨rfl, rfl⟩)
  go_ret2
  exact ⟨rfl, Below.refl _ _⟩
theorem apTo_mono {D : List (List Nat)} {l : List Nat} {i j : Nat} (h : i ≤ j) (ha : apTo D l i = false) : apTo D l j = false := by
  induction j with
  | zero => obtain rfl : i = 0 := by omega
            exact ha
  | succ j ih =>
    rcases Nat.lt_or_ge i (j + 1) with q | q
    · rw [apTo_succ, ih (by omega)]; rfl
    · obtain rfl : i = j + 1 := by omega
      exact ha
set_option maxRecDepth 100000 in
set_option maxHeartbeats 4000000 in
theorem rwidest_yes (A : Option Addr) (c : Nat) (D : List (List Nat)) (w : World) (hD : Sm D) (hO : OkD D) (hM : Mat w w.heap.size A (rowsI D)) :
    Calls Try.prog 13 #[.slice A D.length c] w fun e w' => e = .returned (.tuple #[.int .i64 ((widest (needsL D) : Nat) : Int), .int .i64 0]) ∧ Below w.heap.size w w' := by
  have hn := hD.n
  have HF := fits_any A c (rowsI D) w (by rw [length_rowsI]; omega) (fun k _ => by rw [rowI_rowsI, length_natsI]; have := hO.len k; omega) hM
  have hfb : fitB (rowsI D) = true := by unfold fitB; rw [length_rowsI, decide_eq_true hn, okB_of hO]; rfl
  rw [hfb, length_rowsI] at HF
  have HR := Lib.hid HF
  have HU := Lib.hid (ups_any A c D.length D rfl hO w hM)
  have hp := wrap_pow hn
  have hpl := pow_len hn
  have hni : (D.length : Int) < 64 := by omega
  have hn0 : (0 : Int) ≤ (D.length : Int) := by omega
  have Hbw := Lib.hid (best_widest hD hO.right)
  clear hM HF hfb
  have HNs : Hid (∀ s, s < 2 ^ D.length → ∀ k, k < (memb s).length → el (memb s) k < D.length) := fun s hs k hk => bit_small hs (mem_memb.1 (el_in hk)).2
  generalize hNN : 2 ^ D.length = N at *
  clear hNN hD hO
  generalize hnl : D.length = n at *
  generalize widest (needsL D) = vv at *
  go_enter Try.func13, Try.ntmps13
  go_wp2_with (first
    | (go_at_call 22; (with_reducible refine HR.out.mono ?_); rintro e w4 ⟨rfl, rfl⟩)
    | (go_at_call 31; (with_reducible refine HU.out.mono ?_); rintro e w5 ⟨⟨A5, c5, rfl, hM5⟩, b5⟩; rw [hnl] at hM5 ⊢; have M5 := Lib.hid hM5; have B5 := Lib.hid b5; clear hM5 b5))
  clear HR HU hnl
  go_loopw [5, 6] (fun b i wr => ∃ k : Nat, k ≤ N ∧ i = .int .i64 k ∧ b = .int .i64 ((bestTo D k : Nat) : Int) ∧ Hid (Below w5.heap.size w5 wr)) (fun _ i _ => N - (intOf i).toNat)
  case atStart => exact ⟨0, Nat.zero_le _, rfl, rfl, Below.refl _ _⟩
  case round =>
    obtain ⟨k, hk, rfl, rfl, HB⟩ := hrel
    rename World => wr
    have hk0 : (0 : Int) ≤ (k : Int) := by omega
    by_cases hlt : k < N
    · have hki : (k : Int) < (N : Int) := by omega
      have HLs : Hid (Calls Try.prog 32 #[.int .i64 (k : Int)] wr (GivesM wr (natsI (memb k)))) := list_any k wr (by omega)
      have Hels := Lib.hid (HNs.out k hlt)
      have hl14 : (memb k).length ≤ 14 := membTo_len _ 14
      have Hst : Hid (bestTo D (k + 1) = if bestTo D k < (memb k).length ∧ apTo D (memb k) (memb k).length = true then (memb k).length else bestTo D k) := rfl
      generalize hbb : bestTo D (k + 1) = b1 at *
      generalize hb0 : bestTo D k = b0 at *
      generalize memb k = l at *
      have Hbb := Lib.hid hbb
      clear hbb hb0 HNs
      go_wp2_with (go_at_call 32; (with_reducible refine HLs.out.mono ?_); rintro e w6 ⟨A6, c6, rfl, r6, b6⟩; rw [length_natsI]; have I6 := Lib.hid r6.ints; have B6 := Lib.hid (HB.out.trans (b6.mono HB.out.size)); clear r6 b6)
      have Hdd : Hid (decide (((b0 : Nat) : Int) < ((l.length : Nat) : Int)) = (decide (b0 < l.length) && apTo D l 0)) := by
        unfold Hid; rw [show apTo D l 0 = true from rfl, Bool.and_true]; simp
      have hsz6 := B6.out.size
      have M6 := Lib.hid (M5.out.next B6.out)
      generalize hgg : decide (b0 < l.length) = gg at *
      have Hgg := Lib.hid hgg
      clear hgg HLs
      go_loopw [8, 9] (fun o i wr => ∃ j : Nat, j ≤ l.length ∧ i = .int .i64 j ∧ o = .bool (gg && apTo D l j) ∧ Hid (Below w6.heap.size w6 wr)) (fun _ i _ => l.length - (intOf i).toNat)
      case atStart => exact ⟨0, Nat.zero_le _, rfl, congrArg Value.bool (by rw [show apTo D l 0 = true from rfl, Bool.and_true]), Below.refl _ _⟩
      case round =>
        obtain ⟨j, hj, rfl, rfl, HBj⟩ := hrel
        rename World => wj
        have hj0 : (0 : Int) ≤ (j : Int) := by omega
        have hT : Hid ((gg && apTo D l (j + 1)) = (gg && apTo D l j && rowAp D l j j)) := by unfold Hid; rw [apTo_succ, Bool.and_assoc]
        have hmn : (gg && apTo D l j) = false → (gg && apTo D l l.length) = false := fun h => by
          cases gg with
          | false => rfl
          | true => rw [Bool.true_and] at h ⊢; exact apTo_mono hj h
        by_cases hjt : j < l.length
        · have hji : (j : Int) < ((l.length : Nat) : Int) := by omega
          cases hg : (gg && apTo D l j) with
          | true =>
            rw [hg, Bool.true_and] at hT
            clear hmn hg
            go_wp2
            go_loopw [8, 10] (fun o i wr => ∃ q : Nat, q ≤ j ∧ i = .int .i64 q ∧ o = .bool (rowAp D l j q) ∧ Hid (Below w6.heap.size w6 wr)) (fun _ i _ => j - (intOf i).toNat)
            case atStart => exact ⟨0, Nat.zero_le _, rfl, rfl, HBj.out⟩
            case round =>
              obtain ⟨q, hq, rfl, rfl, HBq⟩ := hrel
              rename World => wq
              have hq0 : (0 : Int) ≤ (q : Int) := by omega
              have hS : Hid (rowAp D l j (q + 1) = (rowAp D l j q && !befB D (el l q) (el l j))) := rowAp_succ D l j q
              by_cases hqt : q < j
              · have hqi : (q : Int) < (j : Int) := by omega
                cases hr : rowAp D l j q with
                | true =>
                  rw [hr, Bool.true_and] at hS
                  have hej := Hels.out j hjt
                  have heq := Hels.out q (by omega)
                  obtain ⟨b1, o1, rfl, l1, c1⟩ := (I6.out.below HBq.out).at_ (k := j) (by rw [length_natsI]; exact hjt)
                  obtain ⟨b2, o2, e2, l2, c2⟩ := (I6.out.below HBq.out).at_ (k := q) (by rw [length_natsI]; omega)
                  cases e2
                  rw [nth_nats _ _ hjt] at c1
                  rw [nth_nats _ _ (by omega)] at c2
                  obtain ⟨b3, o3, g3, rfl, l3, c3, _, hm3⟩ := (M6.out.next HBq.out) (el l j) hej
                  have c4 : wq.cell? ⟨g3, el l q, none⟩ = some (.bool (befB D ((el l q : Nat) : Int) ((el l j : Nat) : Int))) := hm3.cell heq
                  clear hm3 hr
                  obtain ⟨vb, hvb⟩ : ∃ vb, vb = befB D ((el l q : Nat) : Int) ((el l j : Nat) : Int) := ⟨_, rfl⟩
                  rw [← hvb] at c4
                  have hS2 : Hid (rowAp D l j (q + 1) = !vb) := by unfold Hid; rw [hvb]; exact hS.out
                  clear hS hvb
                  generalize el l j = x at *
                  generalize el l q = y at *
                  have hxi : (x : Int) < (n : Int) := by omega
                  have hyi : (y : Int) < (n : Int) := by omega
                  have hx0 : (0 : Int) ≤ (x : Int) := by omega
                  have hy0 : (0 : Int) ≤ (y : Int) := by omega
                  have hjq : (q : Int) < ((l.length : Nat) : Int) := by omega
                  go_wp2
                  go_quiet (fail)
                  go_wp2
                  go_roundw
                  case rel => exact ⟨q + 1, by omega, by go_num, by rw [hS2.out], bdn HBq.out _⟩
                  case measure => simp [intOf]; omega
                | false =>
                  rw [hr, Bool.false_and] at hS
                  clear hr
                  go_wp2
                  go_quiet (fail)
                  go_wp2
                  go_roundw
                  case rel => exact ⟨q + 1, by omega, by go_num, by rw [hS.out], bdn HBq.out _⟩
                  case measure => simp [intOf]; omega
              · obtain rfl : q = j := by omega
                have hqi : ¬ (q : Int) < (q : Int) := by omega
                go_wp2
                go_roundw
                case rel => exact ⟨q + 1, by omega, by go_num, by rw [hT.out], HBq.out⟩
                case measure => simp [intOf]; omega
          | false =>
            have hfin := hmn hg
            clear hmn hT hg
            have HQ : Hid (b1 = b0) := by
              unfold Hid; rw [Hst.out, if_neg]; rintro ⟨h1, h2⟩; rw [← Hgg.out, decide_eq_true h1, h2] at hfin; cases hfin
            clear hfin
            go_wp2
            go_roundw
            case rel => exact ⟨k + 1, by omega, by go_num, by rw [Hbb.out, HQ.out], B6.out.trans (HBj.out.mono B6.out.size)⟩
            case measure => simp [intOf]; omega
        · obtain rfl : j = l.length := by omega
          have hji : ¬ ((l.length : Nat) : Int) < ((l.length : Nat) : Int) := by omega
          clear hmn hT
          cases hg : (gg && apTo D l l.length) with
          | true =>
            have HQ : Hid (b1 = l.length) := by
              unfold Hid; rw [Hst.out, if_pos]
              rw [Bool.and_eq_true] at hg
              exact ⟨of_decide_eq_true (Hgg.out.trans hg.1), hg.2⟩
            clear hg
            go_wp2
            go_roundw
            case rel => exact ⟨k + 1, by omega, by go_num, by rw [Hbb.out, HQ.out], B6.out.trans (HBj.out.mono B6.out.size)⟩
            case measure => simp [intOf]; omega
          | false =>
            have HQ : Hid (b1 = b0) := by
              unfold Hid; rw [Hst.out, if_neg]; rintro ⟨h1, h2⟩; rw [← Hgg.out, decide_eq_true h1, h2] at hg; cases hg
            clear hg
            go_wp2
            go_roundw
            case rel => exact ⟨k + 1, by omega, by go_num, by rw [Hbb.out, HQ.out], B6.out.trans (HBj.out.mono B6.out.size)⟩
            case measure => simp [intOf]; omega
    · obtain rfl : k = N := by omega
      have hki : ¬ (k : Int) < (k : Int) := by omega
      go_wp2
      go_ret2
      exact ⟨by rw [Hbw.out]; rfl, B5.out.trans (HB.out.mono B5.out.size)⟩
end Go.Proofs.Ythffdkoncagimaa
