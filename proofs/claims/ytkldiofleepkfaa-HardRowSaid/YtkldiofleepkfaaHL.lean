/- Is the unit of a number in a rising row: has. -/
import Derived.Test.YtkldiofleepkfaaHK
set_option linter.unusedVariables false
set_option linter.unusedSimpArgs false
namespace Go.Proofs.Ytkldiofleepkfaa.Hd
open Go.RowKit
open Go.Maps (Keyed)
theorem cmpN_any (bx : Nat) (x n : Int) (W : World) (hx : bx < W.heap.size ∧ W.cell? ⟨bx, 0, none⟩ = some (.int .i64 x)) :
    Calls Try.prog 50 #[.pointer (some ⟨bx, 0, none⟩), .int .i64 n] W fun e w' => e = .returned (.int .i64 (Lib.compareInt x n)) ∧ Below W.heap.size W w' := by
  have HC := Lib.hid (compare_any x n)
  obtain ⟨hxl, hxc⟩ := hx
  generalize Lib.compareInt x n = r at *
  go_enter Try.func50, Try.ntmps50
  go_wp2_with (refine (HC.out _).mono ?_; rintro e w1 ⟨rfl, rfl⟩)
  go_ret
  exact ⟨rfl, Below.refl _ _⟩
def un (l : List Int) (k : Nat) : Int := l.getD k 0
theorem un_lt {l : List Int} {k : Nat} (h : k < l.length) : un l k = l[k] := by
  unfold un; rw [List.getD_eq_getElem?_getD, List.getElem?_eq_getElem h]; rfl
theorem un_mem {l : List Int} {k : Nat} (h : k < l.length) : un l k ∈ l := by rw [un_lt h]; exact List.getElem_mem h
theorem un_rise {l : List Int} (h : l.Pairwise (· < ·)) {i j : Nat} (hij : i < j) (hj : j < l.length) : un l i < un l j := by
  rw [un_lt (by omega), un_lt hj]
  exact (List.pairwise_iff_getElem.1 h) i j (by omega) hj hij
theorem ptrsU_at (f : Int → Nat) {l : List Int} {k : Nat} (h : k < l.length) : (ptrsU f l)[k]? = some (.pointer (some ⟨f (un l k), 0, none⟩)) := by
  unfold ptrsU; rw [List.getElem?_map, List.getElem?_eq_getElem h, un_lt h]; rfl
theorem in_at {l : List Int} (h : l.Pairwise (· < ·)) {n : Int} {p : Nat} (hp : p ≤ l.length) (h1 : ∀ k, k < p → un l k < n) (h2 : ∀ k, p ≤ k → k < l.length → n ≤ un l k) : decide (n ∈ l) = (decide (p < l.length) && (Lib.compareInt (un l p) n == 0)) := by
  have hz : (Lib.compareInt (un l p) n == 0) = decide (un l p = n) := by
    unfold Lib.compareInt
    by_cases a : un l p < n
    · rw [if_pos a]; simp; omega
    · rw [if_neg a]
      by_cases b : n < un l p
      · rw [if_pos b]; simp; omega
      · rw [if_neg b]; simp; omega
  rw [hz]
  by_cases hpl : p < l.length
  · rw [decide_eq_true hpl, Bool.true_and]
    refine decide_eq_decide.2 ⟨fun hm => ?_, fun e => by rw [← e]; exact un_mem hpl⟩
    obtain ⟨j, hj, e⟩ := List.mem_iff_getElem.1 hm
    rw [← un_lt hj] at e
    rcases Nat.lt_trichotomy j p with q | q | q
    · have := h1 j q; omega
    · rw [← q]; exact e
    · have := un_rise h q hj; have := h2 p (Nat.le_refl _) hpl; omega
  · rw [decide_eq_false hpl, Bool.false_and]
    refine decide_eq_false fun hm => ?_
    obtain ⟨j, hj, e⟩ := List.mem_iff_getElem.1 hm
    rw [← un_lt hj] at e
    have := h1 j (by omega)
    omega
set_option maxRecDepth 100000 in
set_option maxHeartbeats 1000000 in
theorem bsfU_any (f : Int → Nat) (B : Nat) (A : Option Addr) (c : Nat) (l : List Int) (n : Int) (w : World) (hR : w.ownsRow B 59 1 (.slice A l.length c) l.length (ptrsU f l)) (hs : l.Pairwise (· < ·)) (hc : ∀ u ∈ l, f u < w.heap.size ∧ w.cell? ⟨f u, 0, none⟩ = some (.int .i64 u)) (hl : l.length ≤ 1000) :
    Calls Try.prog 49 #[.slice A l.length c, .int .i64 n, .func (.func 50) #[] #[]] w fun e w' => (∃ p : Nat, e = .returned (.tuple #[.int .i64 p, .bool (decide (n ∈ l))])) ∧ Below w.heap.size w w' := by
  have HR := Lib.hid hR
  have HS := Lib.hid hs
  have HCl := Lib.hid hc
  clear hR hs hc
  go_enter Try.func49, Try.ntmps49
  go_wp2
  go_loopw [9, 10] (fun i j wr => ∃ p q : Nat, p ≤ q ∧ q ≤ l.length ∧ i = .int .i64 p ∧ j = .int .i64 q ∧ Below w.heap.size w wr ∧ Hid (∀ k, k < p → un l k < n) ∧ Hid (∀ k, q ≤ k → k < l.length → n ≤ un l k)) (fun i j _ => (intOf j - intOf i).toNat)
  case atStart => exact ⟨0, l.length, Nat.zero_le _, Nat.le_refl _, rfl, rfl, Below.refl _ _, fun k hk => absurd hk (by omega), fun k h1 h2 => absurd h1 (by omega)⟩
  case round =>
    obtain ⟨p, q, hpq, hq, rfl, rfl, hB, h1, h2⟩ := hrel
    rename World => wr
    have HB := Lib.hid hB
    clear hB
    have HCw : Hid (∀ u ∈ l, f u < wr.heap.size ∧ wr.cell? ⟨f u, 0, none⟩ = some (.int .i64 u)) := fun u hu => by
      obtain ⟨a1, a2⟩ := HCl.out u hu
      exact ⟨Nat.lt_of_lt_of_le a1 HB.out.size, (HB.out.cell (p := ⟨f u, 0, none⟩) a1).trans a2⟩
    have HRw : Hid (wr.ownsRow B 59 1 (.slice A l.length c) l.length (ptrsU f l)) := (Kept.fresh (S := fun _ => False) HB.out).row HR.out (fun _ _ q => q)
    by_cases hlt : p < q
    · have hlti : (p : Int) < (q : Int) := by omega
      have hml : (p + q) / 2 < l.length := by omega
      obtain ⟨ab, hA, h3, h4, hb, hcs, _⟩ := ptr_at HRw.out hml
      rw [ptrsU_at f hml] at hcs
      subst hA
      unfold maxLen at h4
      have HE := Lib.hid (cmpN_any (f (un l ((p + q) / 2))) (un l ((p + q) / 2)) n wr (HCw.out _ (un_mem hml)))
      by_cases hc : un l ((p + q) / 2) < n
      · have Hn : Hid (∀ k, k < (p + q) / 2 + 1 → un l k < n) := fun k hk => by
          rcases Nat.lt_or_ge k ((p + q) / 2) with h | h
          · exact Int.lt_trans (un_rise HS.out h hml) hc
          · have e : k = (p + q) / 2 := by omega
            rw [e]; exact hc
        have hr : Lib.compareInt (un l ((p + q) / 2)) n = -1 := by unfold Lib.compareInt; rw [if_pos hc]
        rw [hr] at HE
        clear hc hr
        generalize f (un l ((p + q) / 2)) = xb at *
        go_wp2_with (refine HE.out.mono ?_; rintro e w1 ⟨rfl, hb1⟩; have HB1 := Lib.hid hb1; clear hb1)
        go_roundw
        case rel => exact ⟨(p + q) / 2 + 1, q, by omega, hq, by go_num, rfl, HB.out.trans (HB1.out.mono HB.out.size), Hn.out, h2⟩
        case measure => simp [intOf]; omega
      · have Hn : Hid (∀ k, (p + q) / 2 ≤ k → k < l.length → n ≤ un l k) := fun k hk hk2 => by
          rcases Nat.lt_or_ge ((p + q) / 2) k with h | h
          · have := un_rise HS.out h hk2; omega
          · have e : k = (p + q) / 2 := by omega
            rw [e]; omega
        have hr : (0 : Int) ≤ Lib.compareInt (un l ((p + q) / 2)) n := by unfold Lib.compareInt; rw [if_neg hc]; split <;> omega
        obtain ⟨r, hr0⟩ : ∃ r, r = Lib.compareInt (un l ((p + q) / 2)) n := ⟨_, rfl⟩
        rw [← hr0] at HE hr
        have hr2 : ¬ r < 0 := by omega
        clear hc hr0
        generalize f (un l ((p + q) / 2)) = xb at *
        go_wp2_with (refine HE.out.mono ?_; rintro e w1 ⟨rfl, hb1⟩; have HB1 := Lib.hid hb1; clear hb1)
        go_roundw
        case rel => exact ⟨p, (p + q) / 2, by omega, by omega, rfl, by go_num, HB.out.trans (HB1.out.mono HB.out.size), h1, Hn.out⟩
        case measure => simp [intOf]; omega
    · obtain rfl : p = q := by omega
      have Hh := Lib.hid (in_at HS.out hq h1.out h2.out)
      clear h1 h2
      by_cases hpl : p < l.length
      · have hpi : (p : Int) < (l.length : Int) := by omega
        have hp0 : (0 : Int) ≤ (p : Int) := by omega
        obtain ⟨ab, hA, h3, h4, hb, hcs, _⟩ := ptr_at HRw.out hpl
        rw [ptrsU_at f hpl] at hcs
        subst hA
        unfold maxLen at h4
        have HE := Lib.hid (fun W (hW : Below wr.heap.size wr W) => cmpN_any (f (un l p)) (un l p) n W ⟨Nat.lt_of_lt_of_le (HCw.out _ (un_mem hpl)).1 hW.size, (hW.cell (p := ⟨f (un l p), 0, none⟩) (HCw.out _ (un_mem hpl)).1).trans (HCw.out _ (un_mem hpl)).2⟩)
        have Hr : Hid (decide (n ∈ l) = (Lib.compareInt (un l p) n == 0)) := by unfold Hid; rw [Hh.out, decide_eq_true hpl, Bool.true_and]
        clear Hh
        obtain ⟨r, hr0⟩ : ∃ r, r = Lib.compareInt (un l p) n := ⟨_, rfl⟩
        rw [← hr0] at HE Hr
        clear hr0
        generalize f (un l p) = xb at *
        go_wp2_with (refine (HE.out _ (by first | exact Below.refl _ _ | exact (Below.refl _ _).drew)).mono ?_; rintro e w1 ⟨rfl, hb1⟩; have HB1 := Lib.hid hb1; clear hb1)
        all_goals
          go_ret2
          rw [Hr.out]
          exact ⟨⟨p, rfl⟩, HB.out.trans (HB1.out.mono HB.out.size)⟩
      · have hpi : ¬ (p : Int) < (l.length : Int) := by omega
        have Hr : Hid (decide (n ∈ l) = false) := by unfold Hid; rw [Hh.out, decide_eq_false hpl]; rfl
        clear Hh
        go_wp2
        go_ret2
        rw [Hr.out]
        exact ⟨⟨p, rfl⟩, HB.out⟩
theorem has_any (f : Int → Nat) (B : Nat) (A : Option Addr) (c : Nat) (l : List Int) (n : Int) (w : World) (hR : w.ownsRow B 59 1 (.slice A l.length c) l.length (ptrsU f l)) (hs : l.Pairwise (· < ·)) (hc : ∀ u ∈ l, f u < w.heap.size ∧ w.cell? ⟨f u, 0, none⟩ = some (.int .i64 u)) (hl : l.length ≤ 1000) :
    Calls Try.prog 30 #[.slice A l.length c, .int .i64 n] w fun e w' => e = .returned (.bool (decide (n ∈ l))) ∧ Below w.heap.size w w' := by
  have HB := Lib.hid (bsfU_any f B A c l n w hR hs hc hl)
  generalize l.length = m at *
  generalize decide (n ∈ l) = t at HB ⊢
  clear hR hs hc
  go_enter Try.func30, Try.ntmps30
  go_wp2_with (refine HB.out.mono ?_; rintro e w1 ⟨⟨p, rfl⟩, hb1⟩; have HB1 := Lib.hid hb1; clear hb1)
  go_ret
  exact ⟨rfl, HB1.out⟩
end Go.Proofs.Ytkldiofleepkfaa.Hd
