/- Whatever two numbers come in, TopRow returns true, and they read afterwards as before. No condition. Here: the walk of the law's text. -/
import Derived.Test.YtdndchoghhllmaaSE
set_option linter.unusedVariables false
set_option linter.unusedSimpArgs false
namespace Go.Proofs.Ytdndchoghhllmaa
open Go.RowKit
/-- so many patches taken, from number p on -/
def tks (x : Gs) (p : Nat) : Nat → Gs
  | 0 => x
  | j + 1 => (tks x p j).tk0 ((p + j : Nat) : Int)
def rA (x : Gs) (i : Nat) : Gs := if 1 < i then x.dp0 i ((i : Int) - 1) else x
def rB (x : Gs) (i : Nat) : Gs := (rA x.mk0 i).tn0 i 1 3 2
def rC (x : Gs) (i k : Nat) : Gs := ((tks (rB x i) ((i - 1) * k) k).tn0 i 2 2 3).tn0 i 1 3 4
/-- the row behind so many rounds -/
def rowS (k : Nat) : Nat → Gs
  | 0 => ⟨[], 1⟩
  | i + 1 => rC (rowS k i) (i + 1) k
def rowB (k i : Nat) : Bool :=
  let x := rowS k i
  let d := tks (rB x (i + 1)) (i * k) k
  x.makeE == 0 && x.k == (i + 1 : Nat) && (i == 0 || x.mk0.dependE (i + 1 : Nat) i == 0) && (rA x.mk0 (i + 1)).turnE (i + 1 : Nat) 1 3 == 0 && (rB x (i + 1)).behind.length == i * k && (aheadR (rB x (i + 1)).l (i + 1 : Nat)).length == i
    && d.turnE (i + 1 : Nat) 2 2 == 0 && (d.tn0 (i + 1 : Nat) 2 2 3).turnE (i + 1 : Nat) 1 3 == 0 && (ofN (rC x (i + 1) k).l (i + 1 : Nat)).p.length == k
def endB (k n : Nat) : Bool :=
  let x := rowS k n
  x.dependE 1 2 == 13 && x.abandonE 1 == 12 && x.abandonE n == 0 && stG (x.ab0 n).l n == 0
theorem row_is : ∀ k, k < 4 → ∀ i, i < 8 → rowB k i = true := by decide +kernel
theorem end_is : ∀ k, k < 4 → ∀ n, n < 9 → 2 ≤ n → endB k n = true := by decide +kernel
theorem PAt.more {B c d g : Nat} {x : Gs} {w : World} (h : PAt B c w g x) (hd : c ≤ d) : PAt B d w g x := by
  obtain ⟨hB, hO, mb, L, hP, hg⟩ := h
  exact ⟨hB, hO.more hd, mb, L, hP.more (by omega), hg⟩
theorem PAt.tells {B c g : Nat} {x : Gs} {w : World} {n : Int} (h : PAt B c w g x) (hc : c ≤ 900) (hn : WfI n) :
    Calls Try.prog 18 #[.pointer (some ⟨g, 0, none⟩), .int .i64 n] w (GivesI w (ofN x.l n).p) ∧ Calls Try.prog 16 #[.pointer (some ⟨g, 0, none⟩), .int .i64 n] w (GivesI w (aheadR x.l n)) := by
  obtain ⟨hB, hO, mb, L, hP, hg⟩ := h
  have hl : L.length ≤ 100 := by have := hO.len; rw [← hg, length_gp] at this; omega
  have h1 := patches_any B (8 * c) g mb L x.k n w hP hn (by omega) (by rw [hg]; exact (hO.pofN n).1)
  have h2 := ahead_any B (8 * c) g mb L x.k n w hP (by omega) hn (by rw [hg]; exact hO.wf (by omega)) (by rw [hg]; exact hO.hin) hl
  rw [hg] at h1 h2
  exact ⟨h1.mono fun e w' ⟨A, c', e1, e2, e3⟩ => ⟨A, c', e1, e2.ints, e3⟩, h2.mono fun e w' ⟨A, c', e1, e2, e3⟩ => ⟨A, c', e1, e2.ints, e3⟩⟩
set_option maxRecDepth 100000 in
set_option maxHeartbeats 4000000 in
theorem TopRow.walk (a b : Int) (W : World) (ha : (Lit.int .u8 a).wf = true) (hb : (Lit.int .u8 b).wf = true) :
    Calls Try.prog 12 #[.int .u8 a, .int .u8 b] W fun e W' => e = .returned (.bool true) ∧ Below W.heap.size W W' := by
  obtain ⟨a0, a1⟩ := bounds_u8 ha
  obtain ⟨b0, b1⟩ := bounds_u8 hb
  obtain ⟨N, hN⟩ : ∃ N : Nat, a % 7 + 2 = (N : Int) := ⟨(a % 7 + 2).toNat, by omega⟩
  obtain ⟨K, hK⟩ : ∃ K : Nat, b % 4 = (K : Int) := ⟨(b % 4).toNat, by omega⟩
  have hN2 : 2 ≤ N ∧ N ≤ 8 := by omega
  have hK3 : K < 4 := by omega
  have hwN : IntKind.i64.wrap (N : Int) = (N : Int) := IntWalk.i64_in _ (by omega)
  have HNw := Lib.hid (new_any W)
  clear ha hb
  go_enter Try.func12, Try.ntmps12
  go_wp2_with (refine HNw.out.mono ?_; rintro e w1 ⟨g, mb, rfl, hp, hb1⟩; have P0 := Lib.hid (show PAt W.heap.size 0 w1 g (rowS K 0) from ⟨hb1.size, Gs.ok_none, mb, [], hp, rfl⟩); have B0 := Lib.hid hb1; clear hp hb1 HNw)
  rw [hK]
  clear hN hK hwN a0 a1 b0 b1
  go_loopw [8, 9] (fun s i wr => ∃ (j : Nat) (I : Int), j ≤ N ∧ i = .int .i64 I ∧ I = (j : Int) + 1 ∧ s = .int .i64 ((j * K : Nat) : Int) ∧ Hid (PAt W.heap.size (8 * j) wr g (rowS K j)) ∧ Hid (Below W.heap.size W wr)) (fun _ i _ => ((N : Int) + 1 - intOf i).toNat)
  case atStart => exact ⟨0, 1, Nat.zero_le _, rfl, rfl, by simp, P0.out, B0.out⟩
  case round =>
    obtain ⟨j, I, hj, rfl, hI, rfl, hP, hB⟩ := hrel
    rename World => wr
    by_cases hlt : j < N
    · have hIi : I ≤ (N : Int) := by omega
      have hI0 : 1 ≤ I ∧ I ≤ 8 := by omega
      have hrow := row_is K hK3 j (by omega)
      unfold rowB at hrow
      simp only [Bool.and_eq_true, beq_iff_eq] at hrow
      obtain ⟨⟨⟨⟨⟨⟨⟨⟨f1, f2⟩, f3⟩, f4⟩, f5⟩, f6⟩, f7⟩, f8⟩, f9⟩ := hrow
      have hIj : ((j + 1 : Nat) : Int) = I := by rw [hI]; simp
      rw [hIj] at f2 f3 f4 f6 f7 f8 f9
      have hwf : WfI I := wfi (by omega)
      have hS : rowS K (j + 1) = rC (rowS K j) (j + 1) K := rfl
      unfold rC at hS f9
      unfold rB at hS f5 f6 f7 f8 f9
      unfold rA at hS f4 f5 f6 f7 f8 f9
      rw [hIj] at hS f4 f5 f6 f7 f8 f9
      rw [Nat.add_sub_cancel] at hS f9
      have hI1 : ((j : Nat) : Int) = I - 1 := by omega
      have hw1 : IntKind.i64.wrap (I - 1) = I - 1 := IntWalk.i64_in _ (by omega)
      have hw2 : IntKind.i64.wrap (I + 1) = I + 1 := IntWalk.i64_in _ (by omega)
      have hJK : ((j * K : Nat) : Int) = (I - 1) * (K : Int) := by rw [← hI1]; simp
      have hJb : j * K ≤ 21 := Nat.le_trans (Nat.mul_le_mul (show j ≤ 7 by omega) (show K ≤ 3 by omega)) (by decide)
      have hnext : (j + 1) * K = j * K + K := Nat.succ_mul j K
      have hwm : IntKind.i64.wrap ((I - 1) * (K : Int)) = (I - 1) * (K : Int) := IntWalk.i64_in _ (by rw [← hJK]; omega)
      have KM : Hid (∀ V, PAt W.heap.size (8 * j) V g (rowS K j) → Calls Try.prog 27 #[.pointer (some ⟨g, 0, none⟩)] V fun e w' => e = .returned (.tuple #[.int .i64 I, .int .i64 0]) ∧ PAt W.heap.size (8 * j + 1) w' g (rowS K j).mk0 ∧ Below W.heap.size V w') := fun V q => by
        have := l0 q (by omega)
        have hv : (rowS K j).mkV = .tuple #[.int .i64 I, .int .i64 0] := by unfold Gs.mkV; rw [if_pos f1, f2]
        rwa [hv] at this
      generalize rowS K j = x at *
      obtain ⟨xr, hxr⟩ : ∃ xr, xr = (if 1 < j + 1 then x.mk0.dp0 I (I - 1) else x.mk0) := ⟨_, rfl⟩
      rw [← hxr] at hS f4 f5 f6 f7 f8 f9
      obtain ⟨J, hJ⟩ : ∃ J, J = j * K := ⟨_, rfl⟩
      rw [← hJ] at hS f5 f7 f8 f9 hJK hJb hnext ⊢
      have KD : Hid (1 < j + 1 → ∀ V, PAt W.heap.size (8 * j + 1) V g x.mk0 → Calls Try.prog 30 #[.pointer (some ⟨g, 0, none⟩), .int .i64 I, .int .i64 (I - 1)] V fun e w' => e = .returned (.int .i64 0) ∧ PAt W.heap.size (8 * j + 2) w' g xr ∧ Below W.heap.size V w') := fun h1 V q => by
        have := l1 (n := I) (m := I - 1) q hwf (wfi (by omega)) (by omega)
        have hd : x.mk0.dependE I (I - 1) = 0 := by
          rw [hI1] at f3
          simp only [Bool.or_eq_true, beq_iff_eq] at f3
          rcases f3 with e | e
          · omega
          · exact e
        rw [hxr, if_pos h1]
        rwa [hd] at this
      have KD0 : Hid (¬ 1 < j + 1 → ∀ V, PAt W.heap.size (8 * j + 1) V g x.mk0 → PAt W.heap.size (8 * j + 2) V g xr) := fun h1 V q => by rw [hxr, if_neg h1]; exact q.more (by omega)
      clear hxr f3
      have KE : Hid (∀ V, PAt W.heap.size (8 * j + 2) V g xr → Calls Try.prog 21 #[.pointer (some ⟨g, 0, none⟩), .int .i64 I] V fun e w' => e = .returned (.int .i64 0) ∧ PAt W.heap.size (8 * j + 3) w' g (xr.tn0 I 1 3 2) ∧ Below W.heap.size V w') := fun V q => by have := l2 q hwf; rwa [f4] at this
      generalize xr.tn0 I 1 3 2 = xb at *
      have KB : Hid (∀ V, PAt W.heap.size (8 * j + 3) V g xb → Calls Try.prog 25 #[.pointer (some ⟨g, 0, none⟩)] V fun e w' => ∃ A' c', e = .returned (.slice A' J c') ∧ Below V.heap.size V w') := fun V q => by
        have := l7 q (by omega)
        refine this.mono fun e w' ⟨A, c', e1, _, e3⟩ => ⟨A, c', by rw [e1, f5], e3⟩
      have KA : Hid (∀ V, PAt W.heap.size (8 * j + 3) V g xb → Calls Try.prog 16 #[.pointer (some ⟨g, 0, none⟩), .int .i64 I] V fun e w' => ∃ A' c', e = .returned (.slice A' j c') ∧ Below V.heap.size V w') := fun V q =>
        (q.tells (by omega) hwf).2.mono fun e w' ⟨A, c', e1, _, e3⟩ => ⟨A, c', by rw [e1, f6], e3⟩
      have KT : Hid (∀ V p, p < K → PAt W.heap.size (8 * j + 3 + p) V g (tks xb J p) → Calls Try.prog 24 #[.pointer (some ⟨g, 0, none⟩), .int .i64 ((J + p : Nat) : Int)] V fun e w' => e = .returned (.int .i64 (Gs.tkE ((J + p : Nat) : Int))) ∧ PAt W.heap.size (8 * j + 3 + (p + 1)) w' g (tks xb J (p + 1)) ∧ Below W.heap.size V w') := fun V p hp q => l6 (c := 8 * j + 3 + p) q (by omega) (wfi (by omega))
      have KDi : Hid (∀ V, PAt W.heap.size (8 * j + 3 + K) V g (tks xb J K) → Calls Try.prog 31 #[.pointer (some ⟨g, 0, none⟩), .int .i64 I] V fun e w' => e = .returned (.int .i64 0) ∧ PAt W.heap.size (8 * j + 3 + K + 1) w' g ((tks xb J K).tn0 I 2 2 3) ∧ Below W.heap.size V w') := fun V q => by have := l3 q hwf; rwa [f7] at this
      have KR : Hid (∀ V, PAt W.heap.size (8 * j + 3 + K + 1) V g ((tks xb J K).tn0 I 2 2 3) → Calls Try.prog 22 #[.pointer (some ⟨g, 0, none⟩), .int .i64 I] V fun e w' => e = .returned (.int .i64 0) ∧ PAt W.heap.size (8 * j + 3 + K + 2) w' g (((tks xb J K).tn0 I 2 2 3).tn0 I 1 3 4) ∧ Below W.heap.size V w') := fun V q => by have := l4 q hwf; rwa [f8] at this
      generalize (tks xb J K).tn0 I 2 2 3 = xe at *
      have KP : Hid (∀ V, PAt W.heap.size (8 * j + 3 + K + 2) V g (xe.tn0 I 1 3 4) → Calls Try.prog 18 #[.pointer (some ⟨g, 0, none⟩), .int .i64 I] V fun e w' => ∃ A' c', e = .returned (.slice A' K c') ∧ Below V.heap.size V w') := fun V q =>
        (q.tells (by omega) hwf).1.mono fun e w' ⟨A, c', e1, _, e3⟩ => ⟨A, c', by rw [e1, f9], e3⟩
      have KN : Hid (∀ V, PAt W.heap.size (8 * j + 3 + K + 2) V g (xe.tn0 I 1 3 4) → PAt W.heap.size (8 * (j + 1)) V g (rowS K (j + 1))) := fun V q => by rw [hS]; exact q.more (by omega)
      generalize xe.tn0 I 1 3 4 = xf at *
      have hc1 : ((J : Int) != (I - 1) * (K : Int)) = false := by rw [hJK]; simp
      have hc2 : ((j : Int) != I - 1) = false := by rw [hI1]; simp
      have HnJ := Lib.hid hnext
      have HI := Lib.hid hI
      clear f1 f2 f4 f5 f6 f7 f8 f9 hS hIj hwf hJ hJK hnext hI hI1
      by_cases h1 : 1 < j + 1
      · have hx1 : 1 < I := by have := HI.out; omega
        have KDd := Lib.hid (KD.out h1)
        clear h1 KD KD0
        go_wp2_with (first
          | (go_at_call 27; (with_reducible refine (KM.out _ hP.out).mono ?_); rintro e w3 ⟨rfl, p1, b1⟩; have P1 := Lib.hid p1; have B1 := Lib.hid (hB.out.trans b1); clear p1 b1)
          | (go_at_call 30; (with_reducible refine (KDd.out _ P1.out).mono ?_); rintro e w4 ⟨rfl, p2, b2⟩; have P2 := Lib.hid p2; have B2 := Lib.hid (B1.out.trans b2); clear p2 b2)
          | (go_at_call 21; (with_reducible refine (KE.out _ P2.out).mono ?_); rintro e w5 ⟨rfl, p3, b3⟩; have P3 := Lib.hid p3; have B3 := Lib.hid (B2.out.trans b3); clear p3 b3)
          | (go_at_call 25; (with_reducible refine (KB.out _ P3.out).mono ?_); rintro e w6 ⟨A6, c6, rfl, b4⟩; have P4 := Lib.hid (P3.out.fresh b4); have B4 := Lib.hid (B3.out.trans (b4.mono B3.out.size)); clear b4)
          | (go_at_call 16; (with_reducible refine (KA.out _ P4.out).mono ?_); rintro e w7 ⟨A7, c7, rfl, b5⟩; have P5 := Lib.hid (P4.out.fresh b5); have B5 := Lib.hid (B4.out.trans (b5.mono B4.out.size)); clear b5))
        go_loopw [8, 12] (fun s i ws => ∃ p : Nat, p ≤ K ∧ i = .int .i64 p ∧ s = .int .i64 ((J + p : Nat) : Int) ∧ Hid (PAt W.heap.size (8 * j + 3 + p) ws g (tks xb J p)) ∧ Hid (Below W.heap.size W ws)) (fun _ i _ => K - (intOf i).toNat)
        case atStart => exact ⟨0, Nat.zero_le _, rfl, rfl, P5.out, B5.out⟩
        case round =>
          obtain ⟨p, hp, rfl, rfl, hP6, hB6⟩ := hrel
          rename World => ws
          have hp0 : (0 : Int) ≤ (p : Int) := by omega
          by_cases hpl : p < K
          · have hpi : (p : Int) < (K : Int) := by omega
            have KT1 := Lib.hid (KT.out ws p hpl hP6.out)
            generalize Gs.tkE ((J + p : Nat) : Int) = et at *
            have hwp : IntKind.i64.wrap (((J + p : Nat) : Int) + 1) = ((J + (p + 1) : Nat) : Int) := by rw [IntWalk.i64_in _ (by omega)]; omega
            generalize hQ : ((J + p : Nat) : Int) = Q0 at *
            generalize hQ1 : ((J + (p + 1) : Nat) : Int) = Q1 at *
            have HQ1 := Lib.hid hQ1
            clear hQ hQ1
            go_wp2_with (go_at_call 24; (with_reducible refine KT1.out.mono ?_); rintro e w8 ⟨rfl, p8, b8⟩; have P8 := Lib.hid p8; have B8 := Lib.hid (hB6.out.trans b8); clear p8 b8)
            go_roundw
            case rel => exact ⟨p + 1, by omega, by go_num, by rw [HQ1.out], P8.out, B8.out⟩
            case measure => simp [intOf]; omega
          · obtain rfl : p = K := by omega
            have hpi : ¬ (p : Int) < (p : Int) := by omega
            generalize tks xb J p = xd at *
            go_wp2_with (first
              | (go_at_call 31; (with_reducible refine (KDi.out _ hP6.out).mono ?_); rintro e w8 ⟨rfl, p8, b8⟩; have P8 := Lib.hid p8; have B8 := Lib.hid (hB6.out.trans b8); clear p8 b8)
              | (go_at_call 22; (with_reducible refine (KR.out _ P8.out).mono ?_); rintro e w9 ⟨rfl, p9, b9⟩; have P9 := Lib.hid p9; have B9 := Lib.hid (B8.out.trans b9); clear p9 b9)
              | (go_at_call 18; (with_reducible refine (KP.out _ P9.out).mono ?_); rintro e wa ⟨Aa, ca, rfl, ba⟩; have Pa := Lib.hid (P9.out.fresh ba); have Ba := Lib.hid (B9.out.trans (ba.mono B9.out.size)); clear ba))
            go_roundw
            case rel => exact ⟨j + 1, I + 1, by omega, by go_num, by have := HI.out; omega, by rw [HnJ.out]; simp, KN.out _ Pa.out, Ba.out⟩
            case measure => have := HI.out; simp [intOf]; omega
      · have hx1 : ¬ 1 < I := by have := HI.out; omega
        have KDd := Lib.hid (KD0.out h1)
        clear h1 KD KD0
        go_wp2_with (first
          | (go_at_call 27; (with_reducible refine (KM.out _ hP.out).mono ?_); rintro e w3 ⟨rfl, p1, b1⟩; have P1 := Lib.hid p1; have B1 := Lib.hid (hB.out.trans b1); clear p1 b1)
          | (go_at_call 21; (with_reducible refine (KE.out _ (KDd.out _ P1.out)).mono ?_); rintro e w5 ⟨rfl, p3, b3⟩; have P3 := Lib.hid p3; have B3 := Lib.hid (B1.out.trans b3); clear p3 b3)
          | (go_at_call 25; (with_reducible refine (KB.out _ P3.out).mono ?_); rintro e w6 ⟨A6, c6, rfl, b4⟩; have P4 := Lib.hid (P3.out.fresh b4); have B4 := Lib.hid (B3.out.trans (b4.mono B3.out.size)); clear b4)
          | (go_at_call 16; (with_reducible refine (KA.out _ P4.out).mono ?_); rintro e w7 ⟨A7, c7, rfl, b5⟩; have P5 := Lib.hid (P4.out.fresh b5); have B5 := Lib.hid (B4.out.trans (b5.mono B4.out.size)); clear b5))
        go_loopw [8, 12] (fun s i ws => ∃ p : Nat, p ≤ K ∧ i = .int .i64 p ∧ s = .int .i64 ((J + p : Nat) : Int) ∧ Hid (PAt W.heap.size (8 * j + 3 + p) ws g (tks xb J p)) ∧ Hid (Below W.heap.size W ws)) (fun _ i _ => K - (intOf i).toNat)
        case atStart => exact ⟨0, Nat.zero_le _, rfl, rfl, P5.out, B5.out⟩
        case round =>
          obtain ⟨p, hp, rfl, rfl, hP6, hB6⟩ := hrel
          rename World => ws
          have hp0 : (0 : Int) ≤ (p : Int) := by omega
          by_cases hpl : p < K
          · have hpi : (p : Int) < (K : Int) := by omega
            have KT1 := Lib.hid (KT.out ws p hpl hP6.out)
            generalize Gs.tkE ((J + p : Nat) : Int) = et at *
            have hwp : IntKind.i64.wrap (((J + p : Nat) : Int) + 1) = ((J + (p + 1) : Nat) : Int) := by rw [IntWalk.i64_in _ (by omega)]; omega
            generalize hQ : ((J + p : Nat) : Int) = Q0 at *
            generalize hQ1 : ((J + (p + 1) : Nat) : Int) = Q1 at *
            have HQ1 := Lib.hid hQ1
            clear hQ hQ1
            go_wp2_with (go_at_call 24; (with_reducible refine KT1.out.mono ?_); rintro e w8 ⟨rfl, p8, b8⟩; have P8 := Lib.hid p8; have B8 := Lib.hid (hB6.out.trans b8); clear p8 b8)
            go_roundw
            case rel => exact ⟨p + 1, by omega, by go_num, by rw [HQ1.out], P8.out, B8.out⟩
            case measure => simp [intOf]; omega
          · obtain rfl : p = K := by omega
            have hpi : ¬ (p : Int) < (p : Int) := by omega
            generalize tks xb J p = xd at *
            go_wp2_with (first
              | (go_at_call 31; (with_reducible refine (KDi.out _ hP6.out).mono ?_); rintro e w8 ⟨rfl, p8, b8⟩; have P8 := Lib.hid p8; have B8 := Lib.hid (hB6.out.trans b8); clear p8 b8)
              | (go_at_call 22; (with_reducible refine (KR.out _ P8.out).mono ?_); rintro e w9 ⟨rfl, p9, b9⟩; have P9 := Lib.hid p9; have B9 := Lib.hid (B8.out.trans b9); clear p9 b9)
              | (go_at_call 18; (with_reducible refine (KP.out _ P9.out).mono ?_); rintro e wa ⟨Aa, ca, rfl, ba⟩; have Pa := Lib.hid (P9.out.fresh ba); have Ba := Lib.hid (B9.out.trans (ba.mono B9.out.size)); clear ba))
            go_roundw
            case rel => exact ⟨j + 1, I + 1, by omega, by go_num, by have := HI.out; omega, by rw [HnJ.out]; simp, KN.out _ Pa.out, Ba.out⟩
            case measure => have := HI.out; simp [intOf]; omega
    · obtain rfl : j = N := by omega
      have hIi : ¬ I ≤ (j : Int) := by omega
      have hend := end_is K hK3 j (by omega) hN2.1
      unfold endB at hend
      simp only [Bool.and_eq_true, beq_iff_eq] at hend
      obtain ⟨⟨⟨f1, f2⟩, f3⟩, f4⟩ := hend
      have hwj : WfI (j : Int) := wfi (by omega)
      have K1 : Hid (∀ V, PAt W.heap.size (8 * j) V g (rowS K j) → Calls Try.prog 30 #[.pointer (some ⟨g, 0, none⟩), .int .i64 1, .int .i64 2] V fun e w' => e = .returned (.int .i64 13) ∧ PAt W.heap.size (8 * j + 1) w' g (rowS K j) ∧ Below W.heap.size V w') := fun V q => by
        have := l1 (n := 1) (m := 2) q (wfi (by omega)) (wfi (by omega)) (by omega)
        have hd : (rowS K j).dp0 1 2 = rowS K j := by unfold Gs.dp0; rw [f1, if_neg (by decide)]
        rwa [f1, hd] at this
      have K2 : Hid (∀ V, PAt W.heap.size (8 * j + 1) V g (rowS K j) → Calls Try.prog 28 #[.pointer (some ⟨g, 0, none⟩), .int .i64 1] V fun e w' => e = .returned (.int .i64 12) ∧ PAt W.heap.size (8 * j + 2) w' g (rowS K j) ∧ Below W.heap.size V w') := fun V q => by
        have := l5 (n := 1) q (wfi (by omega))
        have hd : (rowS K j).ab0 1 = rowS K j := by unfold Gs.ab0; rw [f2, if_neg (by decide)]
        rwa [f2, hd] at this
      have K3 : Hid (∀ V, PAt W.heap.size (8 * j + 2) V g (rowS K j) → Calls Try.prog 28 #[.pointer (some ⟨g, 0, none⟩), .int .i64 j] V fun e w' => e = .returned (.int .i64 0) ∧ PAt W.heap.size (8 * j + 3) w' g ((rowS K j).ab0 j) ∧ Below W.heap.size V w') := fun V q => by
        have := l5 q hwj
        rwa [f3] at this
      have K4 : Hid (∀ V, PAt W.heap.size (8 * j + 3) V g ((rowS K j).ab0 j) → Calls Try.prog 17 #[.pointer (some ⟨g, 0, none⟩), .int .i64 j] V fun e w' => e = .returned (.int .u8 0) ∧ V = w') := fun V q => by
        have := l8 q hwj
        rwa [f4] at this
      clear f1 f2 f3 f4 hwj hI
      generalize (rowS K j).ab0 j = y at *
      generalize rowS K j = x at *
      generalize ((j * K : Nat) : Int) = jk at *
      go_wp2_with (first
        | (go_at_call 30; (with_reducible refine (K1.out _ hP.out).mono ?_); rintro e w3 ⟨rfl, p1, b1⟩; have P1 := Lib.hid p1; have B1 := Lib.hid (hB.out.trans b1); clear p1 b1)
        | (go_at_call 28; (with_reducible refine (K2.out _ P1.out).mono ?_); rintro e w4 ⟨rfl, p2, b2⟩; have P2 := Lib.hid p2; have B2 := Lib.hid (B1.out.trans b2); clear p2 b2)
        | (go_at_call 28; (with_reducible refine (K3.out _ P2.out).mono ?_); rintro e w5 ⟨rfl, p3, b3⟩; have P3 := Lib.hid p3; have B3 := Lib.hid (B2.out.trans b3); clear p3 b3)
        | (go_at_call 17; (with_reducible refine (K4.out _ P3.out).mono ?_); rintro e w6 ⟨rfl, rfl⟩))
      go_ret
      exact ⟨rfl, B3.out⟩
end Go.Proofs.Ytdndchoghhllmaa
