/- Whatever deeds and number come in, GroupFew returns true, and they read afterwards as before. No condition. Here: the walk of the law's text. -/
import Derived.Test.YtdndchoghhllmaaSG
set_option linter.unusedVariables false
set_option linter.unusedSimpArgs false
namespace Go.Proofs.Ytdndchoghhllmaa
open Go.RowKit
theorem ofN_new {l : List Gp} {g : Gp} (h : g.n ∉ nos l) : ofN (l ++ [g]) g.n = g := by
  unfold ofN
  rw [List.find?_append]
  have : l.find? (isN g.n) = none := List.find?_eq_none.2 fun q hq z => h (by rw [← isN_iff.1 z]; exact in_nos hq)
  rw [this]
  simp [isN]
theorem Gs.Ok.knew {c : Nat} {x : Gs} (h : x.Ok c) : x.k ∉ nos x.l := fun q => by
  obtain ⟨g, hg, e⟩ := List.mem_map.1 q
  have := (h.rng g hg).2
  omega
/-- what a new group is -/
theorem made {c : Nat} {x : Gs} (h : x.Ok c) : stG x.make.l x.k = 1 ∧ (ofN x.make.l x.k).p = [] ∧ x.make.abandonE x.k = 0 := by
  have e : ofN x.make.l x.k = ⟨x.k, 1, [], []⟩ := ofN_new (g := ⟨x.k, 1, [], []⟩) h.knew
  have hin : x.k ∈ nos x.make.l := by unfold Gs.make nos; simp
  refine ⟨by rw [stG_s, e], by rw [e], ?_⟩
  unfold Gs.abandonE
  rw [if_neg (fun q => q hin), e, if_neg (show ¬ (1 : Nat) = 2 by decide), if_neg]
  intro q
  obtain ⟨g, hg, hk⟩ := Gs.any_ahead.1 q
  rcases List.mem_append.1 hg with z | z
  · exact h.knew ((h.al g z).2 _ hk).1
  · rw [List.mem_singleton] at z
    rw [z] at hk; cases hk
/-- how many of the first so many numbers are there -/
def manyK (l : List Gp) : Nat → Nat
  | 0 => 0
  | n + 1 => manyK l n + if stG l (n : Int) = 0 then 0 else 1
theorem manyK_le {c : Nat} {x : Gs} (h : x.Ok c) (n : Nat) : manyK x.l n ≤ 8 := by
  have key : ∀ n, manyK x.l n ≤ ((nos x.l).filter fun y => decide (y < (n : Int))).length := by
    intro n
    induction n with
    | zero => exact Nat.zero_le _
    | succ n ih =>
      unfold manyK
      have hsub : ((nos x.l).filter fun y => decide (y < (n : Int))).length ≤ ((nos x.l).filter fun y => decide (y < ((n + 1 : Nat) : Int))).length := by
        refine sub_len (h.nd.filter _) (fun y hy => ?_)
        obtain ⟨h1, h2⟩ := List.mem_filter.1 hy
        exact List.mem_filter.2 ⟨h1, decide_eq_true (by have := of_decide_eq_true h2; omega)⟩
      by_cases h0 : stG x.l (n : Int) = 0
      · rw [if_pos h0]; omega
      · rw [if_neg h0]
        have hin : (n : Int) ∈ nos x.l := by
          by_cases q : (n : Int) ∈ nos x.l
          · exact q
          · unfold stG at h0; rw [if_neg q] at h0; exact absurd rfl h0
        have : ((n : Int) :: (nos x.l).filter fun y => decide (y < (n : Int))).length ≤ ((nos x.l).filter fun y => decide (y < ((n + 1 : Nat) : Int))).length := by
          refine sub_len (List.nodup_cons.2 ⟨fun q => by have := of_decide_eq_true (List.mem_filter.1 q).2; omega, h.nd.filter _⟩) (fun y hy => ?_)
          rcases List.mem_cons.1 hy with rfl | hy
          · exact List.mem_filter.2 ⟨hin, decide_eq_true (by omega)⟩
          · obtain ⟨h1, h2⟩ := List.mem_filter.1 hy
            exact List.mem_filter.2 ⟨h1, decide_eq_true (by have := of_decide_eq_true h2; omega)⟩
        rw [List.length_cons] at this
        omega
  have h1 := key n
  have h2 := List.length_filter_le (fun y => decide (y < (n : Int))) (nos x.l)
  have h3 := h.len
  rw [length_nos] at h2
  omega
theorem l9 {B c g : Nat} {x : Gs} {w : World} {n : Int} (h : PAt B c w g x) (hc : c ≤ 900) (hn : WfI n) : Calls Try.prog 18 #[.pointer (some ⟨g, 0, none⟩), .int .i64 n] w (GivesI w (ofN x.l n).p) := by
  obtain ⟨hB, hO, mb, L, hP, hg⟩ := h
  have := patches_any B (8 * c) g mb L x.k n w hP hn (by omega) (by rw [hg]; exact (hO.pofN n).1)
  rw [hg] at this
  exact this.mono fun e w' ⟨A, c', e1, e2, e3⟩ => ⟨A, c', e1, e2.ints, e3⟩
set_option maxRecDepth 100000 in
set_option maxHeartbeats 4000000 in
theorem GroupFew.walk (a1 : Option Addr) (len1 cap1 : Nat) (ds : List Dd) (m : Int) (W : World) (hd : IsDeeds W a1 len1 cap1 ds) (hm : (Lit.int .u8 m).wf = true) :
    Calls Try.prog 8 #[.slice a1 len1 cap1, .int .u8 m] W fun e W' => e = .returned (.bool true) ∧ Below W.heap.size W W' := by
  obtain ⟨d1, d2, d3, d4⟩ := hd
  have HP := Lib.hid (play_any a1 len1 cap1 ds W d1 d2 d3 d4)
  obtain ⟨m0, m1⟩ := bounds_u8 hm
  obtain ⟨M, hM⟩ : ∃ M : Nat, Int.tmod m 12 = (M : Int) := ⟨(Int.tmod m 12).toNat, by rw [Int.tmod_eq_emod_of_nonneg m0]; omega⟩
  have hM2 : M ≤ 11 := by rw [Int.tmod_eq_emod_of_nonneg m0] at hM; omega
  have hMe : m % 12 = (M : Int) := by rw [← hM, Int.tmod_eq_emod_of_nonneg m0]
  clear d1 d2 d3 d4 hm
  go_enter Try.func8, Try.ntmps8
  go_wp2_with fail
  refine HP.out.mono ?_
  rintro e w1 ⟨g, h, x, rfl, hT, hO, hB⟩
  have HB := Lib.hid hB
  have HP1 : Hid (PAt W.heap.size 60 w1 g x) := ⟨hT.1, hO, by obtain ⟨_, ⟨mb, L, q1, q2⟩, _⟩ := hT; exact ⟨mb, L, q1, q2⟩⟩
  clear hT hO hB HP
  go_wp2_with (go_at_call 14; refine (live_any _).mono ?_; rintro e w2 ⟨rfl, hb2⟩; have HP2 := Lib.hid (HP1.out.fresh hb2); have HB2 := Lib.hid (HB.out.trans (hb2.mono HB.out.size)); clear hb2)
  go_loopw [8, 9] (fun l i wr => ∃ (k c : Nat) (la : Int) (y : Gs), k ≤ M ∧ c ≤ 60 + 2 * k ∧ i = .int .i64 k ∧ l = .int .i64 la ∧ la < y.k ∧ 0 ≤ la ∧ Hid (PAt W.heap.size c wr g y) ∧ Hid (Below W.heap.size W wr)) (fun _ i _ => M - (intOf i).toNat)
  case atStart => exact ⟨0, 60, 0, x, Nat.zero_le _, by omega, rfl, rfl, by have := HP2.out.2.1.k0; omega, by omega, HP2.out, HB2.out⟩
  case round =>
    obtain ⟨k, c, la, y, hk, hc, rfl, rfl, hla, hla0, hPy, hB⟩ := hrel
    rename World => wr
    have hk0 : (0 : Int) ≤ (k : Int) := by omega
    by_cases hlt : k < M
    · have hki : (k : Int) < (M : Int) := by omega
      have HMk := Lib.hid (l0 hPy.out (by omega))
      by_cases he : y.makeE = 0
      · have hv : y.mkV = .tuple #[.int .i64 y.k, .int .i64 0] := by unfold Gs.mkV; rw [if_pos he]
        have hm : y.mk0 = y.make := by unfold Gs.mk0; rw [if_pos he]
        obtain ⟨v1, v2, v3⟩ := made hPy.out.2.1
        have hk1 : y.make.k = y.k + 1 := rfl
        have hkb := hPy.out.2.1.k1
        have hwf : WfI y.k := by unfold WfI; have := hPy.out.2.1.k0; omega
        rw [hv, hm] at HMk
        have HSt : Hid (∀ V, PAt W.heap.size (c + 1) V g y.make → Calls Try.prog 17 #[.pointer (some ⟨g, 0, none⟩), .int .i64 y.k] V fun e w' => e = .returned (.int .u8 1) ∧ V = w') := fun V q => by have := l8 q hwf; rwa [v1] at this
        have HPt : Hid (∀ V, PAt W.heap.size (c + 1) V g y.make → Calls Try.prog 18 #[.pointer (some ⟨g, 0, none⟩), .int .i64 y.k] V fun e w' => ∃ A' c', e = .returned (.slice A' 0 c') ∧ Below V.heap.size V w') := fun V q => by
          have := l9 q (by omega) hwf
          rw [v2] at this
          exact this.mono fun e w' ⟨A, c', e1, _, e3⟩ => ⟨A, c', e1, e3⟩
        have HAb : Hid (∀ V, PAt W.heap.size (c + 1) V g y.make → Calls Try.prog 28 #[.pointer (some ⟨g, 0, none⟩), .int .i64 y.k] V fun e w' => e = .returned (.int .i64 0) ∧ PAt W.heap.size (c + 2) w' g (y.make.ab0 y.k) ∧ Below W.heap.size V w') := fun V q => by have := l5 q hwf; rwa [v3] at this
        have Hk2 : Hid ((y.make.ab0 y.k).k = y.k + 1) := by unfold Hid Gs.ab0; rw [if_pos v3]; rfl
        have hle : ¬ y.k ≤ la := by omega
        clear hv hm v1 v2 v3 he hwf
        generalize y.make.ab0 y.k = y3 at *
        generalize y.make = y2 at *
        by_cases h3 : (k : Int) % 3 = 2
        · have h3b : ((k : Int) % 3 == 2) = true := by simp [h3]
          go_wp2_with (first
            | (go_at_call 27; (with_reducible refine HMk.out.mono ?_); rintro e w5 ⟨rfl, p5, b5⟩; have P5 := Lib.hid p5; have B5 := Lib.hid (hB.out.trans b5); clear p5 b5)
            | (go_at_call 17; (with_reducible refine (HSt.out _ P5.out).mono ?_); rintro e w' ⟨rfl, rfl⟩)
            | (go_at_call 18; (with_reducible refine (HPt.out _ P5.out).mono ?_); rintro e w6 ⟨A6, c6, rfl, b6⟩; have P6 := Lib.hid (P5.out.fresh b6); have B6 := Lib.hid (B5.out.trans (b6.mono B5.out.size)); clear b6)
            | (go_at_call 28; (with_reducible refine (HAb.out _ P6.out).mono ?_); rintro e w7 ⟨rfl, p7, b7⟩; have P7 := Lib.hid p7; have B7 := Lib.hid (B6.out.trans b7); clear p7 b7))
          go_roundw
          case rel => exact ⟨k + 1, c + 2, y.k, y3, by omega, by omega, by go_num, rfl, by rw [Hk2.out]; omega, by omega, P7.out, B7.out⟩
          case measure => simp [intOf]; omega
        · have h3b : ((k : Int) % 3 == 2) = false := by simpa using h3
          go_wp2_with (first
            | (go_at_call 27; (with_reducible refine HMk.out.mono ?_); rintro e w5 ⟨rfl, p5, b5⟩; have P5 := Lib.hid p5; have B5 := Lib.hid (hB.out.trans b5); clear p5 b5)
            | (go_at_call 17; (with_reducible refine (HSt.out _ P5.out).mono ?_); rintro e w' ⟨rfl, rfl⟩)
            | (go_at_call 18; (with_reducible refine (HPt.out _ P5.out).mono ?_); rintro e w6 ⟨A6, c6, rfl, b6⟩; have P6 := Lib.hid (P5.out.fresh b6); have B6 := Lib.hid (B5.out.trans (b6.mono B5.out.size)); clear b6))
          go_roundw
          case rel => exact ⟨k + 1, c + 1, y.k, y2, by omega, by omega, by go_num, rfl, by rw [hk1]; omega, by omega, P6.out, B6.out⟩
          case measure => simp [intOf]; omega
      · have hv : y.mkV = .tuple #[.int .i64 0, .int .i64 11] := by unfold Gs.mkV; rw [if_neg he]
        have hm : y.mk0 = y := by unfold Gs.mk0; rw [if_neg he]
        rw [hv, hm] at HMk
        clear hv hm he
        go_wp2_with (go_at_call 27; (with_reducible refine HMk.out.mono ?_); rintro e w5 ⟨rfl, p5, b5⟩; have P5 := Lib.hid p5; have B5 := Lib.hid (hB.out.trans b5); clear p5 b5)
        go_roundw
        case rel => exact ⟨k + 1, c + 1, la, y, by omega, by omega, by go_num, rfl, hla, hla0, P5.out, B5.out⟩
        case measure => simp [intOf]; omega
    · obtain rfl : k = M := by omega
      have hki : ¬ (k : Int) < (k : Int) := by omega
      have HSt : Hid (∀ (V : World) (n : Nat), n ≤ 100 → PAt W.heap.size c V g y → Calls Try.prog 17 #[.pointer (some ⟨g, 0, none⟩), .int .i64 n] V fun e w' => e = .returned (.int .u8 (stG y.l n)) ∧ V = w') := fun V n hn q => l8 q (wfi (by omega))
      have hmk := manyK_le hPy.out.2.1 100
      have HMl := Lib.hid (fun n => manyK_le hPy.out.2.1 n)
      go_wp2
      go_loopw [12, 13] (fun s i ws => ∃ n : Nat, n ≤ 100 ∧ i = .int .i64 n ∧ s = .int .i64 (manyK y.l n) ∧ wr = ws) (fun _ i _ => 100 - (intOf i).toNat)
      case atStart => exact ⟨0, Nat.zero_le _, rfl, rfl, rfl⟩
      case round =>
        obtain ⟨n, hn, rfl, rfl, rfl⟩ := hrel
        have hn0 : (0 : Int) ≤ (n : Int) := by omega
        by_cases hnl : n < 100
        · have hni : (n : Int) < 100 := by omega
          have HS := Lib.hid (HSt.out wr n hn hPy.out)
          have hml := HMl.out n
          have Hst : Hid (manyK y.l (n + 1) = manyK y.l n + if stG y.l (n : Int) = 0 then 0 else 1) := rfl
          generalize manyK y.l n = mk at *
          by_cases h0 : stG y.l (n : Int) = 0
          · rw [if_pos h0] at Hst
            rw [h0] at HS
            go_wp2_with (refine HS.out.mono ?_; rintro e w' ⟨rfl, rfl⟩)
            go_roundw
            case rel => exact ⟨n + 1, by omega, by go_num, by rw [Hst.out]; rfl, trivial⟩
            case measure => simp [intOf]; omega
          · rw [if_neg h0] at Hst
            have hx : ((stG y.l (n : Int) : Int) != 0) = true := by simpa using h0
            generalize stG y.l (n : Int) = st at *
            go_wp2_with (refine HS.out.mono ?_; rintro e w' ⟨rfl, rfl⟩)
            go_roundw
            case rel => exact ⟨n + 1, by omega, by go_num, by rw [Hst.out]; go_num, trivial⟩
            case measure => simp [intOf]; omega
        · obtain rfl : n = 100 := by omega
          have hm8 : (manyK y.l 100 : Int) ≤ 8 := by omega
          generalize manyK y.l 100 = mk at *
          go_wp2
          go_ret
          exact ⟨rfl, hB.out⟩
end Go.Proofs.Ytdndchoghhllmaa
