/- ExploreRow holds whatever comes in. Here: the walk of the law's text. -/
import Derived.Test.YthffdkoncagimaaY
set_option linter.unusedVariables false
set_option linter.unusedSimpArgs false
namespace Go.Proofs.Ythffdkoncagimaa
open Go.RowKit Go.Shelf
theorem u8_bounds {n : Int} (h : (Lit.int .u8 n).wf = true) : 0 ≤ n ∧ n ≤ 255 := by
  simp [Lit.wf, IntKind.min, IntKind.max, IntKind.signed, IntKind.bits] at h
  omega
structure RowFacts (n : Nat) (A1 : Option Addr) (c1 : Nat) (A2 : Option Addr) (c2 : Nat) (W : World) : Prop where
  k1 : ∀ w, Below W.heap.size W w → Calls Try.prog 8 #[.slice A1 n c1] w fun e w' => e = .returned (.tuple #[.int .i64 ((n : Int) + 1), .int .i64 0]) ∧ Below w.heap.size w w'
  k2 : ∀ w, Below W.heap.size W w → Calls Try.prog 10 #[.slice A1 n c1] w fun e w' => e = .returned (.tuple #[.int .i64 1, .int .i64 0]) ∧ Below w.heap.size w w'
  k3 : ∀ w, Below W.heap.size W w → Calls Try.prog 12 #[.slice A1 n c1] w fun e w' => e = .returned (.tuple #[.int .i64 (if n = 0 then 0 else 1), .int .i64 0]) ∧ Below w.heap.size w w'
  k4 : ∀ w, Below W.heap.size W w → Calls Try.prog 8 #[.slice A2 n c2] w fun e w' => e = .returned (.tuple #[.int .i64 ((2 ^ n : Nat) : Int), .int .i64 0]) ∧ Below w.heap.size w w'
  k5 : ∀ w, Below W.heap.size W w → Calls Try.prog 10 #[.slice A2 n c2] w fun e w' => e = .returned (.tuple #[.int .i64 ((fac n : Nat) : Int), .int .i64 0]) ∧ Below w.heap.size w w'
  k6 : ∀ w, Below W.heap.size W w → Calls Try.prog 12 #[.slice A2 n c2] w fun e w' => e = .returned (.tuple #[.int .i64 (n : Int), .int .i64 0]) ∧ Below w.heap.size w w'
theorem row_facts {n : Nat} (hn : n < 13) {A1 A2 : Option Addr} {W : World} (c1 c2 : Nat) (m1 : Mat W W.heap.size A1 (rowsI (rowD n))) (m2 : Mat W W.heap.size A2 (rowsI (aloneD n))) : RowFacts n A1 c1 A2 c2 W := by
  obtain ⟨s1, o1⟩ := ok_dec (rowD_ok n hn)
  obtain ⟨s2, o2⟩ := ok_dec (aloneD_ok n hn)
  have l1 := rowD_len n
  have l2 := aloneD_len n
  refine ⟨fun w b => ?_, fun w b => ?_, fun w b => ?_, fun w b => ?_, fun w b => ?_, fun w b => ?_⟩
  · have h := pcount_yes A1 c1 (rowD n) w s1 o1 (m1.next b)
    rw [rowD_count n hn, l1, Int.natCast_add] at h
    exact h
  · have h := porders_yes A1 c1 (rowD n) w s1 o1 (m1.next b)
    rw [rowD_orders n hn, l1] at h
    exact h
  · have h := pwidest_yes A1 c1 (rowD n) w s1 o1 (m1.next b)
    rw [rowD_widest n hn, l1, show (((if n = 0 then 0 else 1 : Nat) : Nat) : Int) = (if n = 0 then 0 else 1) by split <;> rfl] at h
    exact h
  · have h := pcount_yes A2 c2 (aloneD n) w s2 o2 (m2.next b)
    rw [aloneD_count n hn, l2] at h
    exact h
  · have h := porders_yes A2 c2 (aloneD n) w s2 o2 (m2.next b)
    rw [aloneD_orders hn, l2] at h
    exact h
  · have h := pwidest_yes A2 c2 (aloneD n) w s2 o2 (m2.next b)
    rw [aloneD_widest hn, l2] at h
    exact h
set_option maxRecDepth 100000 in
set_option maxHeartbeats 4000000 in
theorem ExploreRow.walk (many : Int) (w : World) (hw : (Lit.int .u8 many).wf = true) :
    Calls Try.prog 6 #[.int .u8 many] w fun e w' => e = .returned (.bool true) ∧ Below w.heap.size w w' := by
  obtain ⟨p0, p1⟩ := u8_bounds hw
  clear hw
  obtain ⟨i0, hi, hz0, hz1, hz2⟩ := info_parts infoL
  obtain ⟨n, hn, hnn⟩ : ∃ n : Nat, many.tmod 13 = (n : Int) ∧ n < 13 := ⟨(many.tmod 13).toNat, by rw [Int.tmod_eq_emod_of_nonneg p0]; omega, by rw [Int.tmod_eq_emod_of_nonneg p0]; omega⟩
  have HF13 := Lib.hid (fac_small n (by omega))
  go_enter Try.func6, Try.ntmps6
  go_wp2
  have S0 := RowSt.start w
  go_loopw [4, 5, 6, 7] (fun r a o i wr => ∃ (k : Nat) (vr va : Value), k ≤ n ∧ i = .int .i64 k ∧ o = .int .i64 ((fac k : Nat) : Int) ∧ vr = r ∧ va = a ∧ Hid (RowSt w.heap.size k vr va wr) ∧ Hid (Below w.heap.size w wr)) (fun _ _ _ i _ => n - (intOf i).toNat)
  case atStart => exact ⟨0, _, _, Nat.zero_le _, rfl, rfl, rfl, rfl, S0, Below.refl _ _⟩
  case round =>
    obtain ⟨k, vr, va, hk, rfl, rfl, rfl, rfl, HS, HB⟩ := hrel
    rename World => wr
    have hk0 : (0 : Int) ≤ (k : Int) := by omega
    by_cases hlt : k < n
    · have hki : (k : Int) < (n : Int) := by omega
      obtain ⟨T1, T2, hT, e1, e2⟩ := HS.out
      have hsz := HB.out.size
      have HT := Lib.hid hT
      have HE1 := Lib.hid e1
      have HE2 := Lib.hid e2
      have hfs := fac_small (k + 1) (by omega)
      have HFs : Hid (wrap64 (((fac k : Nat) : Int) * ((k : Int) + 1)) = ((fac (k + 1) : Nat) : Int)) := by
        unfold Hid
        have e : ((fac k : Nat) : Int) * ((k : Int) + 1) = ((fac (k + 1) : Nat) : Int) := by
          show _ = (((k + 1) * fac k : Nat) : Int)
          rw [Int.natCast_mul, Int.mul_comm]; rfl
        rw [e]; unfold wrap64; omega
      clear hT e1 e2 hfs
      generalize fac k = f at *
      by_cases hz : k = 0
      · have hkp : ¬ (0 : Int) < (k : Int) := by omega
        have HR1 : Hid (rowsI (rowD (k + 1)) = rowsI (rowD k) ++ [[]]) := by unfold Hid; rw [rowD_succ, if_pos hz, rowsI_snoc']; rfl
        have HT0 := HT
        have HB0 := HB
        clear hz
        go_wp2_with (at_builtin; refine wpList_append_own_at _ rfl _ _ 22 rfl w.heap.size 35 i0 (.slice none 0 0) 1 24 Try.underlying22 hi hz0 hz1 hz2 rfl (by decide) _ _ _ rfl (HT0.out.o1.alloc _) ⟨wr.heap.size, 0, none⟩ 1 1 [.slice none 0 0] rfl rfl (cell_one_new _ _ _) (by simp [Value.oneCell']) (by unfold maxLen; omega) (by omega) (by simp; omega) ?_)
        intro v1 w1 hown1 hg1 _ hat1
        have HT1 := Lib.hid (HT0.out.more (l := []) (RowI.nil _ _) hown1 hg1 hat1)
        have HB1 : Hid (Below w.heap.size w w1) := HB0.out.trans ((((Below.refl w.heap.size _).alloc HB0.out.size _)).grown hg1 (by have := HB0.out.size; simp at this ⊢; omega) (fun j e => (HT0.out.o1.lt j e).1))
        have hsz1 := HB1.out.size
        clear hown1 hg1 hat1
        go_wp2_with (at_builtin; refine wpList_append_own_at _ rfl _ _ 22 rfl w.heap.size 35 i0 (.slice none 0 0) 1 24 Try.underlying22 hi hz0 hz1 hz2 rfl (by decide) _ _ _ rfl (HT1.out.o2.alloc _) ⟨w1.heap.size, 0, none⟩ 1 1 [.slice none 0 0] rfl rfl (cell_one_new _ _ _) (by simp [Value.oneCell']) (by unfold maxLen; omega) (by omega) (by simp; omega) ?_)
        intro v2 w2 hown2 hg2 _ hat2
        have HT2 := Lib.hid (HT1.out.swap.more (l := []) (RowI.nil _ _) hown2 hg2 hat2).swap
        have HB2 : Hid (Below w.heap.size w w2) := HB1.out.trans ((((Below.refl w.heap.size w1).alloc (by omega) _)).grown hg2 (by simp; omega) (fun j e => (HT1.out.o2.lt j e).1))
        have HS2 : Hid (RowSt w.heap.size (k + 1) v1 v2 w2) := ⟨_, _, HT2.out, by rw [List.map_append, HE1.out, HR1.out]; rfl, by rw [List.map_append, HE2.out, aloneD_succ, rowsI_snoc']; rfl⟩
        clear hown2 hg2 hat2
        go_wp2_with fail
        go_roundw
        case rel => exact ⟨k + 1, _, _, by omega, by go_num, congrArg (Value.int .i64) HFs.out, rfl, rfl, HS2.out, HB2.out⟩
        case measure => simp [intOf]; omega
      · have hkp : (0 : Int) < (k : Int) := by omega
        have HR1 : Hid (rowsI (rowD (k + 1)) = rowsI (rowD k) ++ [[(k : Int) - 1]]) := by
          unfold Hid; rw [rowD_succ, if_neg hz, rowsI_snoc', show (k : Int) - 1 = ((k - 1 : Nat) : Int) by omega]; rfl
        have HT0 : Hid (TwoR (wr.alloc (.cells #[.int .i64 ((k : Int) - 1)] 3)) w.heap.size k k vr va T1 T2) := HT.out.fresh ((Below.refl _ _).alloc (Nat.le_refl _) _)
        have HB0 : Hid (Below w.heap.size w (wr.alloc (.cells #[.int .i64 ((k : Int) - 1)] 3))) := HB.out.alloc hsz _
        have HI0 : Hid (RowI (wr.alloc (.cells #[.int .i64 ((k : Int) - 1)] 3)) w.heap.size (some ⟨wr.heap.size, 0, none⟩) 1 [(k : Int) - 1]) := RowI.new wr w.heap.size _ hsz
        clear hz
        go_wp2_with (at_builtin; refine wpList_append_own_at _ rfl _ _ 22 rfl w.heap.size 35 i0 (.slice none 0 0) 1 24 Try.underlying22 hi hz0 hz1 hz2 rfl (by decide) _ _ _ rfl (HT0.out.o1.alloc _) ⟨wr.heap.size + 1, 0, none⟩ 1 1 [.slice (some ⟨wr.heap.size, 0, none⟩) 1 1] rfl rfl (cell_one_next _ _ _ _) (by simp [Value.oneCell']) (by unfold maxLen; omega) (by omega) (by simp; omega) ?_)
        intro v1 w1 hown1 hg1 _ hat1
        have HT1 := Lib.hid (HT0.out.more (l := [(k : Int) - 1]) HI0.out hown1 hg1 (by rw [World.size_alloc]; exact hat1))
        have HB1 : Hid (Below w.heap.size w w1) := HB0.out.trans ((((Below.refl w.heap.size _).alloc HB0.out.size _)).grown hg1 (by have := HB0.out.size; simp at this ⊢; omega) (fun j e => (HT0.out.o1.lt j e).1))
        have hsz1 := HB1.out.size
        clear hown1 hg1 hat1
        go_wp2_with (at_builtin; refine wpList_append_own_at _ rfl _ _ 22 rfl w.heap.size 35 i0 (.slice none 0 0) 1 24 Try.underlying22 hi hz0 hz1 hz2 rfl (by decide) _ _ _ rfl (HT1.out.o2.alloc _) ⟨w1.heap.size, 0, none⟩ 1 1 [.slice none 0 0] rfl rfl (cell_one_new _ _ _) (by simp [Value.oneCell']) (by unfold maxLen; omega) (by omega) (by simp; omega) ?_)
        intro v2 w2 hown2 hg2 _ hat2
        have HT2 := Lib.hid (HT1.out.swap.more (l := []) (RowI.nil _ _) hown2 hg2 hat2).swap
        have HB2 : Hid (Below w.heap.size w w2) := HB1.out.trans ((((Below.refl w.heap.size w1).alloc (by omega) _)).grown hg2 (by simp; omega) (fun j e => (HT1.out.o2.lt j e).1))
        have HS2 : Hid (RowSt w.heap.size (k + 1) v1 v2 w2) := ⟨_, _, HT2.out, by rw [List.map_append, HE1.out, HR1.out]; rfl, by rw [List.map_append, HE2.out, aloneD_succ, rowsI_snoc']; rfl⟩
        clear hown2 hg2 hat2
        go_wp2_with fail
        go_roundw
        case rel => exact ⟨k + 1, _, _, by omega, by go_num, congrArg (Value.int .i64) HFs.out, rfl, rfl, HS2.out, HB2.out⟩
        case measure => simp [intOf]; omega
    · obtain rfl : k = n := by omega
      have hki : ¬ (k : Int) < (k : Int) := by omega
      obtain ⟨A1, c1, A2, c2, rfl, rfl, m1, m2⟩ := HS.out.mats
      obtain ⟨f1, f2, f3, f4, f5, f6⟩ := row_facts hnn c1 c2 m1 m2
      have F1 := Lib.hid f1
      have F2 := Lib.hid f2
      have F3 := Lib.hid f3
      have F4 := Lib.hid f4
      have F5 := Lib.hid f5
      have F6 := Lib.hid f6
      clear f1 f2 f3 f4 f5 f6 m1 m2 HS S0
      have hp := wrap_pow (n := k) (by omega)
      have hk64 : (k : Int) < 64 := by omega
      have hkn : ((k : Int) == (k : Int)) = true := by simp
      generalize hNN : 2 ^ k = N at *
      clear hNN
      generalize fac k = f at *
      have Hk0 : Hid (k = 0 ∨ 0 < k) := by unfold Hid; omega
      rcases Hk0.out with hz | hz
      · have z1 : ((k : Int) == 0) = true := by simp; omega
        rw [if_pos hz] at F3
        clear hz Hk0
        go_wp2_with (first
          | (go_at_call 8; refine (F1.out _ (Below.refl _ _)).mono ?_; rintro e w1 ⟨rfl, b⟩; have B1 := Lib.hid b; clear b F1)
          | (go_at_call 10; refine (F2.out _ B1.out).mono ?_; rintro e w2 ⟨rfl, b⟩; have B2 := Lib.hid (B1.out.trans (b.mono B1.out.size)); clear b F2)
          | (go_at_call 12; refine (F3.out _ B2.out).mono ?_; rintro e w3 ⟨rfl, b⟩; have B3 := Lib.hid (B2.out.trans (b.mono B2.out.size)); clear b F3)
          | (go_at_call 8; refine (F4.out _ B3.out).mono ?_; rintro e w4 ⟨rfl, b⟩; have B4 := Lib.hid (B3.out.trans (b.mono B3.out.size)); clear b F4)
          | (go_at_call 10; refine (F5.out _ B4.out).mono ?_; rintro e w5 ⟨rfl, b⟩; have B5 := Lib.hid (B4.out.trans (b.mono B4.out.size)); clear b F5)
          | (go_at_call 12; refine (F6.out _ B5.out).mono ?_; rintro e w6 ⟨rfl, b⟩; have B6 := Lib.hid (B5.out.trans (b.mono B5.out.size)); clear b F6)
          | (go_at_call 14; refine (live_any _).mono ?_; rintro e w7 ⟨rfl, b⟩; have B7 := Lib.hid (B6.out.trans (b.mono B6.out.size)); clear b))
        go_ret
        exact ⟨by simp, HB.out.trans (B7.out.mono HB.out.size)⟩
      · have z1 : ((k : Int) == 0) = false := by simp; omega
        have z2 : (0 : Int) < (k : Int) := by omega
        rw [if_neg (by omega)] at F3
        clear hz Hk0
        go_wp2_with (first
          | (go_at_call 8; refine (F1.out _ (Below.refl _ _)).mono ?_; rintro e w1 ⟨rfl, b⟩; have B1 := Lib.hid b; clear b F1)
          | (go_at_call 10; refine (F2.out _ B1.out).mono ?_; rintro e w2 ⟨rfl, b⟩; have B2 := Lib.hid (B1.out.trans (b.mono B1.out.size)); clear b F2)
          | (go_at_call 12; refine (F3.out _ B2.out).mono ?_; rintro e w3 ⟨rfl, b⟩; have B3 := Lib.hid (B2.out.trans (b.mono B2.out.size)); clear b F3)
          | (go_at_call 8; refine (F4.out _ B3.out).mono ?_; rintro e w4 ⟨rfl, b⟩; have B4 := Lib.hid (B3.out.trans (b.mono B3.out.size)); clear b F4)
          | (go_at_call 10; refine (F5.out _ B4.out).mono ?_; rintro e w5 ⟨rfl, b⟩; have B5 := Lib.hid (B4.out.trans (b.mono B4.out.size)); clear b F5)
          | (go_at_call 12; refine (F6.out _ B5.out).mono ?_; rintro e w6 ⟨rfl, b⟩; have B6 := Lib.hid (B5.out.trans (b.mono B5.out.size)); clear b F6)
          | (go_at_call 14; refine (live_any _).mono ?_; rintro e w7 ⟨rfl, b⟩; have B7 := Lib.hid (B6.out.trans (b.mono B6.out.size)); clear b))
        go_ret
        exact ⟨by simp, HB.out.trans (B7.out.mono HB.out.size)⟩
end Go.Proofs.Ythffdkoncagimaa
