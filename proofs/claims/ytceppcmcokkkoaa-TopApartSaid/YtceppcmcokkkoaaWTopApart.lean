/- TopApart is true of every bytes, and leaves its argument as it is. Conditions: none. Here: the walk of the law's text. -/
import Derived.Test.YtceppcmcokkkoaaU
import Derived.Test.YtceppcmcokkkoaaFF
import Derived.WalkKit
import Derived.OpenShut
namespace Go.Proofs.Ytceppcmcokkkoaa.topApart
open Go.RowKit
set_option maxRecDepth 100000 in
set_option maxHeartbeats 1000000 in
theorem walk (a0 : Option Addr) (len0 cap0 : Nat) (z0 : List Int) (w : World) (w0 : IsRow .u8 w a0 len0 cap0 z0) :
    Calls Try.prog 17 #[.slice a0 len0 cap0] w fun e w' => e = .returned (.bool true) ∧ Below w.heap.size w w' := by
  obtain ⟨l, n, hl, hnl, hnc, hcm, hb, hlt8, hcase⟩ : ∃ l : List Int, ∃ n : Nat, l.length ≤ 8 ∧ n = l.length ∧ n ≤ cap0 ∧ cap0 ≤ maxLen ∧ Bts w w.heap.size a0 l ∧ len0 ≤ cap0 ∧ ((8 < len0 ∧ n = 8) ∨ (¬ 8 < len0 ∧ n = len0)) := by
    obtain ⟨h1, h2, h3, h4⟩ := w0.bts
    by_cases h : 8 < len0
    · exact ⟨(z0.take len0).take 8, 8, by simp; omega, by rw [List.length_take, h4]; omega, by omega, h2, h3.take 8, h1, .inl ⟨h, rfl⟩⟩
    · exact ⟨z0.take len0, len0, by omega, h4.symm, h1, h2, h3, h1, .inr ⟨h, rfl⟩⟩
  have hl1 : l.length ≤ 1000 := by omega
  have hok := rows_ok (ones l) (ones_rising l)
  obtain ⟨rs, hrs⟩ : ∃ rs, rs = rowsOf (ones l) := ⟨_, rfl⟩
  have ho8 : (ones l).length ≤ 64 := by have := length_onesTo l l.length; unfold ones; omega
  have hn8 : rs.length ≤ 64 := by
    have := (rowing_facts (ones l)).1
    rw [hrs]; unfold rowsOf; omega
  have hrow : ∀ k (hk : k < rs.length), 1 ≤ rs[k].2 ∧ rs[k].1 + rs[k].2 ≤ 64 := by
    intro k hk
    rw [← hrs] at hok
    have h1 := hok.pos _ (List.getElem_mem hk)
    refine ⟨h1, ?_⟩
    have := (mem_ones (hok.mem _ (List.getElem_mem hk) (rs[k].1 + rs[k].2 - 1) (by omega) (by omega))).2
    omega
  have Hrow := Lib.hid hrow
  have Hrs := Lib.hid hrs
  have hruns : ∀ W, Below w.heap.size w W → W = w → Calls Try.prog 36 #[.slice a0 n cap0] W fun e W' => ∃ v, e = .returned v ∧ W'.ownsRow W.heap.size 51 2 v rs.length (rowsV rs) ∧ Below W.heap.size W W' := by
    rintro W _ rfl
    rw [hrs, hnl]
    exact runs_any a0 cap0 l _ hl1 hb
  have Hruns := Lib.hid (hruns w (Below.refl _ _) rfl)
  have hway1 : ∀ W, Calls Try.prog 29 #[plV 0 64, .complex .f64 4607182418800017408 4607182418800017408] W fun e w' => e = .returned (.int .i64 2) ∧ W = w' := by
    intro W
    have h := way_any 0 0 1 1 (by decide) (by decide) (by decide) (by decide) W
    have e : pt ((1 : Nat) : Int) ((1 : Nat) : Int) = .complex .f64 4607182418800017408 4607182418800017408 := by
      show Value.complex .f64 (fl 1) (fl 1) = _
      rw [fl_1]
    rw [e] at h
    exact h
  have hAt := fun W => at_of 0 64 0 64 rfl rfl (by decide) (by decide) (by decide) W
  obtain ⟨xi, yi, hpi⟩ := plV_form 0 64
  rw [hpi] at hway1 hAt
  have Hway1 := Lib.hid hway1
  have HAt := Lib.hid hAt
  unfold maxLen at hcm
  have hci : (len0 : Int) ≤ (cap0 : Int) := by omega
  clear hrow hok hrs ho8 hruns hway1 hAt hpi hb w0 hnl hl hl1
  rcases hcase with ⟨h8, rfl⟩ | ⟨h8, rfl⟩
  · have h8i : (8 : Int) < (len0 : Int) := by omega
    go_enter Try.func17, Try.ntmps17
    go_wp2_with fail
    refine Hruns.out.mono ?_
    rintro e wa ⟨va, rfl, hra, hB1⟩
    obtain ⟨A1, c1, rfl, hr1⟩ := own_rows hra
    have Hr1 := Lib.hid hr1
    clear hra hr1
    go_wp2_with fail
    refine (HAt.out _).mono ?_
    rintro e wb ⟨rfl, hq0⟩
    have HQ0 := Lib.hid hq0
    go_wp2_with fail
    refine (Hway1.out _).mono ?_
    rintro e w' ⟨rfl, rfl⟩
    go_wp2
    go_loopw [6] (fun i wr => ∃ k : Nat, k ≤ rs.length ∧ i = .int .i64 k ∧ Quiet wa wr) (fun i _ => rs.length - (intOf i).toNat)
    case atStart => exact ⟨0, Nat.zero_le _, rfl, HQ0.out⟩
    case round =>
      obtain ⟨k, hk, rfl, hq⟩ := hrel
      rename World => wr
      by_cases hlt : k < rs.length
      · have hlti : (k : Int) < (rs.length : Int) := by omega
        have hk0 : (0 : Int) ≤ (k : Int) := by omega
        obtain ⟨g1, rfl, _, hg1, c11, c12⟩ := Hr1.out k hlt
        obtain ⟨m1, m2⟩ := Hrow.out k hlt
        obtain ⟨a, ha⟩ : ∃ a, a = rs[k].1 := ⟨_, rfl⟩
        obtain ⟨m, hm⟩ : ∃ m, m = rs[k].2 := ⟨_, rfl⟩
        rw [← ha] at m2
        rw [← hm] at m1 m2
        rw [← ha] at c11
        rw [← hm] at c12
        clear ha hm
        have Hq := Lib.hid hq
        have d11 : wr.cell? ⟨g1, k * 2, none⟩ = some (.int .i64 (a : Int)) := (hq.cell _).trans c11
        clear hq
        obtain ⟨b, hb⟩ : ∃ b, b = a + m - 1 := ⟨_, rfl⟩
        have eb : (a : Int) + m - 1 = (b : Int) := by omega
        obtain ⟨xa, ya, hpa⟩ := plV_form a 64
        obtain ⟨xb, yb, hpb⟩ := plV_form b 64
        have Aa := Lib.hid (fun W => at_of (a : Int) 64 a 64 rfl rfl (by omega) (by decide) (by decide) W)
        have Ab := Lib.hid (fun W => at_of ((a : Int) + m - 1) 64 b 64 eb rfl (by omega) (by decide) (by decide) W)
        have Wab := Lib.hid (fun W => way_of a b 64 (by omega) (by omega) (by decide) (by decide) W)
        have hfar : far a b 64 = m - 1 := by unfold far; omega
        have e2 : (((m - 1 : Nat)) : Int) = (m : Int) - 1 := by omega
        rw [hfar, e2] at Wab
        rw [hpa] at Aa Wab
        rw [hpb] at Ab Wab
        have ma : (a : Int) ≤ 63 := by omega
        have mm : (m : Int) ≤ 64 := by omega
        have mm1 : (1 : Int) ≤ (m : Int) := by omega
        have hw1 : IntKind.i64.wrap ((a : Int) + (m : Int)) = (a : Int) + (m : Int) := IntWalk.i64_in _ (by omega)
        have hw2 : IntKind.i64.wrap ((a : Int) + (m : Int) - 1) = (a : Int) + (m : Int) - 1 := IntWalk.i64_in _ (by omega)
        have hw3 : IntKind.i64.wrap ((m : Int) - 1) = (m : Int) - 1 := IntWalk.i64_in _ (by omega)
        clear hb eb hpa hpb hfar e2
        go_wp2_with fail
        refine (Aa.out _).mono ?_
        rintro e wc ⟨rfl, hq1⟩
        clear d11
        have HQ1 := Lib.hid (Hq.out.trans2 hq1)
        have d11 : wc.cell? ⟨g1, k * 2, none⟩ = some (.int .i64 (a : Int)) := (HQ1.out.cell _).trans c11
        have d12 : wc.cell? ⟨g1, k * 2 + 1, none⟩ = some (.int .i64 (m : Int)) := (HQ1.out.cell _).trans c12
        go_wp2_with fail
        go_quiet ((go_at_call 27; exact Calls.quiet_of (Ab.out _)))
        have HQ2 : Hid (Quiet wa (wc.drewN nq)) := HQ1.out.trans2 ⟨nq, rfl⟩
        generalize wc.drewN nq = wd at *
        have d12 : wd.cell? ⟨g1, k * 2 + 1, none⟩ = some (.int .i64 (m : Int)) := (HQ2.out.cell _).trans c12
        go_wp2_with fail
        go_quiet ((go_at_call 29; exact quiet_left (Wab.out _)))
        have HQ3 : Hid (Quiet wa (wd.drewN nq)) := HQ2.out.trans2 ⟨nq, rfl⟩
        generalize wd.drewN nq = we at *
        go_wp2
        go_roundw
        case rel => exact ⟨k + 1, by omega, by go_num, HQ3.out⟩
        case measure => simp [intOf]; omega
      · have hlti : ¬ (k : Int) < (rs.length : Int) := by omega
        go_wp2
        go_ret
        exact ⟨rfl, hq.below hB1⟩
  · have h8i : ¬ (8 : Int) < (n : Int) := by omega
    have h8d : decide ((8 : Int) < (n : Int)) = false := by simp; omega
    go_enter Try.func17, Try.ntmps17
    go_wp2_with fail
    refine Hruns.out.mono ?_
    rintro e wa ⟨va, rfl, hra, hB1⟩
    obtain ⟨A1, c1, rfl, hr1⟩ := own_rows hra
    have Hr1 := Lib.hid hr1
    clear hra hr1
    go_wp2_with fail
    refine (HAt.out _).mono ?_
    rintro e wb ⟨rfl, hq0⟩
    have HQ0 := Lib.hid hq0
    go_wp2_with fail
    refine (Hway1.out _).mono ?_
    rintro e w' ⟨rfl, rfl⟩
    go_wp2
    go_loopw [6] (fun i wr => ∃ k : Nat, k ≤ rs.length ∧ i = .int .i64 k ∧ Quiet wa wr) (fun i _ => rs.length - (intOf i).toNat)
    case atStart => exact ⟨0, Nat.zero_le _, rfl, HQ0.out⟩
    case round =>
      obtain ⟨k, hk, rfl, hq⟩ := hrel
      rename World => wr
      by_cases hlt : k < rs.length
      · have hlti : (k : Int) < (rs.length : Int) := by omega
        have hk0 : (0 : Int) ≤ (k : Int) := by omega
        obtain ⟨g1, rfl, _, hg1, c11, c12⟩ := Hr1.out k hlt
        obtain ⟨m1, m2⟩ := Hrow.out k hlt
        obtain ⟨a, ha⟩ : ∃ a, a = rs[k].1 := ⟨_, rfl⟩
        obtain ⟨m, hm⟩ : ∃ m, m = rs[k].2 := ⟨_, rfl⟩
        rw [← ha] at m2
        rw [← hm] at m1 m2
        rw [← ha] at c11
        rw [← hm] at c12
        clear ha hm
        have Hq := Lib.hid hq
        have d11 : wr.cell? ⟨g1, k * 2, none⟩ = some (.int .i64 (a : Int)) := (hq.cell _).trans c11
        clear hq
        obtain ⟨b, hb⟩ : ∃ b, b = a + m - 1 := ⟨_, rfl⟩
        have eb : (a : Int) + m - 1 = (b : Int) := by omega
        obtain ⟨xa, ya, hpa⟩ := plV_form a 64
        obtain ⟨xb, yb, hpb⟩ := plV_form b 64
        have Aa := Lib.hid (fun W => at_of (a : Int) 64 a 64 rfl rfl (by omega) (by decide) (by decide) W)
        have Ab := Lib.hid (fun W => at_of ((a : Int) + m - 1) 64 b 64 eb rfl (by omega) (by decide) (by decide) W)
        have Wab := Lib.hid (fun W => way_of a b 64 (by omega) (by omega) (by decide) (by decide) W)
        have hfar : far a b 64 = m - 1 := by unfold far; omega
        have e2 : (((m - 1 : Nat)) : Int) = (m : Int) - 1 := by omega
        rw [hfar, e2] at Wab
        rw [hpa] at Aa Wab
        rw [hpb] at Ab Wab
        have ma : (a : Int) ≤ 63 := by omega
        have mm : (m : Int) ≤ 64 := by omega
        have mm1 : (1 : Int) ≤ (m : Int) := by omega
        have hw1 : IntKind.i64.wrap ((a : Int) + (m : Int)) = (a : Int) + (m : Int) := IntWalk.i64_in _ (by omega)
        have hw2 : IntKind.i64.wrap ((a : Int) + (m : Int) - 1) = (a : Int) + (m : Int) - 1 := IntWalk.i64_in _ (by omega)
        have hw3 : IntKind.i64.wrap ((m : Int) - 1) = (m : Int) - 1 := IntWalk.i64_in _ (by omega)
        clear hb eb hpa hpb hfar e2
        go_wp2_with fail
        refine (Aa.out _).mono ?_
        rintro e wc ⟨rfl, hq1⟩
        clear d11
        have HQ1 := Lib.hid (Hq.out.trans2 hq1)
        have d11 : wc.cell? ⟨g1, k * 2, none⟩ = some (.int .i64 (a : Int)) := (HQ1.out.cell _).trans c11
        have d12 : wc.cell? ⟨g1, k * 2 + 1, none⟩ = some (.int .i64 (m : Int)) := (HQ1.out.cell _).trans c12
        go_wp2_with fail
        go_quiet ((go_at_call 27; exact Calls.quiet_of (Ab.out _)))
        have HQ2 : Hid (Quiet wa (wc.drewN nq)) := HQ1.out.trans2 ⟨nq, rfl⟩
        generalize wc.drewN nq = wd at *
        have d12 : wd.cell? ⟨g1, k * 2 + 1, none⟩ = some (.int .i64 (m : Int)) := (HQ2.out.cell _).trans c12
        go_wp2_with fail
        go_quiet ((go_at_call 29; exact quiet_left (Wab.out _)))
        have HQ3 : Hid (Quiet wa (wd.drewN nq)) := HQ2.out.trans2 ⟨nq, rfl⟩
        generalize wd.drewN nq = we at *
        go_wp2
        go_roundw
        case rel => exact ⟨k + 1, by omega, by go_num, HQ3.out⟩
        case measure => simp [intOf]; omega
      · have hlti : ¬ (k : Int) < (rs.length : Int) := by omega
        go_wp2
        go_ret
        exact ⟨rfl, hq.below hB1⟩
end Go.Proofs.Ytceppcmcokkkoaa.topApart
