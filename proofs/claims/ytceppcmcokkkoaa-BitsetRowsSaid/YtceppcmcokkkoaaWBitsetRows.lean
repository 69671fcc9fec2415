/- BitsetRows is true of every bytes, and leaves its argument as it is. Conditions: none. Here: the walk of the law's text. -/
import Derived.Test.YtceppcmcokkkoaaU
import Derived.WalkKit
import Derived.OpenShut
namespace Go.Proofs.Ytceppcmcokkkoaa.bitsetRows
open Go.RowKit
set_option maxRecDepth 100000 in
set_option maxHeartbeats 1000000 in
theorem walk (a0 : Option Addr) (len0 cap0 : Nat) (z0 : List Int) (w : World) (w0 : IsRow .u8 w a0 len0 cap0 z0) :
    Calls Try.prog 14 #[.slice a0 len0 cap0] w fun e w' => e = .returned (.bool true) ∧ Below w.heap.size w w' := by
  obtain ⟨l, hl, hlc, hcm, hb, hfew⟩ := few_row w0
  have hl1 : l.length ≤ 1000 := by omega
  have Hfew := Lib.hid hfew
  clear hfew w0
  have hok := rows_ok (ones l) (ones_rising l)
  have ho8 : (ones l).length ≤ 640 := by have := length_onesTo l l.length; unfold ones; omega
  obtain ⟨rs, hrs⟩ : ∃ rs, rs = rowsOf (ones l) := ⟨_, rfl⟩
  have hn8 : rs.length ≤ 640 := by
    have := (rowing_facts (ones l)).1
    rw [hrs]; unfold rowsOf; omega
  have hm8 : ∀ k (hk : k < rs.length), 1 ≤ rs[k].2 ∧ rs[k].2 ≤ 640 := by
    intro k hk
    rw [← hrs] at hok
    refine ⟨hok.pos _ (List.getElem_mem hk), ?_⟩
    have := sum_le_of_mem (List.mem_map.2 ⟨rs[k], List.getElem_mem hk, rfl⟩ : rs[k].2 ∈ rs.map (·.2))
    rw [hok.sum] at this
    omega
  have hbit : ∀ k (hk : k < rs.length) j, j < rs[k].2 → bitN l (rs[k].1 + j) = true ∧ rs[k].1 + j < 8 * l.length := by
    intro k hk j hj
    rw [← hrs] at hok
    exact mem_ones (hok.mem _ (List.getElem_mem hk) _ (by omega) (by omega))
  have hap : ∀ k (hk : k + 1 < rs.length), rs[k].1 + rs[k].2 < rs[k + 1].1 := by
    rw [← hrs] at hok
    exact pair_at hok.apart
  have hsum : (rs.map (·.2)).sum = (ones l).length := by rw [hrs]; exact hok.sum
  have Hm8 := Lib.hid hm8
  have Hbit := Lib.hid hbit
  have Hap := Lib.hid hap
  have Hsum := Lib.hid hsum
  have Hrs := Lib.hid hrs
  clear hm8 hbit hap hsum hok hrs
  go_enter Try.func14, Try.ntmps14
  go_wp2_with fail
  refine Hfew.out.mono ?_
  rintro e w' ⟨rfl, rfl⟩
  go_wp2_with fail
  refine (runs_any _ _ l _ hl1 hb).mono ?_
  rintro e wa ⟨va, rfl, hra, hB1⟩
  rw [← Hrs.out] at hra
  obtain ⟨A1, c1, rfl, hr1⟩ := own_rows hra
  have hba := (hb.below hB1).more hB1.size
  have Hr1 := Lib.hid hr1
  clear hra hr1
  go_wp2
  go_loopw [4, 5] (fun t i wr => ∃ k : Nat, k ≤ rs.length ∧ i = .int .i64 k ∧ t = .int .i64 (((rs.map (·.2)).take k).sum : Nat) ∧ Quiet wa wr) (fun _ i _ => rs.length - (intOf i).toNat)
  case atStart => exact ⟨0, Nat.zero_le _, rfl, rfl, 0, rfl⟩
  case round =>
    obtain ⟨k, hk, rfl, rfl, hq⟩ := hrel
    rename World => wr
    have htot : ((rs.map (·.2)).take k).sum ≤ 640 := by
      have := sum_take_le (rs.map (·.2)) k
      rw [Hsum.out] at this
      omega
    by_cases hlt : k < rs.length
    · have hlti : (k : Int) < (rs.length : Int) := by omega
      have hk0 : (0 : Int) ≤ (k : Int) := by omega
      obtain ⟨g1, rfl, _, hg1, c11, c12⟩ := Hr1.out k hlt
      have hss : ((rs.map (·.2)).take (k + 1)).sum = ((rs.map (·.2)).take k).sum + rs[k].2 := by
        rw [take_snoc' _ k (by simpa using hlt), List.sum_append]; simp
      obtain ⟨m1, m2⟩ := Hm8.out k hlt
      have hbk := Hbit.out k hlt
      obtain ⟨a, ha⟩ : ∃ a, a = rs[k].1 := ⟨_, rfl⟩
      obtain ⟨m, hm⟩ : ∃ m, m = rs[k].2 := ⟨_, rfl⟩
      rw [← ha, ← hq.cell] at c11
      rw [← hm, ← hq.cell] at c12
      rw [← hm] at hss m1 m2
      rw [← ha, ← hm] at hbk
      have ha640 : a < 640 := by have := (hbk 0 (by omega)).2; omega
      have Hss := Lib.hid hss
      have Hbk := Lib.hid hbk
      have Ha := Lib.hid ha
      clear hss hbk hm ha
      obtain ⟨tot, htt⟩ : ∃ tot, tot = ((rs.map (·.2)).take k).sum := ⟨_, rfl⟩
      rw [← htt] at htot Hss ⊢
      have Htt := Lib.hid htt
      clear htt
      have hmi : (m : Int) ≤ 640 := by omega
      have hm1i : ¬ (m : Int) < 1 := by omega
      have hm1d : decide ((m : Int) < 1) = false := by simp; omega
      have hai : (a : Int) < 640 := by omega
      have hti : (tot : Int) ≤ 640 := by omega
      have hbr := hq.bts hba
      have hQ0 : Hid (Quiet wa wr) := hq
      rcases k with _ | j
      · have c11' : wr.cell? ⟨g1, 0, none⟩ = some (.int .i64 (a : Int)) := by simpa using c11
        have c12' : wr.cell? ⟨g1, 1, none⟩ = some (.int .i64 (m : Int)) := by simpa using c12
        have Hq := Lib.hid hq
        clear hq
        go_wp2_with fail
        go_quiet (fail)
        have HQX : Hid (Quiet wa (wr.drewN nq)) := Hq.out.trans ⟨nq, rfl⟩
        generalize wr.drewN nq = wx at *
        go_wp2
        have hax : Hid (Quiet wa wx) := HQX
        go_loopw [6] (fun y wy => ∃ k2 : Nat, k2 ≤ m ∧ y = .int .i64 k2 ∧ Quiet wa wy) (fun y _ => m - (intOf y).toNat)
        case atStart => exact ⟨0, Nat.zero_le _, rfl, hax.out⟩
        case round =>
          obtain ⟨k2, hk2, rfl, hq2⟩ := hrel
          rename World => wy
          have e11 : wy.cell? ⟨g1, 0, none⟩ = some (.int .i64 (a : Int)) := (hq2.cell _).trans ((hQ0.out.cell _).symm.trans c11')
          have e12 : wy.cell? ⟨g1, 1, none⟩ = some (.int .i64 (m : Int)) := (hq2.cell _).trans ((hQ0.out.cell _).symm.trans c12')
          have hby := hq2.bts hba
          have Hq2 := Lib.hid hq2
          clear hq2
          by_cases h2 : k2 < m
          · have h2i : (k2 : Int) < (m : Int) := by omega
            have h2t : (k2 : Int) < 1000 := by omega
            obtain ⟨b1, b2⟩ := Hbk.out k2 h2
            have Hb1 := Lib.hid b1
            clear b1
            go_wp2_with (go_at_call 34; refine (get_sum _ _ l a k2 _ _ hby hl1 (by omega) Hb1.out).mono ?_; rintro e w7 ⟨rfl, hq7⟩)
            go_roundw
            case rel => exact ⟨k2 + 1, by omega, by go_num, Hq2.out.trans hq7⟩
            case measure => simp [intOf]; omega
          · have h2i : ¬ (k2 : Int) < (m : Int) := by omega
            go_wp2
            go_roundw
            case rel => exact ⟨0 + 1, by omega, by go_num, by rw [Hss.out]; go_num, Hq2.out⟩
            case measure => simp [intOf]; omega
      · have c11' : wr.cell? ⟨g1, (j + 1) * 2, none⟩ = some (.int .i64 (a : Int)) := c11
        have c12' : wr.cell? ⟨g1, (j + 1) * 2 + 1, none⟩ = some (.int .i64 (m : Int)) := c12
        obtain ⟨g2, e2, _, _, c21, c22⟩ := Hr1.out j (by omega)
        injection e2 with e2; injection e2 with e2 _; subst e2
        have hlt2 := Hap.out j hlt
        obtain ⟨n1, n2⟩ := Hm8.out j (by omega)
        have hbj := (Hbit.out j (by omega) 0 (by omega)).2
        obtain ⟨a', ha'⟩ : ∃ a', a' = rs[j].1 := ⟨_, rfl⟩
        obtain ⟨m', hm'⟩ : ∃ m', m' = rs[j].2 := ⟨_, rfl⟩
        rw [← ha', ← hq.cell] at c21
        rw [← hm', ← hq.cell] at c22
        rw [← Ha.out, ← ha', ← hm'] at hlt2
        rw [← hm'] at n1 n2
        rw [← ha'] at hbj
        have Hq := Lib.hid hq
        have hai' : (a' : Int) < 640 := by omega
        have hmi' : (m' : Int) ≤ 640 := by omega
        have hfd : decide ((a : Int) ≤ (a' : Int) + (m' : Int)) = false := by simp; omega
        have hwj : IntKind.i64.wrap (j : Int) = (j : Int) := IntWalk.i64_in _ (by omega)
        have hwa : IntKind.i64.wrap ((a' : Int) + (m' : Int)) = (a' : Int) + (m' : Int) := IntWalk.i64_in _ (by omega)
        have hj0 : (0 : Int) ≤ (j : Int) := by omega
        have hjp : (0 : Int) < (j : Int) + 1 := by omega
        have hjl : (j : Int) < (rs.length : Int) := by omega
        clear hq ha' hm' hlt2
        go_wp2_with fail
        go_quiet (fail)
        have HQX : Hid (Quiet wa (wr.drewN nq)) := Hq.out.trans ⟨nq, rfl⟩
        generalize wr.drewN nq = wx at *
        go_wp2
        have hax : Hid (Quiet wa wx) := HQX
        go_loopw [6] (fun y wy => ∃ k2 : Nat, k2 ≤ m ∧ y = .int .i64 k2 ∧ Quiet wa wy) (fun y _ => m - (intOf y).toNat)
        case atStart => exact ⟨0, Nat.zero_le _, rfl, hax.out⟩
        case round =>
          obtain ⟨k2, hk2, rfl, hq2⟩ := hrel
          rename World => wy
          have e11 : wy.cell? ⟨g1, (j + 1) * 2, none⟩ = some (.int .i64 (a : Int)) := (hq2.cell _).trans ((hQ0.out.cell _).symm.trans c11')
          have e12 : wy.cell? ⟨g1, (j + 1) * 2 + 1, none⟩ = some (.int .i64 (m : Int)) := (hq2.cell _).trans ((hQ0.out.cell _).symm.trans c12')
          have hby := hq2.bts hba
          have Hq2 := Lib.hid hq2
          clear hq2
          by_cases h2 : k2 < m
          · have h2i : (k2 : Int) < (m : Int) := by omega
            have h2t : (k2 : Int) < 1000 := by omega
            obtain ⟨b1, b2⟩ := Hbk.out k2 h2
            have Hb1 := Lib.hid b1
            clear b1
            go_wp2_with (go_at_call 34; refine (get_sum _ _ l a k2 _ _ hby hl1 (by omega) Hb1.out).mono ?_; rintro e w7 ⟨rfl, hq7⟩)
            go_roundw
            case rel => exact ⟨k2 + 1, by omega, by go_num, Hq2.out.trans hq7⟩
            case measure => simp [intOf]; omega
          · have h2i : ¬ (k2 : Int) < (m : Int) := by omega
            go_wp2
            go_roundw
            case rel => exact ⟨j + 1 + 1, by omega, by go_num, by rw [Hss.out]; go_num, Hq2.out⟩
            case measure => simp [intOf]; omega
    · obtain rfl : k = rs.length := by omega
      have e : ((rs.map (·.2)).take rs.length).sum = (ones l).length := by
        rw [List.take_of_length_le (by simp), Hsum.out]
      rw [e]
      have hlti : ¬ (rs.length : Int) < (rs.length : Int) := by omega
      have hbr := (hq.bts hba).more (show wa.heap.size ≤ wr.heap.size from Nat.le_of_eq hq.size.symm)
      have hB2 := hq.below hB1
      clear hq e htot
      go_wp2_with fail
      refine (live_any _).mono ?_
      rintro e w3 ⟨rfl, hB3⟩
      have hb3 := hbr.below hB3
      go_wp2_with fail
      refine (count_any _ _ l _ _ hb3 hl1).mono ?_
      rintro e w4 ⟨rfl, rfl⟩
      go_wp2
      go_ret
      exact ⟨rfl, hB2.trans (hB3.mono hB2.size)⟩
end Go.Proofs.Ytceppcmcokkkoaa.bitsetRows
