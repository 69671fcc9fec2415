/- BitsetLists is true of every bytes, and leaves its argument as it is. Conditions: none. Here: the walk of the law's text. -/
import Derived.Test.YtceppcmcokkkoaaT
import Derived.WalkKit
import Derived.OpenShut
namespace Go.Proofs.Ytceppcmcokkkoaa.bitsetLists
open Go.RowKit
set_option maxRecDepth 100000 in
set_option maxHeartbeats 1000000 in
theorem walk (a0 : Option Addr) (len0 cap0 : Nat) (z0 : List Int) (w : World) (w0 : IsRow .u8 w a0 len0 cap0 z0) :
    Calls Try.prog 9 #[.slice a0 len0 cap0] w fun e w' => e = .returned (.bool true) ∧ Below w.heap.size w w' := by
  obtain ⟨l, hl, hlc, hcm, hb, hfew⟩ := few_row w0
  have hl1 : l.length ≤ 1000 := by omega
  have Hfew := Lib.hid hfew
  clear hfew w0
  have Heq := Lib.hid equal_rows
  obtain ⟨hn8, hm8⟩ := rows_facts l hl1
  have Hm8 := Lib.hid hm8
  clear hm8
  go_enter Try.func9, Try.ntmps9
  go_wp2_with fail
  refine Hfew.out.mono ?_
  rintro e w' ⟨rfl, rfl⟩
  go_wp2_with fail
  refine (runs_any _ _ l _ hl1 hb).mono ?_
  rintro e wa ⟨va, rfl, hra, hB1⟩
  obtain ⟨A1, c1, rfl, hr1⟩ := own_rows hra
  have hba := (hb.below hB1).more hB1.size
  go_wp2_with fail
  refine (refruns_any _ _ l _ hl1 hba).mono ?_
  rintro e wb ⟨vb, rfl, hrb, hB2⟩
  obtain ⟨A2, c2, rfl, hr2⟩ := own_rows hrb
  have hB02 : Below w.heap.size w wb := hB1.trans (hB2.mono hB1.size)
  obtain ⟨rs, hrs⟩ : ∃ rs, rs = rowsOf (ones l) := ⟨_, rfl⟩
  rw [← hrs] at hn8
  have Hr1 := Lib.hid hr1
  have Hr2 := Lib.hid hr2
  have Hrs := Lib.hid hrs
  rw [← hrs] at Hr1 Hr2 Hm8 ⊢
  clear hra hrb hr1 hr2 hrs
  go_wp2
  go_loopw [5] (fun i wr => ∃ k : Nat, k ≤ rs.length ∧ i = .int .i64 k ∧ Quiet wb wr) (fun i _ => rs.length - (intOf i).toNat)
  case atStart => exact ⟨0, Nat.zero_le _, rfl, 0, rfl⟩
  case round =>
    obtain ⟨k, hk, rfl, hq⟩ := hrel
    rename World => wr
    by_cases hlt : k < rs.length
    · have hlti : (k : Int) < (rs.length : Int) := by omega
      have hk0 : (0 : Int) ≤ (k : Int) := by omega
      obtain ⟨g1, rfl, _, hg1, c11, c12⟩ := Hr1.out k hlt
      obtain ⟨g2, rfl, _, hg2, c21, c22⟩ := Hr2.out k hlt
      have hlow : ∀ (o : Nat), wb.cell? ⟨g1, o, none⟩ = wa.cell? ⟨g1, o, none⟩ := fun o => hB2.cell (p := ⟨g1, o, none⟩) hg1
      obtain ⟨a, ha⟩ : ∃ a, a = rs[k].1 := ⟨_, rfl⟩
      obtain ⟨m, hm⟩ : ∃ m, m = rs[k].2 := ⟨_, rfl⟩
      rw [← ha, ← hlow, ← hq.cell] at c11
      rw [← hm, ← hlow, ← hq.cell] at c12
      rw [← ha, ← hq.cell] at c21
      rw [← hm, ← hq.cell] at c22
      have heqs : ∀ W, (Op.equalIn 10000 51 (.agg #[.int .i64 (a : Int), .int .i64 (m : Int)]) (.agg #[.int .i64 (a : Int), .int .i64 (m : Int)])).run Try.prog W = .ok true W := fun W => Heq.out a m W
      have Hq := Lib.hid hq
      clear hlow ha hm hq
      go_wp2_with fail
      go_quiet (fail)
      go_wp2
      go_roundw
      case rel => exact ⟨k + 1, by omega, by go_num, Hq.out.trans ⟨_, rfl⟩⟩
      case measure => simp [intOf]; omega
    · have hlti : ¬ (k : Int) < (rs.length : Int) := by omega
      have hbr := (hq.bts (hb.below hB02)).more (show w.heap.size ≤ wr.heap.size by have := hB02.size; have := hq.size; omega)
      have hB03 := hq.below hB02
      clear hq
      go_wp2_with fail
      refine (live_any _).mono ?_
      rintro e w3 ⟨rfl, hB3⟩
      have hb3 := (hbr.below hB3).more hB3.size
      have hB04 := hB03.trans (hB3.mono hB03.size)
      go_wp2_with fail
      refine (list_any _ _ l _ hl1 hb3).mono ?_
      rintro e w4 ⟨v4, rfl, hr4, hB4⟩
      rw [natsV_intsV] at hr4
      obtain ⟨A4, c4, rfl, _, _, hi4⟩ := own_ints hr4
      have hb4 := (hb3.below hB4).more hB4.size
      have hB05 := hB04.trans (hB4.mono hB04.size)
      clear hr4
      go_wp2_with fail
      refine (reflist_any _ _ l _ hl1 hb4).mono ?_
      rintro e w5 ⟨v5, rfl, hr5, hB5⟩
      rw [natsV_intsV] at hr5
      obtain ⟨A5, c5, rfl, _, _, hi5⟩ := own_ints hr5
      have hb5 := (hb4.below hB5).more hB5.size
      have hB06 := hB05.trans (hB5.mono hB05.size)
      have hi45 := hi4.below hB5
      clear hr5
      go_wp2_with fail
      refine (same_n A4 A5 _ _ _ _ (natsI (ones l)) _ _ _ (by simp [length_natsI]) (by simp [length_natsI]) hi45 hi5 (by rw [length_natsI]; have := length_onesTo l l.length; unfold ones; omega)).mono ?_
      rintro e w6 ⟨rfl, hq6⟩
      have hb6 := hq6.bts hb5
      have hB07 := hq6.below hB06
      go_wp2_with fail
      refine (count_any _ _ l _ _ hb6 hl1).mono ?_
      rintro e w7 ⟨rfl, rfl⟩
      go_wp2_with fail
      refine (refcount_any _ _ l _ hl1 (hb6.more (by have := hq6.size; omega))).mono ?_
      rintro e w8 ⟨rfl, hB8⟩
      go_wp2
      go_ret
      exact ⟨rfl, hB07.trans (hB8.mono hB07.size)⟩
end Go.Proofs.Ytceppcmcokkkoaa.bitsetLists
