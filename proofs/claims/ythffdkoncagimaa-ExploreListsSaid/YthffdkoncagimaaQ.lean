/- ExploreLists: where deps are right. -/
import Derived.Test.YthffdkoncagimaaO
set_option linter.unusedVariables false
set_option linter.unusedSimpArgs false
namespace Go.Proofs.Ythffdkoncagimaa
open Go.RowKit Go.Shelf
set_option maxRecDepth 100000 in
set_option maxHeartbeats 4000000 in
theorem lists_yes (a : Option Addr) (len cap : Nat) (R : List (List Int)) (A : Nat → Option Addr) (C : Nat → Nat) (w : World) (h : IsMat w a len cap R A C) (D : List (List Nat)) (hR : litR R 9 = rowsI D) (hD : Sm D) (hO : OkD D) :
    Calls Try.prog 5 #[.slice a len cap] w fun e w' => e = .returned (.bool true) ∧ Below w.heap.size w w' := by
  have HF := Lib.hid (little_any a len cap R A C 9 w h (by decide))
  obtain ⟨hb9, hb1, hb2⟩ := lit_bound R 9
  unfold LitSays at HF
  rw [hR] at HF hb9
  rw [length_rowsI] at HF hb9
  have HD := Lib.hid hD
  have HO := Lib.hid hO
  have hcl : countL (needsL D) ≤ 512 := by
    have h1 := cloTo_len (needsL D) (2 ^ (needsL D).length)
    have h2 : 2 ^ D.length ≤ 2 ^ 9 := Nat.pow_le_pow_right (by decide) hb9
    rw [length_needsL] at h1
    unfold countL
    rw [length_needsL]
    omega
  have Hal : Hid ((allL (needsL D)).length = countL (needsL D)) := by unfold Hid allL countL; simp [rowsOf]
  have HF2 : Hid (∀ k, k < countL (needsL D) → ListF D (allL (needsL D)) (cloTo (needsL D) (2 ^ (needsL D).length)) k) := fun k hk => list_facts hD hk
  obtain ⟨m, hm1, hm2⟩ := clo_last hD
  have hpl := pow_len (n := D.length) (by omega)
  have hwp := wrap_pow (n := D.length) (by omega)
  have Hm : Hid (lastV (cloTo (needsL D) (2 ^ (needsL D).length)) (countL (needsL D)) = ((2 ^ D.length - 1 : Nat) : Int)) := by
    unfold Hid; rw [hm1]; show ((el _ m : Nat) : Int) = _; rw [hm2]
  have hc1 : 1 ≤ countL (needsL D) := by omega
  have Hln : Hid (∀ k, k < countL (needsL D) → k < (allL (needsL D)).length) := fun k h => by rw [length_allL]; exact h
  clear h hb1 hb2 hR hD hO hm1 hm2 m
  go_enter Try.func5, Try.ntmps5
  go_wp2_with (first
    | (go_at_call 15; refine HF.out.mono ?_; rintro e w1 ⟨A1, c1, rfl, hM, hB⟩; have HM := Lib.hid hM; have HB := Lib.hid hB; clear hM hB)
    | (go_at_call 8; refine (pcount_yes A1 c1 D w1 HD.out HO.out HM.out).mono ?_; rintro e w2 ⟨rfl, hB2⟩; have HB2 := Lib.hid (HB.out.trans (hB2.mono HB.out.size)); have HM2 := Lib.hid (HM.out.next hB2); clear hB2)
    | (go_at_call 16; refine (all_yes A1 c1 D 4096 w2 HD.out HO.out HM2.out (by decide) (by decide) (by omega)).mono ?_; rintro e w3 ⟨A3, c3, T, rfl, hT1, hT2, hT3, hB3⟩; rw [Hal.out]; have HM3 := Lib.hid (GivesT.mat (w := w2) (c := c3) hT1 hT2 hT3); have HB3 := Lib.hid (HB2.out.trans (hB3.mono HB2.out.size)); have HMD := Lib.hid (HM2.out.next hB3); clear hB3 hT1 hT2 hT3))
  clear HF HM HB HM2 HB2
  generalize cloTo (needsL D) (2 ^ (needsL D).length) = S at *
  generalize hMM : countL (needsL D) = M at *
  generalize allL (needsL D) = R3 at *
  clear hMM
  go_loopw [8, 9] (fun v i wr => ∃ k : Nat, k ≤ M ∧ v = .int .i64 (lastV S k) ∧ i = .int .i64 k ∧ Hid (Mat wr wr.heap.size A3 R3) ∧ Hid (Mat wr wr.heap.size A1 (rowsI D)) ∧ Hid (Below w.heap.size w wr)) (fun _ i _ => M - (intOf i).toNat)
  case atStart => exact ⟨0, Nat.zero_le _, rfl, rfl, HM3, HMD, HB3⟩
  case round =>
    obtain ⟨k, hk, rfl, rfl, HMa, HMb, HBw⟩ := hrel
    rename World => wr
    have hk0 : (0 : Int) ≤ (k : Int) := by omega
    by_cases hlt : k < M
    · have hki : (k : Int) < (M : Int) := by omega
      obtain ⟨f1, f2, f3, f4⟩ := HF2.out k hlt
      obtain ⟨b, off, Ak, ck, rfl, hb, hc, hI⟩ := HMa.out.at_ (k := k) (Hln.out k hlt)
      rw [f2, length_natsI] at hc
      rw [f2] at hI
      have HI := Lib.hid hI
      have HC := Lib.hid f3
      have HS : Hid (lastV S (k + 1) = ((el S k : Nat) : Int)) := rfl
      have hle : ¬ ((el S k : Nat) : Int) ≤ lastV S k := by omega
      have HV0 := Lib.hid (needN_memb f1)
      have Hr14 : Hid (∀ d ∈ memb (el S k), d < 14) := fun d hd => (mem_memb.1 hd).1
      have hrl : (memb (el S k)).length ≤ 14 := membTo_len _ 14
      clear f1 f2 f3 f4 hI HF2
      generalize lastV S k = lv at *
      generalize el S k = s at *
      generalize memb s = r at *
      go_wp2_with (go_at_call 19; refine (closed_yes A1 c1 _ D rfl HO.out Ak ck _ (natsI r) (length_natsI _).symm (by rw [length_natsI]; omega) wr HMb.out HI.out).mono ?_; rintro e w4 ⟨rfl, hB4⟩; rw [HC.out]; have hc4 := (hB4.cell (p := ⟨b, off + k, none⟩) hb).trans hc; have HI4 := Lib.hid (HI.out.next hB4); have HMa4 := Lib.hid (HMa.out.next hB4); have HMb4 := Lib.hid (HMb.out.next hB4); have HBw4 := Lib.hid (HBw.out.trans (hB4.mono HBw.out.size)); clear hB4 hc)
      go_loopw [10, 11] (fun m j wr' => ∃ q : Nat, q ≤ r.length ∧ m = .int .i64 ((needN (r.take q) : Nat) : Int) ∧ j = .int .i64 q ∧ wr' = w4) (fun _ j _ => r.length - (intOf j).toNat)
      case atStart => exact ⟨0, Nat.zero_le _, rfl, rfl, rfl⟩
      case round =>
        obtain ⟨q, hq, rfl, rfl, rfl⟩ := hrel
        rename World => wq
        have hq0 : (0 : Int) ≤ (q : Int) := by omega
        by_cases hqt : q < r.length
        · have hqi : (q : Int) < (r.length : Int) := by omega
          obtain ⟨b2, o2, rfl, l2, c2⟩ := HI4.out.at_ (k := q) (by rw [length_natsI]; exact hqt)
          rw [nth_nats _ _ hqt] at c2
          have hd := Hr14.out _ (el_mem hqt)
          have hd0 : (0 : Int) ≤ ((el r q : Nat) : Int) := by omega
          have hd6 : ((el r q : Nat) : Int) < 64 := by omega
          have HV : Hid (bits .or .i64 ((needN (r.take q) : Nat) : Int) (wrap64 (2 ^ el r q)) = ((needN (r.take (q + 1)) : Nat) : Int)) := by
            unfold Hid
            rw [← IntWalk.i64_left, i_shor _ _ (needN_lt fun d h => Hr14.out d (List.mem_of_mem_take h)) hd, take_el _ _ hqt, needN_snoc]
          clear hd
          generalize needN (r.take q) = m at *
          generalize el r q = d at *
          go_wp2
          go_roundw
          case rel => exact ⟨q + 1, by omega, congrArg _ HV.out, by go_num, trivial⟩
          case measure => simp [intOf]; omega
        · obtain rfl : q = r.length := by omega
          have hqi : ¬ (r.length : Int) < (r.length : Int) := by omega
          rw [List.take_length, HV0.out]
          go_wp2
          go_roundw
          case rel => exact ⟨k + 1, by omega, by rw [HS.out], by go_num, HMa4, HMb4, HBw4⟩
          case measure => simp [intOf]; omega
    · obtain rfl : k = M := by omega
      have hki : ¬ (k : Int) < (k : Int) := by omega
      rw [Hm.out]
      have hpi : ((2 ^ D.length - 1 : Nat) : Int) = 2 ^ D.length - 1 := by
        have := Nat.two_pow_pos D.length
        rw [Int.natCast_sub (by omega)]; simp
      go_wp2_with (go_at_call 14; refine (live_any _).mono ?_; rintro e w5 ⟨rfl, hB5⟩; have HB5 := Lib.hid (HBw.out.trans (hB5.mono HBw.out.size)); clear hB5)
      go_ret
      exact ⟨rfl, HB5.out⟩
end Go.Proofs.Ythffdkoncagimaa
