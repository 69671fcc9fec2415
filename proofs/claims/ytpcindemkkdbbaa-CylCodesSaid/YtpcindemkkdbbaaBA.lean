/- Contract of Whole. -/
import Derived.Test.YtpcindemkkdbbaaY
namespace Go.Proofs.Ytpcindemkkdbbaa
set_option linter.unusedVariables false
set_option linter.unusedSimpArgs false
open Go.RowKit

theorem wholeL_def {l : List Cy} (h1 : 1 ≤ l.length) (h2 : l.length ≤ 16) (h : wholeTo l l.length = true) : wholeL l = true := by
  unfold wholeL; rw [decide_eq_true h1, decide_eq_true h2, h]; rfl
set_option maxRecDepth 100000 in
set_option maxHeartbeats 2000000 in
theorem whole_any (A : Option Addr) (c n : Nat) (l : List Cy) (hn : n = l.length) (w : World) (hs : SmallL l) (hI : Cyls w w.heap.size A l) :
    Calls Try.prog 31 #[.slice A n c] w fun e w' => e = .returned (.bool (wholeL l)) ∧ Below w.heap.size w w' := by
  have hn1 : n ≤ 1000 := by have := hs.1; omega
  have Hn := Lib.hid hn
  have HI := Lib.hid hI
  have HS := Lib.hid hs.2
  have H1 := Lib.hid (@wholeL_few l)
  have H2 := Lib.hid (@wholeL_many l)
  have H3 := Lib.hid (@wholeL_def l)
  clear hI hs hn
  by_cases h1 : n < 1
  · have Hf := Lib.hid (H1.out (by rw [← Hn.out]; omega))
    have h1' : (n : Int) < 1 := by omega
    go_enter Try.func31, Try.ntmps31
    go_wp2
    go_ret
    exact ⟨ret_bool Hf.out.symm, Below.refl _ _⟩
  by_cases h2 : 16 < n
  · have Hf := Lib.hid (H2.out (by rw [← Hn.out]; omega))
    have h1' : ¬ (n : Int) < 1 := by omega
    have h2' : (16 : Int) < n := by omega
    clear h1
    go_enter Try.func31, Try.ntmps31
    go_wp2
    go_ret
    exact ⟨ret_bool Hf.out.symm, Below.refl _ _⟩
  have h1' : ¬ (n : Int) < 1 := by omega
  have h2' : ¬ (16 : Int) < n := by omega
  go_enter Try.func31, Try.ntmps31
  go_wp2
  go_loopw [15] (fun i wr => ∃ k : Nat, k ≤ n ∧ i = .int .i64 k ∧ wholeTo l k = true ∧ Below w.heap.size w wr) (fun i _ => n - (intOf i).toNat)
  case atStart => exact ⟨0, Nat.zero_le _, rfl, rfl, Below.refl _ _⟩
  case round =>
    obtain ⟨k, hk, rfl, hok, hB⟩ := hrel
    rename World => wr
    have Hok := Lib.hid hok
    have HB := Lib.hid hB
    have hsz := hB.size
    clear hok
    by_cases hlt : k < n
    · have hlti : (k : Int) < (n : Int) := by omega
      have hk0 : (0 : Int) ≤ (k : Int) := by omega
      have hkl : k < l.length := by rw [← Hn.out]; exact hlt
      obtain ⟨b, off, Ak, ck, A2k, c2k, rfl, hb, hx⟩ := HI.out.at_ hkl
      replace hx := (hx.keep (w' := wr) hb (fun p hp => hB.cell hp)).more hB.size
      obtain ⟨c0, c1, c2, c3, c4, c5, c6, hU, hV⟩ := hx
      obtain ⟨s1, s2⟩ := HS.out k hkl
      have HF : Hid (∀ W, Below wr.heap.size wr W → Calls Try.prog 23 #[(cyN l k).v Ak ck A2k c2k] W fun e w' => e = .returned (.bool (rightC (cyN l k))) ∧ Below W.heap.size W w') := fun W hW => right_any (cyN l k) Ak ck A2k c2k W s1 s2 (hU.next hW) (hV.next hW)
      have Hst := Lib.hid (@wholeL_stop l k hkl)
      have Hsu := Lib.hid (wholeTo_succ l k)
      obtain ⟨x, hx⟩ : ∃ x, x = cyN l k := ⟨_, rfl⟩
      rw [← hx] at c0 c1 c2 c3 c4 c5 c6 HF Hst Hsu
      obtain ⟨r, hr⟩ : ∃ r, r = rightC x := ⟨_, rfl⟩
      rw [← hr] at HF Hst Hsu
      clear hx hr hU hV s1 s2 hkl hB
      obtain ⟨ix, bl, fb, fi, ro, us, is⟩ := x
      unfold Cy.v at HF
      simp only at c0 c1 c2 c3 c4 c5 c6 HF Hst Hsu
      obtain ⟨n1, h1⟩ : ∃ n1, n1 = us.length := ⟨_, rfl⟩
      obtain ⟨n2, h2⟩ : ∃ n2, n2 = is.length := ⟨_, rfl⟩
      rw [← h1] at c5 HF
      rw [← h2] at c6 HF
      clear h1 h2
      by_cases hix : ix = k
      · subst hix
        cases r with
        | false =>
          have Hf := Lib.hid (Hst.out (by simp))
          go_wp2_with fail
          refine (HF.out _ ((Below.refl _ wr).alloc (Nat.le_refl _) _)).mono ?_
          rintro e w3 ⟨rfl, hB3⟩
          have HB3 := Lib.hid ((HB.out.alloc hsz (.cells #[.int .i64 k, .int .i64 bl, .int .i64 fb, .int .i64 fi, .int .i64 ro, .slice Ak n1 ck, .slice A2k n2 c2k] 24)).trans (hB3.mono (by simp; omega)))
          clear hB3
          go_wp2_with fail
          go_ret
          exact ⟨ret_bool Hf.out.symm, HB3.out⟩
        | true =>
          go_wp2_with fail
          refine (HF.out _ ((Below.refl _ wr).alloc (Nat.le_refl _) _)).mono ?_
          rintro e w3 ⟨rfl, hB3⟩
          have HB3 := Lib.hid ((HB.out.alloc hsz (.cells #[.int .i64 k, .int .i64 bl, .int .i64 fb, .int .i64 fi, .int .i64 ro, .slice Ak n1 ck, .slice A2k n2 c2k] 24)).trans (hB3.mono (by simp; omega)))
          clear hB3
          go_wp2_with fail
          go_roundw
          case rel => exact ⟨k + 1, by omega, by go_num, by rw [Hsu.out, Hok.out]; simp, HB3.out⟩
          case measure => simp [intOf]; omega
      · have Hf := Lib.hid (Hst.out (by simp [hix]))
        have hne : (ix == (k : Int)) = false := by simpa using hix
        have hne2 : (ix != (k : Int)) = true := by simpa using hix
        have HB3 := Lib.hid (HB.out.alloc hsz (.cells #[.int .i64 ix, .int .i64 bl, .int .i64 fb, .int .i64 fi, .int .i64 ro, .slice Ak n1 ck, .slice A2k n2 c2k] 24))
        clear hix
        go_wp2_with fail
        go_ret
        exact ⟨ret_bool Hf.out.symm, HB3.out⟩
    · have hlti : ¬ (k : Int) < (n : Int) := by omega
      obtain rfl : k = n := by omega
      have Hf := Lib.hid (H3.out (by rw [← Hn.out]; omega) (by rw [← Hn.out]; omega) (by rw [← Hn.out]; exact Hok.out))
      clear hB
      go_wp2_with fail
      go_ret
      exact ⟨ret_bool Hf.out.symm, HB.out⟩
end Go.Proofs.Ytpcindemkkdbbaa
