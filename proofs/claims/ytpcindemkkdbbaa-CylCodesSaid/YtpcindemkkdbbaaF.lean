/- Contract of the document's rising. -/
import Derived.Test.YtpcindemkkdbbaaE
namespace Go.Proofs.Ytpcindemkkdbbaa
set_option linter.unusedVariables false
set_option linter.unusedSimpArgs false
open Go.RowKit

set_option maxRecDepth 100000 in
set_option maxHeartbeats 1000000 in
theorem rising_any (A : Option Addr) (c n : Nat) (l : List Int) (m : Int) (hn : n = l.length) (w : World) (hl : l.length ≤ 100000) (hI : Ints w w.heap.size A l) :
    Calls Try.prog 52 #[.slice A n c, .int .i64 m] w fun e w' => e = .returned (.bool (rises m l)) ∧ ∃ q, w' = w.drewN q := by
  have Hn := Lib.hid hn
  have HI := Lib.hid hI
  have hn1 : n ≤ 100000 := by omega
  have Hall : Hid (risesTo m l n = true → rises m l = true) := by unfold Hid; rw [hn]; exact fun h => h
  clear hI hn hl
  go_enter Try.func52, Try.ntmps52
  go_wp2
  go_loopw [5] (fun i wr => ∃ k : Nat, k ≤ n ∧ i = .int .i64 k ∧ risesTo m l k = true ∧ ∃ q, wr = w.drewN q) (fun i _ => n - (intOf i).toNat)
  case atStart => exact ⟨0, Nat.zero_le _, rfl, rfl, 0, rfl⟩
  case round =>
    obtain ⟨k, hk, rfl, hok, q0, hq0⟩ := hrel
    rename World => wr
    have Hok := Lib.hid hok
    have hB : Below w.heap.size w wr := by rw [hq0]; exact bdn (Below.refl _ _) _
    have HQ : Hid (∀ n, ∃ q, wr.drewN n = w.drewN q) := fun n => ⟨q0 + n, by rw [hq0, World.drewN_drewN]⟩
    have HQ0 : Hid (∃ q, wr = w.drewN q) := ⟨q0, hq0⟩
    clear hq0
    by_cases hlt : k < n
    · have hlti : (k : Int) < (n : Int) := by omega
      have hk0 : (0 : Int) ≤ (k : Int) := by omega
      have hkl : k < l.length := by rw [← Hn.out]; exact hlt
      obtain ⟨b, off, rfl, hb, hc⟩ := HI.out (by omega)
      have hc1 : wr.cell? ⟨b, off + k, none⟩ = some (.int .i64 (nth l k)) := (hB.cell (p := ⟨b, off + k, none⟩) hb).trans (hc k hkl)
      have Hst := Lib.hid (@rises_stop m l k hkl)
      have Hsu := Lib.hid (risesTo_succ m l k)
      by_cases h0 : k = 0
      · have Hte : Hid (riseAt m l k = decide (0 ≤ nth l k ∧ nth l k < m)) := by show _ = _; unfold riseAt; simp [h0]
        have hk1 : decide (0 < k) = false := decide_eq_false (by omega)
        have hk2 : ¬ 0 < k := by omega
        obtain ⟨x, hx⟩ : ∃ x, x = nth l k := ⟨_, rfl⟩
        rw [← hx] at hc1 Hte
        clear hx hok hkl hc hB h0
        by_cases h1 : x < 0
        · have Hf := Lib.hid (Hst.out (by rw [Hte.out]; exact decide_eq_false (by omega)))
          have h1' : decide (x < 0) = true := decide_eq_true h1
          go_wp2
          go_quiet (fail)
          go_wp2
          go_ret
          exact ⟨ret_bool Hf.out.symm, HQ.out _⟩
        · have h1' : decide (x < 0) = false := decide_eq_false h1
          have h1i : 0 ≤ x := by omega
          clear h1
          by_cases h2 : x < m
          · have h2' : decide (m ≤ x) = false := decide_eq_false (by omega)
            have Ht := Lib.hid (Hte.out.trans (decide_eq_true ⟨h1i, h2⟩))
            go_wp2
            go_quiet (fail)
            go_wp2
            go_roundw
            case rel => exact ⟨k + 1, by omega, by go_num, by rw [Hsu.out, Hok.out, Ht.out]; rfl, HQ.out _⟩
            case measure => simp [intOf]; omega
          · have Hf := Lib.hid (Hst.out (by rw [Hte.out]; exact decide_eq_false (by omega)))
            have h2i : m ≤ x := by omega
            have h2' : decide (m ≤ x) = true := decide_eq_true h2i
            clear h2
            go_wp2
            go_quiet (fail)
            go_wp2
            go_ret
            exact ⟨ret_bool Hf.out.symm, HQ.out _⟩
      · have hte := rise_test hok
        have hk1 : decide (0 < k) = true := decide_eq_true (by omega)
        have hk2 : 0 < k := by omega
        obtain ⟨j, hj⟩ : ∃ j : Nat, j = k - 1 := ⟨_, rfl⟩
        have hw : IntKind.i64.wrap ((k : Int) - 1) = (j : Int) := by rw [IntWalk.i64_in _ (by omega)]; omega
        have hj0 : (0 : Int) ≤ (j : Int) := by omega
        have hjn : (j : Int) < (n : Int) := by omega
        have hc2 : wr.cell? ⟨b, off + j, none⟩ = some (.int .i64 (nth l j)) := (hB.cell (p := ⟨b, off + j, none⟩) hb).trans (hc j (by omega))
        have hle : least l k = nth l j + 1 := by rw [hj]; simp [least, h0]
        rw [hle] at hte
        have Hte := Lib.hid hte
        have hy : 0 ≤ nth l j := by
          have h1 := risesTo_at hok (show j < k by omega)
          unfold riseAt at h1
          exact (of_decide_eq_true h1).1
        obtain ⟨x, hx⟩ : ∃ x, x = nth l k := ⟨_, rfl⟩
        obtain ⟨y, hy'⟩ : ∃ y, y = nth l j := ⟨_, rfl⟩
        rw [← hx] at hc1 Hte
        rw [← hy'] at hc2 Hte hy
        clear hx hy' hok hkl hc hB h0 hte hle hj
        by_cases h1 : x < 0
        · have Hf := Lib.hid (Hst.out (by rw [Bool.eq_false_iff]; intro t; have := (Hte.out.1 t).1; omega))
          have h1' : decide (x < 0) = true := decide_eq_true h1
          go_wp2
          go_quiet (fail)
          go_wp2
          go_ret
          exact ⟨ret_bool Hf.out.symm, HQ.out _⟩
        · have h1' : decide (x < 0) = false := decide_eq_false h1
          have h1i : 0 ≤ x := by omega
          clear h1
          by_cases h2 : x < m
          · have h2' : decide (m ≤ x) = false := decide_eq_false (by omega)
            by_cases h3 : y < x
            · have h3' : decide (x ≤ y) = false := decide_eq_false (by omega)
              have Ht := Lib.hid (Hte.out.2 ⟨by omega, h2⟩)
              go_wp2
              go_quiet (fail)
              go_wp2
              go_roundw
              case rel => exact ⟨k + 1, by omega, by go_num, by rw [Hsu.out, Hok.out, Ht.out]; rfl, HQ.out _⟩
              case measure => simp [intOf]; omega
            · have h3i : x ≤ y := by omega
              have h3' : decide (x ≤ y) = true := decide_eq_true h3i
              have Hf := Lib.hid (Hst.out (by rw [Bool.eq_false_iff]; intro t; have := (Hte.out.1 t).1; omega))
              clear h3
              go_wp2
              go_quiet (fail)
              go_wp2
              go_ret
              exact ⟨ret_bool Hf.out.symm, HQ.out _⟩
          · have Hf := Lib.hid (Hst.out (by rw [Bool.eq_false_iff]; intro t; exact h2 (Hte.out.1 t).2))
            have h2i : m ≤ x := by omega
            have h2' : decide (m ≤ x) = true := decide_eq_true h2i
            clear h2
            go_wp2
            go_quiet (fail)
            go_wp2
            go_ret
            exact ⟨ret_bool Hf.out.symm, HQ.out _⟩
    · have hlti : ¬ (k : Int) < (n : Int) := by omega
      obtain rfl : k = n := by omega
      have Hf := Lib.hid (Hall.out Hok.out)
      clear hok
      go_wp2
      go_ret
      exact ⟨ret_bool Hf.out.symm, HQ0.out⟩
end Go.Proofs.Ytpcindemkkdbbaa
