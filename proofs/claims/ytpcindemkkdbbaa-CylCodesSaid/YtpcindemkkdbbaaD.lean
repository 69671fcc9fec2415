/- Contracts of among, rises, Right, Whole, and of the document's own. -/
import Derived.Test.YtpcindemkkdbbaaC
import Derived.ScopeJumps
namespace Go.Proofs.Ytpcindemkkdbbaa
set_option linter.unusedVariables false
set_option linter.unusedSimpArgs false
open Go.RowKit

theorem among_any (n m : Int) (w : World) : Calls Try.prog 50 #[.int .i64 n, .int .i64 m] w fun e w' => e = .returned (.bool (amongB n m)) ∧ w = w' := by
  by_cases h0 : 0 ≤ n
  · by_cases h1 : n < m
    · have E := Lib.hid (show amongB n m = true from amongB_iff.2 ⟨h0, h1⟩)
      go_enter Try.func50, Try.ntmps50
      go_wp2
      go_ret
      exact ⟨ret_bool E.out.symm, rfl⟩
    · have E := Lib.hid (show amongB n m = false from amongB_no.2 fun q => h1 q.2)
      go_enter Try.func50, Try.ntmps50
      go_wp2
      go_ret
      exact ⟨ret_bool E.out.symm, rfl⟩
  · have E := Lib.hid (show amongB n m = false from amongB_no.2 fun q => h0 q.1)
    go_enter Try.func50, Try.ntmps50
    go_wp2
    go_ret
    exact ⟨ret_bool E.out.symm, rfl⟩

/-- the least that may come next -/
def least (l : List Int) (k : Nat) : Int := if k = 0 then 0 else nth l (k - 1) + 1
theorem least_succ (l : List Int) (k : Nat) : least l (k + 1) = nth l k + 1 := by simp [least]
theorem rise_test {m : Int} {l : List Int} {k : Nat} (h : risesTo m l k = true) : riseAt m l k = true ↔ ¬ nth l k < least l k ∧ nth l k < m := by
  unfold riseAt
  rw [decide_eq_true_iff]
  by_cases h0 : k = 0
  · subst h0; simp [least]
  · have h1 := risesTo_at h (show k - 1 < k by omega)
    unfold riseAt at h1
    have h2 := of_decide_eq_true h1
    simp only [least, if_neg h0]
    constructor
    · rintro ⟨a, b, c⟩; exact ⟨by rcases c with q | q; exact absurd q h0; omega, b⟩
    · rintro ⟨a, b⟩; exact ⟨by omega, b, .inr (by omega)⟩

set_option maxRecDepth 100000 in
set_option maxHeartbeats 1000000 in
theorem rises_any (A : Option Addr) (c n : Nat) (l : List Int) (m : Int) (hn : n = l.length) (w : World) (hl : l.length ≤ 100000) (hm : m ≤ 64) (hI : Ints w w.heap.size A l) :
    Calls Try.prog 51 #[.slice A n c, .int .i64 m] w fun e w' => e = .returned (.bool (rises m l)) ∧ w = w' := by
  have Hn := Lib.hid hn
  have HI := Lib.hid hI
  have hn1 : n ≤ 100000 := by omega
  have Hall : Hid (risesTo m l n = true → rises m l = true) := by unfold Hid; rw [hn]; exact fun h => h
  clear hI hn hl
  go_enter Try.func51, Try.ntmps51
  go_wp2
  go_loop [5, 10] (fun s i => ∃ k : Nat, k ≤ n ∧ i = .int .i64 k ∧ risesTo m l k = true ∧ s = .int .i64 (least l k) ∧ 0 ≤ least l k ∧ least l k ≤ 65) (fun _ i => n - (intOf i).toNat)
  case atStart => exact ⟨0, Nat.zero_le _, rfl, rfl, rfl, by simp [least], by simp [least]⟩
  case round =>
    obtain ⟨k, hk, rfl, hok, rfl, hb0, hb1⟩ := hrel
    have Hok := Lib.hid hok
    by_cases hlt : k < n
    · have hlti : (k : Int) < (n : Int) := by omega
      have hk0 : (0 : Int) ≤ (k : Int) := by omega
      have hkl : k < l.length := by rw [← Hn.out]; exact hlt
      obtain ⟨b, off, rfl, hb, hc⟩ := HI.out (by omega)
      replace hc := hc k hkl
      have Hst := Lib.hid (@rises_stop m l k hkl)
      have Hsu := Lib.hid (risesTo_succ m l k)
      have Hte := Lib.hid (rise_test hok)
      have Hle := Lib.hid (least_succ l k)
      obtain ⟨x, hx⟩ : ∃ x, x = nth l k := ⟨_, rfl⟩
      obtain ⟨q, hq⟩ : ∃ q, q = least l k := ⟨_, rfl⟩
      rw [← hx] at hc Hte Hle
      rw [← hq] at hb0 hb1 Hte
      rw [← hq]
      clear hx hq hok hkl
      by_cases h1 : x < q
      · have Hf := Lib.hid (Hst.out (by rw [Bool.eq_false_iff]; intro t; exact (Hte.out.1 t).1 h1))
        go_wp2
        go_ret
        exact ⟨ret_bool Hf.out.symm, rfl⟩
      · by_cases h2 : x < m
        · have hx0 : 0 ≤ x := by omega
          have hx1 : x ≤ 64 := by omega
          have Ht := Lib.hid (Hte.out.2 ⟨h1, h2⟩)
          have h1' : q ≤ x := by omega
          have h2' : ¬ m ≤ x := by omega
          go_wp2
          go_round
          case rel => exact ⟨k + 1, by omega, by go_num, by rw [Hsu.out, Hok.out, Ht.out]; rfl, by rw [Hle.out], by rw [Hle.out]; omega, by rw [Hle.out]; omega⟩
          case measure => simp [intOf]; omega
        · have Hf := Lib.hid (Hst.out (by rw [Bool.eq_false_iff]; intro t; exact h2 (Hte.out.1 t).2))
          have h2' : m ≤ x := by omega
          go_wp2
          go_ret
          exact ⟨ret_bool Hf.out.symm, rfl⟩
    · have hlti : ¬ (k : Int) < (n : Int) := by omega
      obtain rfl : k = n := by omega
      have Hf := Lib.hid (Hall.out Hok.out)
      clear hok
      go_wp2
      go_ret
      exact ⟨ret_bool Hf.out.symm, rfl⟩
end Go.Proofs.Ytpcindemkkdbbaa
