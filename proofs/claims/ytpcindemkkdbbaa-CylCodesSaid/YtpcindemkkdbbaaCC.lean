/- Contracts of same, Same, the document's and the program's. -/
import Derived.Test.YtpcindemkkdbbaaRD
namespace Go.Proofs.Ytpcindemkkdbbaa
set_option linter.unusedVariables false
set_option linter.unusedSimpArgs false
open Go.RowKit

theorem same_stop {l m : List Int} {k : Nat} (hk : k < l.length) (h : nth l k ≠ nth m k) : (l == m) = false := by
  rw [Bool.eq_false_iff]
  intro e
  rw [beq_iff_eq] at e
  exact h (by rw [e])
theorem same_end {l m : List Int} (h : l.length = m.length) (h2 : ∀ k, k < l.length → nth l k = nth m k) : (l == m) = true := by
  rw [beq_iff_eq]
  exact List.ext_getElem h fun k h3 h4 => by rw [← nth_lt h3, ← nth_lt h4]; exact h2 k h3
theorem same_len {l m : List Int} (h : l.length ≠ m.length) : (l == m) = false := by
  rw [Bool.eq_false_iff]
  intro e
  rw [beq_iff_eq] at e
  exact h (by rw [e])
set_option maxRecDepth 100000 in
set_option maxHeartbeats 2000000 in
theorem refsame_any (A : Option Addr) (c : Nat) (l : List Int) (A2 : Option Addr) (d : Nat) (m : List Int) (n1 n2 : Nat) (h1 : n1 = l.length) (h2 : n2 = m.length) (w : World) (hl : l.length ≤ 1000) (hm : m.length ≤ 1000) (hI : Ints w w.heap.size A l) (hJ : Ints w w.heap.size A2 m) :
    Calls Try.prog 49 #[.slice A n1 c, .slice A2 n2 d] w fun e w' => e = .returned (.bool (l == m)) ∧ ∃ q, w' = w.drewN q := by
  have H1 := Lib.hid h1
  have H2 := Lib.hid h2
  have HI := Lib.hid hI
  have HJ := Lib.hid hJ
  have hl1 : n1 ≤ 1000 := by omega
  have hl2 : n2 ≤ 1000 := by omega
  have HL := Lib.hid (@same_len l m)
  have HS := Lib.hid (fun k => @same_stop l m k)
  have HE := Lib.hid (@same_end l m)
  obtain ⟨r, hr⟩ : ∃ r, r = (l == m) := ⟨_, rfl⟩
  rw [← hr] at HL HS HE ⊢
  clear hI hJ h1 h2 hl hm hr
  by_cases hn : n1 = n2
  · subst hn
    go_enter Try.func49, Try.ntmps49
    go_wp2_with fail
    go_loopw [5] (fun i wr => ∃ k : Nat, k ≤ n1 ∧ i = .int .i64 k ∧ (∀ j, j < k → nth l j = nth m j) ∧ ∃ q, wr = w.drewN q) (fun i _ => n1 - (intOf i).toNat)
    case atStart => exact ⟨0, Nat.zero_le _, rfl, fun j hj => absurd hj (Nat.not_lt_zero _), 0, rfl⟩
    case round =>
      obtain ⟨k, hk, rfl, hok, q0, hq0⟩ := hrel
      rename World => wr
      have Hok := Lib.hid hok
      have hB : Below w.heap.size w wr := by rw [hq0]; exact bdn (Below.refl _ _) _
      have HQ : Hid (∀ n, ∃ q, wr.drewN n = w.drewN q) := fun n => ⟨q0 + n, by rw [hq0, World.drewN_drewN]⟩
      have HQ0 : Hid (∃ q, wr = w.drewN q) := ⟨q0, hq0⟩
      clear hq0 hok
      have hk0 : (0 : Int) ≤ (k : Int) := by omega
      by_cases hlt : k < n1
      · have hlti : (k : Int) < (n1 : Int) := by omega
        obtain ⟨b, off, rfl, hb, hc⟩ := HI.out (by rw [← H1.out]; omega)
        obtain ⟨b2, off2, rfl, hb2, hc2⟩ := HJ.out (by rw [← H2.out]; omega)
        have k1 : wr.cell? ⟨b, off + k, none⟩ = some (.int .i64 (nth l k)) := (hB.cell (p := ⟨b, off + k, none⟩) hb).trans (hc k (by rw [← H1.out]; exact hlt))
        have k2 : wr.cell? ⟨b2, off2 + k, none⟩ = some (.int .i64 (nth m k)) := (hB.cell (p := ⟨b2, off2 + k, none⟩) hb2).trans (hc2 k (by rw [← H2.out]; exact hlt))
        by_cases he : nth l k = nth m k
        · have Hn : Hid (∀ j, j < k + 1 → nth l j = nth m j) := fun j hj => by
            rcases Nat.lt_succ_iff_lt_or_eq.1 hj with q | q
            · exact Hok.out j q
            · rw [q]; exact he
          rw [he] at k1
          obtain ⟨x, hx⟩ : ∃ x, x = nth m k := ⟨_, rfl⟩
          rw [← hx] at k1 k2
          clear hx he hc hc2 hB
          go_wp2_with fail
          go_quiet (fail)
          go_wp2_with fail
          go_roundw
          case rel => exact ⟨k + 1, by omega, by go_num, Hn.out, HQ.out _⟩
          case measure => simp [intOf]; omega
        · have Hf := Lib.hid (HS.out k (by rw [← H1.out]; exact hlt) he)
          obtain ⟨x, hx⟩ : ∃ x, x = nth l k := ⟨_, rfl⟩
          obtain ⟨y, hy⟩ : ∃ y, y = nth m k := ⟨_, rfl⟩
          rw [← hx] at k1 he
          rw [← hy] at k2 he
          have hne : (x == y) = false := by simpa using he
          have hne2 : (x != y) = true := by simpa using he
          clear hx hy hc hc2 hB
          go_wp2_with fail
          go_quiet (fail)
          go_wp2_with fail
          go_ret
          exact ⟨ret_bool Hf.out.symm, HQ.out _⟩
      · have hlti : ¬ (k : Int) < (n1 : Int) := by omega
        obtain rfl : k = n1 := by omega
        have Hf := Lib.hid (HE.out (by rw [← H1.out, ← H2.out]) (fun j hj => Hok.out j (by rw [H1.out]; exact hj)))
        clear hB
        go_wp2_with fail
        go_ret
        exact ⟨ret_bool Hf.out.symm, HQ0.out⟩
  · have Hf := Lib.hid (HL.out (by rw [← H1.out, ← H2.out]; exact hn))
    have hne : ((n1 : Int) == (n2 : Int)) = false := beq_eq_false_iff_ne.2 (by omega)
    have hne2 : ((n1 : Int) != (n2 : Int)) = true := bne_iff_ne.2 (by omega)
    have hni : ¬ (n1 : Int) = (n2 : Int) := by omega
    go_enter Try.func49, Try.ntmps49
    go_wp2_with fail
    go_ret
    exact ⟨ret_bool Hf.out.symm, 0, rfl⟩
end Go.Proofs.Ytpcindemkkdbbaa
