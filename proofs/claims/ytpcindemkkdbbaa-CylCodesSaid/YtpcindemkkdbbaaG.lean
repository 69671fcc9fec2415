/- Contract of the document's Right. -/
import Derived.Test.YtpcindemkkdbbaaF
namespace Go.Proofs.Ytpcindemkkdbbaa
set_option linter.unusedVariables false
set_option linter.unusedSimpArgs false
open Go.RowKit

theorem refRight_def (ix bl fb fi ro : Int) (us is : List Int) : rightC ⟨ix, bl, fb, fi, ro, us, is⟩ = (decide (0 ≤ ix) && (decide (ix < 16) && (decide (1 ≤ bl) && (decide (bl ≤ 64) && (decide (0 ≤ ro) && (decide (ro < bl) && (rises bl us && (rises 16 is && (decide (fb = bl - us.length) && decide (fi = 16 - is.length)))))))))) := by
  rw [rightC_def]; unfold amongB; simp only [Bool.and_assoc]
set_option maxRecDepth 100000 in
set_option maxHeartbeats 4000000 in
theorem refright_any (x : Cy) (A : Option Addr) (c : Nat) (A2 : Option Addr) (d : Nat) (w : World) (hu : x.us.length ≤ 1000) (hi : x.is.length ≤ 1000) (hU : Ints w w.heap.size A x.us) (hI : Ints w w.heap.size A2 x.is) :
    Calls Try.prog 24 #[x.v A c A2 d] w fun e w' => e = .returned (.bool (rightC x)) ∧ Below w.heap.size w w' := by
  have HU : Hid (∀ W m, Below w.heap.size w W → m ≤ 64 → Calls Try.prog 52 #[.slice A x.us.length c, .int .i64 m] W fun e w' => e = .returned (.bool (rises m x.us)) ∧ ∃ q, w' = W.drewN q) := fun W m hB hm => rising_any A c _ x.us m rfl W (by omega) (hU.next hB)
  have HI : Hid (∀ W m, Below w.heap.size w W → m ≤ 64 → Calls Try.prog 52 #[.slice A2 x.is.length d, .int .i64 m] W fun e w' => e = .returned (.bool (rises m x.is)) ∧ ∃ q, w' = W.drewN q) := fun W m hB hm => rising_any A2 d _ x.is m rfl W (by omega) (hI.next hB)
  have HB : Hid (∀ o q, Below w.heap.size w ((w.alloc o).drewN q)) := fun o q => bdn ((Below.refl _ _).alloc (Nat.le_refl _) _) q
  clear hU hI
  obtain ⟨ix, bl, fb, fi, ro, us, is⟩ := x
  have HR := Lib.hid (refRight_def ix bl fb fi ro us is)
  unfold Cy.v
  simp only at hu hi HU HI ⊢
  obtain ⟨n1, h1⟩ : ∃ n1, n1 = us.length := ⟨_, rfl⟩
  obtain ⟨n2, h2⟩ : ∃ n2, n2 = is.length := ⟨_, rfl⟩
  rw [← h1, ← h2] at HR
  rw [← h1] at hu HU
  rw [← h2] at hi HI
  rw [← h1, ← h2]
  obtain ⟨R, hR⟩ : ∃ R, R = rightC ⟨ix, bl, fb, fi, ro, us, is⟩ := ⟨_, rfl⟩
  rw [← hR] at HR ⊢
  clear h1 h2 hR
  have T3 : Hid True := trivial
  have HB0 : Hid (∀ o, Below w.heap.size w (w.alloc o)) := fun o => (Below.refl _ _).alloc (Nat.le_refl _) _
  have HB1 : Hid (∀ o, Below w.heap.size w (w.alloc o)) := HB0
  by_cases ha1 : 0 ≤ ix
  case neg =>
    rw [decide_eq_false ha1] at HR
    have Hf : Hid (R = false) := HR.out
    go_enter Try.func24, Try.ntmps24
    go_wp2_with fail
    go_ret
    exact ⟨ret_bool Hf.out.symm, HB0.out _⟩
  rw [decide_eq_true ha1] at HR
  by_cases ha2 : ix < 16
  case neg =>
    rw [decide_eq_false ha2] at HR
    have Hf : Hid (R = false) := HR.out
    go_enter Try.func24, Try.ntmps24
    go_wp2_with fail
    go_ret
    exact ⟨ret_bool Hf.out.symm, HB0.out _⟩
  rw [decide_eq_true ha2] at HR
  by_cases hb1 : 1 ≤ bl
  case neg =>
    rw [decide_eq_false hb1] at HR
    have Hf : Hid (R = false) := HR.out
    go_enter Try.func24, Try.ntmps24
    go_wp2_with fail
    go_ret
    exact ⟨ret_bool Hf.out.symm, HB0.out _⟩
  rw [decide_eq_true hb1] at HR
  by_cases hb2 : bl ≤ 64
  case neg =>
    rw [decide_eq_false hb2] at HR
    have Hf : Hid (R = false) := HR.out
    go_enter Try.func24, Try.ntmps24
    go_wp2_with fail
    go_ret
    exact ⟨ret_bool Hf.out.symm, HB0.out _⟩
  rw [decide_eq_true hb2] at HR
  by_cases hc1 : 0 ≤ ro
  case neg =>
    rw [decide_eq_false hc1] at HR
    have Hf : Hid (R = false) := HR.out
    go_enter Try.func24, Try.ntmps24
    go_wp2_with fail
    go_ret
    exact ⟨ret_bool Hf.out.symm, HB0.out _⟩
  rw [decide_eq_true hc1] at HR
  by_cases hc2 : ro < bl
  case neg =>
    rw [decide_eq_false hc2] at HR
    have Hf : Hid (R = false) := HR.out
    go_enter Try.func24, Try.ntmps24
    go_wp2_with fail
    go_ret
    exact ⟨ret_bool Hf.out.symm, HB0.out _⟩
  rw [decide_eq_true hc2] at HR
  obtain ⟨r3, h1⟩ : ∃ r, r = rises bl us := ⟨_, rfl⟩
  have H3 : Hid (∀ W, Below w.heap.size w W → Calls Try.prog 52 #[.slice A n1 c, .int .i64 bl] W fun e w' => e = .returned (.bool r3) ∧ ∃ q, w' = W.drewN q) := by unfold Hid; rw [h1]; exact fun W hB => HU.out W bl hB hb2
  rw [← h1] at HR
  clear h1
  cases r3 with
  | false =>
    have Hf : Hid (R = false) := HR.out
    go_enter Try.func24, Try.ntmps24
    go_wp2_with (first | (go_at_call 52; have _t := T3; clear _t T3; (with_reducible refine (H3.out _ (HB0.out _)).mono ?_); rintro e w' ⟨rfl, q3, rfl⟩))
    go_ret
    exact ⟨ret_bool Hf.out.symm, HB.out _ _⟩
  | true =>
    obtain ⟨r4, h1⟩ : ∃ r, r = rises 16 is := ⟨_, rfl⟩
    have H4 : Hid (∀ W q, Below w.heap.size w W → Calls Try.prog 52 #[.slice A2 n2 d, .int .i64 16] (W.drewN q) fun e w' => e = .returned (.bool r4) ∧ ∃ q', w' = (W.drewN q).drewN q') := by unfold Hid; rw [h1]; exact fun W q hB => HI.out (W.drewN q) 16 (bdn hB q) (by omega)
    rw [← h1] at HR
    clear h1
    cases r4 with
    | false =>
      have Hf : Hid (R = false) := HR.out
      go_enter Try.func24, Try.ntmps24
      go_wp2_with (first | (go_at_call 52; have _t := T3; clear _t T3; (with_reducible refine (H3.out _ (HB0.out _)).mono ?_); rintro e w' ⟨rfl, q3, rfl⟩) | (go_at_call 52; (with_reducible refine (H4.out _ _ (HB1.out _)).mono ?_); rintro e w' ⟨rfl, q4, rfl⟩))
      go_ret
      exact ⟨ret_bool Hf.out.symm, HB.out _ _⟩
    | true =>
      by_cases hc : fb = bl - (n1 : Int)
      case neg =>
        rw [decide_eq_false hc] at HR
        have hc' : (fb == bl - (n1 : Int)) = false := by simpa using hc
        clear hc
        have Hf : Hid (R = false) := HR.out
        go_enter Try.func24, Try.ntmps24
        go_wp2_with (first | (go_at_call 52; have _t := T3; clear _t T3; (with_reducible refine (H3.out _ (HB0.out _)).mono ?_); rintro e w' ⟨rfl, q3, rfl⟩) | (go_at_call 52; (with_reducible refine (H4.out _ _ (HB1.out _)).mono ?_); rintro e w' ⟨rfl, q4, rfl⟩))
        go_ret
        exact ⟨ret_bool Hf.out.symm, HB.out _ _⟩
      rw [decide_eq_true hc] at HR
      obtain rfl := hc
      by_cases hc : fi = 16 - (n2 : Int)
      case neg =>
        rw [decide_eq_false hc] at HR
        have hc' : (fi == 16 - (n2 : Int)) = false := by simpa using hc
        clear hc
        have Hf : Hid (R = false) := HR.out
        go_enter Try.func24, Try.ntmps24
        go_wp2_with (first | (go_at_call 52; have _t := T3; clear _t T3; (with_reducible refine (H3.out _ (HB0.out _)).mono ?_); rintro e w' ⟨rfl, q3, rfl⟩) | (go_at_call 52; (with_reducible refine (H4.out _ _ (HB1.out _)).mono ?_); rintro e w' ⟨rfl, q4, rfl⟩))
        go_ret
        exact ⟨ret_bool Hf.out.symm, HB.out _ _⟩
      rw [decide_eq_true hc] at HR
      obtain rfl := hc
      have Hf : Hid (R = true) := HR.out
      go_enter Try.func24, Try.ntmps24
      go_wp2_with (first | (go_at_call 52; have _t := T3; clear _t T3; (with_reducible refine (H3.out _ (HB0.out _)).mono ?_); rintro e w' ⟨rfl, q3, rfl⟩) | (go_at_call 52; (with_reducible refine (H4.out _ _ (HB1.out _)).mono ?_); rintro e w' ⟨rfl, q4, rfl⟩))
      go_ret
      exact ⟨ret_bool Hf.out.symm, HB.out _ _⟩
end Go.Proofs.Ytpcindemkkdbbaa
