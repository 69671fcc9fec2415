/- Contracts of Right. -/
import Derived.Test.YtpcindemkkdbbaaD
namespace Go.Proofs.Ytpcindemkkdbbaa
set_option linter.unusedVariables false
set_option linter.unusedSimpArgs false
open Go.RowKit

def Cy.v (x : Cy) (A : Option Addr) (c : Nat) (A2 : Option Addr) (d : Nat) : Value := .agg #[.int .i64 x.ix, .int .i64 x.bl, .int .i64 x.fb, .int .i64 x.fi, .int .i64 x.ro, .slice A x.us.length c, .slice A2 x.is.length d]
theorem rightC_def (ix bl fb fi ro : Int) (us is : List Int) : rightC ⟨ix, bl, fb, fi, ro, us, is⟩ = (amongB ix 16 && (decide (1 ≤ bl) && (decide (bl ≤ 64) && (amongB ro bl && (rises bl us && (rises 16 is && (decide (fb = bl - us.length) && decide (fi = 16 - is.length)))))))) := rfl
set_option maxRecDepth 100000 in
set_option maxHeartbeats 4000000 in
theorem right_any (x : Cy) (A : Option Addr) (c : Nat) (A2 : Option Addr) (d : Nat) (w : World) (hu : x.us.length ≤ 1000) (hi : x.is.length ≤ 1000) (hU : Ints w w.heap.size A x.us) (hI : Ints w w.heap.size A2 x.is) :
    Calls Try.prog 23 #[x.v A c A2 d] w fun e w' => e = .returned (.bool (rightC x)) ∧ Below w.heap.size w w' := by
  have HU : Hid (∀ W m, Below w.heap.size w W → m ≤ 64 → Calls Try.prog 51 #[.slice A x.us.length c, .int .i64 m] W fun e w' => e = .returned (.bool (rises m x.us)) ∧ W = w') := fun W m hB hm => rises_any A c _ x.us m rfl W (by omega) hm (hU.next hB)
  have HI : Hid (∀ W m, Below w.heap.size w W → m ≤ 64 → Calls Try.prog 51 #[.slice A2 x.is.length d, .int .i64 m] W fun e w' => e = .returned (.bool (rises m x.is)) ∧ W = w') := fun W m hB hm => rises_any A2 d _ x.is m rfl W (by omega) hm (hI.next hB)
  have HB : Hid (∀ o, Below w.heap.size w (w.alloc o)) := fun o => (Below.refl _ _).alloc (Nat.le_refl _) _
  clear hU hI
  obtain ⟨ix, bl, fb, fi, ro, us, is⟩ := x
  have HR := Lib.hid (rightC_def ix bl fb fi ro us is)
  unfold Cy.v
  simp only at hu hi HU HI ⊢
  obtain ⟨n1, h1⟩ : ∃ n1, n1 = us.length := ⟨_, rfl⟩
  obtain ⟨n2, h2⟩ : ∃ n2, n2 = is.length := ⟨_, rfl⟩
  rw [← h1, ← h2] at HR
  rw [← h1] at hu HU
  rw [← h2] at hi HI
  rw [← h1, ← h2]
  obtain ⟨R, hR⟩ : ∃ R, R = rightC ⟨ix, bl, fb, fi, ro, us, is⟩ := ⟨_, rfl⟩
  rw [← hR] at HR ⊢
  clear h1 h2 hR
  have T1 : Hid True := trivial
  have T3 : Hid True := trivial
  obtain ⟨r1, h1⟩ : ∃ r, r = amongB ix 16 := ⟨_, rfl⟩
  have H1 : Hid (∀ W, Calls Try.prog 50 #[.int .i64 ix, .int .i64 16] W fun e w' => e = .returned (.bool r1) ∧ W = w') := by unfold Hid; rw [h1]; exact fun W => among_any ix 16 W
  rw [← h1] at HR
  clear h1
  cases r1 with
  | false =>
    have Hf : Hid (R = false) := HR.out
    go_enter Try.func23, Try.ntmps23
    go_wp2_with (first | (go_at_call 50; have _t := T1; clear _t T1; refine (H1.out _).mono ?_; rintro e w' ⟨rfl, rfl⟩))
    go_ret
    exact ⟨ret_bool Hf.out.symm, HB.out _⟩
  | true =>
    by_cases hb1 : 1 ≤ bl
    case neg =>
      rw [decide_eq_false hb1] at HR
      have Hf : Hid (R = false) := HR.out
      go_enter Try.func23, Try.ntmps23
      go_wp2_with (first | (go_at_call 50; have _t := T1; clear _t T1; refine (H1.out _).mono ?_; rintro e w' ⟨rfl, rfl⟩))
      go_ret
      exact ⟨ret_bool Hf.out.symm, HB.out _⟩
    rw [decide_eq_true hb1] at HR
    by_cases hb2 : bl ≤ 64
    case neg =>
      rw [decide_eq_false hb2] at HR
      have Hf : Hid (R = false) := HR.out
      go_enter Try.func23, Try.ntmps23
      go_wp2_with (first | (go_at_call 50; have _t := T1; clear _t T1; refine (H1.out _).mono ?_; rintro e w' ⟨rfl, rfl⟩))
      go_ret
      exact ⟨ret_bool Hf.out.symm, HB.out _⟩
    rw [decide_eq_true hb2] at HR
    obtain ⟨r2, h1⟩ : ∃ r, r = amongB ro bl := ⟨_, rfl⟩
    have H2 : Hid (∀ W, Calls Try.prog 50 #[.int .i64 ro, .int .i64 bl] W fun e w' => e = .returned (.bool r2) ∧ W = w') := by unfold Hid; rw [h1]; exact fun W => among_any ro bl W
    rw [← h1] at HR
    clear h1
    cases r2 with
    | false =>
      have Hf : Hid (R = false) := HR.out
      go_enter Try.func23, Try.ntmps23
      go_wp2_with (first | (go_at_call 50; have _t := T1; clear _t T1; refine (H1.out _).mono ?_; rintro e w' ⟨rfl, rfl⟩) | (go_at_call 50; refine (H2.out _).mono ?_; rintro e w' ⟨rfl, rfl⟩))
      go_ret
      exact ⟨ret_bool Hf.out.symm, HB.out _⟩
    | true =>
      obtain ⟨r3, h1⟩ : ∃ r, r = rises bl us := ⟨_, rfl⟩
      have H3 : Hid (∀ W, Below w.heap.size w W → Calls Try.prog 51 #[.slice A n1 c, .int .i64 bl] W fun e w' => e = .returned (.bool r3) ∧ W = w') := by unfold Hid; rw [h1]; exact fun W hB => HU.out W bl hB hb2
      rw [← h1] at HR
      clear h1
      cases r3 with
      | false =>
        have Hf : Hid (R = false) := HR.out
        go_enter Try.func23, Try.ntmps23
        go_wp2_with (first | (go_at_call 50; have _t := T1; clear _t T1; refine (H1.out _).mono ?_; rintro e w' ⟨rfl, rfl⟩) | (go_at_call 50; refine (H2.out _).mono ?_; rintro e w' ⟨rfl, rfl⟩) | (go_at_call 51; have _t := T3; clear _t T3; refine (H3.out _ (HB.out _)).mono ?_; rintro e w' ⟨rfl, rfl⟩))
        go_ret
        exact ⟨ret_bool Hf.out.symm, HB.out _⟩
      | true =>
        obtain ⟨r4, h1⟩ : ∃ r, r = rises 16 is := ⟨_, rfl⟩
        have H4 : Hid (∀ W, Below w.heap.size w W → Calls Try.prog 51 #[.slice A2 n2 d, .int .i64 16] W fun e w' => e = .returned (.bool r4) ∧ W = w') := by unfold Hid; rw [h1]; exact fun W hB => HI.out W 16 hB (by omega)
        rw [← h1] at HR
        clear h1
        cases r4 with
        | false =>
          have Hf : Hid (R = false) := HR.out
          go_enter Try.func23, Try.ntmps23
          go_wp2_with (first | (go_at_call 50; have _t := T1; clear _t T1; refine (H1.out _).mono ?_; rintro e w' ⟨rfl, rfl⟩) | (go_at_call 50; refine (H2.out _).mono ?_; rintro e w' ⟨rfl, rfl⟩) | (go_at_call 51; have _t := T3; clear _t T3; refine (H3.out _ (HB.out _)).mono ?_; rintro e w' ⟨rfl, rfl⟩) | (go_at_call 51; refine (H4.out _ (HB.out _)).mono ?_; rintro e w' ⟨rfl, rfl⟩))
          go_ret
          exact ⟨ret_bool Hf.out.symm, HB.out _⟩
        | true =>
          by_cases hc : fb = bl - n1
          case neg =>
            rw [decide_eq_false hc] at HR
            have hc' : (fb == bl - (n1 : Int)) = false := by simpa using hc
            clear hc
            have Hf : Hid (R = false) := HR.out
            go_enter Try.func23, Try.ntmps23
            go_wp2_with (first | (go_at_call 50; have _t := T1; clear _t T1; refine (H1.out _).mono ?_; rintro e w' ⟨rfl, rfl⟩) | (go_at_call 50; refine (H2.out _).mono ?_; rintro e w' ⟨rfl, rfl⟩) | (go_at_call 51; have _t := T3; clear _t T3; refine (H3.out _ (HB.out _)).mono ?_; rintro e w' ⟨rfl, rfl⟩) | (go_at_call 51; refine (H4.out _ (HB.out _)).mono ?_; rintro e w' ⟨rfl, rfl⟩))
            go_ret
            exact ⟨ret_bool Hf.out.symm, HB.out _⟩
          rw [decide_eq_true hc] at HR
          obtain rfl := hc
          by_cases hc : fi = 16 - n2
          case neg =>
            rw [decide_eq_false hc] at HR
            have hc' : (fi == 16 - (n2 : Int)) = false := by simpa using hc
            clear hc
            have Hf : Hid (R = false) := HR.out
            go_enter Try.func23, Try.ntmps23
            go_wp2_with (first | (go_at_call 50; have _t := T1; clear _t T1; refine (H1.out _).mono ?_; rintro e w' ⟨rfl, rfl⟩) | (go_at_call 50; refine (H2.out _).mono ?_; rintro e w' ⟨rfl, rfl⟩) | (go_at_call 51; have _t := T3; clear _t T3; refine (H3.out _ (HB.out _)).mono ?_; rintro e w' ⟨rfl, rfl⟩) | (go_at_call 51; refine (H4.out _ (HB.out _)).mono ?_; rintro e w' ⟨rfl, rfl⟩))
            go_ret
            exact ⟨ret_bool Hf.out.symm, HB.out _⟩
          rw [decide_eq_true hc] at HR
          obtain rfl := hc
          have Hf : Hid (R = true) := HR.out
          go_enter Try.func23, Try.ntmps23
          go_wp2_with (first | (go_at_call 50; have _t := T1; clear _t T1; refine (H1.out _).mono ?_; rintro e w' ⟨rfl, rfl⟩) | (go_at_call 50; refine (H2.out _).mono ?_; rintro e w' ⟨rfl, rfl⟩) | (go_at_call 51; have _t := T3; clear _t T3; refine (H3.out _ (HB.out _)).mono ?_; rintro e w' ⟨rfl, rfl⟩) | (go_at_call 51; refine (H4.out _ (HB.out _)).mono ?_; rintro e w' ⟨rfl, rfl⟩))
          go_ret
          exact ⟨ret_bool Hf.out.symm, HB.out _⟩
end Go.Proofs.Ytpcindemkkdbbaa
