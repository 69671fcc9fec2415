/- The document's own 'Overlap'. -/
import Derived.Test.YtibkipdadpidnaaPS
namespace Go.Proofs.Ytibkipdadpidnaa.Pat
set_option linter.unusedVariables false
set_option linter.unusedSimpArgs false
set_option maxRecDepth 100000
open Go.RowKit

theorem over_iff {p q : Pt} (hb : p.both q = true) : p.over q = true ↔ ∃ i : Nat, i < 32 ∧ p.has i = true ∧ q.has i = true := by
  obtain ⟨hp, hq, _⟩ := Pt.both_out hb
  obtain ⟨p1, p2, p3, p4, p5, p6⟩ := Pt.right_out hp
  obtain ⟨q1, q2, q3, q4, q5, q6⟩ := Pt.right_out hq
  simp only [Pt.over, hb, Bool.true_and, Bool.and_eq_true, decide_eq_true_eq, Pt.has]
  constructor
  · rintro ⟨h1, h2⟩
    exact ⟨(max p.o q.o).toNat, by omega, by omega, by omega⟩
  · rintro ⟨i, _, h1, h2⟩
    omega

set_option maxRecDepth 100000 in
set_option maxHeartbeats 1000000 in
theorem refoverlap_any (p q : Pt) (w : World) (hp : p.ok) (hq : q.ok) :
    Calls Try.prog 81 #[p.v, q.v] w fun e w' => e = .returned (.bool (p.over q)) ∧ Below w.heap.size w w' := by
  have R1 := Lib.hid (fun W => refright_any p W hp)
  have R2 := Lib.hid (fun W => refright_any q W hq)
  have T0 := Lib.hid (St2.start w p q)
  have TN := Lib.hid (fun W (hB : Below (w.heap.size + 1 + 1) ((w.alloc (.cells p.cs.toArray 38)).alloc (.cells q.cs.toArray 38)) W) => T0.out.next (by simpa using hB))
  cases c1 : p.right with
  | false =>
    have ho : p.over q = false := by simp [Pt.over, Pt.both, c1]
    rw [c1] at R1
    rw [ho]
    clear c1 ho hp hq
    obtain ⟨b, o, s⟩ := p
    obtain ⟨b', o', s'⟩ := q
    unfold Pt.v at *
    simp only [Pt.cs] at *
    go_enter Try.func81, Try.ntmps81
    go_wp2_with fail
    refine (R1.out _).mono ?_
    rintro e w1 ⟨rfl, hB1⟩
    have T1 := Lib.hid (TN.out _ (by simpa using hB1))
    clear hB1
    go_wp2
    go_ret
    exact ⟨rfl, T1.out.1⟩
  | true =>
    cases c2 : q.right with
    | false =>
      have ho : p.over q = false := by simp [Pt.over, Pt.both, c2]
      rw [c1] at R1
      rw [c2] at R2
      rw [ho]
      clear c1 c2 ho hp hq
      obtain ⟨b, o, s⟩ := p
      obtain ⟨b', o', s'⟩ := q
      unfold Pt.v at *
      simp only [Pt.cs] at *
      go_enter Try.func81, Try.ntmps81
      go_wp2_with fail
      refine (R1.out _).mono ?_
      rintro e w1 ⟨rfl, hB1⟩
      have T1 := Lib.hid (TN.out _ (by simpa using hB1))
      obtain ⟨e0, e1, e2, e3, e4, e5⟩ := T1.out.cells
      simp only at e0 e1 e2 e3 e4 e5
      clear hB1
      go_wp2_with fail
      refine (R2.out _).mono ?_
      rintro e w2 ⟨rfl, hB2⟩
      have T2 := Lib.hid (T1.out.next hB2)
      clear hB2 e0 e1 e2 e3 e4 e5
      go_wp2
      go_ret
      exact ⟨rfl, T2.out.1⟩
    | true =>
      by_cases hb : p.b = q.b
      · have hbo : p.both q = true := by simp [Pt.both, c1, c2, hb]
        have Hov := Lib.hid (over_iff hbo)
        have W1 := Lib.hid (fun i W => writes_any p i W c1)
        have W2 := Lib.hid (fun i W => writes_any q i W c2)
        rw [c1] at R1
        rw [c2] at R2
        have hbb : (p.b == q.b) = true := by simp [hb]
        have hb2 : (q.b == p.b) = true := by simp [hb]
        have Hb := Lib.hid hb
        obtain ⟨f, hf⟩ : ∃ f : Nat → Bool, f = p.has := ⟨_, rfl⟩
        obtain ⟨g, hg⟩ : ∃ g : Nat → Bool, g = q.has := ⟨_, rfl⟩
        obtain ⟨ov, hov⟩ : ∃ ov, ov = p.over q := ⟨_, rfl⟩
        rw [← hf] at W1 Hov
        rw [← hg] at W2 Hov
        rw [← hov] at Hov ⊢
        clear c1 c2 hp hq hbo hb hf hg hov hbb hb2
        obtain ⟨b, o, s⟩ := p
        obtain ⟨b', o', s'⟩ := q
        obtain rfl : b = b' := Hb.out
        unfold Pt.v at *
        simp only [Pt.cs] at *
        go_enter Try.func81, Try.ntmps81
        go_wp2_with fail
        refine (R1.out _).mono ?_
        rintro e w1 ⟨rfl, hB1⟩
        have T1 := Lib.hid (TN.out _ (by simpa using hB1))
        obtain ⟨e0, e1, e2, e3, e4, e5⟩ := T1.out.cells
        simp only at e0 e1 e2 e3 e4 e5
        clear hB1
        go_wp2_with fail
        refine (R2.out _).mono ?_
        rintro e w2 ⟨rfl, hB2⟩
        have T2 := Lib.hid (T1.out.next hB2)
        clear hB2 e0 e1 e2 e3 e4 e5
        obtain ⟨e0, e1, e2, e3, e4, e5⟩ := T2.out.cells
        simp only at e0 e1 e2 e3 e4 e5
        go_wp2
        clear e0 e1 e2 e3 e4 e5
        go_loopw [5] (fun i wr => ∃ k : Nat, k ≤ 32 ∧ i = .int .i64 k ∧ St2 w ⟨b, o, s⟩ ⟨b, o', s'⟩ wr ∧ ∀ j, j < k → ¬ (f j = true ∧ g j = true)) (fun i _ => 32 - (intOf i).toNat)
        case atStart => exact ⟨0, by omega, rfl, T2.out, by omega⟩
        case round =>
          obtain ⟨k, hk, rfl, hst, hno⟩ := hrel
          rename World => wr
          have T := Lib.hid hst
          have No := Lib.hid hno
          clear hst hno
          by_cases hlt : k < 32
          · have hlti : (k : Int) < 32 := by omega
            obtain ⟨e0, e1, e2, e3, e4, e5⟩ := T.out.cells
            simp only at e0 e1 e2 e3 e4 e5
            have V1 := Lib.hid (W1.out k)
            have V2 := Lib.hid (W2.out k)
            cases hfk : f k with
            | false =>
              rw [hfk] at V1
              have hn' : Hid (∀ j, j < k + 1 → ¬ (f j = true ∧ g j = true)) := fun j hj => by
                by_cases e : j = k
                · subst e; rw [hfk]; simp
                · exact No.out j (by omega)
              clear hfk
              go_wp2_with fail
              refine (V1.out _).mono ?_
              rintro e w3 ⟨rfl, hB3⟩
              have T3 := Lib.hid (T.out.next hB3)
              clear hB3 e0 e1 e2 e3 e4 e5
              go_wp2
              go_roundw
              case rel => exact ⟨k + 1, by omega, by go_num, T3.out, hn'.out⟩
              case measure => simp [intOf]; omega
            | true =>
              rw [hfk] at V1
              cases hgk : g k with
              | false =>
                rw [hgk] at V2
                have hn' : Hid (∀ j, j < k + 1 → ¬ (f j = true ∧ g j = true)) := fun j hj => by
                  by_cases e : j = k
                  · subst e; rw [hgk]; simp
                  · exact No.out j (by omega)
                clear hfk hgk
                go_wp2_with fail
                refine (V1.out _).mono ?_
                rintro e w3 ⟨rfl, hB3⟩
                have T3 := Lib.hid (T.out.next hB3)
                clear hB3 e0 e1 e2 e3 e4 e5
                obtain ⟨e0, e1, e2, e3, e4, e5⟩ := T3.out.cells
                simp only at e0 e1 e2 e3 e4 e5
                go_wp2_with fail
                refine (V2.out _).mono ?_
                rintro e w4 ⟨rfl, hB4⟩
                have T4 := Lib.hid (T3.out.next hB4)
                clear hB4 e0 e1 e2 e3 e4 e5
                go_wp2
                go_roundw
                case rel => exact ⟨k + 1, by omega, by go_num, T4.out, hn'.out⟩
                case measure => simp [intOf]; omega
              | true =>
                rw [hgk] at V2
                have hy : Hid (ov = true) := Hov.out.2 ⟨k, hlt, hfk, hgk⟩
                clear hfk hgk
                go_wp2_with fail
                refine (V1.out _).mono ?_
                rintro e w3 ⟨rfl, hB3⟩
                have T3 := Lib.hid (T.out.next hB3)
                clear hB3 e0 e1 e2 e3 e4 e5
                obtain ⟨e0, e1, e2, e3, e4, e5⟩ := T3.out.cells
                simp only at e0 e1 e2 e3 e4 e5
                go_wp2_with fail
                refine (V2.out _).mono ?_
                rintro e w4 ⟨rfl, hB4⟩
                have T4 := Lib.hid (T3.out.next hB4)
                clear hB4 e0 e1 e2 e3 e4 e5
                go_wp2
                go_ret
                exact ⟨by rw [hy.out]; rfl, T4.out.1⟩
          · have hlti : ¬ (k : Int) < 32 := by omega
            have hy : Hid (ov = false) := by
              unfold Hid
              cases h : ov with
              | false => rfl
              | true =>
                obtain ⟨i, h1, h2, h3⟩ := Hov.out.1 h
                exact absurd ⟨h2, h3⟩ (No.out i (by omega))
            go_wp2
            go_ret
            exact ⟨by rw [hy.out]; rfl, T.out.1⟩
      · have ho : p.over q = false := by simp [Pt.over, Pt.both, hb]
        have hbb : (p.b == q.b) = false := by simp [hb]
        rw [c1] at R1
        rw [c2] at R2
        rw [ho]
        clear c1 c2 ho hp hq hb
        obtain ⟨b, o, s⟩ := p
        obtain ⟨b', o', s'⟩ := q
        unfold Pt.v at *
        simp only [Pt.cs] at *
        have hbn : ¬ b = b' := by simpa using hbb
        go_enter Try.func81, Try.ntmps81
        go_wp2_with fail
        refine (R1.out _).mono ?_
        rintro e w1 ⟨rfl, hB1⟩
        have T1 := Lib.hid (TN.out _ (by simpa using hB1))
        obtain ⟨e0, e1, e2, e3, e4, e5⟩ := T1.out.cells
        simp only at e0 e1 e2 e3 e4 e5
        clear hB1
        go_wp2_with fail
        refine (R2.out _).mono ?_
        rintro e w2 ⟨rfl, hB2⟩
        have T2 := Lib.hid (T1.out.next hB2)
        clear hB2 e0 e1 e2 e3 e4 e5
        obtain ⟨e0, e1, e2, e3, e4, e5⟩ := T2.out.cells
        simp only at e0 e1 e2 e3 e4 e5
        go_wp2
        go_ret
        exact ⟨rfl, T2.out.1⟩
end Go.Proofs.Ytibkipdadpidnaa.Pat
