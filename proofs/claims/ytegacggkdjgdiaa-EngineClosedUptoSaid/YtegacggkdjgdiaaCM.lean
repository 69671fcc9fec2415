/- What a crash leaves is a closed set of patches: a patch put on top, and many. -/
import Derived.Test.YtegacggkdjgdiaaCL
set_option linter.unusedVariables false
set_option linter.unusedSimpArgs false
namespace Go.Proofs.Ytegacggkdjgdiaa
open Go.RowKit

/-- one more, over all that it overlaps -/
theorem mkI_ins {P : Nat → Pt} {T : Nat → Bool} {m b k : Nat} (h : Marked P m) (hk : k < m) (hb : (P k).b = (b : Int))
    (ho : ∀ j, k < j → j < m → T j = true → (P j).b = (b : Int) → ∀ q, cov (P k) q → ¬ cov (P j) q) :
    put (mkI P T m b) (P k) = mkI P (fun j => T j || j == k) m b := by
  have hr := h.right k hk
  obtain ⟨r1, r2, r3, r4, r5, r6⟩ := Pt.right_out hr
  have hl := mkI_len (T := T) h b
  refine ext_nth (by rw [length_put hr hl, mkI_len h b]) fun q hq => ?_
  rw [length_put hr hl] at hq
  rw [nth_put hr hl q]
  by_cases hc : cov (P k) q
  · rw [if_pos (by unfold cov at hc; exact hc), h.mark k hk _ (by unfold cov at hc; omega)]
    rcases mkI_byte (T := fun j => T j || j == k) h b hq with ⟨y, h1, h2, h3, h4, h5, h6⟩ | ⟨_, h2⟩
    · rw [h5]
      rcases Nat.lt_trichotomy y k with g | g | g
      · exact absurd hc (h6 k g hk (by simp) hb)
      · rw [g]
      · have ht : T y = true := by
          have e : (y == k) = false := by simp; omega
          simpa [e] using h2
        exact absurd h4 (ho y g h1 ht h3 q hc)
    · exact absurd hc (h2 k hk (by simp) hb)
  · rw [if_neg (by unfold cov at hc; exact hc)]
    rcases mkI_byte (T := T) h b hq with ⟨x, h1, h2, h3, h4, h5, h6⟩ | ⟨g1, g2⟩
    · rcases mkI_byte (T := fun j => T j || j == k) h b hq with ⟨y, q1, q2, q3, q4, q5, q6⟩ | ⟨_, q2⟩
      · have hyk : y ≠ k := fun e => by subst e; exact hc q4
        have ht : T y = true := by
          have e : (y == k) = false := by simp [hyk]
          simpa [e] using q2
        rw [h5, q5]
        rcases Nat.lt_trichotomy x y with g | g | g
        · exact absurd q4 (h6 y g q1 ht q3)
        · rw [g]
        · exact absurd h4 (q6 x g h1 (by simp [h2]) h3)
      · exact absurd h4 (q2 x h1 (by simp [h2]) h3)
    · rcases mkI_byte (T := fun j => T j || j == k) h b hq with ⟨y, q1, q2, q3, q4, q5, q6⟩ | ⟨q1, _⟩
      · have hyk : y ≠ k := fun e => by subst e; exact hc q4
        have ht : T y = true := by
          have e : (y == k) = false := by simp [hyk]
          simpa [e] using q2
        exact absurd q4 (g2 y q1 ht q3)
      · rw [g1, q1]
/-- many that rise, all on one block, put on what lasts -/
theorem mkI_put {P : Nat → Pt} {m b : Nat} (h : Marked P m) : ∀ (Q : List Wr) (T : Nat → Bool), Asc Q → (∀ x ∈ Q, ∃ k, k < m ∧ x.num = (k : Int) ∧ x.p = P k ∧ (P k).b = (b : Int) ∧ ∀ j, k < j → j < m → T j = true → (P j).b = (b : Int) → ∀ q, cov (P k) q → ¬ cov (P j) q) →
    putL (mkI P T m b) Q = mkI P (fun j => T j || hasN Q (j : Int)) m b
  | [], T, _, _ => by rw [putL_nil]; exact mkI_same fun k _ _ => by simp [hasN]
  | x :: Q, T, ha, hQ => by
    obtain ⟨ha1, ha2⟩ := List.pairwise_cons.1 ha
    obtain ⟨k, hk, hn, hp, hb, ho⟩ := hQ x List.mem_cons_self
    rw [putL_cons, hp, mkI_ins h hk hb ho, mkI_put h Q (fun j => T j || j == k) ha2 fun y hy => ?_]
    · refine mkI_same fun j _ _ => ?_
      have e : (x.num == (j : Int)) = (j == k) := by
        rw [hn]
        by_cases e : j = k
        · subst e; rw [beq_self_eq_true, beq_self_eq_true]
        · have e2 : ¬ (k : Int) = (j : Int) := by omega
          rw [show ((k : Int) == (j : Int)) = false by simpa using e2, show (j == k) = false by simpa using e]
      show ((T j || j == k) || hasN Q (j : Int)) = (T j || hasN (x :: Q) (j : Int))
      unfold hasN
      rw [List.any_cons, e, Bool.or_assoc]
    · obtain ⟨k2, h1, h2, h3, h4, h5⟩ := hQ y (List.mem_cons_of_mem _ hy)
      refine ⟨k2, h1, h2, h3, h4, fun j g1 g2 g3 g4 => ?_⟩
      have hlt := ha1 y hy
      have hjk : (j == k) = false := by
        have : j ≠ k := by omega
        simpa using this
      exact h5 j g1 g2 (by simpa [hjk] using g3) g4
end Go.Proofs.Ytegacggkdjgdiaa
