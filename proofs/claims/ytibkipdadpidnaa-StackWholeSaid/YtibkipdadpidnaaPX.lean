/- The document's Join and the program's, of two patches of one block. -/
import Derived.Test.YtibkipdadpidnaaPV
import Derived.Test.YtibkipdadpidnaaPS
set_option linter.unusedVariables false
set_option linter.unusedSimpArgs false
set_option maxRecDepth 100000
namespace Go.Proofs.Ytibkipdadpidnaa.Pat
open Go.RowKit
def joinA (p q : Pt) : Pt := if p.apart q then zeroP else joinP p q
theorem join_any (p q : Pt) (w : World) (hp : p.ok) (hq : q.ok) :
    Calls Try.prog 54 #[p.v, q.v] w fun e w' => e = .returned (.tuple #[(joinA p q).v, .bool (!p.apart q)]) ∧ Below w.heap.size w w' := by
  unfold joinA
  cases h : p.apart q
  · exact join_yes p q w hp hq h
  · exact join_no p q w hp hq h
theorem has_iff (p : Pt) (i : Nat) : p.has i = true ↔ p.o ≤ (i : Int) ∧ (i : Int) < p.o + p.s.size := by simp [Pt.has]
theorem two_has {p q : Pt} {F T i : Nat} (h : ((p.o ≤ (i : Int) ∧ (i : Int) < p.o + p.s.size) ∨ (q.o ≤ (i : Int) ∧ (i : Int) < q.o + q.s.size)) ↔ (F ≤ i ∧ i < T)) : (p.has i || q.has i) = (decide (F ≤ i) && decide (i < T)) := by
  rw [Bool.eq_iff_iff, Bool.or_eq_true, has_iff, has_iff, h, Bool.and_eq_true, decide_eq_true_eq, decide_eq_true_eq]
theorem refjoin_any (p q : Pt) (w : World) (hb : p.both q = true) :
    Calls Try.prog 80 #[p.v, q.v] w fun e w' => e = .returned (.tuple #[(joinA p q).v, .bool (!p.apart q)]) ∧ Below w.heap.size w w' := by
  unfold joinA
  obtain ⟨h1, h2, h3⟩ := Pt.both_out hb
  obtain ⟨p1, p2, p3, p4, p5, p6⟩ := Pt.right_out h1
  obtain ⟨q1, q2, q3, q4, q5, q6⟩ := Pt.right_out h2
  cases h : p.apart q with
  | false =>
    obtain ⟨_, _, _, h4, h5⟩ := apart_out h
    have hpe : p.e = p.o + p.s.size := rfl
    have hqe : q.e = q.o + q.s.size := rfl
    have := refjoin_run p q w (min p.o q.o).toNat (max p.e q.e).toNat 32 h1 h2 h3 (fun i _ => two_has (by omega)) (by omega) (by omega) (by omega) (by omega)
    exact this
  | true =>
    have h' : q.o + q.s.size < p.o ∨ p.o + p.s.size < q.o := by simpa [Pt.apart, hb] using h
    rcases h' with h4 | h4
    · have := refjoin_run p q w q.o.toNat (q.o.toNat + q.s.size) p.o.toNat h1 h2 h3 (fun i _ => two_has (by omega)) (by omega) (by omega) (by omega) (fun _ => ⟨by rw [Bool.or_eq_true, has_iff, has_iff]; omega, by omega⟩)
      rw [if_pos (by omega), decide_eq_true (show p.o.toNat < 32 by omega)] at this
      exact this
    · have := refjoin_run p q w p.o.toNat (p.o.toNat + p.s.size) q.o.toNat h1 h2 h3 (fun i _ => two_has (by omega)) (by omega) (by omega) (by omega) (fun _ => ⟨by rw [Bool.or_eq_true, has_iff, has_iff]; omega, by omega⟩)
      rw [if_pos (by omega), decide_eq_true (show q.o.toNat < 32 by omega)] at this
      exact this
end Go.Proofs.Ytibkipdadpidnaa.Pat
