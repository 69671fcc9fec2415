/- Two made one; two that change places. -/
import Derived.Test.YtibkipdadpidnaaPN
namespace Go.Proofs.Ytibkipdadpidnaa.Pat
set_option linter.unusedVariables false
set_option linter.unusedSimpArgs false
set_option maxRecDepth 100000
open Go.RowKit
theorem convert_empty (w : World) (A : Option Addr) (c : Nat) : (convert 22 9 (.slice A 0 c)).run Try.prog w = .ok (.string (strOfNums [])) w := by
  rw [run_convert_bytes_string w 22 9 5 _ 0 c Try.underlying22 Try.underlying5 Try.underlying9]
  cases A <;> simp [Conv.bytesToString, loadCells]
  all_goals rfl
theorem Bts.text {w : World} {B : Nat} {A : Option Addr} {l : List Int} (h : Bts w B A l) (c n : Nat) (hn : n = l.length) : (convert 22 9 (.slice A n c)).run Try.prog w = .ok (.string (strOfNums l)) w := by
  subst hn
  cases l with
  | nil => exact convert_empty w A c
  | cons x l =>
    obtain ⟨b, off, rfl, _, hc⟩ := h.2 (by simp)
    exact run_convert_bytes_arg w 22 5 Try.underlying22 Try.underlying5 b off _ c (x :: l) rfl hc 9 Try.underlying9

theorem strOf_inj {a b : List Int} (ha : AllB a) (hb : AllB b) : (strOfNums a = strOfNums b) = (a = b) := by
  apply propext
  constructor
  · intro h
    rw [← sb_strOf a ha, ← sb_strOf b hb, h]
  · intro h; rw [h]
theorem nth_put {l : List Int} {p : Pt} (hp : p.right = true) (hl : l.length = 32) (i : Nat) : nth (put l p) i = if p.o.toNat ≤ i ∧ i < p.o.toNat + p.s.size then nth (sb p.s) (i - p.o.toNat) else nth l i := by
  obtain ⟨_, _, h3, h4, h5, h6⟩ := Pt.right_out hp
  unfold put
  rw [nth_splice _ _ _ _ (by rw [length_sb]; omega), length_sb]
theorem undo_sb {l : List Int} {p : Pt} (ha : AllB l) : sb (undoP l p).s = part l p.o.toNat (p.o.toNat + p.s.size) := sb_strOf _ (part_all ha _ _)
theorem ok_of {p : Pt} (h : p.right = true) : p.ok := by
  obtain ⟨h1, h2, h3, h4, h5, h6⟩ := Pt.right_out h
  exact ⟨by omega, by omega, by unfold maxLen; omega⟩
theorem apart_out {p q : Pt} (h : p.apart q = false) : p.right = true ∧ q.right = true ∧ p.b = q.b ∧ p.o ≤ q.o + q.s.size ∧ q.o ≤ p.o + p.s.size := by
  have hb : p.both q = true := by
    cases h2 : p.both q with
    | true => rfl
    | false => simp [Pt.apart, h2] at h
  obtain ⟨h1, h2, h3⟩ := Pt.both_out hb
  have : ¬ q.o + q.s.size < p.o ∧ ¬ p.o + p.s.size < q.o := by simpa [Pt.apart, hb] using h
  exact ⟨h1, h2, h3, by omega, by omega⟩
theorem joinP_right {p q : Pt} (h : p.apart q = false) : (joinP p q).right = true := by
  obtain ⟨hp, hq, _, h4, h5⟩ := apart_out h
  obtain ⟨p1, p2, p3, p4, p5, p6⟩ := Pt.right_out hp
  obtain ⟨q1, q2, q3, q4, q5, q6⟩ := Pt.right_out hq
  have hl := length_put hq (length_put hp zeros_len)
  exact cutP_ok p.b _ _ _ p1 p2 (by simp only [Pt.e]; omega) (by rw [hl]; simp only [Pt.e]; omega) (by omega)
theorem nth_put2 {l : List Int} {p q : Pt} (hp : p.right = true) (hq : q.right = true) (hl : l.length = 32) (i : Nat) :
    nth (put (put l p) q) i = if q.o.toNat ≤ i ∧ i < q.o.toNat + q.s.size then nth (sb q.s) (i - q.o.toNat) else if p.o.toNat ≤ i ∧ i < p.o.toNat + p.s.size then nth (sb p.s) (i - p.o.toNat) else nth l i := by
  rw [nth_put hq (length_put hp hl), nth_put hp hl]
/-- JOIN DOES WHAT BOTH DO -/
theorem put_join {l : List Int} {p q : Pt} (h : p.apart q = false) (hl : l.length = 32) : put l (joinP p q) = put (put l p) q := by
  obtain ⟨hp, hq, _, h4, h5⟩ := apart_out h
  have hj := joinP_right h
  obtain ⟨p1, p2, p3, p4, p5, p6⟩ := Pt.right_out hp
  obtain ⟨q1, q2, q3, q4, q5, q6⟩ := Pt.right_out hq
  have hz := put_all (put_all zeros_all p) q
  have hlz := length_put hq (length_put hp zeros_len)
  have hpe : p.e = p.o + p.s.size := rfl
  have hqe : q.e = q.o + q.s.size := rfl
  have hs : sb (joinP p q).s = part (put (put zeros p) q) (min p.o q.o).toNat (max p.e q.e).toNat := sb_strOf _ (part_all hz _ _)
  have ho' : (joinP p q).o = ((min p.o q.o).toNat : Int) := rfl
  have hF : (min p.o q.o).toNat ≤ p.o.toNat ∧ (min p.o q.o).toNat ≤ q.o.toNat ∧ ((min p.o q.o).toNat = p.o.toNat ∨ (min p.o q.o).toNat = q.o.toNat) := by omega
  have hT : p.o.toNat + p.s.size ≤ (max p.e q.e).toNat ∧ q.o.toNat + q.s.size ≤ (max p.e q.e).toNat ∧ ((max p.e q.e).toNat = p.o.toNat + p.s.size ∨ (max p.e q.e).toNat = q.o.toNat + q.s.size) := by omega
  generalize (min p.o q.o).toNat = F at *
  generalize (max p.e q.e).toNat = T at *
  have ho : (joinP p q).o.toNat = F := by omega
  have hsz : (joinP p q).s.size = T - F := by rw [← length_sb, hs, length_part _ _ _ (by omega)]
  refine ext_nth (by rw [length_put hj hl, length_put hq (length_put hp hl)]) fun i _ => ?_
  rw [nth_put hj hl, nth_put2 hp hq hl, ho, hsz, hs]
  by_cases hi : F ≤ i ∧ i < T
  · rw [if_pos (by omega), nth_part _ _ _ _ (by omega), show F + (i - F) = i by omega, nth_put2 hp hq zeros_len]
    by_cases hq' : q.o.toNat ≤ i ∧ i < q.o.toNat + q.s.size
    · rw [if_pos hq', if_pos hq']
    · rw [if_neg hq', if_neg hq', if_pos (by omega), if_pos (by omega)]
  · rw [if_neg (by omega), if_neg (by omega), if_neg (by omega)]
/-- TWO THAT DO NOT OVERLAP DO THE SAME IN EITHER ORDER -/
theorem put_swap {l : List Int} {p q : Pt} (hp : p.right = true) (hq : q.right = true) (hb : p.b = q.b) (h : p.over q = false) (hl : l.length = 32) : put (put l p) q = put (put l q) p := by
  have hbo : p.both q = true := by simp [Pt.both, hp, hq, hb]
  have h' : ¬ (p.o < q.o + q.s.size ∧ q.o < p.o + p.s.size) := by simpa [Pt.over, hbo] using h
  obtain ⟨p1, p2, p3, p4, p5, p6⟩ := Pt.right_out hp
  obtain ⟨q1, q2, q3, q4, q5, q6⟩ := Pt.right_out hq
  refine ext_nth (by rw [length_put hq (length_put hp hl), length_put hp (length_put hq hl)]) fun i _ => ?_
  rw [nth_put2 hp hq hl, nth_put2 hq hp hl]
  by_cases h1 : q.o.toNat ≤ i ∧ i < q.o.toNat + q.s.size
  · rw [if_pos h1, if_neg (by omega), if_pos h1]
  · rw [if_neg h1, if_neg h1]
end Go.Proofs.Ytibkipdadpidnaa.Pat
