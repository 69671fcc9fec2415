/- All, Apply, Undo, Idle and the document's own, at whatever bytes. -/
import Derived.Test.YtiblmdpgdlacaaaQ
namespace Go.Proofs.Ytiblmdpgdlacaaa
open Go.RowKit

def ansP (l : List Int) (ps : List Pt) : Option (List Int) := if l.length = 32 then allP l ps else none
section
variable {A A2 : Option Addr} {n c m c2 : Nat} {l : List Int} {ps : List Pt} {p : Pt} {w : World}
theorem all_uni (hb : Bts w w.heap.size A l) (hn : n = l.length) (hP : Pats w w.heap.size A2 ps) (hm : m = ps.length) (h1 : ps.length ≤ 1000) (hok : ∀ k, k < ps.length → (pn ps k).ok) :
    Calls Try.prog 21 #[.slice A n c, .slice A2 m c2] w (Ans w (ansP l ps)) := by
  subst hn hm
  unfold ansP
  by_cases h : l.length = 32
  · rw [if_pos h, h]
    exact all_any A A2 c c2 l ps w hb h hP h1 hok
  · rw [if_neg h]
    exact (all_short A A2 _ c _ c2 w h).mono fun e w' ⟨x, y⟩ => ⟨by subst y; exact Below.refl _ _, x⟩
theorem refall_uni (hb : Bts w w.heap.size A l) (hn : n = l.length) (hP : Pats w w.heap.size A2 ps) (hm : m = ps.length) (h1 : ps.length ≤ 1000) (hok : ∀ k, k < ps.length → (pn ps k).ok) :
    Calls Try.prog 23 #[.slice A n c, .slice A2 m c2] w (Ans w (ansP l ps)) := by
  subst hn hm
  unfold ansP
  by_cases h : l.length = 32
  · rw [if_pos h, h]
    exact refall_any A A2 c c2 l ps w hb h hP h1 hok
  · rw [if_neg h]
    exact (refall_short A A2 _ c _ c2 w h).mono fun e w' ⟨x, y⟩ => ⟨by subst y; exact Below.refl _ _, x⟩
theorem apply_uni (hb : Bts w w.heap.size A l) (hn : n = l.length) (hp : p.ok) : Calls Try.prog 12 #[.slice A n c, p.v] w (Ans w (ansP l [p])) := by
  subst hn
  unfold ansP
  by_cases h : l.length = 32
  · rw [if_pos h, h]
    exact apply_any A c l p w hb h hp
  · rw [if_neg h]
    exact (apply_short A _ c p w h).mono fun e w' ⟨x, y⟩ => ⟨y, x⟩
theorem refapply_uni (hb : Bts w w.heap.size A l) (hn : n = l.length) (hp : p.ok) : Calls Try.prog 13 #[.slice A n c, p.v] w (Ans w (ansP l [p])) := by
  subst hn
  unfold ansP
  by_cases h : l.length = 32
  · rw [if_pos h, h]
    exact refapply_ans A c l p w hb h hp
  · rw [if_neg h]
    exact (ref_short A _ c p w h).mono fun e w' ⟨x, y⟩ => ⟨y, x⟩
def good (l : List Int) (p : Pt) : Bool := decide (l.length = 32) && p.right
theorem good_out (h : good l p = true) : l.length = 32 ∧ p.right = true := by simpa [good] using h
theorem good_not (h : good l p = false) : l.length ≠ 32 ∨ p.right = false := by
  by_cases h1 : l.length = 32
  · exact .inr (by simpa [good, h1] using h)
  · exact .inl h1
def undoA (l : List Int) (p : Pt) : Pt := if good l p then undoP l p else zeroP
def undoE (l : List Int) (p : Pt) : Int := if good l p then 0 else 3
theorem undo_uni (hb : Bts w w.heap.size A l) (hn : n = l.length) (hc : n ≤ c) (hp : p.ok) :
    Calls Try.prog 14 #[.slice A n c, p.v] w fun e w' => e = .returned (.tuple #[(undoA l p).v, .int .i64 (undoE l p)]) ∧ Below w.heap.size w w' := by
  subst hn
  unfold undoA undoE
  cases h : good l p with
  | true =>
    obtain ⟨h1, h2⟩ := good_out h
    rw [h1] at hc ⊢
    exact undo_yes A c l p w hb h1 hc h2
  | false =>
    by_cases h1 : l.length = 32
    · rw [h1]
      exact undo_no A c p w hp ((good_not h).resolve_left (by simp [h1]))
    · exact undo_short A _ c p w h1
theorem refundo_uni (hb : Bts w w.heap.size A l) (hn : n = l.length) (hc : n ≤ c) (hp : p.ok) :
    Calls Try.prog 15 #[.slice A n c, p.v] w fun e w' => e = .returned (.tuple #[(undoA l p).v, .int .i64 (undoE l p)]) ∧ Below w.heap.size w w' := by
  subst hn
  unfold undoA undoE
  cases h : good l p with
  | true =>
    obtain ⟨h1, h2⟩ := good_out h
    rw [h1] at hc ⊢
    exact refundo_yes A c l p w hb h1 hc h2
  | false =>
    by_cases h1 : l.length = 32
    · rw [h1]
      exact refundo_no A c p w hp ((good_not h).resolve_left (by simp [h1]))
    · exact refundo_short A _ c p w h1
def idleA (l : List Int) (p : Pt) : Bool := good l p && decide ((undoP l p).s = p.s)
theorem idle_uni (hb : Bts w w.heap.size A l) (hn : n = l.length) (hc : n ≤ c) (hp : p.ok) :
    Calls Try.prog 17 #[.slice A n c, p.v] w fun e w' => e = .returned (.bool (idleA l p)) ∧ Below w.heap.size w w' := by
  subst hn
  unfold idleA
  cases h : good l p with
  | true =>
    obtain ⟨h1, h2⟩ := good_out h
    rw [h1] at hc ⊢
    exact idle_yes A c l p w hb h1 hc h2
  | false => exact idle_bad A _ c p w hp (good_not h)
theorem refidle_uni (hb : Bts w w.heap.size A l) (hn : n = l.length) (hp : p.ok) :
    Calls Try.prog 18 #[.slice A n c, p.v] w fun e w' => e = .returned (.bool (idleA l p)) ∧ Below w.heap.size w w' := by
  subst hn
  unfold idleA
  cases h : good l p with
  | true =>
    obtain ⟨h1, h2⟩ := good_out h
    rw [h1]
    exact refidle_yes A c l p w hb h1 h2
  | false => exact refidle_bad A _ c p w hp (good_not h)
end
/-- what All answers, in one form: a slice whose text is told, and the error -/
def textP (r : Option (List Int)) : ByteArray := match r with | some m => strOfNums m | none => strOfNums []
def errP (r : Option (List Int)) : Int := match r with | some _ => 0 | none => 3
theorem Ans.form {w : World} {r : Option (List Int)} {e : Ending} {w' : World} (h : Ans w r e w') :
    Below w.heap.size w w' ∧ ∃ A n c, e = .returned (.tuple #[.slice A n c, .int .i64 (errP r)]) ∧ n ≤ c ∧ c ≤ maxLen ∧ (∀ W, Below w'.heap.size w' W → (convert 22 9 (.slice A n c)).run Try.prog W = .ok (.string (textP r)) W) ∧
      Bts w' w'.heap.size A (r.getD []) ∧ n = (r.getD []).length := by
  refine ⟨h.1, ?_⟩
  have h2 := h.2
  cases r with
  | none => exact ⟨none, 0, 0, h2, Nat.le_refl _, Nat.zero_le _, fun W _ => convert_empty W _ _, Bts.nil, rfl⟩
  | some m =>
    obtain ⟨A, c, e, h3, h4, h5, h6⟩ := h2
    exact ⟨A, 32, c, e, h3, h4, fun W hW => (h5.below hW).text c 32 h6.symm, h5, h6.symm⟩
end Go.Proofs.Ytiblmdpgdlacaaa
