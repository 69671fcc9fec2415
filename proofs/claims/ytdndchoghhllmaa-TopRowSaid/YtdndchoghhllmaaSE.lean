/- What the walks of the laws share. -/
import Derived.Test.YtdndchoghhllmaaSD
set_option linter.unusedVariables false
set_option linter.unusedSimpArgs false
namespace Go.Proofs.Ytdndchoghhllmaa
open Go.RowKit
/-- is one of the first k a y? -/
def hasK (l : List Int) (y : Int) (k : Nat) : Bool := (l.take k).any (fun z => z == y)
theorem hasK_step {l : List Int} {y : Int} {k : Nat} (h : k < l.length) : hasK l y (k + 1) = (hasK l y k || (inn l k == y)) := by
  unfold hasK; rw [take_inn h, List.any_append]; simp
theorem hasK_all {l : List Int} {y : Int} : hasK l y l.length = decide (y ∈ l) := by
  unfold hasK; rw [List.take_length]
  by_cases h : y ∈ l
  · rw [decide_eq_true h]; simp [h]
  · rw [decide_eq_false h]
    cases q : l.any (fun z => z == y) with
    | false => rfl
    | true => obtain ⟨z, hz, e⟩ := List.any_eq_true.1 q; exact absurd hz (by rw [show z = y by simpa using e]; exact h)
theorem mem_beh {x : Gs} {n m y : Int} (hn : n ∈ x.engaged) (hm : m ∈ aheadR x.l n) (hy : y ∈ (ofN x.l m).p) : y ∈ x.behind := by
  show y ∈ foldP x.l [] (x.engaged.flatMap fun n => aheadR x.l n)
  exact mem_foldP.2 (.inr ⟨m, List.mem_flatMap.2 ⟨n, hn, hm⟩, hy⟩)
theorem beh_none {x : Gs} (h : x.engaged.length = 0) : x.behind = [] := by
  show foldP x.l [] (x.engaged.flatMap fun n => aheadR x.l n) = []
  rw [List.eq_nil_of_length_eq_zero h]; rfl
theorem aheadR_in {c : Nat} {x : Gs} (hO : x.Ok c) {n y : Int} (h : y ∈ aheadR x.l n) : y ∈ nos x.l := by
  have hg : GoodO x.l (aheadR x.l n) := ((GoodO.nil _).withL (hO.hin n)).rounds hO.hin _
  exact hg.2 y h
theorem engaged_in {x : Gs} {n : Int} (h : n ∈ x.engaged) : n ∈ nos x.l := by
  obtain ⟨g, hg, e, _⟩ := Gs.mem_engaged.1 h
  rw [← e]; exact in_nos hg
theorem far4 {c : Nat} {x : Gs} (hO : x.Ok c) {n y : Int} (h : Far x.l n y) : y ∈ nos x.l ∧ (ofN x.l y).s = 4 := by
  have one : ∀ n m, m ∈ (ofN x.l n).a → m ∈ nos x.l ∧ (ofN x.l m).s = 4 := fun n m hm => by
    by_cases hn : n ∈ nos x.l
    · exact (hO.al _ (ofN_in hn).1).2 m hm
    · rw [ofN_out hn] at hm; cases hm
  induction h with
  | one h => exact one _ _ h
  | step _ _ ih => exact ih
theorem stG_s (l : List Gp) (n : Int) : stG l n = (ofN l n).s := by
  unfold stG
  by_cases h : n ∈ nos l
  · rw [if_pos h]
  · rw [if_neg h, ofN_out h]
theorem ahead4 {c : Nat} {x : Gs} (hO : x.Ok c) {n y : Int} (h : y ∈ aheadR x.l n) : stG x.l y = 4 := by
  rw [stG_s]; exact (far4 hO ((mem_aheadR hO.hin n y).1 h)).2
theorem ahead_trans {c : Nat} {x : Gs} (hO : x.Ok c) {n m y : Int} (h1 : m ∈ aheadR x.l n) (h2 : y ∈ aheadR x.l m) : y ∈ aheadR x.l n :=
  (mem_aheadR hO.hin n y).2 (((mem_aheadR hO.hin n m).1 h1).trans ((mem_aheadR hO.hin m y).1 h2))
/-- what a law's walk has behind play and live -/
structure Laid (B c : Nat) (w : World) (g : Nat) (x : Gs) : Prop where
  ok : x.Ok c
  lt : c ≤ 110
  two : ∀ V, Below w.heap.size w V → ∃ h y, Two B c V g h x y
namespace Laid
variable {B c g : Nat} {w V : World} {x : Gs} {n : Int}
theorem of {h : Nat} {y : Gs} (hO : x.Ok c) (hc : c ≤ 110) (t : Two B c w g h x y) : Laid B c w g x := ⟨hO, hc, fun V hV => ⟨h, y, t.fresh hV⟩⟩
theorem next (t : Laid B c w g x) {w' : World} (hb : Below w.heap.size w w') : Laid B c w' g x := ⟨t.ok, t.lt, fun V hV => t.two V (hb.trans (hV.mono hb.size))⟩
theorem state (t : Laid B c w g x) (hn : WfI n) : Calls Try.prog 17 #[.pointer (some ⟨g, 0, none⟩), .int .i64 n] w fun e w' => e = .returned (.int .u8 (stG x.l n)) ∧ w = w' := by
  obtain ⟨h, y, t2⟩ := t.two w (Below.refl _ _)
  exact q_state t2 hn
theorem patches (t : Laid B c w g x) (hn : WfI n) : Calls Try.prog 18 #[.pointer (some ⟨g, 0, none⟩), .int .i64 n] w (GivesI w (ofN x.l n).p) := by
  obtain ⟨h, y, t2⟩ := t.two w (Below.refl _ _)
  exact q_patches t2 t.ok (by have := t.lt; omega) hn
theorem ahead (t : Laid B c w g x) (hn : WfI n) : Calls Try.prog 16 #[.pointer (some ⟨g, 0, none⟩), .int .i64 n] w (GivesI w (aheadR x.l n)) := by
  obtain ⟨h, y, t2⟩ := t.two w (Below.refl _ _)
  exact q_ahead t2 t.ok (by have := t.lt; omega) hn
theorem behind (t : Laid B c w g x) : Calls Try.prog 25 #[.pointer (some ⟨g, 0, none⟩)] w (GivesI w x.behind) := by
  obtain ⟨h, y, t2⟩ := t.two w (Below.refl _ _)
  exact q_behind t2 t.ok (by have := t.lt; omega)
theorem engaged (t : Laid B c w g x) : Calls Try.prog 26 #[.pointer (some ⟨g, 0, none⟩)] w (GivesI w x.engaged) := by
  obtain ⟨h, y, t2⟩ := t.two w (Below.refl _ _)
  exact q_engaged t2 t.ok (by have := t.lt; omega)
theorem wf (t : Laid B c w g x) (hn : n ∈ nos x.l) : WfI n := t.ok.wf (by have := t.lt; omega) n hn
end Laid
end Go.Proofs.Ytdndchoghhllmaa
