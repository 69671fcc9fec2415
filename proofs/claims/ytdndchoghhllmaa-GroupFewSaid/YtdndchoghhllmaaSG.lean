/- Took on one of two; what stays of a group that is released. -/
import Derived.Test.YtdndchoghhllmaaSE
set_option linter.unusedVariables false
set_option linter.unusedSimpArgs false
namespace Go.Proofs.Ytdndchoghhllmaa
open Go.RowKit
theorem ofN_map {l : List Gp} {f : Gp → Gp} (hf : ∀ g, (f g).n = g.n) (hd : f ⟨0, 0, [], []⟩ = ⟨0, 0, [], []⟩) (n : Int) : ofN (l.map f) n = f (ofN l n) := by
  unfold ofN
  rw [List.find?_map]
  have : (isN n ∘ f) = isN n := by funext g; unfold isN; simp [hf]
  rw [this]
  cases l.find? (isN n) with
  | none => simp [hd]
  | some g => rfl
theorem tookG_n (y : Int) (g : Gp) : (tookG y g).n = g.n := by unfold tookG; split <;> rfl
theorem took_eq (x : Gs) (y : Int) : (x.took y).l = x.l.map (tookG y) := rfl
theorem took_of (x : Gs) (y n : Int) : ofN (x.took y).l n = tookG y (ofN x.l n) := by
  rw [took_eq, ofN_map (tookG_n y) (by unfold tookG; rw [if_neg (by decide)])]
theorem took_st (x : Gs) (y n : Int) : stG (x.took y).l n = stG x.l n := by
  rw [stG_s, stG_s, took_of]; unfold tookG; split <;> rfl
theorem took_has {x : Gs} (y n : Int) : decide (y ∈ (ofN (x.took y).l n).p) = (decide (y ∈ (ofN x.l n).p) || decide (stG (x.took y).l n = 2)) := by
  rw [took_st, stG_s, took_of]
  unfold tookG
  by_cases h : (ofN x.l n).s = 2
  · rw [if_pos h, decide_eq_true h, Bool.or_true]
    exact decide_eq_true (mem_with.2 (.inl rfl))
  · rw [if_neg h, decide_eq_false h, Bool.or_false]
theorem took_len {c : Nat} {x : Gs} (hO : x.Ok c) (y n : Int) : (ofN x.l n).p.length ≤ (ofN (x.took y).l n).p.length := by
  rw [took_of]
  unfold tookG
  split
  · exact sub_len (rises_nodup (hO.pofN n).1) (fun z hz => mem_with.2 (.inr hz))
  · exact Nat.le_refl _
end Go.Proofs.Ytdndchoghhllmaa
