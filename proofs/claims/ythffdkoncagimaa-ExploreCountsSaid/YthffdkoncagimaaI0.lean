/- A region that draws its order in a loop's round: walked as if there were no round. -/
import Derived.Test.YthffdkoncagimaaH
set_option linter.unusedVariables false
set_option linter.unusedSimpArgs false
namespace Go.Proofs.Ythffdkoncagimaa
open Go.RowKit Go.Shelf
/-- no operation defers -/
def noDefer (ops : Array Oper) : Bool := ops.all fun o => match o.op with | .defer _ => false | _ => true
theorem noDefer_at {ops : Array Oper} (h : noDefer ops = true) {i : Nat} {o : Oper} (ho : ops[i]? = some o) (c : Call) : o.op ≠ .defer c := fun e => by
  obtain ⟨hi, rfl⟩ := Array.getElem?_eq_some_iff.1 ho
  have := Array.all_eq_true.1 h i hi
  rw [e] at this
  cases this
section
variable {F : Fence} {n : Nat} {P : Program} {ops : Array Oper} {Q : Exit → Act → World → Prop}
theorem uponIn_round (l : Nat) {o : Oper} {K K' : Act → World → Prop} {a : Act} (hk : ∀ a w, K a w → K' a w) : ∀ (r : Result Next), o.uponIn F n P a K Q r → o.uponIn (F.inRound l) n P a K' Q r
  | .ok (.value _) _, h => hk _ _ h
  | .ok .skip _, h => hk _ _ h
  | .ok (.defer _) _, h => hk _ _ h
  | .ok (.enter _ _) _, h => ⟨h.1, CallsIn.inRound l (h.2.mono fun e w'' q => by
      cases e with
      | returned v => exact hk _ _ q
      | panicked c => exact q
      | outgrown => exact q)⟩
  | .ok (.row _ _) _, h => ⟨h.1, h.2.mono fun v w'' q => hk _ _ q⟩
  | .ok (.round _ _ _ _ _) _, h => ⟨h.1, h.2.mono fun e w'' q => by
      cases e with
      | returned v => exact hk _ _ q
      | panicked c => exact q
      | outgrown => exact q⟩
  | .halt (.panic _) _, h => h
  | r, h => by
    rcases r with ⟨x, w'⟩ | ⟨x, w'⟩
    · cases x <;> first
        | exact hk _ _ h
        | exact (h : False).elim
        | exact ⟨h.1, CallsIn.inRound l (h.2.mono fun e w'' q => by
            cases e with
            | returned v => exact hk _ _ q
            | panicked c => exact q
            | outgrown => exact q)⟩
        | exact ⟨h.1, h.2.mono fun v w'' q => hk _ _ q⟩
        | exact ⟨h.1, h.2.mono fun e w'' q => by
            cases e with
            | returned v => exact hk _ _ q
            | panicked c => exact q
            | outgrown => exact q⟩
    · cases x <;> first
        | exact h
        | exact (h : False).elim
theorem wpOpIn_round (l : Nat) (hd : noDefer ops = true) {i : Nat} {K K' : Act → World → Prop} {a : Act} {w : World} (hk : ∀ a w, K a w → K' a w) (h : wpOpIn F n P ops Q i K a w) : wpOpIn (F.inRound l) n P ops Q i K' a w := by
  unfold wpOpIn at h ⊢
  cases ho : ops[i]? with
  | none => rw [ho] at h; exact hk _ _ h
  | some o =>
    rw [ho] at h
    by_cases hw : Region.wanted o (yielded ops a.tmps) = true
    · simp only [hw, if_true] at h ⊢
      unfold Oper.wpIn at h ⊢
      refine ⟨h.1, ?_⟩
      have h2 := h.2
      rw [Oper.semAt_plain F _ _ (noDefer_at hd ho)] at h2
      rw [Oper.semAt_plain (F.inRound l) _ _ (noDefer_at hd ho)]
      exact uponIn_round l hk _ h2
    · simp only [hw, if_false, Bool.false_eq_true] at h ⊢
      exact ⟨h.1, hk _ _ h.2⟩
theorem wpAnyIn_round {md : Region.Mode} (l : Nat) (hd : noDefer ops = true) : ∀ (fuel : Nat) (listed : Array Bool) (a : Act) (w : World), wpAnyIn F n P md ops Q fuel listed a w → wpAnyIn (F.inRound l) n P md ops Q fuel listed a w
  | 0, _, _, _, h => h
  | fuel + 1, listed, a, w, h => ⟨h.1, fun i hi => wpOpIn_round l hd (fun a w q => wpAnyIn_round l hd fuel _ a w q) (h.2 i hi)⟩
end
end Go.Proofs.Ythffdkoncagimaa
