/- Plain words: what can come; contract of the document's own Ready. -/
import Derived.Test.YthffdkoncagimaaGR
import Derived.Test.YthffdkoncagimaaGT
namespace Go.Proofs.Ythffdkoncagimaa
set_option linter.unusedVariables false
set_option linter.unusedSimpArgs false
set_option maxRecDepth 100000
open Go.RowKit

/-- asked, and not done -/
def askM (m7 m8 : Nat → Bool) : Nat → Bool := fun n => m8 n && !m7 n
/-- those that can come, the numbers below k settled -/
def accT (D : List (List Nat)) (m7 m8 : Nat → Bool) : Nat → Nat → Bool
  | 0 => askM m7 m8
  | k + 1 => fun n => if n = k then accT D m7 m8 k k && (rowN D k).all (fun d => m7 d || accT D m7 m8 k d) else accT D m7 m8 k n
theorem accT_high (D : List (List Nat)) (m7 m8 : Nat → Bool) (k : Nat) : ∀ n, k ≤ n → accT D m7 m8 k n = askM m7 m8 n := by
  induction k with
  | zero => intros; rfl
  | succ k ih => intro n h; simp only [accT]; rw [if_neg (by omega)]; exact ih n (by omega)
theorem accT_low (D : List (List Nat)) (m7 m8 : Nat → Bool) (k n : Nat) (h : n < k) : accT D m7 m8 k n = accT D m7 m8 (n + 1) n := by
  induction k with
  | zero => omega
  | succ k ih =>
    by_cases e : n = k
    · subst e; rfl
    · simp only [accT]; rw [if_neg e]; have := ih (by omega); simp only [accT] at this; exact this
theorem all_congr {l : List Nat} {f g : Nat → Bool} (h : ∀ d ∈ l, f d = g d) : l.all f = l.all g := by
  induction l with
  | nil => rfl
  | cons a l ih => simp only [List.all_cons]; rw [h a (by simp), ih fun d hd => h d (List.mem_cons_of_mem _ hd)]
/-- the one equation -/
theorem accT_eq {D : List (List Nat)} (hD : ∀ n, ∀ d ∈ rowN D n, d < n) (m7 m8 : Nat → Bool) (B n : Nat) (h : n < B) :
    accT D m7 m8 B n = (askM m7 m8 n && (rowN D n).all (fun d => m7 d || accT D m7 m8 B d)) := by
  rw [accT_low D m7 m8 B n h]
  simp only [accT, if_true]
  rw [accT_high D m7 m8 n n (Nat.le_refl _)]
  congr 1
  refine all_congr fun d hd => ?_
  have hdn := hD n d hd
  rw [accT_low D m7 m8 n d hdn, accT_low D m7 m8 B d (by omega)]
theorem ready_fold {D : List (List Nat)} (hD : ∀ n, ∀ d ∈ rowN D n, d < n) (m7 m8 : Nat → Bool) (B k : Nat) (hk : k ≤ B) :
    rdFold D m7 (listM k m8) = (fun x => m7 x || (decide (x < k) && accT D m7 m8 B x), listM k (accT D m7 m8 B)) := by
  induction k with
  | zero =>
    have : listM 0 m8 = [] := rfl
    rw [this]
    show (m7, []) = _
    congr 1
    funext x
    simp
  | succ k ih =>
    have ih := ih (by omega)
    have hacc := accT_eq hD m7 m8 B k (by omega)
    rw [listM_succ k m8, listM_succ k (accT D m7 m8 B)]
    have same : accT D m7 m8 B k = false → ((fun x => m7 x || (decide (x < k) && accT D m7 m8 B x)) = fun x => m7 x || (decide (x < k + 1) && accT D m7 m8 B x)) := fun h => by
      funext x
      by_cases e : x = k
      · subst e; rw [h]; simp
      · have : decide (x < k) = decide (x < k + 1) := by rw [Bool.eq_iff_iff]; simp; omega
        rw [this]
    cases h8 : m8 k with
    | false =>
      have hf : accT D m7 m8 B k = false := by rw [hacc]; simp [askM, h8]
      rw [hf]
      simp only [Bool.false_eq_true, if_false, List.append_nil]
      rw [ih, same hf]
    | true =>
      simp only [if_true]
      rw [rdFold_snoc, ih]
      unfold rdStep
      have hk0 : (m7 k || (decide (k < k) && accT D m7 m8 B k)) = m7 k := by simp
      simp only [hk0]
      cases h7 : m7 k with
      | true =>
        have hf : accT D m7 m8 B k = false := by rw [hacc]; simp [askM, h7]
        rw [hf]
        simp only [if_true, Bool.false_eq_true, if_false, List.append_nil]
        rw [same hf]
      | false =>
        have hall : (rowN D k).all (fun x => m7 x || (decide (x < k) && accT D m7 m8 B x)) = accT D m7 m8 B k := by
          rw [hacc]
          have : askM m7 m8 k = true := by simp [askM, h8, h7]
          rw [this, Bool.true_and]
          exact all_congr fun d hd => by
            have := hD k d hd
            simp [this]
        simp only [Bool.false_eq_true, if_false]
        rw [hall]
        cases hv : accT D m7 m8 B k with
        | false =>
          simp only [Bool.false_eq_true, if_false, List.append_nil]
          rw [same hv]
        | true =>
          simp only [if_true]
          congr 1
          funext x
          by_cases e : x = k
          · subst e; simp [hv]
          · have : decide (x < k) = decide (x < k + 1) := by rw [Bool.eq_iff_iff]; simp; omega
            have e2 : (x == k) = false := by simp [e]
            rw [this, e2, Bool.or_false]
def accD (D : List (List Nat)) (l k : List Int) : Nat → Bool := accT D (markI D.length l) (markI D.length k) D.length
theorem accT_lt {D : List (List Nat)} {m7 m8 : Nat → Bool} {K : Nat} (h8 : ∀ x, m8 x = true → x < K) (B x : Nat) (h : accT D m7 m8 B x = true) : x < K := by
  induction B generalizing x with
  | zero => simp only [accT, askM, Bool.and_eq_true] at h; exact h8 x h.1
  | succ B ih =>
    simp only [accT] at h
    split at h
    · rename_i e; subst e; simp only [Bool.and_eq_true] at h; exact ih _ h.1
    · exact ih x h
theorem ready_gen {D : List (List Nat)} (hD : Right D) (m7 m8 : Nat → Bool) (h8 : ∀ x, m8 x = true → x < D.length) (B : Nat) (hB : D.length ≤ B) : (rdFold D m7 (listM B m8)).2 = listM D.length (accT D m7 m8 D.length) := by
  rw [ready_fold hD.2 m7 m8 B B (Nat.le_refl _)]
  have e : accT D m7 m8 B = accT D m7 m8 D.length := by
    funext x
    by_cases hx : x < D.length
    · rw [accT_low _ _ _ B x (by omega), accT_low _ _ _ D.length x hx]
    · have f : ∀ B, accT D m7 m8 B x = false := fun B => by
        rw [Bool.eq_false_iff]; intro h; exact hx (accT_lt h8 B x h)
      rw [f, f]
  simp only
  rw [e]
  exact listM_more hB (fun x h => accT_lt h8 _ x h)
theorem readyL_eq {D : List (List Nat)} (hD : Right D) (l k : List Int) : readyL D l k = listM D.length (accD D l k) :=
  ready_gen hD (markI D.length l) (markI D.length k) (fun _ h => markI_lt h) 256 hD.1
theorem accD_eq {D : List (List Nat)} (hD : Right D) (l k : List Int) {n : Nat} (hn : n < D.length) :
    accD D l k n = (askM (markI D.length l) (markI D.length k) n && (rowN D n).all (fun d => markI D.length l d || accD D l k d)) := accT_eq hD.2 _ _ _ n hn
theorem accD_lt {D : List (List Nat)} {l k : List Int} {x : Nat} (h : accD D l k x = true) : x < D.length := accT_lt (fun _ h => markI_lt h) _ x h
theorem mem_readyL {D : List (List Nat)} (hD : Right D) {l k : List Int} {x : Nat} : x ∈ readyL D l k ↔ accD D l k x = true := by
  rw [readyL_eq hD, mem_listM]
  exact ⟨fun h => h.2, fun h => ⟨accD_lt h, h⟩⟩
end Go.Proofs.Ythffdkoncagimaa
