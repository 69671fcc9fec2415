/- What a crash leaves is a closed set of patches: at first, and when one is added. -/
import Derived.Test.YtegacggkdjgdiaaCN
set_option linter.unusedVariables false
set_option linter.unusedSimpArgs false
namespace Go.Proofs.Ytegacggkdjgdiaa
open Go.RowKit

theorem mkI_seq {P P' : Nat → Pt} {T : Nat → Bool} {m b : Nat} (h : ∀ k, k < m → P k = P' k) : mkI P T m b = mkI P' T m b := by
  induction m with
  | zero => rfl
  | succ m ih =>
    unfold mkI
    rw [ih fun k hk => h k (by omega), h m (by omega)]
/-- one more that is not in the set -/
theorem mkI_out {P : Nat → Pt} {T : Nat → Bool} {m b : Nat} (h : T m = false) : mkI P T (m + 1) b = mkI P T m b := by
  show (if (T m && ((P m).b == (b : Int))) = true then put (mkI P T m b) (P m) else mkI P T m b) = _
  rw [h]; rfl
namespace VS
theorem nil (P : Nat → Pt) (D : Nat → List Nat) : VS P D 0 (fun (_ : Nat) => (Bk.mk (List.replicate 32 0) [] false)) [] :=
  ⟨⟨fun k hk => absurd hk (by omega), fun k hk => absurd hk (by omega)⟩, fun x y h1 h2 => absurd h2 (by omega), ⟨List.Pairwise.nil, (fun x hx => by cases hx), (fun x hx => by cases hx)⟩, (fun x hx => by cases hx), (fun x hx => by cases hx), fun k hk => absurd hk (by omega), fun b => rfl, (fun b V hV => by cases hV), fun b => rfl⟩
theorem hasN_snoc (l : List Wr) (y : Wr) (n : Int) : hasN (l ++ [y]) n = (hasN l n || y.num == n) := by simp [hasN]
theorem hasW_snoc (l : List Wr) (y : Wr) (n : Int) : hasW (l ++ [y]) n = (hasW l n || (y.num == n && y.wr)) := by simp [hasW]
/-- a new one -/
theorem add {P : Nat → Pt} {D : Nat → List Nat} {m : Nat} {S : Nat → Bk} {l : List Wr} {P' : Nat → Pt} {D' : Nat → List Nat} (h : VS P D m S l) {y : Wr} (hy : y.num = (m : Int)) (hyp : y.p = P' m) (hyw : y.wr = false)
    (hP : ∀ k, k < m → P k = P' k) (hD : ∀ k, k < m → D k = D' k) (hm : (P' m).right = true) (hmk : ∀ j, j < (P' m).s.size → nth (sb (P' m).s) j = (m : Int) + 1)
    (hd : ∀ d ∈ D' m, d < m) (hdo : ∀ k, k < m → ∀ d ∈ D' k, d < m) (ho : ∀ x, x < m → (P' x).b = (P' m).b → ∀ q, cov (P' x) q → cov (P' m) q → x ∈ D' m)
    (ha : ∀ d ∈ D' m, hasN l (d : Int) = true → (d : Int) ∈ y.ah) (hah : ∀ d ∈ y.ah, d < (m : Int)) : VS P' D' (m + 1) S (l ++ [y]) := by
  have hlt : ∀ x ∈ l, x.num < (m : Int) := fun x hx => by obtain ⟨k, h1, h2, _⟩ := h.num x hx; omega
  have hN : ∀ k : Nat, k < m → hasN (l ++ [y]) (k : Int) = hasN l (k : Int) := fun k hk => by
    rw [hasN_snoc, hy]
    have e : ((m : Int) == (k : Int)) = false := by simp; omega
    rw [e, Bool.or_false]
  have hWn : ∀ k : Nat, hasW (l ++ [y]) (k : Int) = hasW l (k : Int) := fun k => by
    rw [hasW_snoc, hyw]; simp
  have hNm : hasN (l ++ [y]) (m : Int) = true := by rw [hasN_snoc, hy]; simp
  have hlm : hasN l (m : Int) = false := by
    rw [hasN_no]
    intro x hx; have := hlt x hx; omega
  have hWm : hasW l (m : Int) = false := by
    cases e : hasW l (m : Int) with
    | false => rfl
    | true => rw [hasW_hasN e] at hlm; cases hlm
  have hI : ∀ (R : Nat → Bool) b, R m = false → mkI P (fun k => !hasN l (k : Int) || R k) m b = mkI P' (fun k => !hasN (l ++ [y]) (k : Int) || R k) (m + 1) b := fun R b hR => by
    rw [mkI_out (by rw [hNm, hR]; rfl), ← mkI_seq hP]
    exact mkI_same fun k hk _ => by rw [hN k hk]
  refine ⟨⟨fun k hk => ?_, fun k hk => ?_⟩, fun x z h1 h2 h3 q h4 h5 => ?_, ⟨?_, ?_, ?_⟩, fun x hx => ?_, fun x hx k hk d hdk hn => ?_, fun k hk hn d hdk => ?_, fun b => ?_, fun b V hV => ?_, fun b => ?_⟩
  · rcases Nat.lt_or_ge k m with g | g
    · rw [← hP k g]; exact h.mark.right k g
    · obtain rfl : k = m := by omega
      exact hm
  · rcases Nat.lt_or_ge k m with g | g
    · rw [← hP k g]; exact h.mark.mark k g
    · obtain rfl : k = m := by omega
      exact hmk
  · rcases Nat.lt_or_ge z m with g | g
    · rw [← hP x (by omega)] at h3 h4
      rw [← hP z g] at h3 h5
      rw [← hD z g]
      exact h.ov x z h1 g h3 q h4 h5
    · obtain rfl : z = m := by omega
      exact ho x h1 h3 q h4 h5
  · refine List.pairwise_append.2 ⟨h.cl.asc, List.pairwise_singleton _ _, fun a hae b hbe => ?_⟩
    rw [List.mem_singleton] at hbe
    have := hlt a hae
    rw [hbe]; omega
  · intro x hx d hdx
    rcases List.mem_append.1 hx with q | q
    · exact h.cl.dep x q d hdx
    · rw [List.mem_singleton] at q
      subst q
      have := hah d hdx; omega
  · intro x hx hw z hz hzx
    rcases List.mem_append.1 hx with q | q
    · rcases List.mem_append.1 hz with g | g
      · exact h.cl.cl x q hw z g hzx
      · rw [List.mem_singleton] at g
        subst g
        have := h.cl.dep x q _ hzx
        have := hlt x q
        omega
    · rw [List.mem_singleton] at q
      subst q
      rw [hyw] at hw; cases hw
  · rcases List.mem_append.1 hx with q | q
    · obtain ⟨k, h1, h2, h3⟩ := h.num x q
      exact ⟨k, by omega, h2, by rw [h3, hP k h1]⟩
    · rw [List.mem_singleton] at q
      subst q
      exact ⟨m, by omega, hy, hyp⟩
  · rcases List.mem_append.1 hx with q | q
    · have hkm : k < m := by have := hlt x q; omega
      rw [← hD k hkm] at hdk
      have hdm := hdo k hkm d (by rw [← hD k hkm]; exact hdk)
      rw [hN d hdm] at hn
      exact h.ah x q k hk d hdk hn
    · rw [List.mem_singleton] at q
      subst q
      obtain rfl : k = m := by omega
      rw [hN d (hd d hdk)] at hn
      exact ha d hdk hn
  · rcases Nat.lt_or_ge k m with g | g
    · rw [hN k g] at hn
      have hdm := hdo k g d hdk
      rw [hN d hdm]
      exact h.cw k g hn d (by rw [hD k g]; exact hdk)
    · obtain rfl : k = m := by omega
      rw [hNm] at hn; cases hn
  · rw [h.s b]
    have := hI (fun _ => false) b rfl
    simpa using this
  · obtain ⟨R, h1, h2⟩ := h.v b V hV
    refine ⟨fun k => R k && decide (k < m), ?_, fun k hk => ?_⟩
    · rw [h1, ← hI _ b (by simp)]
      exact mkI_same fun k hk _ => by simp [hk]
    · rw [Bool.and_eq_true, decide_eq_true_eq] at hk
      obtain ⟨h3, h4⟩ := h2 k hk.1
      refine ⟨by rw [← hP k hk.2]; exact h3, fun d hdk => ?_⟩
      have hdm := hdo k hk.2 d hdk
      rw [← hD k hk.2] at hdk
      rw [hN d hdm]
      rcases h4 d hdk with q | q
      · exact .inl q
      · exact .inr (by simp [q, hdm])
  · rw [h.now b, hI (fun k => hasW l (k : Int)) b hWm]
    exact mkI_same fun k _ _ => by rw [hWn]
end VS
/-- the whole: what is seen of what a crash leaves, closed, is what it leaves -/
theorem VS.close {P : Nat → Pt} {D : Nat → List Nat} {m n : Nat} {S : Nat → Bk} {l : List Wr} (h : VS P D m S l) (hb : ∀ k, k < m → (P k).b < n) (hd : ∀ y, y < m → ∀ d ∈ D y, d < m) (pick : List Int) :
    ∃ T : Nat → Bool, (∀ b, (crashed n S pick b).s = mkI P T m b) ∧ ∀ C : Nat → Bool,
      (∀ k, k < m → (hasN l (k : Int) = false ∨ ∃ b q, b < n ∧ q < 32 ∧ nth (crashed n S pick b).s q = (k : Int) + 1) → C k = true) → ClosedT D m C →
      (∀ U : Nat → Bool, ClosedT D m U → (∀ k, k < m → (hasN l (k : Int) = false ∨ ∃ b q, b < n ∧ q < 32 ∧ nth (crashed n S pick b).s q = (k : Int) + 1) → U k = true) → ∀ k, k < m → C k = true → U k = true) →
      ∀ b, mkI P C m b = (crashed n S pick b).s := by
  obtain ⟨T, h1, h2, h3⟩ := h.crash n pick
  refine ⟨T, h1, fun C c1 c2 c3 b => ?_⟩
  rw [h1 b]
  have e : ∀ k, SeenT P T (fun k => hasN l (k : Int)) m n k ↔ (hasN l (k : Int) = false ∨ ∃ b q, b < n ∧ q < 32 ∧ nth (crashed n S pick b).s q = (k : Int) + 1) := fun k => by
    unfold SeenT
    simp only [h1]
  exact mkI_same fun k hk _ => close_is (W := fun k => hasN l (k : Int)) h.mark hb hd h.ov (fun k _ hw => h3 k hw) h2 (fun k hk hs => c1 k hk ((e k).1 hs)) c2 (fun U u1 u2 => c3 U u1 (fun k hk hs => u2 k hk ((e k).2 hs))) k hk
end Go.Proofs.Ytegacggkdjgdiaa
