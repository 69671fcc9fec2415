/- What a crash leaves is a closed set of patches: the plain part, on sets of marked patches. -/
import Derived.Test.YtegacggkdjgdiaaH7
set_option linter.unusedVariables false
set_option linter.unusedSimpArgs false
namespace Go.Proofs.Ytegacggkdjgdiaa
open Go.RowKit

/-- a patch reaches byte q of its block -/
def cov (p : Pt) (q : Nat) : Prop := p.o.toNat ≤ q ∧ q < p.o.toNat + p.s.size
/-- a set of patches over zeros, in the order of their numbers: block b -/
def mkI (P : Nat → Pt) (T : Nat → Bool) : Nat → Nat → List Int
  | 0, b => List.replicate 32 0
  | m + 1, b => if T m && ((P m).b == (b : Int)) then put (mkI P T m b) (P m) else mkI P T m b
/-- each is right, and its bytes are its number and one -/
structure Marked (P : Nat → Pt) (m : Nat) : Prop where
  right : ∀ k, k < m → (P k).right = true
  mark : ∀ k, k < m → ∀ j, j < (P k).s.size → nth (sb (P k).s) j = (k : Int) + 1
theorem Marked.less {P : Nat → Pt} {m m' : Nat} (h : Marked P m') (hm : m ≤ m') : Marked P m :=
  ⟨fun k hk => h.right k (by omega), fun k hk => h.mark k (by omega)⟩
theorem mkI_len {P : Nat → Pt} {T : Nat → Bool} {m : Nat} (h : Marked P m) (b : Nat) : (mkI P T m b).length = 32 := by
  induction m with
  | zero => simp [mkI]
  | succ m ih =>
    unfold mkI
    split
    · exact length_put (h.right m (by omega)) (ih (h.less (by omega)))
    · exact ih (h.less (by omega))
theorem mkI_same {P : Nat → Pt} {T U : Nat → Bool} {m b : Nat} (h : ∀ k, k < m → (P k).b = (b : Int) → T k = U k) : mkI P T m b = mkI P U m b := by
  induction m with
  | zero => rfl
  | succ m ih =>
    unfold mkI
    rw [ih fun k hk => h k (by omega)]
    by_cases e : (P m).b = (b : Int)
    · rw [h m (by omega) e]
    · have : ((P m).b == (b : Int)) = false := by simpa using e
      rw [this, Bool.and_false, Bool.and_false]
/-- a byte is that of the last one that reaches it -/
theorem mkI_byte {P : Nat → Pt} {T : Nat → Bool} {m : Nat} (h : Marked P m) (b : Nat) {q : Nat} (hq : q < 32) :
    (∃ k, k < m ∧ T k = true ∧ (P k).b = (b : Int) ∧ cov (P k) q ∧ nth (mkI P T m b) q = (k : Int) + 1 ∧ ∀ j, k < j → j < m → T j = true → (P j).b = (b : Int) → ¬ cov (P j) q) ∨
    (nth (mkI P T m b) q = 0 ∧ ∀ j, j < m → T j = true → (P j).b = (b : Int) → ¬ cov (P j) q) := by
  induction m with
  | zero =>
    refine .inr ⟨?_, fun j hj => absurd hj (by omega)⟩
    exact nth_repl 32 q
  | succ m ih =>
    have hl := mkI_len (T := T) (h.less (by omega : m ≤ m + 1)) b
    have hr := h.right m (by omega)
    obtain ⟨r1, r2, r3, r4, r5, r6⟩ := Pt.right_out hr
    have ih := ih (h.less (by omega))
    by_cases e : T m = true ∧ (P m).b = (b : Int)
    · have e1 : mkI P T (m + 1) b = put (mkI P T m b) (P m) := by simp [mkI, e.1, e.2]
      rw [e1]
      have en := nth_put hr hl q
      by_cases hc : cov (P m) q
      · refine .inl ⟨m, by omega, e.1, e.2, hc, ?_, fun j h1 h2 => absurd h1 (by omega)⟩
        rw [en, if_pos (by unfold cov at hc; exact hc)]
        exact h.mark m (by omega) _ (by unfold cov at hc; omega)
      · rw [if_neg (by unfold cov at hc; exact hc)] at en
        rw [en]
        rcases ih with ⟨k, h1, h2, h3, h4, h5, h6⟩ | ⟨h1, h2⟩
        · refine .inl ⟨k, by omega, h2, h3, h4, h5, fun j g1 g2 g3 g4 => ?_⟩
          rcases Nat.lt_or_ge j m with g | g
          · exact h6 j g1 g g3 g4
          · obtain rfl : j = m := by omega
            exact hc
        · refine .inr ⟨h1, fun j g2 g3 g4 => ?_⟩
          rcases Nat.lt_or_ge j m with g | g
          · exact h2 j g g3 g4
          · obtain rfl : j = m := by omega
            exact hc
    · have e1 : mkI P T (m + 1) b = mkI P T m b := by
        have e2 : (T m && ((P m).b == (b : Int))) = false := by
          cases h3 : T m with
          | false => rfl
          | true => simpa [h3] using e
        show (if (T m && ((P m).b == (b : Int))) = true then put (mkI P T m b) (P m) else mkI P T m b) = _
        rw [e2]; rfl
      rw [e1]
      rcases ih with ⟨k, h1, h2, h3, h4, h5, h6⟩ | ⟨h1, h2⟩
      · refine .inl ⟨k, by omega, h2, h3, h4, h5, fun j g1 g2 g3 g4 => ?_⟩
        rcases Nat.lt_or_ge j m with g | g
        · exact h6 j g1 g g3 g4
        · obtain rfl : j = m := by omega
          exact absurd ⟨g3, g4⟩ e
      · refine .inr ⟨h1, fun j g2 g3 g4 => ?_⟩
        rcases Nat.lt_or_ge j m with g | g
        · exact h2 j g g3 g4
        · obtain rfl : j = m := by omega
          exact absurd ⟨g3, g4⟩ e
/-- a set that is closed -/
def ClosedT (D : Nat → List Nat) (m : Nat) (T : Nat → Bool) : Prop := ∀ y, y < m → T y = true → ∀ d ∈ D y, T d = true
/-- what can be seen of a set: what does not wait, and whose bytes stand there -/
def SeenT (P : Nat → Pt) (T W : Nat → Bool) (m n : Nat) (k : Nat) : Prop := W k = false ∨ ∃ b q, b < n ∧ q < 32 ∧ nth (mkI P T m b) q = (k : Int) + 1
/-- what is seen is in the set -/
theorem seen_in {P : Nat → Pt} {T W : Nat → Bool} {m n : Nat} (h : Marked P m) (hW : ∀ k, k < m → W k = false → T k = true) {k : Nat} (hk : k < m) (hs : SeenT P T W m n k) : T k = true := by
  rcases hs with hs | ⟨b, q, _, hq, e⟩
  · exact hW k hk hs
  · rcases mkI_byte (T := T) h b hq with ⟨j, h1, h2, _, _, h5, _⟩ | ⟨h1, _⟩
    · obtain rfl : j = k := by omega
      exact h2
    · omega
/-- each of the set is seen, or lies under one that is seen, at its first byte -/
theorem in_seen {P : Nat → Pt} {T W : Nat → Bool} {D : Nat → List Nat} {m n : Nat} (h : Marked P m) (hb : ∀ k, k < m → (P k).b < n) (ho : ∀ x y, x < y → y < m → (P x).b = (P y).b → ∀ q, cov (P x) q → cov (P y) q → x ∈ D y) {k : Nat} (hk : k < m) (ht : T k = true) :
    SeenT P T W m n k ∨ ∃ y, y < m ∧ SeenT P T W m n y ∧ k ∈ D y := by
  obtain ⟨r1, r2, r3, r4, r5, r6⟩ := Pt.right_out (h.right k hk)
  have hc : cov (P k) (P k).o.toNat := ⟨Nat.le_refl _, by omega⟩
  have hq : (P k).o.toNat < 32 := by omega
  have hbk := hb k hk
  have e : (P k).b = (((P k).b.toNat : Nat) : Int) := by omega
  rcases mkI_byte (T := T) h (P k).b.toNat hq with ⟨y, h1, h2, h3, h4, h5, h6⟩ | ⟨_, h2⟩
  · have hy : SeenT P T W m n y := .inr ⟨(P k).b.toNat, (P k).o.toNat, by omega, hq, h5⟩
    rcases Nat.lt_trichotomy k y with g | g | g
    · exact .inr ⟨y, h1, hy, ho k y g h1 (by omega) _ hc h4⟩
    · subst g; exact .inl hy
    · exact absurd hc (h6 k g hk ht e)
  · exact absurd hc (h2 k hk ht e)
/-- so the least closed set behind what is seen is the set itself -/
theorem close_is {P : Nat → Pt} {T W C : Nat → Bool} {D : Nat → List Nat} {m n : Nat} (h : Marked P m) (hb : ∀ k, k < m → (P k).b < n) (hd : ∀ y, y < m → ∀ d ∈ D y, d < m) (ho : ∀ x y, x < y → y < m → (P x).b = (P y).b → ∀ q, cov (P x) q → cov (P y) q → x ∈ D y)
    (hW : ∀ k, k < m → W k = false → T k = true) (hT : ClosedT D m T) (c1 : ∀ k, k < m → SeenT P T W m n k → C k = true) (c2 : ClosedT D m C) (c3 : ∀ U : Nat → Bool, ClosedT D m U → (∀ k, k < m → SeenT P T W m n k → U k = true) → ∀ k, k < m → C k = true → U k = true) :
    ∀ k, k < m → C k = T k := by
  intro k hk
  have h1 : C k = true → T k = true := c3 T hT (fun k hk hs => seen_in h hW hk hs) k hk
  have h2 : T k = true → C k = true := fun ht => by
    rcases in_seen (W := W) h hb ho hk ht with q | ⟨y, q1, q2, q3⟩
    · exact c1 k hk q
    · exact c2 y q1 (c1 y q1 q2) k q3
  cases hc : C k <;> cases ht : T k <;> simp_all
end Go.Proofs.Ytegacggkdjgdiaa
