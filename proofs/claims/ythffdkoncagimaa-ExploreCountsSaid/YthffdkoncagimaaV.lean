/- Orders: to go through all sets is to go through the closed ones. -/
import Derived.Test.YthffdkoncagimaaT
set_option linter.unusedVariables false
set_option linter.unusedSimpArgs false
namespace Go.Proofs.Ythffdkoncagimaa
open Go.RowKit Go.Shelf
theorem wrap64_wrap (x : Int) : wrap64 (wrap64 x) = wrap64 x := by unfold wrap64; omega
theorem set_self (l : List Int) (i : Nat) : l.set i (nth l i) = l := by
  apply List.ext_getElem
  · simp
  · intro j h1 h2
    rw [List.getElem_set]
    split
    · rename_i h; subst h; rw [nth_lt h2]
    · rfl
theorem subS_or {a s b : Nat} (h : subS a s = true) : subS a (s ||| b) = true := subS_iff.2 fun i hi => by
  rw [Nat.testBit_or, subS_iff.1 h i hi]; rfl
theorem clo_with {L : List Nat} {s k : Nat} (h : clo L s = true) (hk : subS (nd L k) s = true) : clo L (s ||| 2 ^ k) = true := clo_iff.2 fun m hm hb => by
  rw [Nat.testBit_or, Nat.testBit_two_pow, Bool.or_eq_true] at hb
  rcases hb with hb | hb
  · exact subS_or (clo_iff.1 h m hm hb)
  · have : k = m := by simpa using hb
    subst this
    exact subS_or hk
/-- a set that is not closed has no ways -/
def OInv (L : List Nat) (O : List Int) : Prop := ∀ t, (clo L t = false → nth O t = 0) ∧ wrap64 (nth O t) = nth O t
theorem ordN_out {L : List Nat} {s k : Nat} {O : List Int} (hI : OInv L O) (hs : clo L s = false) : ordN L s k O = O := by
  unfold ordN
  split
  · rw [(hI s).1 hs, Int.add_zero, (hI (s ||| 2 ^ k)).2, set_self]
  · rfl
theorem ordK_out {L : List Nat} {s : Nat} {O : List Int} (hI : OInv L O) (hs : clo L s = false) : ∀ k, ordK L s O k = O
  | 0 => rfl
  | k + 1 => by show ordN L s k (ordK L s O k) = O; rw [ordK_out hI hs k, ordN_out hI hs]
theorem nth_set' (l : List Int) (i j : Nat) (v : Int) : nth (l.set i v) j = nth l j ∨ (i = j ∧ nth (l.set i v) j = v) := by
  by_cases hi : i < l.length
  · rw [nth_set hi]
    split
    · rename_i h; exact .inr ⟨h, rfl⟩
    · exact .inl rfl
  · rw [List.set_eq_of_length_le (by omega)]; exact .inl rfl
theorem ordN_in {L : List Nat} {s k : Nat} {O : List Int} (hI : OInv L O) (hs : clo L s = true) : OInv L (ordN L s k O) := by
  unfold ordN
  split
  · rename_i h
    intro t
    rcases nth_set' O (s ||| 2 ^ k) t (wrap64 (nth O (s ||| 2 ^ k) + nth O s)) with e | ⟨e1, e2⟩
    · rw [e]; exact hI t
    · rw [e2]
      refine ⟨fun hc => ?_, wrap64_wrap _⟩
      rw [← e1, clo_with hs h.2] at hc
      cases hc
  · exact hI
theorem ordK_in {L : List Nat} {s : Nat} {O : List Int} (hI : OInv L O) (hs : clo L s = true) : ∀ k, OInv L (ordK L s O k)
  | 0 => hI
  | k + 1 => ordN_in (ordK_in hI hs k) hs
theorem ord0_inv (L : List Nat) (N : Nat) : OInv L (ord0 N) := fun t => by
  have h0 : clo L 0 = true := clo_iff.2 fun m _ hb => by simp at hb
  have hr : nth (List.replicate N (0 : Int)) t = 0 := by
    by_cases h : t < N
    · rw [nth_lt (by simpa using h)]; simp
    · unfold nth; rw [List.getD_eq_getElem?_getD, List.getElem?_eq_none (by simp; omega)]; rfl
  unfold ord0
  rcases nth_set' (List.replicate N (0 : Int)) 0 t 1 with e | ⟨e1, e2⟩
  · rw [e, hr]; exact ⟨fun _ => rfl, by unfold wrap64; omega⟩
  · rw [e2]
    refine ⟨fun hc => ?_, by unfold wrap64; omega⟩
    rw [← e1, h0] at hc; cases hc
theorem ordL_range (L : List Nat) (N : Nat) : ∀ m, ordL L (List.range m) (ord0 N) = ordL L (cloTo L m) (ord0 N) ∧ OInv L (ordL L (cloTo L m) (ord0 N))
  | 0 => ⟨rfl, ord0_inv L N⟩
  | m + 1 => by
    obtain ⟨h1, h2⟩ := ordL_range L N m
    rw [List.range_succ, ordL_snoc, h1, cloTo_succ]
    cases hc : clo L m with
    | true => rw [if_pos rfl, ordL_snoc]; exact ⟨rfl, ordK_in h2 hc _⟩
    | false => rw [if_neg (by simp), List.append_nil, ordK_out h2 hc]; exact ⟨rfl, h2⟩
/-- what the document adds up over all sets -/
theorem orders_all (L : List Nat) : nth (ordL L (List.range (2 ^ L.length)) (ord0 (2 ^ L.length))) (2 ^ L.length - 1) = orders L := by
  rw [(ordL_range L _ _).1]; rfl
end Go.Proofs.Ythffdkoncagimaa
