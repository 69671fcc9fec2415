/- same, over engines of this call's own. -/
import Derived.Test.YtegacggkdjgdiaaGreatRE
import Derived.Test.YtegacggkdjgdiaaGreatRA
set_option linter.unusedVariables false
set_option linter.unusedSimpArgs false
namespace Go.Proofs.YtegacggkdjgdiaaGreat
open Go.RowKit
theorem OwnTwo.same {w wr : World} {e r m : Nat} (h : OwnTwo w wr e r m) (hm : m ≤ 45) {A : Option Addr} {n c : Nat} {z : List Int} (hp : NumsIn w A n c z) :
    Calls Tryz.prog 9 #[.pointer (some ⟨e, 0, none⟩), .pointer (some ⟨r, 0, none⟩), .slice A n c] wr fun en w' => en = .returned (.bool true) ∧ OwnTwo w w' e r m := by
  have hpk := fun W hW => pick_of (W := W) hp hW
  obtain ⟨hl, _, _, hz, _⟩ := hp
  have h0 := h
  obtain ⟨F, ⟨S, l, lv, t, k, cc, F1, F2, hP, rfl⟩, h2, h3⟩ := h
  refine (same_any hP hm z hz A c n hl (hpk _ h3)).mono ?_
  rintro en w' ⟨rfl, hB⟩
  exact ⟨rfl, h0.next hB⟩
/-- with nothing picked -/
theorem OwnTwo.same0 {w wr : World} {e r m : Nat} (h : OwnTwo w wr e r m) (hm : m ≤ 45) :
    Calls Tryz.prog 9 #[.pointer (some ⟨e, 0, none⟩), .pointer (some ⟨r, 0, none⟩), .slice none 0 0] wr fun en w' => en = .returned (.bool true) ∧ OwnTwo w w' e r m := by
  have h0 := h
  obtain ⟨F, ⟨S, l, lv, t, k, cc, F1, F2, hP, rfl⟩, h2, h3⟩ := h
  refine (same_any hP hm [] (by intro x hx; cases hx) none 0 0 rfl (.inl rfl)).mono ?_
  rintro en w' ⟨rfl, hB⟩
  exact ⟨rfl, h0.next hB⟩
end Go.Proofs.YtegacggkdjgdiaaGreat
