/- Patches that are written together: what a call leaves; rows of numbers that do not turn. -/
import Derived.Test.YtkldiofleepkfaaHO
import Derived.Test.YtkldiofleepkfaaHHC
import Derived.Test.YtkldiofleepkfaaGR
import Derived.Test.YtkldiofleepkfaaDQ
set_option linter.unusedVariables false
set_option linter.unusedSimpArgs false
namespace Go.Proofs.Ytkldiofleepkfaa.Hd
open Go.RowKit
theorem NW.or {w : World} {F G : Nat → Prop} (h : NW w F) (k : NW w G) : NW w (fun b => F b ∨ G b) := fun b hb => hb.elim (h b) (k b)
theorem Went.mono' {w w' : World} {F : Nat → Prop} {Q Q' : (Nat → Prop) → Prop} (h : Went w w' F Q) (hq : ∀ F', Q F' → Q' F') : Went w w' F Q' := by
  obtain ⟨F', h1, h2, h3⟩ := h
  exact ⟨F', hq _ h1, h2, h3⟩
theorem Went.of_below' {w w' : World} {F : Nat → Prop} {Q : (Nat → Prop) → Prop} (h : Q F) (hB : Below w.heap.size w w') : Went w w' F Q := ⟨F, h, Kept.fresh hB, fun _ e => .inl e⟩
theorem Went.pre {w w1 w2 : World} {F : Nat → Prop} {Q : (Nat → Prop) → Prop} (hB : Below w.heap.size w w1) (h : Went w1 w2 F Q) : Went w w2 F Q := by
  obtain ⟨F', h1, h2, h3⟩ := h
  exact ⟨F', h1, (Kept.fresh (S := F) hB).trans h2 (fun _ q => .inl q), fun b q => (h3 b q).imp id (fun q => by have := hB.size; omega)⟩
theorem Went.post {w w1 w2 : World} {F : Nat → Prop} {Q Q' : (Nat → Prop) → Prop} (h : Went w w1 F Q) (hB : Below w1.heap.size w1 w2) (hq : ∀ F', Q F' → Q' F') : Went w w2 F Q' := by
  obtain ⟨F', h1, h2, h3⟩ := h
  exact ⟨F', hq _ h1, h2.trans (Kept.fresh (S := F) hB) (fun _ q => .inl q), h3⟩
theorem went_trans {w w1 w2 : World} {F F1 F2 : Nat → Prop} (hk : Kept w w1 F) (hf : ∀ b, F1 b → F b ∨ w.heap.size ≤ b) (hk2 : Kept w1 w2 F1) (hf2 : ∀ b, F2 b → F1 b ∨ w1.heap.size ≤ b) : Kept w w2 F ∧ ∀ b, F2 b → F b ∨ w.heap.size ≤ b :=
  ⟨hk.trans hk2 hf, fun b q => by
    rcases hf2 b q with q | q
    · exact hf b q
    · have := hk.size; exact .inr (by omega)⟩
theorem grow_row {w : World} {B : Nat} {A : Option Addr} {c n : Nat} {zs : List Int} (hn : zs.length = n) (h : w.ownsRow B 3 1 (.slice A n c) n (intsI zs)) : Gr.Ints w w.heap.size A zs := fun h0 => by
  subst hn
  obtain ⟨ab, hA, _, _, hb, _, _⟩ := ptr_at h h0
  refine ⟨ab, 0, hA, hb, fun j hj => ?_⟩
  obtain ⟨ab2, hA2, _, _, _, hc, _⟩ := ptr_at h hj
  rw [hA] at hA2
  obtain rfl : ab = ab2 := by simpa using hA2
  rw [Nat.zero_add, hc, intsI, List.getElem?_map, List.getElem?_eq_getElem hj, Gr.nth_lt hj]; rfl
end Go.Proofs.Ytkldiofleepkfaa.Hd
