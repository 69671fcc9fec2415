/- Contracts of the document's Has and Same, and of the two rows' Same. -/
import Derived.Test.YthffdkoncagimaaGM
namespace Go.Proofs.Ythffdkoncagimaa
set_option linter.unusedVariables false
set_option linter.unusedSimpArgs false
set_option maxRecDepth 100000
open Go.RowKit

/-- only draws lie between two worlds -/
def Quiet (w w' : World) : Prop := ∃ n, w' = w.drewN n
theorem Quiet.below {B : Nat} {a w w' : World} (q : Quiet w w') (h : Below B a w) : Below B a w' := by obtain ⟨n, rfl⟩ := q; exact ⟨h.os, h.tape, h.output, h.size, h.block⟩
theorem Quiet.belowR {B : Nat} {w w' : World} (q : Quiet w w') : Below B w w' := by
  obtain ⟨n, rfl⟩ := q; exact ⟨rfl, rfl, rfl, Nat.le_refl _, fun _ _ => rfl⟩
theorem Quiet.trans {a b c : World} (h : Quiet a b) (k : Quiet b c) : Quiet a c := by
  obtain ⟨n, rfl⟩ := h; obtain ⟨m, rfl⟩ := k; exact ⟨n + m, by simp [World.drewN, Nat.add_assoc]⟩
theorem Quiet.refl (w : World) : Quiet w w := ⟨0, rfl⟩

end Go.Proofs.Ythffdkoncagimaa
