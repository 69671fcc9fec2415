/- The program's sets: maps from numbers to nothing; add, has. -/
import Derived.Test.YtibkipdadpidnaaC
import Derived.Maps.Views
import Derived.Maps.RangeWalk
import Derived.Maps.OwnSet
set_option linter.unusedVariables false
set_option linter.unusedSimpArgs false
namespace Go.Proofs.Ytibkipdadpidnaa
open Go.RowKit
open Go.Maps (Keyed)
theorem lawI : Keyed Try.prog 3 := Go.Maps.int_keyed Try.underlying3
/-- a number of the kind int -/
def WfI (n : Int) : Prop := -9223372036854775808 ≤ n ∧ n ≤ 9223372036854775807
theorem keyI {n : Int} (h : WfI n) : keyOf Try.prog 3 (.int .i64 n) = some (.int .i64 n) := Go.Maps.keyOf_int_mk Try.underlying3 (WalkArith.wf_i64 h)
theorem isKey (n : Int) : WideAt.IsKeyLit (.int .i64 n) := trivial
theorem ne_key {a b : Int} (h : a ≠ b) : (Lit.int .i64 a) ≠ .int .i64 b := fun e => h (by injection e)
theorem WfI.of_wf {n : Int} (h : (Lit.int .i64 n).wf = true) : WfI n := by
  simp [Lit.wf, IntKind.min, IntKind.max, IntKind.signed, IntKind.bits] at h
  unfold WfI
  omega
theorem Kept.map {w w' : World} {S : Nat → Prop} {k : TypeId} {R : Value → Option (DataW Value × List MemPlace)} {b n : Nat} {D : DataW Value} (h : Kept w w' S) (hm : w.ownsMap Try.prog k R b n D) (hn : ¬ S b) : w'.ownsMap Try.prog k R b n D := by
  obtain ⟨es, clock, hb, F, hs, hD⟩ := hm
  exact ⟨es, clock, (h.block b (Array.getElem?_eq_some_iff.1 hb).1 hn).trans hb, F, hs, hD⟩
/-- block b holds the set of the numbers l, behind at most c stores -/
def SetAt (w : World) (b c : Nat) (l : List Int) : Prop :=
  ∃ D : DataW Value, w.ownsMap Try.prog 3 unitElem b c D ∧ ∀ x : Int, Maps.has D (.int .i64 x) = true ↔ x ∈ l
/-- a block that holds a map -/
def MapB (w : World) (b : Nat) : Prop := ∃ es clock, w.heap[b]? = some (.map es clock)
theorem ownsB {w : World} {k : TypeId} {R : Value → Option (DataW Value × List MemPlace)} {b n : Nat} {D : DataW Value} (h : w.ownsMap Try.prog k R b n D) : MapB w b := by
  obtain ⟨es, clock, hb, _⟩ := h; exact ⟨es, clock, hb⟩
namespace SetAt
variable {w w' : World} {b c d : Nat} {l m : List Int}
theorem mapB (h : SetAt w b c l) : MapB w b := by obtain ⟨D, h1, _⟩ := h; exact ownsB h1
theorem lt (h : SetAt w b c l) : b < w.heap.size := by obtain ⟨D, h1, _⟩ := h; exact h1.lt
theorem more (h : SetAt w b c l) (hc : c ≤ d) : SetAt w b d l := by obtain ⟨D, h1, h2⟩ := h; exact ⟨D, h1.mono hc, h2⟩
theorem same (h : SetAt w b c l) (hm : ∀ x, x ∈ m ↔ x ∈ l) : SetAt w b c m := by obtain ⟨D, h1, h2⟩ := h; exact ⟨D, h1, fun x => (h2 x).trans (hm x).symm⟩
theorem keep {S : Nat → Prop} (h : SetAt w b c l) (hk : Kept w w' S) (hn : ¬ S b) : SetAt w' b c l := by obtain ⟨D, h1, h2⟩ := h; exact ⟨D, hk.map h1 hn, h2⟩
theorem fresh (h : SetAt w b c l) (hb : Below w.heap.size w w') : SetAt w' b c l := h.keep (S := fun _ => False) (Kept.fresh hb) (fun q => q)
end SetAt
theorem set_made (w : World) : SetAt (w.alloc (.map #[] 0)) w.heap.size 0 [] :=
  ⟨.map [], World.ownsMap_made w Try.prog 3 unitElem, fun x => by constructor <;> (intro h; cases h)⟩
theorem zeroU (w : World) : (zeroValue 99).run Try.prog w = .ok (.agg #[]) w := by
  have := (by kernel_rfl : (Try.prog.info? 99).map (·.zero) = some (some (.agg #[])))
  cases hq : Try.prog.info? 99 with
  | none => simp [hq] at this
  | some i => simp [hq] at this; simp [zeroValue, typeInfo, hq, this]
end Go.Proofs.Ytibkipdadpidnaa
