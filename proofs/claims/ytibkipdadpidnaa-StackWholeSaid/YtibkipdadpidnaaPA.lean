/- Plain words on bits in bytes, and a slice of bytes that reads as a list. No program is imported. -/
import Derived.Below
import Derived.Laws.OwnMore
import Derived.Deep.AppendLies
import Derived.Deep.Draws
import Derived.WalkKit
namespace Go.Proofs.Ytibkipdadpidnaa.Pat
set_option linter.unusedVariables false
set_option linter.unusedSimpArgs false
set_option maxRecDepth 100000
open Go.RowKit

/-- the numbers of bytes -/
def AllB (l : List Int) : Prop := ∀ x ∈ l, 0 ≤ x ∧ x ≤ 255

/-- the k-th byte (0 beyond the end) -/
def nth (l : List Int) (k : Nat) : Int := l.getD k 0
/-- the value of the i-th bit in its byte -/
def mk8 (i : Int) : Int := 2 ^ (i % 8).toNat

/-- a slice's address under which, below block B, the cells are the bytes l -/
def Bts (w : World) (B : Nat) (A : Option Addr) (l : List Int) : Prop :=
  AllB l ∧ (0 < l.length → ∃ b off, A = some ⟨b, off, none⟩ ∧ b < B ∧ ∀ j, j < l.length → w.cell? ⟨b, off + j, none⟩ = some (.int .u8 (nth l j)))

/-- the i-th bit of bytes, by the document -/
def bitN (l : List Int) (i : Nat) : Bool := (nth l (i / 8)).toNat.testBit (i % 8)
def bitI (l : List Int) (i : Int) : Bool := decide (0 ≤ i) && bitN l i.toNat
def hasB (n : Nat) (i : Int) : Bool := decide (0 ≤ i) && decide (i / 8 < (n : Int))

theorem nth_lt {l : List Int} {k : Nat} (h : k < l.length) : nth l k = l[k] := by
  unfold nth; rw [List.getD_eq_getElem?_getD, List.getElem?_eq_getElem h]; rfl
theorem nth_ge {l : List Int} {k : Nat} (h : l.length ≤ k) : nth l k = 0 := by
  unfold nth; rw [List.getD_eq_getElem?_getD, List.getElem?_eq_none h]; rfl
theorem AllB.nth {l : List Int} (h : AllB l) (j : Nat) : 0 ≤ nth l j ∧ nth l j ≤ 255 := by
  unfold Ytibkipdadpidnaa.Pat.nth
  rcases Nat.lt_or_ge j l.length with hj | hj
  · rw [List.getD_eq_getElem?_getD, List.getElem?_eq_getElem hj]; exact h _ (List.getElem_mem hj)
  · rw [List.getD_eq_getElem?_getD, List.getElem?_eq_none hj]; exact ⟨by simp, by simp⟩

section
variable {w w' : World} {B B' : Nat} {A : Option Addr} {l : List Int}
theorem Bts.at_ (h : Bts w B A l) {k : Nat} (hk : k < l.length) : ∃ b off, A = some ⟨b, off, none⟩ ∧ b < B ∧ w.cell? ⟨b, off + k, none⟩ = some (.int .u8 (nth l k)) := by
  obtain ⟨b, off, e, hb, hc⟩ := h.2 (by omega)
  exact ⟨b, off, e, hb, hc k hk⟩
theorem Bts.keep (h : Bts w B A l) (hk : ∀ p : Addr, p.block < B → w'.cell? p = w.cell? p) : Bts w' B A l :=
  ⟨h.1, fun hn => by
    obtain ⟨b, off, e, hb, hc⟩ := h.2 hn
    exact ⟨b, off, e, hb, fun j hj => (hk _ hb).trans (hc j hj)⟩⟩
theorem Bts.more (h : Bts w B A l) (hB : B ≤ B') : Bts w B' A l :=
  ⟨h.1, fun hn => by
    obtain ⟨b, off, e, hb, hc⟩ := h.2 hn
    exact ⟨b, off, e, by omega, hc⟩⟩
theorem Bts.below (h : Bts w B A l) (hb : Below B w w') : Bts w' B A l := h.keep fun _ hp => hb.cell hp
theorem Bts.take (h : Bts w B A l) (k : Nat) : Bts w B A (l.take k) := by
  refine ⟨fun x hx => h.1 x (List.mem_of_mem_take hx), fun hn => ?_⟩
  rw [List.length_take] at hn
  obtain ⟨b, off, e, hb, hc⟩ := h.2 (by omega)
  refine ⟨b, off, e, hb, fun j hj => ?_⟩
  rw [List.length_take] at hj
  unfold nth
  rw [hc j (by omega)]
  unfold nth
  rw [List.getD_eq_getElem?_getD, List.getD_eq_getElem?_getD, List.getElem?_take, if_pos (by omega)]
theorem Bts.nil : Bts w B A [] := ⟨by simp [AllB], by simp⟩
end

end Go.Proofs.Ytibkipdadpidnaa.Pat
