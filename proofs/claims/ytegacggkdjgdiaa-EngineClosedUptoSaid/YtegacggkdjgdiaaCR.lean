/- The row of all patches, as the law keeps it beside an engine and the table of what they come behind. -/
import Derived.Test.YtegacggkdjgdiaaCQ
set_option linter.unusedVariables false
set_option linter.unusedSimpArgs false
namespace Go.Proofs.Ytegacggkdjgdiaa
open Go.RowKit

def pN (L : List Pt) (k : Nat) : Pt := L.getD k ⟨0, 0, ByteArray.empty⟩
theorem pN_snoc (L : List Pt) (p : Pt) (k : Nat) : pN (L ++ [p]) k = if k < L.length then pN L k else if k = L.length then p else ⟨0, 0, ByteArray.empty⟩ := by
  unfold pN
  rw [List.getD_eq_getElem?_getD, List.getD_eq_getElem?_getD]
  by_cases h : k < L.length
  · rw [if_pos h, List.getElem?_append_left h]
  · rw [if_neg h, List.getElem?_append_right (by omega)]
    by_cases e : k = L.length
    · rw [if_pos e, e]; simp
    · rw [if_neg e, List.getElem?_eq_none (by simp; omega)]; rfl
structure AllT (w : World) (F : Nat → Prop) (B : Nat) (AA : Option Addr) (cA : Nat) (L : List Pt) : Prop where
  row : w.ownsRow B 32 3 (.slice AA L.length cA) L.length (ptsV L)
  out : ∀ b, own AA = some b → ¬ F b
section
variable {w w' : World} {F F' : Nat → Prop} {B cA : Nat} {AA : Option Addr} {L : List Pt}
theorem AllT.nil (w : World) (F : Nat → Prop) (B : Nat) : AllT w F B none 0 [] := ⟨World.ownsRow_nil _ _ _ _, fun b e => by cases e⟩
theorem AllT.lt (h : AllT w F B AA cA L) : ∀ b, own AA = some b → B ≤ b ∧ b < w.heap.size := fun b e => h.row.lt b (by rw [own_eq]; exact e)
theorem AllT.keep (h : AllT w F B AA cA L) (hk : Kept w w' F) (hF : ∀ b, F' b → F b ∨ w.heap.size ≤ b) : AllT w' F' B AA cA L :=
  ⟨hk.row h.row (fun b e => h.out b (by rw [← own_eq]; exact e)), fun b e q => (hF b q).elim (h.out b e) (fun q => by have := (h.lt b e).2; omega)⟩
theorem AllT.fresh (h : AllT w F B AA cA L) (hB : Below w.heap.size w w') : AllT w' F B AA cA L := h.keep (Kept.fresh hB) (fun b q => .inl q)
/-- the engine is not the row's -/
theorem Eng.alled {ge n cc : Nat} {S : Nat → Bk} {k : Int} {l : List Wr} (he : Eng w ge n S cc k l F) (h : AllT w F B AA cA L) (hg : w.grownBy w' (own AA)) : Eng w' ge n S cc k l F :=
  he.keep (G := fun b => own AA = some b) (Kept.grown hg (fun k e => .inl e)) (fun b q e => h.out b e q) (by have := NI.row h.row (by decide); simpa only [own_eq] using this)
/-- one more -/
theorem AllT.add (h : AllT w F B AA cA L) (hF : ∀ b, F b → b < w.heap.size) {p : Pt} {A' : Option Addr} {c' : Nat} (ho : w'.ownsRow B 32 3 (.slice A' (L.length + 1) c') (L.length + 1) (ptsV L ++ p.cs)) (hor : own A' = own AA ∨ own A' = some w.heap.size) : AllT w' F B A' c' (L ++ [p]) := by
  refine ⟨?_, fun b e q => ?_⟩
  · have e : ptsV (L ++ [p]) = ptsV L ++ p.cs := by simp [ptsV]
    rw [e, List.length_append]; exact ho
  · rcases hor with e2 | e2
    · exact h.out b (by rw [← e2]; exact e) q
    · rw [e2] at e; injection e with e; have := hF b q; omega
/-- the table lies outside the engine and the row: it stays when the row grows -/
theorem Tab.alled {cD : Nat} {AD A' : Option Addr} {D : List (List Nat)} {Af : Nat → Option Addr} {Cf : Nat → Nat} (h : Tab w (fun b => F b ∨ own AA = some b) B AD cD D Af Cf) (hg : w.grownBy w' (own AA)) (hor : own A' = own AA ∨ own A' = some w.heap.size) : Tab w' (fun b => F b ∨ own A' = some b) B AD cD D Af Cf :=
  h.keep (Kept.grown hg (fun k e => .inl (.inr e))) (fun b q => q.elim (fun q => .inl (.inl q)) (fun q => by
    rcases hor with e | e
    · exact .inl (.inr (by rw [← e]; exact q))
    · rw [e] at q; injection q with q; exact .inr (by omega)))
/-- it stays when the engine turns -/
theorem Tab.turned {cD : Nat} {AD : Option Addr} {D : List (List Nat)} {Af : Nat → Option Addr} {Cf : Nat → Nat} (h : Tab w (fun b => F b ∨ own AA = some b) B AD cD D Af Cf) (hk : Kept w w' F) (hF : ∀ b, F' b → F b ∨ w.heap.size ≤ b) : Tab w' (fun b => F' b ∨ own AA = some b) B AD cD D Af Cf :=
  h.keep ⟨hk.os, hk.tape, hk.output, hk.size, fun b hb hn => hk.block b hb (fun q => hn (.inl q))⟩ (fun b q => q.elim (fun q => (hF b q).elim (fun q => .inl (.inl q)) .inr) (fun q => .inl (.inr q)))
/-- the row stays when the table grows -/
theorem AllT.tabbed {cD : Nat} {AD : Option Addr} {D : List (List Nat)} {Af : Nat → Option Addr} {Cf : Nat → Nat} (h : AllT w F B AA cA L) (ht : Tab w (fun b => F b ∨ own AA = some b) B AD cD D Af Cf) (hg : w.grownBy w' (own AD)) : AllT w' F B AA cA L :=
  ⟨(Kept.grown (S := fun b => own AD = some b) hg (fun k e => .inl e)).row h.row (fun b e q => ht.out b q (.inr (by rw [← own_eq]; exact e))), h.out⟩
/-- and the engine -/
theorem Eng.tabbed2 {ge n cc cD : Nat} {S : Nat → Bk} {k : Int} {l : List Wr} {AD : Option Addr} {D : List (List Nat)} {Af : Nat → Option Addr} {Cf : Nat → Nat} (he : Eng w ge n S cc k l F) (h : Tab w (fun b => F b ∨ own AA = some b) B AD cD D Af Cf) (hg : w.grownBy w' (own AD)) : Eng w' ge n S cc k l F :=
  he.keep (G := fun b => own AD = some b) (Kept.grown hg (fun k e => .inl e)) (fun b q e => h.out b e (.inl q)) (by have := NI.row h.tab (by decide); simpa only [own_eq] using this)
end
end Go.Proofs.Ytegacggkdjgdiaa
