/- Blocks as bytes. -/
import Derived.Test.YtibkipdadpidnaaPF
namespace Go.Proofs.Ytibkipdadpidnaa.Pat
set_option linter.unusedVariables false
set_option linter.unusedSimpArgs false
set_option maxRecDepth 100000
open Go.RowKit

theorem made_bytes (n : Nat) : madeCells #[Value.int .u8 0] n = (bytesV (List.replicate n 0)).toArray := by
  apply Array.ext
  · simp [size_madeCells, bytesV]
  · intro i h1 h2; simp [madeCells, bytesV, Nat.mod_one, byteV]
theorem splice_whole {α : Type} (L cs : List α) (h : cs.length = L.length) : splice L 0 cs = cs := by simp [splice, h]
theorem BlkIs.bts {w : World} {g B : Nat} {l : List Int} (h : BlkIs w g 5 (bytesV l)) (hl : AllB l) (hB : g < B) : Bts w B (some ⟨g, 0, none⟩) l :=
  ⟨hl, fun _ => ⟨g, 0, rfl, hB, fun j hj => by
    rw [Nat.zero_add, h.cell j, bytesV, List.getElem?_map, List.getElem?_eq_getElem hj, nth_lt hj]; rfl⟩⟩
/-- the cells of bytes that lie there -/
theorem Bts.src {w : World} {B b off : Nat} {l : List Int} (h : Bts w B (some ⟨b, off, none⟩) l) : ∀ j v, (bytesV l)[j]? = some v → w.cell? ⟨b, off + j, none⟩ = some v := by
  intro j v hj
  rw [bytesV, List.getElem?_map] at hj
  obtain ⟨x, hx, rfl⟩ := Option.map_eq_some_iff.1 hj
  have hj' : j < l.length := by
    rcases Nat.lt_or_ge j l.length with h | h
    · exact h
    · rw [List.getElem?_eq_none h] at hx; cases hx
  obtain ⟨b2, off2, e2, _, hc2⟩ := h.at_ hj'
  injection e2 with e2; injection e2 with e3 e4; subst e3; subst e4
  rw [hc2, nth_lt hj']
  rw [List.getElem?_eq_getElem hj'] at hx
  injection hx with hx
  rw [hx]; rfl

end Go.Proofs.Ytibkipdadpidnaa.Pat
