/- deps that came in, opened. -/
import Derived.Test.YthffdkoncagimaaM
set_option linter.unusedVariables false
set_option linter.unusedSimpArgs false
set_option maxRecDepth 100000
namespace Go.Proofs.Ythffdkoncagimaa
open Go.RowKit Go.Shelf Go.ChangeShapes Go.WideShapes Go.Deep
theorem open_mat {H : Type} {enc : TypeId × Value → H} {w : World} {a : Option Addr} {len cap : Nat} {x : DataW H × List MemPlace}
    (h : ∃ fuel, DataW.trod enc Try.prog w 0 (fun _ => true) true fuel 22 (Value.slice a len cap).cells.toList = some x) : ∃ R A C, IsMat w a len cap R A C := by
  obtain ⟨fuel, hf⟩ := h
  rcases open_int_rows Try.underlying22 Try.underlying35 Try.underlying3 (by kernel_rfl) (by kernel_rfl) hf with ⟨hcs, _⟩ | ⟨x, l, c, A, L, C, Z, hcs, _, hl, hm, _, hr⟩
  · simp [Value.cells] at hcs
    obtain ⟨rfl, rfl, rfl⟩ := hcs
    exact ⟨[], fun _ => none, fun _ => 0, rfl, Nat.le_refl _, Nat.zero_le _, fun h => absurd h (Nat.lt_irrefl _)⟩
  · simp [Value.cells] at hcs
    obtain ⟨rfl, rfl, rfl⟩ := hcs
    have hrow : ∀ j, j < len → rowI ((List.range len).map fun r => (Z r).take (L r)) j = (Z j).take (L j) := fun j hj => by
      rw [rowI_lt (by simpa using hj)]; simp
    have hlen : ∀ j, j < len → ((Z j).take (L j)).length = L j := fun j hj => by
      obtain ⟨_, h1, _, h2, _⟩ := hr j (by omega)
      rw [List.length_take]; omega
    refine ⟨(List.range len).map fun r => (Z r).take (L r), A, C, by simp, hl, hm, fun hp => ?_⟩
    obtain ⟨b, off, spot⟩ := x
    have hc0 := (hr 0 (by omega)).1
    have hspot : spot = none := by simpa [Addr.add] using World.cell?_spot hc0
    subst hspot
    refine ⟨b, off, rfl, lt_cell (by rw [add_plain] at hc0; exact hc0), fun j hj => ?_⟩
    obtain ⟨h1, h2, h3, h4, h5, h6, h7⟩ := hr j (by omega)
    rw [add_plain] at h1
    rw [hrow j hj, hlen j hj]
    refine ⟨h1, fun hq => ?_, h2, h3⟩
    rw [hlen j hj] at hq
    cases hA : A j with
    | none => have := h6 hA; omega
    | some a' =>
      obtain ⟨b', off', spot'⟩ := a'
      obtain ⟨_, hc⟩ := h7 _ hA
      have hc0' := hc 0 (by omega)
      have hspot' : spot' = none := by simpa [Addr.add] using World.cell?_spot hc0'
      subst hspot'
      refine ⟨b', off', rfl, lt_cell (by rw [add_plain] at hc0'; exact hc0'), fun i hi => ?_⟩
      rw [hlen j hj] at hi
      have hci := hc i (by omega)
      rw [add_plain] at hci
      rw [hci]
      unfold nth
      rw [List.getD_eq_getElem?_getD, List.getD_eq_getElem?_getD, List.getElem?_take, if_pos hi]
end Go.Proofs.Ythffdkoncagimaa
