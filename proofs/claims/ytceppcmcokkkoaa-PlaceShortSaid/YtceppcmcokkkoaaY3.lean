/- An array of three small ints that came in by value, opened. -/
import Derived.Test.YtceppcmcokkkoaaY
namespace Go.Proofs.Ytceppcmcokkkoaa
open Go.ChangeShapes Go.WideShapes Go.ChangeAt Go.RowKit
variable {H : Type} {enc : TypeId × Value → H} {w : World} {base : Nat} {spare : Bool}

theorem open_three {r : Reach} {b0 : Nat} {t : TypeId} {v : Value} {d : DataW H} {p : List MemPlace} {held : TypeId → Bool} {k : Bool} (ht : Try.prog.underlying t = some (.array 3 39)) (hC : Try.prog.cellsOf t = 3)
    (hv : Value.okWide Try.prog w r b0 t v) (h : DataW.Trod enc Try.prog w base held k t v d p) :
    ∃ x y z : Int, v = .agg #[.int .u16 x, .int .u16 y, .int .u16 z] ∧ (Lit.int .u16 x).wf = true ∧ (Lit.int .u16 y).wf = true ∧ (Lit.int .u16 z).wf = true := by
  obtain ⟨cs, rfl, hsz⟩ := okWide_arr ht hv
  rw [hC] at hsz
  obtain ⟨fuel, hf⟩ := h
  obtain ⟨xs, m, _, _, hlen, hxl, hi⟩ := DataW.trod_array ht hf
  have h3 : Try.prog.cellsOf 39 = 1 := by kernel_rfl
  rw [h3] at hi
  obtain ⟨c0, c1, c2, rfl⟩ : ∃ c0 c1 c2, cs = #[c0, c1, c2] := by
    match cs, hsz with
    | ⟨[c0, c1, c2]⟩, _ => exact ⟨c0, c1, c2, rfl⟩
  have i0 := hi 0 (by decide)
  have i1 := hi 1 (by decide)
  have i2 := hi 2 (by decide)
  match xs, hxl with
  | [y0, y1, y2], _ =>
    simp [Value.cells] at i0 i1 i2
    obtain ⟨x, e0, _, wx⟩ := DataW.trod_int Try.underlying39 i0
    obtain ⟨y, e1, _, wy⟩ := DataW.trod_int Try.underlying39 i1
    obtain ⟨z, e2, _, wz⟩ := DataW.trod_int Try.underlying39 i2
    simp at e0 e1 e2
    subst e0 e1 e2
    exact ⟨x, y, z, rfl, wx, wy, wz⟩
end Go.Proofs.Ytceppcmcokkkoaa
