/- An array of two ints that came in by value, opened. -/
import Derived.Test.YtceppcmcokkkoaaRows
import Derived.ProofKit
import Derived.OpenShut
namespace Go.Proofs.Ytceppcmcokkkoaa
open Go.ChangeShapes Go.WideShapes Go.ChangeAt Go.RowKit
variable {H : Type} {enc : TypeId × Value → H} {w : World} {base : Nat} {spare : Bool}

theorem okWide_arr {P : Program} {r : Reach} {b0 : Nat} {t e : TypeId} {n : Nat} {v : Value} (ht : P.underlying t = some (.array n e)) (h : Value.okWide P w r b0 t v) : ∃ cs, v = .agg cs ∧ cs.size = P.cellsOf t := by
  simp only [Value.okWide, ht] at h
  obtain ⟨cs, h1, h2, _⟩ := h
  exact ⟨cs, h1, h2⟩

theorem open_two {r : Reach} {b0 : Nat} {t : TypeId} {v : Value} {d : DataW H} {p : List MemPlace} {held : TypeId → Bool} {k : Bool} (ht : Try.prog.underlying t = some (.array 2 3)) (hC : Try.prog.cellsOf t = 2)
    (hv : Value.okWide Try.prog w r b0 t v) (h : DataW.Trod enc Try.prog w base held k t v d p) :
    ∃ x y : Int, v = .agg #[.int .i64 x, .int .i64 y] ∧ (Lit.int .i64 x).wf = true ∧ (Lit.int .i64 y).wf = true := by
  obtain ⟨cs, rfl, hsz⟩ := okWide_arr ht hv
  rw [hC] at hsz
  obtain ⟨fuel, hf⟩ := h
  obtain ⟨xs, m, _, _, hlen, hxl, hi⟩ := DataW.trod_array ht hf
  have h3 : Try.prog.cellsOf 3 = 1 := by kernel_rfl
  rw [h3] at hi
  obtain ⟨c0, c1, rfl⟩ : ∃ c0 c1, cs = #[c0, c1] := by
    match cs, hsz with
    | ⟨[c0, c1]⟩, _ => exact ⟨c0, c1, rfl⟩
  have i0 := hi 0 (by decide)
  have i1 := hi 1 (by decide)
  match xs, hxl with
  | [y0, y1], _ =>
    simp [Value.cells] at i0 i1
    obtain ⟨x, e0, _, wx⟩ := DataW.trod_int Try.underlying3 i0
    obtain ⟨y, e1, _, wy⟩ := DataW.trod_int Try.underlying3 i1
    simp at e0 e1
    subst e0 e1
    exact ⟨x, y, rfl, wx, wy⟩
end Go.Proofs.Ytceppcmcokkkoaa
