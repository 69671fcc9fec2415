/- An array of two slices of bytes that came in by value, opened. -/
import Derived.Test.YtceppcmcokkkoaaY
import Derived.Test.YtceppcmcokkkoaaJ
namespace Go.Proofs.Ytceppcmcokkkoaa
open Go.ChangeShapes Go.WideShapes Go.ChangeAt Go.RowKit
variable {H : Type} {enc : TypeId × Value → H} {w : World} {spare : Bool}

theorem open_bytes_cell {fuel : Nat} {base : Nat} {k : Bool} {c : Value} {x : DataW H × List MemPlace} (hf : DataW.trod enc Try.prog w base (fun _ => true) k fuel 43 [c] = some x) :
    ∃ a len cap zs, c = .slice a len cap ∧ IsRow .u8 w a len cap zs := by
  rcases open_ints Try.underlying43 Try.underlying5 (by kernel_rfl) hf with ⟨hcs, _⟩ | ⟨y, l, c', zs, hcs, _, hl, hm, hz, _, hcell, hwz⟩
  · simp at hcs
    subst hcs
    exact ⟨none, 0, 0, [], rfl, .inl ⟨rfl, rfl, rfl, rfl⟩⟩
  · simp at hcs
    subst hcs
    exact ⟨_, _, _, zs, rfl, .inr ⟨_, rfl, hl, hm, by simpa using hz, hcell, hwz⟩⟩

theorem open_two_bytes {r : Reach} {b0 base : Nat} {t : TypeId} {v : Value} {d : DataW H} {p : List MemPlace} {k : Bool} (ht : Try.prog.underlying t = some (.array 2 43)) (hC : Try.prog.cellsOf t = 2)
    (hv : Value.okWide Try.prog w r b0 t v) (h : DataW.Trod enc Try.prog w base (fun _ => true) k t v d p) :
    ∃ a0 l0 c0 z0 a1 l1 c1 z1, v = .agg #[.slice a0 l0 c0, .slice a1 l1 c1] ∧ IsRow .u8 w a0 l0 c0 z0 ∧ IsRow .u8 w a1 l1 c1 z1 := by
  obtain ⟨cs, rfl, hsz⟩ := okWide_arr ht hv
  rw [hC] at hsz
  obtain ⟨fuel, hf⟩ := h
  obtain ⟨xs, m, _, _, hlen, hxl, hi⟩ := DataW.trod_array ht hf
  have h3 : Try.prog.cellsOf 43 = 1 := by kernel_rfl
  rw [h3] at hi
  obtain ⟨c0, c1, rfl⟩ : ∃ c0 c1, cs = #[c0, c1] := by
    match cs, hsz with
    | ⟨[c0, c1]⟩, _ => exact ⟨c0, c1, rfl⟩
  have i0 := hi 0 (by decide)
  have i1 := hi 1 (by decide)
  match xs, hxl with
  | [y0, y1], _ =>
    simp [Value.cells] at i0 i1
    obtain ⟨a0, l0, k0, z0, rfl, w0⟩ := open_bytes_cell i0
    obtain ⟨a1, l1, k1, z1, rfl, w1⟩ := open_bytes_cell i1
    exact ⟨a0, l0, k0, z0, a1, l1, k1, z1, rfl, w0, w1⟩
end Go.Proofs.Ytceppcmcokkkoaa
