/- What came in: what is asked of All. -/
import Derived.Test.YtpelocpjfmmceaaSG
import Derived.Test.YtpelocpjfmmceaaSJ
import Derived.Lib.SmallJoins
set_option linter.unusedVariables false
set_option linter.unusedSimpArgs false
namespace Go.Proofs.Ytpelocpjfmmceaa
open Go.RowKit Go.ChangeShapes Go.WideShapes Go.ChangeAt Go.Joins

def IsInts (w : World) (a : Option Addr) (len cap : Nat) (l : List Int) : Prop := l.length = len ∧ len ≤ cap ∧ cap ≤ maxLen ∧ Ints w w.heap.size a l
theorem cellsA : Try.prog.cellsOf 33 = 4 := by kernel_rfl
theorem cellsS : Try.prog.cellsOf 31 = 1 := by kernel_rfl
section
variable {H' : Type} {enc : TypeId × Value → H'} {w : World} {base : Nat} {spare : Nat → Bool} {held : Bool}
theorem cells_ints {a : Option Addr} {len cap fuel : Nat} {x : DataW H' × List MemPlace} (hf : DataW.trod enc Try.prog w base spare held fuel 31 [.slice a len cap] = some x) : ∃ l, IsInts w a len cap l := by
  rcases open_ints Try.underlying31 Try.underlying3 (by kernel_rfl) hf with ⟨hcs, _⟩ | ⟨x, l, c, zs, hcs, _, hl, hm, hz, _, hcell, hwz⟩
  · simp at hcs
    obtain ⟨rfl, rfl, rfl⟩ := hcs
    exact ⟨[], rfl, Nat.le_refl _, Nat.zero_le _, (fun h => absurd h (by simp))⟩
  · simp at hcs
    obtain ⟨rfl, rfl, rfl⟩ := hcs
    have hzl : len ≤ zs.length := by rw [hz]; split <;> omega
    refine ⟨zs.take len, by rw [List.length_take]; omega, hl, hm, fun hp => ?_⟩
    have hp' : 0 < len := by rw [List.length_take] at hp; omega
    obtain ⟨b, off, spot⟩ := x
    have hc0 := hcell 0 (by omega)
    have hspot : spot = none := by simpa [Addr.add] using World.cell?_spot hc0
    subst hspot
    refine ⟨b, off, rfl, lt_of_cell (by simpa [Addr.add] using hc0), fun j hj => ?_⟩
    rw [List.length_take] at hj
    have hcj := hcell j (by omega)
    rw [add_plain'] at hcj
    rw [hcj]
    unfold inn
    rw [List.getD_eq_getElem?_getD, List.getD_eq_getElem?_getD, List.getElem?_take, if_pos (by omega)]
set_option maxRecDepth 100000 in
theorem open_asked {v : Value} {d : DataW H'} {ps : List MemPlace} (hv : ∃ cs, v = .agg cs) (h : DataW.Trod enc Try.prog w base spare held 33 v d ps) :
    ∃ (p : Nat) (n f : Int) (a : Option Addr) (len cap : Nat) (l : List Int), v = .agg #[.int .u8 p, .int .i64 n, .int .i64 f, .slice a len cap] ∧ p < 256 ∧ IsInts w a len cap l := by
  obtain ⟨cs, rfl⟩ := hv
  obtain ⟨fuel, hf⟩ := h
  obtain ⟨y0, y1, y2, y3, n, _, hl, h0, h1, h2, h3⟩ := trod_struct4 Try.underlying33 hf
  rw [cellsA] at hl
  obtain ⟨c0, c1, c2, c3, rfl⟩ : ∃ a b c d, cs = #[a, b, c, d] := array4 (by simpa [Value.cells] using hl)
  simp only [cellsI, cellsP, cellsS, Value.cells] at h0 h1 h2 h3
  obtain ⟨b, e0, _, wb⟩ := DataW.trod_int Try.underlying22 h0
  obtain ⟨o, e1, _, wo⟩ := DataW.trod_int Try.underlying3 h1
  obtain ⟨s, e2, _, ws⟩ := DataW.trod_int Try.underlying3 h2
  obtain ⟨a, len, cap, e3⟩ := slice_form Try.underlying31 h3
  rw [e3] at h3
  obtain ⟨l, hi⟩ := cells_ints h3
  simp at e0 e1 e2 e3
  subst e0 e1 e2 e3
  obtain ⟨s0, s1⟩ := bounds_u8 wb
  exact ⟨b.toNat, o, s, a, len, cap, l, by rw [show ((b.toNat : Int)) = b by omega], by omega, hi⟩
end
end Go.Proofs.Ytpelocpjfmmceaa
