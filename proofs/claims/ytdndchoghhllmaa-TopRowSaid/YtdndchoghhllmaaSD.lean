/- What came in: deeds, numbers. -/
import Derived.Test.YtdndchoghhllmaaSC
import Derived.ChangeShapes
import Derived.OpenShut
import Derived.Deep.Slices
import Derived.Deep.Strs
import Derived.ProofKit
set_option linter.unusedVariables false
set_option linter.unusedSimpArgs false
namespace Go.Proofs.Ytdndchoghhllmaa
open Go.RowKit Go.ChangeShapes Go.WideShapes Go.ChangeAt

theorem bounds_u8 {n : Int} (h : (Lit.int .u8 n).wf = true) : 0 ≤ n ∧ n ≤ 255 := by
  simp [Lit.wf, IntKind.min, IntKind.max, IntKind.signed, IntKind.bits] at h
  omega
theorem lt_of_cell {w : World} {b o : Nat} {v : Value} (h : w.cell? ⟨b, o, none⟩ = some v) : b < w.heap.size := by
  rcases Nat.lt_or_ge b w.heap.size with hb | hb
  · exact hb
  · exact absurd h (by simp [World.cell?, Array.getElem?_eq_none hb])
theorem add_plain' (b o j : Nat) : (⟨b, o, none⟩ : Addr).add j = ⟨b, o + j, none⟩ := by unfold Addr.add; split <;> simp_all
def IsDeeds (w : World) (a : Option Addr) (len cap : Nat) (ds : List Dd) : Prop := ds.length = len ∧ len ≤ cap ∧ cap ≤ maxLen ∧ Deeds w a ds
theorem cellsD : Try.prog.cellsOf 36 = 3 := by kernel_rfl
theorem cellsI : Try.prog.cellsOf 3 = 1 := by kernel_rfl
def Dd.cs (d : Dd) : List Value := [.int .i64 d.k, .int .i64 d.n, .int .i64 d.m]
theorem bounds_i64 {n : Int} (h : (Lit.int .i64 n).wf = true) : WfI n := by
  unfold WfI
  simp [Lit.wf, IntKind.min, IntKind.max, IntKind.signed, IntKind.bits] at h
  omega
section
variable {H' : Type} {enc : TypeId × Value → H'} {w : World} {base : Nat} {spare : Nat → Bool} {held : Bool}
set_option maxRecDepth 100000 in
theorem cells_deed {fuel : Nat} {cs : List Value} {x : DataW H' × List MemPlace} (h : DataW.trod enc Try.prog w base spare held fuel 36 cs = some x) : ∃ d : Dd, cs = d.cs ∧ d.wf := by
  obtain ⟨y0, y1, y2, n, _, hl, h0, h1, h2⟩ := Deep.trod_struct3 Try.underlying36 h
  rw [cellsD] at hl
  obtain ⟨c0, c1, c2, rfl⟩ : ∃ a b c, cs = [a, b, c] := by
    match cs, hl with
    | [a, b, c], _ => exact ⟨a, b, c, rfl⟩
  simp only [cellsI] at h0 h1 h2
  obtain ⟨b, e0, _, wb⟩ := DataW.trod_int Try.underlying3 h0
  obtain ⟨o, e1, _, wo⟩ := DataW.trod_int Try.underlying3 h1
  obtain ⟨s, e2, _, ws⟩ := DataW.trod_int Try.underlying3 h2
  simp at e0 e1 e2
  subst e0 e1 e2
  exact ⟨⟨b, o, s⟩, rfl, bounds_i64 wo, bounds_i64 ws⟩
theorem open_deed {v : Value} {d : DataW H'} {ps : List MemPlace} (hv : ∃ cs, v = .agg cs) (h : DataW.Trod enc Try.prog w base spare held 36 v d ps) : ∃ d : Dd, v = d.v ∧ d.wf := by
  obtain ⟨cs, rfl⟩ := hv
  obtain ⟨fuel, hf⟩ := h
  obtain ⟨p, e, hp⟩ := cells_deed hf
  refine ⟨p, ?_, hp⟩
  simp only [Value.cells] at e
  have : cs = p.cs.toArray := by rw [← e]
  rw [this]
  rfl
theorem open_deeds {a : Option Addr} {len cap : Nat} {d : DataW H'} {pl : List MemPlace} (h : DataW.Trod enc Try.prog w base spare held 22 (.slice a len cap) d pl) : ∃ ds, IsDeeds w a len cap ds := by
  obtain ⟨fuel, hf⟩ := h
  rcases Deep.open_slice Try.underlying22 hf with ⟨e, _⟩ | ⟨x, l, c, m, n, DD, Pl, e, _, hl, hm, hmm, _, hx⟩
  · simp [Value.cells] at e
    obtain ⟨rfl, rfl, rfl⟩ := e
    exact ⟨[], rfl, Nat.le_refl _, Nat.zero_le _, fun h => absurd h (by simp)⟩
  · simp [Value.cells] at e
    obtain ⟨rfl, rfl, rfl⟩ := e
    rw [cellsD] at hx
    have hlm : len ≤ m := by rw [hmm]; split <;> omega
    have hg : ∀ i, i < len → ∃ p : Dd, p.wf ∧ ∀ j, j < 3 → w.cell? ((x.add (i * 3)).add j) = p.cs[j]? := fun i hi => by
      obtain ⟨cs, h1, h2⟩ := hx i (by omega)
      obtain ⟨p, rfl, hp⟩ := cells_deed h2
      exact ⟨p, hp, (World.cells?_some h1).2.2⟩
    obtain ⟨f, hf⟩ : ∃ f : Nat → Dd, ∀ i, i < len → (f i).wf ∧ ∀ j, j < 3 → w.cell? ((x.add (i * 3)).add j) = (f i).cs[j]? := by
      classical
      exact ⟨fun i => if h : i < len then (hg i h).choose else ⟨0, 0, 0⟩, fun i hi => by simp only [dif_pos hi]; exact (hg i hi).choose_spec⟩
    have hpn : ∀ i, i < len → ddn ((List.range len).map f) i = f i := fun i hi => by
      rw [ddn_lt (by simpa using hi)]; simp
    refine ⟨(List.range len).map f, by simp, hl, hm, fun hn => ?_⟩
    have hn' : 0 < len := by simpa using hn
    obtain ⟨b, off, spot⟩ := x
    have h0 := (hf 0 hn').2 0 (by omega)
    have hspot : spot = none := by
      have : w.cell? ⟨b, off, spot⟩ = some (.int .i64 (f 0).k) := by simpa [Addr.add, Dd.cs] using h0
      exact World.cell?_spot this
    subst hspot
    refine ⟨b, off, rfl, lt_of_cell (v := .int .i64 (f 0).k) (by simpa [Addr.add, Dd.cs] using h0), fun j hj => ?_⟩
    have hj' : j < len := by simpa using hj
    rw [hpn j hj']
    have a0 := (hf j hj').2 0 (by omega)
    have a1 := (hf j hj').2 1 (by omega)
    have a2 := (hf j hj').2 2 (by omega)
    rw [add_plain', add_plain'] at a0 a1 a2
    exact ⟨by simpa [Dd.cs] using a0, by simpa [Dd.cs] using a1, by simpa [Dd.cs] using a2, (hf j hj').1⟩
end
end Go.Proofs.Ytdndchoghhllmaa
