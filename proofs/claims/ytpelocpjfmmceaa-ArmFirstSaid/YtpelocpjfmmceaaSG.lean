/- What came in: deeds, numbers. -/
import Derived.Test.YtpelocpjfmmceaaSF
import Derived.ChangeShapes
import Derived.OpenShut
import Derived.Deep.Slices
import Derived.Deep.Strs
import Derived.ProofKit
set_option linter.unusedVariables false
set_option linter.unusedSimpArgs false
namespace Go.Proofs.Ytpelocpjfmmceaa
open Go.RowKit Go.ChangeShapes Go.WideShapes Go.ChangeAt

theorem bounds_u8 {n : Int} (h : (Lit.int .u8 n).wf = true) : 0 ≤ n ∧ n ≤ 255 := by
  simp [Lit.wf, IntKind.min, IntKind.max, IntKind.signed, IntKind.bits] at h
  omega
theorem lt_of_cell {w : World} {b o : Nat} {v : Value} (h : w.cell? ⟨b, o, none⟩ = some v) : b < w.heap.size := by
  rcases Nat.lt_or_ge b w.heap.size with hb | hb
  · exact hb
  · exact absurd h (by simp [World.cell?, Array.getElem?_eq_none hb])
theorem add_plain' (b o j : Nat) : (⟨b, o, none⟩ : Addr).add j = ⟨b, o + j, none⟩ := by unfold Addr.add; split <;> simp_all
theorem bounds_u16 {n : Int} (h : (Lit.int .u16 n).wf = true) : 0 ≤ n ∧ n ≤ 65535 := by
  simp [Lit.wf, IntKind.min, IntKind.max, IntKind.signed, IntKind.bits] at h
  omega
/-- numbers of 16 bits that came in -/
def Words (w : World) (A : Option Addr) (l : List Int) : Prop :=
  (∀ y ∈ l, 0 ≤ y ∧ y ≤ 65535) ∧ (0 < l.length → ∃ b off, A = some ⟨b, off, none⟩ ∧ b < w.heap.size ∧ ∀ j, j < l.length → w.cell? ⟨b, off + j, none⟩ = some (.int .u16 (inn l j)))
theorem Words.next {w w' : World} {A : Option Addr} {l : List Int} (h : Words w A l) (hb : Below w.heap.size w w') : Words w' A l := ⟨h.1, fun hn => by
  obtain ⟨b, off, e, hlt, hc⟩ := h.2 hn
  exact ⟨b, off, e, Nat.lt_of_lt_of_le hlt hb.size, fun j hj => (hb.cell (p := ⟨b, off + j, none⟩) hlt).trans (hc j hj)⟩⟩
def IsWords (w : World) (a : Option Addr) (len cap : Nat) (l : List Int) : Prop := l.length = len ∧ len ≤ cap ∧ cap ≤ maxLen ∧ Words w a l
def IsDeeds (w : World) (a : Option Addr) (len cap : Nat) (ds : List Dd) : Prop := ds.length = len ∧ len ≤ cap ∧ cap ≤ maxLen ∧ Deeds w a ds
theorem cellsD : Try.prog.cellsOf 58 = 3 := by kernel_rfl
theorem cellsI : Try.prog.cellsOf 3 = 1 := by kernel_rfl
theorem cellsP : Try.prog.cellsOf 22 = 1 := by kernel_rfl
def Dd.cs (d : Dd) : List Value := [.int .i64 d.k, .int .i64 d.n, .int .u8 d.p]
section
variable {H' : Type} {enc : TypeId × Value → H'} {w : World} {base : Nat} {spare : Nat → Bool} {held : Bool}
set_option maxRecDepth 100000 in
theorem cells_deed {fuel : Nat} {cs : List Value} {x : DataW H' × List MemPlace} (h : DataW.trod enc Try.prog w base spare held fuel 58 cs = some x) : ∃ d : Dd, cs = d.cs ∧ d.p < 256 := by
  obtain ⟨y0, y1, y2, n, _, hl, h0, h1, h2⟩ := Deep.trod_struct3 Try.underlying58 h
  rw [cellsD] at hl
  obtain ⟨c0, c1, c2, rfl⟩ : ∃ a b c, cs = [a, b, c] := by
    match cs, hl with
    | [a, b, c], _ => exact ⟨a, b, c, rfl⟩
  simp only [cellsI, cellsP] at h0 h1 h2
  obtain ⟨b, e0, _, wb⟩ := DataW.trod_int Try.underlying3 h0
  obtain ⟨o, e1, _, wo⟩ := DataW.trod_int Try.underlying3 h1
  obtain ⟨s, e2, _, ws⟩ := DataW.trod_int Try.underlying22 h2
  simp at e0 e1 e2
  subst e0 e1 e2
  obtain ⟨s0, s1⟩ := bounds_u8 ws
  exact ⟨⟨b, o, s.toNat⟩, by unfold Dd.cs; rw [show ((s.toNat : Int)) = s by omega], by show s.toNat < 256; omega⟩
theorem open_deed {v : Value} {d : DataW H'} {ps : List MemPlace} (hv : ∃ cs, v = .agg cs) (h : DataW.Trod enc Try.prog w base spare held 58 v d ps) : ∃ d : Dd, v = d.v ∧ d.p < 256 := by
  obtain ⟨cs, rfl⟩ := hv
  obtain ⟨fuel, hf⟩ := h
  obtain ⟨p, e, hp⟩ := cells_deed hf
  refine ⟨p, ?_, hp⟩
  simp only [Value.cells] at e
  have : cs = p.cs.toArray := by rw [← e]
  rw [this]
  rfl
theorem open_deeds {a : Option Addr} {len cap : Nat} {d : DataW H'} {pl : List MemPlace} (h : DataW.Trod enc Try.prog w base spare held 23 (.slice a len cap) d pl) : ∃ ds, IsDeeds w a len cap ds := by
  obtain ⟨fuel, hf⟩ := h
  rcases Deep.open_slice Try.underlying23 hf with ⟨e, _⟩ | ⟨x, l, c, m, n, DD, Pl, e, _, hl, hm, hmm, _, hx⟩
  · simp [Value.cells] at e
    obtain ⟨rfl, rfl, rfl⟩ := e
    exact ⟨[], rfl, Nat.le_refl _, Nat.zero_le _, fun h => absurd h (by simp)⟩
  · simp [Value.cells] at e
    obtain ⟨rfl, rfl, rfl⟩ := e
    rw [cellsD] at hx
    have hlm : len ≤ m := by rw [hmm]; split <;> omega
    have hg : ∀ i, i < len → ∃ p : Dd, p.p < 256 ∧ ∀ j, j < 3 → w.cell? ((x.add (i * 3)).add j) = p.cs[j]? := fun i hi => by
      obtain ⟨cs, h1, h2⟩ := hx i (by omega)
      obtain ⟨p, rfl, hp⟩ := cells_deed h2
      exact ⟨p, hp, (World.cells?_some h1).2.2⟩
    obtain ⟨f, hf⟩ : ∃ f : Nat → Dd, ∀ i, i < len → (f i).p < 256 ∧ ∀ j, j < 3 → w.cell? ((x.add (i * 3)).add j) = (f i).cs[j]? := by
      classical
      exact ⟨fun i => if h : i < len then (hg i h).choose else ⟨0, 0, 0⟩, fun i hi => by simp only [dif_pos hi]; exact (hg i hi).choose_spec⟩
    have hpn : ∀ i, i < len → ddn ((List.range len).map f) i = f i := fun i hi => by
      rw [ddn_lt (by simpa using hi)]; simp
    refine ⟨(List.range len).map f, by simp, hl, hm, fun hn => ?_⟩
    have hn' : 0 < len := by simpa using hn
    obtain ⟨b, off, spot⟩ := x
    have h0 := (hf 0 hn').2 0 (by omega)
    have hspot : spot = none := by
      have : w.cell? ⟨b, off, spot⟩ = some (.int .i64 (f 0).k) := by simpa [Addr.add, Dd.cs] using h0
      exact World.cell?_spot this
    subst hspot
    refine ⟨b, off, rfl, lt_of_cell (v := .int .i64 (f 0).k) (by simpa [Addr.add, Dd.cs] using h0), fun j hj => ?_⟩
    have hj' : j < len := by simpa using hj
    rw [hpn j hj']
    have a0 := (hf j hj').2 0 (by omega)
    have a1 := (hf j hj').2 1 (by omega)
    have a2 := (hf j hj').2 2 (by omega)
    rw [add_plain', add_plain'] at a0 a1 a2
    exact ⟨by simpa [Dd.cs] using a0, by simpa [Dd.cs] using a1, by simpa [Dd.cs] using a2, (hf j hj').1⟩
theorem open_words {a : Option Addr} {len cap : Nat} {d : DataW H'} {pl : List MemPlace} (h : DataW.Trod enc Try.prog w base spare held 44 (.slice a len cap) d pl) : ∃ l, IsWords w a len cap l := by
  obtain ⟨fuel, hf⟩ := h
  rcases open_ints Try.underlying44 Try.underlying43 (by kernel_rfl) hf with ⟨hcs, _⟩ | ⟨x, l, c, zs, hcs, _, hl, hm, hz, _, hcell, hwz⟩
  · simp [Value.cells] at hcs
    obtain ⟨rfl, rfl, rfl⟩ := hcs
    exact ⟨[], rfl, Nat.le_refl _, Nat.zero_le _, (fun y hy => (by cases hy)), (fun h => absurd h (by simp))⟩
  · simp [Value.cells] at hcs
    obtain ⟨rfl, rfl, rfl⟩ := hcs
    have hzl : len ≤ zs.length := by rw [hz]; split <;> omega
    refine ⟨zs.take len, by rw [List.length_take]; omega, hl, hm, fun y hy => bounds_u16 (hwz y (List.mem_of_mem_take hy)), fun hp => ?_⟩
    have hp' : 0 < len := by rw [List.length_take] at hp; omega
    obtain ⟨b, off, spot⟩ := x
    have hc0 := hcell 0 (by omega)
    have hspot : spot = none := by simpa [Addr.add] using World.cell?_spot hc0
    subst hspot
    refine ⟨b, off, rfl, lt_of_cell (by simpa [Addr.add] using hc0), fun j hj => ?_⟩
    rw [List.length_take] at hj
    have hcj := hcell j (by omega)
    rw [add_plain'] at hcj
    rw [hcj]
    unfold inn
    rw [List.getD_eq_getElem?_getD, List.getD_eq_getElem?_getD, List.getElem?_take, if_pos (by omega)]
end
end Go.Proofs.Ytpelocpjfmmceaa
