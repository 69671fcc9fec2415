/- Patches that came in. -/
import Derived.Test.YtkfjkhacchbkeaaQD
import Derived.ChangeShapes
import Derived.OpenShut
import Derived.Deep.Strs
import Derived.Deep.Slices
import Derived.ProofKit
namespace Go.Proofs.Ytkfjkhacchbkeaa.Pat
set_option linter.unusedVariables false
set_option linter.unusedSimpArgs false
open Go.RowKit Go.ChangeShapes Go.WideShapes Go.ChangeAt

def pn (l : List Pt) (k : Nat) : Pt := l.getD k ⟨0, 0, ByteArray.empty⟩
def Pats (w : World) (B : Nat) (A : Option Addr) (l : List Pt) : Prop :=
  0 < l.length → ∃ b off, A = some ⟨b, off, none⟩ ∧ b < B ∧ ∀ j, j < l.length →
    w.cell? ⟨b, off + j * 3, none⟩ = some (.int .i64 (pn l j).b) ∧ w.cell? ⟨b, off + j * 3 + 1, none⟩ = some (.int .i64 (pn l j).o) ∧ w.cell? ⟨b, off + j * 3 + 2, none⟩ = some (.string (pn l j).s)
theorem pn_lt {l : List Pt} {k : Nat} (h : k < l.length) : pn l k = l[k] := by
  unfold pn; rw [List.getD_eq_getElem?_getD, List.getElem?_eq_getElem h]; rfl
section
variable {w w' : World} {B B' : Nat} {A : Option Addr} {l : List Pt}
theorem Pats.keep (h : Pats w B A l) (hk : ∀ p : Addr, p.block < B → w'.cell? p = w.cell? p) : Pats w' B A l := fun hn => by
  obtain ⟨b, off, e, hb, hc⟩ := h hn
  refine ⟨b, off, e, hb, fun j hj => ?_⟩
  rw [hk ⟨b, _, none⟩ hb, hk ⟨b, _, none⟩ hb, hk ⟨b, _, none⟩ hb]
  exact hc j hj
theorem Pats.more (h : Pats w B A l) (hB : B ≤ B') : Pats w B' A l := fun hn => by
  obtain ⟨b, off, e, hb, hc⟩ := h hn
  exact ⟨b, off, e, by omega, hc⟩
theorem Pats.below (h : Pats w B A l) (hb : Below B w w') : Pats w' B A l := h.keep fun _ hp => hb.cell hp
theorem Pats.nil : Pats w B A [] := fun h => by simp at h
end

theorem lt_of_cell {w : World} {b o : Nat} {v : Value} (h : w.cell? ⟨b, o, none⟩ = some v) : b < w.heap.size := by
  rcases Nat.lt_or_ge b w.heap.size with hb | hb
  · exact hb
  · exact absurd h (by simp [World.cell?, Array.getElem?_eq_none hb])
theorem add_plain' (b o j : Nat) : (⟨b, o, none⟩ : Addr).add j = ⟨b, o + j, none⟩ := by unfold Addr.add; split <;> simp_all
theorem cells44 : Try.prog.cellsOf 44 = 3 := by kernel_rfl
theorem cells3 : Try.prog.cellsOf 3 = 1 := by kernel_rfl
theorem cells9 : Try.prog.cellsOf 9 = 1 := by kernel_rfl
section
variable {H : Type} {enc : TypeId × Value → H} {w : World} {base : Nat} {spare : Nat → Bool} {held : Bool}
theorem cells_patch {fuel : Nat} {cs : List Value} {x : DataW H × List MemPlace} (h : DataW.trod enc Try.prog w base spare held fuel 44 cs = some x) : ∃ p : Pt, cs = p.cs ∧ p.ok := by
  obtain ⟨y0, y1, y2, n, _, hl, h0, h1, h2⟩ := Deep.trod_struct3 Try.underlying44 h
  rw [cells44] at hl
  obtain ⟨c0, c1, c2, rfl⟩ : ∃ a b c, cs = [a, b, c] := by
    match cs, hl with
    | [a, b, c], _ => exact ⟨a, b, c, rfl⟩
  simp only [cells3, cells9] at h0 h1 h2
  obtain ⟨b, e0, _, wb⟩ := DataW.trod_int Try.underlying3 h0
  obtain ⟨o, e1, _, wo⟩ := DataW.trod_int Try.underlying3 h1
  obtain ⟨s, e2, _, ws⟩ := DataW.trod_string Try.underlying9 h2
  simp at e0 e1 e2
  subst e0 e1 e2
  exact ⟨⟨b, o, s⟩, rfl, bounds_i64 wb, bounds_i64 wo, ws⟩
theorem open_patch {v : Value} {d : DataW H} {ps : List MemPlace} (hv : ∃ cs, v = .agg cs) (h : DataW.Trod enc Try.prog w base spare held 44 v d ps) : ∃ p : Pt, v = p.v ∧ p.ok := by
  obtain ⟨cs, rfl⟩ := hv
  obtain ⟨fuel, hf⟩ := h
  obtain ⟨p, e, hp⟩ := cells_patch hf
  refine ⟨p, ?_, hp⟩
  simp only [Value.cells] at e
  have : cs = p.cs.toArray := by rw [← e]
  rw [this]
  rfl

/-- A slice of patches that came in. -/
def IsPats (w : World) (a : Option Addr) (len cap : Nat) (ps : List Pt) : Prop :=
  ps.length = len ∧ len ≤ cap ∧ cap ≤ maxLen ∧ Pats w w.heap.size a ps ∧ ∀ k, k < ps.length → (pn ps k).ok
theorem open_pats {a : Option Addr} {len cap : Nat} {d : DataW H} {pl : List MemPlace} (h : DataW.Trod enc Try.prog w base spare held 34 (.slice a len cap) d pl) : ∃ ps, IsPats w a len cap ps := by
  obtain ⟨fuel, hf⟩ := h
  rcases Deep.open_slice Try.underlying34 hf with ⟨e, _⟩ | ⟨x, l, c, m, n, D, Pl, e, _, hl, hm, hmm, _, hx⟩
  · simp [Value.cells] at e
    obtain ⟨rfl, rfl, rfl⟩ := e
    exact ⟨[], rfl, Nat.le_refl _, Nat.zero_le _, Pats.nil, by simp⟩
  · simp [Value.cells] at e
    obtain ⟨rfl, rfl, rfl⟩ := e
    rw [cells44] at hx
    have hlm : len ≤ m := by rw [hmm]; split <;> omega
    have hg : ∀ i, i < len → ∃ p : Pt, p.ok ∧ ∀ j, j < 3 → w.cell? ((x.add (i * 3)).add j) = p.cs[j]? := fun i hi => by
      obtain ⟨cs, h1, h2⟩ := hx i (by omega)
      obtain ⟨p, rfl, hp⟩ := cells_patch h2
      exact ⟨p, hp, (World.cells?_some h1).2.2⟩
    obtain ⟨f, hf⟩ : ∃ f : Nat → Pt, ∀ i, i < len → (f i).ok ∧ ∀ j, j < 3 → w.cell? ((x.add (i * 3)).add j) = (f i).cs[j]? := by
      classical
      exact ⟨fun i => if h : i < len then (hg i h).choose else ⟨0, 0, ByteArray.empty⟩, fun i hi => by simp only [dif_pos hi]; exact (hg i hi).choose_spec⟩
    have hpn : ∀ i, i < len → pn ((List.range len).map f) i = f i := fun i hi => by
      rw [pn_lt (by simpa using hi)]; simp
    refine ⟨(List.range len).map f, by simp, hl, hm, fun hn => ?_, fun k hk => ?_⟩
    · have hn' : 0 < len := by simpa using hn
      obtain ⟨b, off, spot⟩ := x
      have h0 := (hf 0 hn').2 0 (by omega)
      have hspot : spot = none := by
        have : w.cell? ⟨b, off, spot⟩ = some (.int .i64 (f 0).b) := by simpa [Addr.add, Pt.cs] using h0
        exact World.cell?_spot this
      subst hspot
      refine ⟨b, off, rfl, lt_of_cell (v := .int .i64 (f 0).b) (by simpa [Addr.add, Pt.cs] using h0), fun j hj => ?_⟩
      have hj' : j < len := by simpa using hj
      rw [hpn j hj']
      have a0 := (hf j hj').2 0 (by omega)
      have a1 := (hf j hj').2 1 (by omega)
      have a2 := (hf j hj').2 2 (by omega)
      rw [add_plain', add_plain'] at a0 a1 a2
      exact ⟨by simpa [Pt.cs] using a0, by simpa [Pt.cs] using a1, by simpa [Pt.cs] using a2⟩
    · have hk' : k < len := by simpa using hk
      rw [hpn k hk']
      exact (hf k hk').1
end
end Go.Proofs.Ytkfjkhacchbkeaa.Pat
