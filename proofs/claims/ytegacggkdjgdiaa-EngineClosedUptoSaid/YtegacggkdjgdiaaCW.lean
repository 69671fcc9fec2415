/- Items that came in, of a bulk that is bounded. -/
import Derived.Test.YtegacggkdjgdiaaCV
import Derived.Test.YtegacggkdjgdiaaET
import Derived.Test.YtegacggkdjgdiaaRows
set_option linter.unusedVariables false
set_option linter.unusedSimpArgs false
namespace Go.Proofs.Ytegacggkdjgdiaa
open Go.RowKit Go.ChangeShapes Go.WideShapes Go.Deep
theorem bulk_one {H : Type} (d : DataW H) : 1 ≤ Rows.uptoBulk d := by
  cases d with
  | lit l => cases l <;> simp [Rows.uptoBulk]
  | nil => simp [Rows.uptoBulk]
  | ptr d => simp [Rows.uptoBulk]
  | slice elems spare => simp [Rows.uptoBulk]
  | agg parts => simp [Rows.uptoBulk]
  | iface t d => simp [Rows.uptoBulk]
  | map entries => simp [Rows.uptoBulk]
  | held h => simp [Rows.uptoBulk]
theorem bulk_mem {H : Type} {d : DataW H} : ∀ {l : List (DataW H)}, d ∈ l → Rows.uptoBulk d ≤ Rows.uptoBulkAll l
  | x :: r, h => by
    simp only [Rows.uptoBulkAll]
    rcases List.mem_cons.1 h with e | e
    · subst e; omega
    · have := bulk_mem e; omega
section
variable {H' : Type} {enc : TypeId × Value → H'} {w : World} {base : Nat} {spare : Nat → Bool} {held : Bool}
set_option maxRecDepth 100000 in
theorem patch_bulk {fuel : Nat} {cs : List Value} {x : DataW H' × List MemPlace} (h : DataW.trod enc Try.prog w base spare held fuel 32 cs = some x) : ∃ p : Pt, cs = p.cs ∧ p.ok ∧ p.s.size ≤ Rows.uptoBulk x.1 := by
  obtain ⟨y0, y1, y2, n, hx, hl, h0, h1, h2⟩ := Deep.trod_struct3 Try.underlying32 h
  rw [cellsPatch] at hl
  obtain ⟨c0, c1, c2, rfl⟩ : ∃ a b c, cs = [a, b, c] := by
    match cs, hl with
    | [a, b, c], _ => exact ⟨a, b, c, rfl⟩
  simp only [cells3, cells9] at h0 h1 h2
  obtain ⟨b, e0, _, wb⟩ := DataW.trod_int Try.underlying3 h0
  obtain ⟨o, e1, _, wo⟩ := DataW.trod_int Try.underlying3 h1
  obtain ⟨s, e2, hs, ws⟩ := DataW.trod_string Try.underlying9 h2
  simp at e0 e1 e2
  subst e0 e1 e2
  refine ⟨⟨b, o, s⟩, rfl, ⟨bounds_i64 wb, bounds_i64 wo, ws⟩, ?_⟩
  subst hx
  subst hs
  have e : s.data.toList.length = s.size := by rw [Array.length_toList]; rfl
  simp only [Rows.uptoBulk, Rows.uptoBulkAll]
  omega
set_option maxRecDepth 100000 in
theorem item_bulk {fuel : Nat} {cs : List Value} {x : DataW H' × List MemPlace} (h : DataW.trod enc Try.prog w base spare held fuel 34 cs = some x) :
    ∃ (y : It) (A : Option Addr) (c : Nat), cs = y.p.cs ++ [.slice A y.d.length c] ∧ y.wf ∧ IntsF w no A y.d ∧ y.p.s.size ≤ Rows.uptoBulk x.1 := by
  obtain ⟨y0, y1, n, hx, hl, h0, h1⟩ := trod_struct2 Try.underlying34 h
  rw [cellsItem] at hl
  obtain ⟨c0, c1, c2, c3, rfl⟩ : ∃ a b c d, cs = [a, b, c, d] := by
    match cs, hl with
    | [a, b, c, d], _ => exact ⟨a, b, c, d, rfl⟩
  simp only [cellsPatch, cellsInts] at h0 h1
  obtain ⟨p, e, hp, hpb⟩ := patch_bulk h0
  obtain ⟨A, zs, c, e1, hc1, hc2, hw, hi⟩ := open_nums h1
  simp [Pt.cs] at e
  obtain ⟨rfl, rfl, rfl⟩ := e
  simp at e1
  subst e1
  refine ⟨⟨p, zs⟩, A, c, rfl, ⟨hp, by dsimp only; omega, hw⟩, hi, ?_⟩
  subst hx
  simp only [Rows.uptoBulk, Rows.uptoBulkAll]
  show p.s.size ≤ _
  omega
theorem open_items_u {a : Option Addr} {len cap : Nat} {d : DataW H'} {pl : List MemPlace} (h : DataW.Trod enc Try.prog w base spare held 22 (.slice a len cap) d pl) (hk : Rows.uptoBulk d ≤ 1048576) : ∃ l, ItemsIn w a len cap l ∧ ∀ x ∈ l, x.p.s.size ≤ 1048576 := by
  obtain ⟨fuel, hf⟩ := h
  rcases Deep.open_slice Try.underlying22 hf with ⟨e, _⟩ | ⟨x, l, c, m, n, D, Pl, e, _, hl, hm, hmm, hd, hx⟩
  · simp [Value.cells] at e
    obtain ⟨rfl, rfl, rfl⟩ := e
    exact ⟨[], ⟨rfl, Nat.le_refl _, Nat.zero_le _, (fun x hx => by cases hx), fun h => by simp at h⟩, fun x hx => by cases hx⟩
  · simp [Value.cells] at e
    obtain ⟨rfl, rfl, rfl⟩ := e
    injection hd with hd1 hd2
    subst hd1
    rw [cellsItem] at hx
    have hlm : len ≤ m := by rw [hmm]; split <;> omega
    have hg : ∀ i, i < len → ∃ z : It × Option Addr × Nat, z.1.wf ∧ IntsF w no z.2.1 z.1.d ∧ (∀ j, j < 4 → w.cell? ((x.add (i * 4)).add j) = (z.1.p.cs ++ [.slice z.2.1 z.1.d.length z.2.2])[j]?) ∧ z.1.p.s.size ≤ 1048576 := fun i hi => by
      obtain ⟨cs, h1, h2⟩ := hx i (by omega)
      obtain ⟨y, A, c, rfl, hy, hi2, hb⟩ := item_bulk h2
      have hb2 := bulk_mem (List.mem_map_of_mem (f := D) (List.mem_range.2 hi))
      simp only [Rows.uptoBulk] at hk
      exact ⟨(y, A, c), hy, hi2, (World.cells?_some h1).2.2, by dsimp only at hb ⊢; omega⟩
    obtain ⟨f, hf2⟩ : ∃ f : Nat → It × Option Addr × Nat, ∀ i, i < len → (f i).1.wf ∧ IntsF w no (f i).2.1 (f i).1.d ∧ (∀ j, j < 4 → w.cell? ((x.add (i * 4)).add j) = ((f i).1.p.cs ++ [.slice (f i).2.1 (f i).1.d.length (f i).2.2])[j]?) ∧ (f i).1.p.s.size ≤ 1048576 := by
      classical
      exact ⟨fun i => if h : i < len then (hg i h).choose else (⟨⟨0, 0, ByteArray.empty⟩, []⟩, none, 0), fun i hi => by simp only [dif_pos hi]; exact (hg i hi).choose_spec⟩
    have hit : ∀ i, i < len → itN ((List.range len).map fun i => (f i).1) i = (f i).1 := fun i hi => by
      rw [itN_lt (by simpa using hi)]; simp
    refine ⟨(List.range len).map fun i => (f i).1, ⟨by simp, hl, hm, fun y hy => ?_, fun hn => ?_⟩, fun y hy => ?_⟩
    · obtain ⟨i, hi, rfl⟩ := List.mem_map.1 hy
      exact (hf2 i (List.mem_range.1 hi)).1
    · have hn0 : 0 < len := by simpa using hn
      obtain ⟨b, off, spot⟩ := x
      have h0 := (hf2 0 hn0).2.2.1 0 (by omega)
      have hspot : spot = none := by
        have : w.cell? ⟨b, off, spot⟩ = some (.int .i64 (f 0).1.p.b) := by simpa [Addr.add, Pt.cs] using h0
        exact World.cell?_spot this
      subst hspot
      refine ⟨b, off, fun i => (f i).2.1, fun i => (f i).2.2, rfl, lt_of_cell (v := .int .i64 (f 0).1.p.b) (by simpa [Addr.add, Pt.cs] using h0), fun q => q, fun i hi => ?_⟩
      have hi : i < len := by simpa using hi
      obtain ⟨_, hr, hc, _⟩ := hf2 i hi
      rw [hit i hi]
      have hcj : ∀ j, j < 4 → w.cell? ⟨b, off + i * 4 + j, none⟩ = ((f i).1.p.cs ++ [.slice (f i).2.1 (f i).1.d.length (f i).2.2])[j]? := fun j hj => by
        have := hc j hj
        rwa [add_plain', add_plain'] at this
      refine ⟨?_, ?_, ?_, ?_, hr⟩
      · exact hcj 0 (by omega)
      · exact hcj 1 (by omega)
      · exact hcj 2 (by omega)
      · exact hcj 3 (by omega)
    · obtain ⟨i, hi, rfl⟩ := List.mem_map.1 hy
      exact (hf2 i (List.mem_range.1 hi)).2.2.2
end
end Go.Proofs.Ytegacggkdjgdiaa
