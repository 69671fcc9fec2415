/- What came in: deeds, numbers, bytes. -/
import Derived.Test.YtieeibdhaoaeaaaLF
import Derived.ChangeShapes
import Derived.OpenShut
import Derived.Deep.Slices
import Derived.Deep.Strs
import Derived.ProofKit
set_option linter.unusedVariables false
set_option linter.unusedSimpArgs false
namespace Go.Proofs.Ytieeibdhaoaeaaa
open Go.RowKit Go.ChangeShapes Go.WideShapes Go.ChangeAt

theorem bounds_u8 {n : Int} (h : (Lit.int .u8 n).wf = true) : 0 ≤ n ∧ n ≤ 255 := by
  simp [Lit.wf, IntKind.min, IntKind.max, IntKind.signed, IntKind.bits] at h
  omega
theorem bounds_i64 {n : Int} (h : (Lit.int .i64 n).wf = true) : -9223372036854775808 ≤ n ∧ n ≤ 9223372036854775807 := by
  simp [Lit.wf, IntKind.min, IntKind.max, IntKind.signed, IntKind.bits] at h
  omega
theorem lt_of_cell {w : World} {b o : Nat} {v : Value} (h : w.cell? ⟨b, o, none⟩ = some v) : b < w.heap.size := by
  rcases Nat.lt_or_ge b w.heap.size with hb | hb
  · exact hb
  · exact absurd h (by simp [World.cell?, Array.getElem?_eq_none hb])
theorem cells41 : Try.prog.cellsOf 41 = 5 := by kernel_rfl
theorem cells3 : Try.prog.cellsOf 3 = 1 := by kernel_rfl
theorem cells4 : Try.prog.cellsOf 4 = 1 := by kernel_rfl
theorem cells5 : Try.prog.cellsOf 5 = 1 := by kernel_rfl
theorem cells30 : Try.prog.cellsOf 30 = 1 := by kernel_rfl
section
variable {H' : Type} {enc : TypeId × Value → H'} {w : World} {base : Nat} {spare : Nat → Bool} {held : Bool}
/-- numbers that came in -/
theorem open_picks {fuel : Nat} {cs : List Value} {x : DataW H' × List MemPlace} (h : DataW.trod enc Try.prog w base spare held fuel 30 cs = some x) :
    ∃ P pick pc, cs = [.slice P (pick : List Int).length pc] ∧ (∀ y ∈ pick, -9223372036854775808 ≤ y ∧ y ≤ 9223372036854775807) ∧ PickAt w (fun _ => False) P pick := by
  rcases open_ints Try.underlying30 Try.underlying3 (by kernel_rfl) h with ⟨hcs, _⟩ | ⟨a, len, cap, zs, hcs, _, hl, hm, hz, _, hcell, hwz⟩
  · exact ⟨none, [], 0, hcs, (fun y hy => by cases hy), .inl rfl⟩
  · have hzl : len ≤ zs.length := by rw [hz]; split <;> omega
    have hpl : (zs.take len).length = len := by rw [List.length_take]; omega
    refine ⟨some a, zs.take len, cap, by rw [hpl]; exact hcs, fun y hy => bounds_i64 (hwz y (List.mem_of_mem_take hy)), ?_⟩
    by_cases hp : zs.take len = []
    · exact .inl hp
    · have h0 : 0 < zs.length := by
        rcases Nat.eq_zero_or_pos zs.length with e | e
        · rw [List.eq_nil_of_length_eq_zero e] at hp; simp at hp
        · exact e
      obtain ⟨b, off, spot⟩ := a
      have hc0 := hcell 0 h0
      have hspot : spot = none := by simpa [Addr.add] using World.cell?_spot hc0
      subst hspot
      refine .inr ⟨b, off, rfl, lt_of_cell (by simpa [Addr.add] using hc0), fun q => q, fun j u hj => ?_⟩
      rw [List.getElem?_map, List.getElem?_take] at hj
      split at hj
      · next hjl =>
        have hcj := hcell j (by omega)
        rw [add_plain'] at hcj
        rw [hcj, ← hj, List.getElem?_eq_getElem (by omega), List.getD_eq_getElem?_getD, List.getElem?_eq_getElem (by omega)]
        rfl
      · cases hj
set_option maxRecDepth 100000 in
theorem cells_deed {fuel : Nat} {cs : List Value} {x : DataW H' × List MemPlace} (h : DataW.trod enc Try.prog w base spare held fuel 41 cs = some x) : ∃ d : Dd, cs = d.cs ∧ DdIn w d := by
  obtain ⟨xs, n, _, _, hl, hxl, hf⟩ := DataW.trod_struct Try.underlying41 h
  rw [cells41] at hl
  have hx5 : xs.length = 5 := by simpa using hxl
  obtain ⟨c0, c1, c2, c3, c4, rfl⟩ : ∃ a b c d e, cs = [a, b, c, d, e] := by
    match cs, hl with
    | [a, b, c, d, e], _ => exact ⟨a, b, c, d, e, rfl⟩
  obtain ⟨y0, y1, y2, y3, y4, rfl⟩ : ∃ a b c d e, xs = [a, b, c, d, e] := by
    match xs, hx5 with
    | [a, b, c, d, e], _ => exact ⟨a, b, c, d, e, rfl⟩
  have h0 := hf 0 _ rfl
  have h1 := hf 1 _ rfl
  have h2 := hf 2 _ rfl
  have h3 := hf 3 _ rfl
  have h4 := hf 4 _ rfl
  change DataW.trod enc Try.prog w base spare held n 3 (([c0, c1, c2, c3, c4].drop 0).take (Try.prog.cellsOf 3)) = some y0 at h0
  rw [cells3] at h0
  change DataW.trod enc Try.prog w base spare held n 3 (([c0, c1, c2, c3, c4].drop 1).take (Try.prog.cellsOf 3)) = some y1 at h1
  rw [cells3] at h1
  change DataW.trod enc Try.prog w base spare held n 5 (([c0, c1, c2, c3, c4].drop 2).take (Try.prog.cellsOf 5)) = some y2 at h2
  rw [cells5] at h2
  change DataW.trod enc Try.prog w base spare held n 30 (([c0, c1, c2, c3, c4].drop 3).take (Try.prog.cellsOf 30)) = some y3 at h3
  rw [cells30] at h3
  change DataW.trod enc Try.prog w base spare held n 4 (([c0, c1, c2, c3, c4].drop 4).take (Try.prog.cellsOf 4)) = some y4 at h4
  rw [cells4] at h4
  obtain ⟨k, e0, _, _⟩ := DataW.trod_int Try.underlying3 h0
  obtain ⟨i, e1, _, _⟩ := DataW.trod_int Try.underlying3 h1
  obtain ⟨c, e2, _, wc⟩ := DataW.trod_int Try.underlying5 h2
  obtain ⟨P, pick, pc, e3, hpw, hpa⟩ := open_picks h3
  obtain ⟨b, e4, _⟩ := DataW.trod_bool Try.underlying4 h4
  simp at e0 e1 e2 e3 e4
  subst e0 e1 e2 e3 e4
  exact ⟨⟨k, i, c, P, pick, pc, b⟩, rfl, bounds_u8 wc, hpw, hpa⟩
theorem open_deed {v : Value} {d : DataW H'} {ps : List MemPlace} (hv : ∃ cs, v = .agg cs) (h : DataW.Trod enc Try.prog w base spare held 41 v d ps) : ∃ x : Dd, v = x.v ∧ DdIn w x := by
  obtain ⟨cs, rfl⟩ := hv
  obtain ⟨fuel, hf⟩ := h
  obtain ⟨p, e, hp⟩ := cells_deed hf
  refine ⟨p, ?_, hp⟩
  simp only [Value.cells] at e
  have : cs = p.cs.toArray := by rw [← e]
  rw [this]
  rfl
theorem open_deeds {a : Option Addr} {len cap : Nat} {d : DataW H'} {pl : List MemPlace} (h : DataW.Trod enc Try.prog w base spare held 22 (.slice a len cap) d pl) : ∃ L : List Dd, L.length = len ∧ DeedsAt w a L ∧ ∀ x ∈ L, DdIn w x := by
  obtain ⟨fuel, hf⟩ := h
  rcases Deep.open_slice Try.underlying22 hf with ⟨e, _⟩ | ⟨x, l, c, m, n, DD, Pl, e, _, hl, hm, hmm, _, hx⟩
  · simp [Value.cells] at e
    obtain ⟨rfl, rfl, rfl⟩ := e
    exact ⟨[], rfl, .inl rfl, (fun x hx => by cases hx)⟩
  · simp [Value.cells] at e
    obtain ⟨rfl, rfl, rfl⟩ := e
    rw [cells41] at hx
    have hlm : len ≤ m := by rw [hmm]; split <;> omega
    have hg : ∀ i, i < len → ∃ p : Dd, DdIn w p ∧ ∀ j, j < 5 → w.cell? ((x.add (i * 5)).add j) = p.cs[j]? := fun i hi => by
      obtain ⟨cs, h1, h2⟩ := hx i (by omega)
      obtain ⟨p, rfl, hp⟩ := cells_deed h2
      exact ⟨p, hp, (World.cells?_some h1).2.2⟩
    obtain ⟨f, hf⟩ : ∃ f : Nat → Dd, ∀ i, i < len → DdIn w (f i) ∧ ∀ j, j < 5 → w.cell? ((x.add (i * 5)).add j) = (f i).cs[j]? := by
      classical
      exact ⟨fun i => if h : i < len then (hg i h).choose else ⟨0, 0, 0, none, [], 0, false⟩, fun i hi => by simp only [dif_pos hi]; exact (hg i hi).choose_spec⟩
    refine ⟨(List.range len).map f, by simp, ?_, fun y hy => ?_⟩
    · by_cases hn : len = 0
      · subst hn; exact .inl rfl
      · obtain ⟨b, off, spot⟩ := x
        have h0 := (hf 0 (by omega)).2 0 (by omega)
        have hspot : spot = none := by
          have : w.cell? ⟨b, off, spot⟩ = some (.int .i64 (f 0).kind) := by simpa [Addr.add, Dd.cs] using h0
          exact World.cell?_spot this
        subst hspot
        refine .inr ⟨b, off, rfl, lt_of_cell (v := .int .i64 (f 0).kind) (by simpa [Addr.add, Dd.cs] using h0), fun k u hk => ?_⟩
        have hkl : k < ((List.range len).map f).length * 5 := by
          have h1 := (List.getElem?_eq_some_iff.1 hk).1
          have h2 : ∀ L : List Dd, (L.flatMap Dd.cs).length = L.length * 5 := fun L => by
            induction L with
            | nil => rfl
            | cons y L ih => rw [List.flatMap_cons, List.length_append, ih, List.length_cons]; simp [Dd.cs]; omega
          rw [h2] at h1; exact h1
        have hq : k / 5 < len := by simp at hkl; omega
        have hr : k % 5 < 5 := Nat.mod_lt _ (by decide)
        have e : k = k / 5 * 5 + k % 5 := by omega
        have h3 := Dd.cs_at (L := (List.range len).map f) (i := k / 5) (by simpa using hq) hr
        rw [← e, hk] at h3
        have h4 := (hf (k / 5) hq).2 (k % 5) hr
        rw [add_plain', add_plain', Nat.add_assoc, ← e] at h4
        rw [h4]
        simpa using h3.symm
    · obtain ⟨i, hi, rfl⟩ := List.mem_map.1 hy
      exact (hf i (List.mem_range.1 hi)).1
theorem open_pick {a : Option Addr} {len cap : Nat} {d : DataW H'} {pl : List MemPlace} (h : DataW.Trod enc Try.prog w base spare held 30 (.slice a len cap) d pl) :
    ∃ pick : List Int, pick.length = len ∧ (∀ y ∈ pick, -9223372036854775808 ≤ y ∧ y ≤ 9223372036854775807) ∧ PickAt w (fun _ => False) a pick := by
  obtain ⟨fuel, hf⟩ := h
  obtain ⟨P, pick, pc, e, h1, h2⟩ := open_picks hf
  simp [Value.cells] at e
  obtain ⟨rfl, rfl, rfl⟩ := e
  exact ⟨pick, rfl, h1, h2⟩
end
end Go.Proofs.Ytieeibdhaoaeaaa
