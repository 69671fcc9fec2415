/- Groups that came in, opened. -/
import Derived.Test.YtpcindemkkdbbaaCF
import Derived.Test.YtpcindemkkdbbaaOP
set_option linter.unusedVariables false
set_option linter.unusedSimpArgs false
namespace Go.Proofs.Ytpcindemkkdbbaa
open Go.ChangeShapes Go.WideShapes Go.ChangeAt Go.RowKit
/-- a group that came in -/
def CyIn (w : World) (x : Cy) (A : Option Addr) (c : Nat) (A2 : Option Addr) (d : Nat) : Prop := (x.us.length ≤ c ∧ c ≤ maxLen) ∧ (x.is.length ≤ d ∧ d ≤ maxLen) ∧ Ints w w.heap.size A x.us ∧ Ints w w.heap.size A2 x.is
theorem lt_of_cell {w : World} {b o : Nat} {v : Value} (h : w.cell? ⟨b, o, none⟩ = some v) : b < w.heap.size := by
  rcases Nat.lt_or_ge b w.heap.size with hb | hb
  · exact hb
  · exact absurd h (by simp [World.cell?, Array.getElem?_eq_none hb])
section
variable {H : Type} {enc : TypeId × Value → H} {w : World} {base : Nat} {spare : Nat → Bool} {held : Bool}
theorem open_nums {fuel : Nat} {cs : List Value} {x : DataW H × List MemPlace} (h : DataW.trod enc Try.prog w base spare held fuel 22 cs = some x) :
    ∃ P pick pc, cs = [.slice P (pick : List Int).length pc] ∧ (pick.length ≤ pc ∧ pc ≤ maxLen) ∧ Ints w w.heap.size P pick := by
  rcases open_ints Try.underlying22 Try.underlying3 (by kernel_rfl) h with ⟨hcs, _⟩ | ⟨a, len, cap, zs, hcs, _, hl, hm, hz, _, hcell, hwz⟩
  · exact ⟨none, [], 0, hcs, ⟨Nat.le_refl _, Nat.zero_le _⟩, Ints.nil⟩
  · have hzl : len ≤ zs.length := by rw [hz]; split <;> omega
    have hpl : (zs.take len).length = len := by rw [List.length_take]; omega
    refine ⟨some a, zs.take len, cap, by rw [hpl]; exact hcs, ⟨by omega, hm⟩, fun hn => ?_⟩
    rw [hpl] at hn
    obtain ⟨b, off, spot⟩ := a
    have hc0 := hcell 0 (by omega)
    have hspot : spot = none := by simpa [Addr.add] using World.cell?_spot hc0
    subst hspot
    refine ⟨b, off, rfl, lt_of_cell (by simpa [Addr.add] using hc0), fun j hj => ?_⟩
    rw [hpl] at hj
    have hcj := hcell j (by omega)
    rw [Addr.add_lit] at hcj
    rw [hcj, nth_take hj (by omega), nth_lt (by omega), List.getD_eq_getElem?_getD, List.getElem?_eq_getElem (by omega)]
    rfl
theorem cells3 : Try.prog.cellsOf 3 = 1 := by kernel_rfl
theorem cells22 : Try.prog.cellsOf 22 = 1 := by kernel_rfl
theorem cells24 : Try.prog.cellsOf 24 = 7 := by kernel_rfl
theorem cells53 : Try.prog.cellsOf 53 = 14 := by kernel_rfl
set_option maxRecDepth 100000 in
theorem cells_cyl {fuel : Nat} {cs : List Value} {x : DataW H × List MemPlace} (h : DataW.trod enc Try.prog w base spare held fuel 24 cs = some x) :
    ∃ (y : Cy) (A : Option Addr) (c : Nat) (A2 : Option Addr) (d : Nat), cs = cy7 y A c A2 d ∧ CyIn w y A c A2 d := by
  obtain ⟨xs, n, _, _, hl, hxl, hf⟩ := DataW.trod_struct Try.underlying24 h
  rw [cells24] at hl
  have hx5 : xs.length = 7 := by simpa using hxl
  obtain ⟨c0, c1, c2, c3, c4, c5, c6, rfl⟩ : ∃ a b c d e f g, cs = [a, b, c, d, e, f, g] := by
    match cs, hl with
    | [a, b, c, d, e, f, g], _ => exact ⟨a, b, c, d, e, f, g, rfl⟩
  obtain ⟨y0, y1, y2, y3, y4, y5, y6, rfl⟩ : ∃ a b c d e f g, xs = [a, b, c, d, e, f, g] := by
    match xs, hx5 with
    | [a, b, c, d, e, f, g], _ => exact ⟨a, b, c, d, e, f, g, rfl⟩
  have h0 := hf 0 _ rfl
  have h1 := hf 1 _ rfl
  have h2 := hf 2 _ rfl
  have h3 := hf 3 _ rfl
  have h4 := hf 4 _ rfl
  have h5 := hf 5 _ rfl
  have h6 := hf 6 _ rfl
  change DataW.trod enc Try.prog w base spare held n 3 (([c0, c1, c2, c3, c4, c5, c6].drop 0).take (Try.prog.cellsOf 3)) = some y0 at h0
  rw [cells3] at h0
  change DataW.trod enc Try.prog w base spare held n 3 (([c0, c1, c2, c3, c4, c5, c6].drop 1).take (Try.prog.cellsOf 3)) = some y1 at h1
  rw [cells3] at h1
  change DataW.trod enc Try.prog w base spare held n 3 (([c0, c1, c2, c3, c4, c5, c6].drop 2).take (Try.prog.cellsOf 3)) = some y2 at h2
  rw [cells3] at h2
  change DataW.trod enc Try.prog w base spare held n 3 (([c0, c1, c2, c3, c4, c5, c6].drop 3).take (Try.prog.cellsOf 3)) = some y3 at h3
  rw [cells3] at h3
  change DataW.trod enc Try.prog w base spare held n 3 (([c0, c1, c2, c3, c4, c5, c6].drop 4).take (Try.prog.cellsOf 3)) = some y4 at h4
  rw [cells3] at h4
  change DataW.trod enc Try.prog w base spare held n 22 (([c0, c1, c2, c3, c4, c5, c6].drop 5).take (Try.prog.cellsOf 22)) = some y5 at h5
  rw [cells22] at h5
  change DataW.trod enc Try.prog w base spare held n 22 (([c0, c1, c2, c3, c4, c5, c6].drop 6).take (Try.prog.cellsOf 22)) = some y6 at h6
  rw [cells22] at h6
  obtain ⟨i0, e0, _, _⟩ := DataW.trod_int Try.underlying3 h0
  obtain ⟨i1, e1, _, _⟩ := DataW.trod_int Try.underlying3 h1
  obtain ⟨i2, e2, _, _⟩ := DataW.trod_int Try.underlying3 h2
  obtain ⟨i3, e3, _, _⟩ := DataW.trod_int Try.underlying3 h3
  obtain ⟨i4, e4, _, _⟩ := DataW.trod_int Try.underlying3 h4
  obtain ⟨A, us, c, e5, hc, hu⟩ := open_nums h5
  obtain ⟨A2, is, d, e6, hd, hi⟩ := open_nums h6
  simp at e0 e1 e2 e3 e4 e5 e6
  subst e0 e1 e2 e3 e4 e5 e6
  exact ⟨⟨i0, i1, i2, i3, i4, us, is⟩, A, c, A2, d, rfl, hc, hd, hu, hi⟩
theorem open_cyl2 {r : Reach} {b0 : Nat} {t : TypeId} {v : Value} {d : DataW H} {p : List MemPlace} (ht : Try.prog.underlying t = some (.array 2 24)) (hC : Try.prog.cellsOf t = 14)
    (hv : Value.okWide Try.prog w r b0 t v) (h : DataW.Trod enc Try.prog w base spare held t v d p) :
    ∃ (x : Cy) (A : Option Addr) (c : Nat) (A2 : Option Addr) (d : Nat) (y : Cy) (B : Option Addr) (e : Nat) (B2 : Option Addr) (f : Nat), v = .agg #[.int .i64 x.ix, .int .i64 x.bl, .int .i64 x.fb, .int .i64 x.fi, .int .i64 x.ro, .slice A x.us.length c, .slice A2 x.is.length d, .int .i64 y.ix, .int .i64 y.bl, .int .i64 y.fb, .int .i64 y.fi, .int .i64 y.ro, .slice B y.us.length e, .slice B2 y.is.length f] ∧ CyIn w x A c A2 d ∧ CyIn w y B e B2 f := by
  obtain ⟨cs, rfl, hsz⟩ := okWide_arr ht hv
  rw [hC] at hsz
  obtain ⟨fuel, hf⟩ := h
  obtain ⟨xs, m, _, _, hlen, hxl, hi⟩ := DataW.trod_array ht hf
  rw [cells24] at hi
  have i0 := hi 0 (by decide)
  have i1 := hi 1 (by decide)
  match xs, hxl with
  | [y0, y1], _ =>
    simp only [Value.cells] at i0 i1
    have j0 : DataW.trod enc Try.prog w base spare held m 24 ((cs.toList.drop 0).take 7) = some y0 := by simpa using i0
    have j1 : DataW.trod enc Try.prog w base spare held m 24 ((cs.toList.drop 7).take 7) = some y1 := by simpa using i1
    obtain ⟨x, A, c, A2, d, ex, hx⟩ := cells_cyl j0
    obtain ⟨y, B, e, B2, f, ey, hy⟩ := cells_cyl j1
    refine ⟨x, A, c, A2, d, y, B, e, B2, f, ?_, hx, hy⟩
    congr 1
    have hl : cs.toList.length = 14 := by simpa using hsz
    have : cs.toList = cy7 x A c A2 d ++ cy7 y B e B2 f := by
      rw [← ex, ← ey, List.drop_zero]
      have h7 : (cs.toList.drop 7).take 7 = cs.toList.drop 7 := List.take_of_length_le (by rw [List.length_drop]; omega)
      rw [h7, List.take_append_drop]
    rw [← Array.toArray_toList (xs := cs), this]
    rfl
theorem open_cyls' {fuel : Nat} {cs : List Value} {x : DataW H × List MemPlace} (h : DataW.trod enc Try.prog w base spare held fuel 39 cs = some x) : ∃ (A : Option Addr) (n c : Nat) (l : List Cy), cs = [.slice A n c] ∧ l.length = n ∧ (n ≤ c ∧ c ≤ maxLen) ∧ CylsIn w A l := by
  rcases Deep.open_slice Try.underlying39 h with ⟨e, _⟩ | ⟨x, l, c, m, n, D, Pl, e, _, hl, hm, hmm, _, hx⟩
  · exact ⟨none, 0, 0, [], e, rfl, ⟨Nat.le_refl _, Nat.zero_le _⟩, fun h => by simp at h⟩
  · refine ⟨some x, l, c, ?_⟩
    rw [cells24] at hx
    have hlm : l ≤ m := by rw [hmm]; split <;> omega
    have hg : ∀ i, i < l → ∃ z : Cy × Option Addr × Nat × Option Addr × Nat, CyIn w z.1 z.2.1 z.2.2.1 z.2.2.2.1 z.2.2.2.2 ∧ ∀ j, j < 7 → w.cell? ((x.add (i * 7)).add j) = (cy7 z.1 z.2.1 z.2.2.1 z.2.2.2.1 z.2.2.2.2)[j]? := fun i hi => by
      obtain ⟨cs, h1, h2⟩ := hx i (by omega)
      obtain ⟨y, A, c, A2, d, rfl, hy⟩ := cells_cyl h2
      exact ⟨(y, A, c, A2, d), hy, (World.cells?_some h1).2.2⟩
    obtain ⟨f, hf⟩ : ∃ f : Nat → Cy × Option Addr × Nat × Option Addr × Nat, ∀ i, i < l → CyIn w (f i).1 (f i).2.1 (f i).2.2.1 (f i).2.2.2.1 (f i).2.2.2.2 ∧ ∀ j, j < 7 → w.cell? ((x.add (i * 7)).add j) = (cy7 (f i).1 (f i).2.1 (f i).2.2.1 (f i).2.2.2.1 (f i).2.2.2.2)[j]? := by
      classical
      exact ⟨fun i => if h : i < l then (hg i h).choose else (cy0, none, 0, none, 0), fun i hi => by simp only [dif_pos hi]; exact (hg i hi).choose_spec⟩
    have hit : ∀ i, i < l → cyN ((List.range l).map fun i => (f i).1) i = (f i).1 := fun i hi => by
      rw [cyN_lt (by simpa using hi)]; simp
    refine ⟨(List.range l).map fun i => (f i).1, e, by simp, ⟨hl, hm⟩, fun hn => ?_⟩
    have hn0 : 0 < l := by simpa using hn
    obtain ⟨b, off, spot⟩ := x
    have h0 := (hf 0 hn0).2 0 (by omega)
    have hspot : spot = none := by
      have : w.cell? ⟨b, off, spot⟩ = some (.int .i64 (f 0).1.ix) := by simpa [Addr.add, cy7] using h0
      exact World.cell?_spot this
    subst hspot
    refine ⟨b, off, fun i => (f i).2.1, fun i => (f i).2.2.1, fun i => (f i).2.2.2.1, fun i => (f i).2.2.2.2, rfl, lt_of_cell (v := .int .i64 (f 0).1.ix) (by simpa [Addr.add, cy7] using h0), fun i hi => ?_⟩
    have hi : i < l := by simpa using hi
    obtain ⟨⟨hc1, hc2, hu, hv⟩, hc⟩ := hf i hi
    rw [hit i hi]
    have hcj : ∀ j, j < 7 → w.cell? ⟨b, off + i * 7 + j, none⟩ = (cy7 (f i).1 (f i).2.1 (f i).2.2.1 (f i).2.2.2.1 (f i).2.2.2.2)[j]? := fun j hj => by
      have := hc j hj
      rwa [Addr.add_lit, Addr.add_lit] at this
    exact ⟨⟨hcj 0 (by omega), hcj 1 (by omega), hcj 2 (by omega), hcj 3 (by omega), hcj 4 (by omega), hcj 5 (by omega), hcj 6 (by omega), hu, hv⟩, hc1, hc2⟩
theorem open_cyls {a : Option Addr} {len cap : Nat} {d : DataW H} {pl : List MemPlace} (h : DataW.Trod enc Try.prog w base spare held 39 (.slice a len cap) d pl) : ∃ l : List Cy, l.length = len ∧ (len ≤ cap ∧ cap ≤ maxLen) ∧ CylsIn w a l := by
  obtain ⟨fuel, hf⟩ := h
  obtain ⟨A, n, c, l, e, hl⟩ := open_cyls' hf
  simp [Value.cells] at e
  obtain ⟨rfl, rfl, rfl⟩ := e
  exact ⟨l, hl⟩
end
end Go.Proofs.Ytpcindemkkdbbaa
