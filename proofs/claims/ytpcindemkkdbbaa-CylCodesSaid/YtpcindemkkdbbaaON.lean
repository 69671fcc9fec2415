/- Bytes, a group, two numbers that came in, opened. -/
import Derived.Test.YtpcindemkkdbbaaOQ
import Derived.Test.YtpcindemkkdbbaaMA
set_option linter.unusedVariables false
set_option linter.unusedSimpArgs false
namespace Go.Proofs.Ytpcindemkkdbbaa
open Go.ChangeShapes Go.WideShapes Go.ChangeAt Go.RowKit
/-- bytes that came in -/
def BtsIn (w : World) (A : Option Addr) (n c : Nat) (l : List Int) : Prop := l.length = n ∧ (n ≤ c ∧ c ≤ maxLen) ∧ Bts w w.heap.size A l
section
variable {H : Type} {enc : TypeId × Value → H} {w : World} {base : Nat} {spare : Nat → Bool} {held : Bool}
theorem open_bytes {a : Option Addr} {len cap : Nat} {d : DataW H} {pl : List MemPlace} (h : DataW.Trod enc Try.prog w base spare held 25 (.slice a len cap) d pl) : ∃ l, BtsIn w a len cap l := by
  obtain ⟨fuel, hf⟩ := h
  rcases open_ints Try.underlying25 Try.underlying5 (by kernel_rfl) hf with ⟨hcs, _⟩ | ⟨x, l, c, zs, hcs, _, hl, hm, hz, _, hcell, hwz⟩
  · simp [Value.cells] at hcs
    obtain ⟨rfl, rfl, rfl⟩ := hcs
    exact ⟨[], rfl, ⟨Nat.le_refl _, Nat.zero_le _⟩, (fun x hx => by cases hx), fun h => by simp at h⟩
  · simp [Value.cells] at hcs
    obtain ⟨rfl, rfl, rfl⟩ := hcs
    have hzl : len ≤ zs.length := by rw [hz]; split <;> omega
    have hpl : (zs.take len).length = len := by rw [List.length_take]; omega
    refine ⟨zs.take len, hpl, ⟨hl, hm⟩, fun y hy => bounds_u8 (hwz y (List.mem_of_mem_take hy)), fun hn => ?_⟩
    rw [hpl] at hn
    obtain ⟨b, off, spot⟩ := x
    have hc0 := hcell 0 (by omega)
    have hspot : spot = none := by simpa [Addr.add] using World.cell?_spot hc0
    subst hspot
    refine ⟨b, off, rfl, lt_of_cell (by simpa [Addr.add] using hc0), fun j hj => ?_⟩
    rw [hpl] at hj
    have hcj := hcell j (by omega)
    rw [Addr.add_lit] at hcj
    rw [hcj, nth_take hj (by omega), nth_lt (by omega), List.getD_eq_getElem?_getD, List.getElem?_eq_getElem (by omega)]
    rfl
theorem open_cyl {v : Value} {d : DataW H} {p : List MemPlace} (hv : ∃ cs, v = .agg cs) (h : DataW.Trod enc Try.prog w base spare held 24 v d p) : ∃ (z : Cy) (A : Option Addr) (c : Nat) (B : Option Addr) (e : Nat), v = z.v A c B e ∧ CyIn w z A c B e := by
  obtain ⟨cs, rfl⟩ := hv
  obtain ⟨fuel, hf⟩ := h
  obtain ⟨y, A, c, B, e, hcs, hin⟩ := cells_cyl hf
  refine ⟨y, A, c, B, e, ?_, hin⟩
  simp only [Value.cells] at hcs
  show Value.agg cs = _
  rw [← Array.toArray_toList (xs := cs), hcs]
  rfl
theorem open_twoi {r : Reach} {b0 : Nat} {t : TypeId} {v : Value} {d : DataW H} {p : List MemPlace} {held : Nat → Bool} {k : Bool} (ht : Try.prog.underlying t = some (.array 2 3)) (hC : Try.prog.cellsOf t = 2)
    (hv : Value.okWide Try.prog w r b0 t v) (h : DataW.Trod enc Try.prog w base held k t v d p) :
    ∃ x y : Int, v = .agg #[.int .i64 x, .int .i64 y] ∧ (-9223372036854775808 ≤ x ∧ x ≤ 9223372036854775807) ∧ (-9223372036854775808 ≤ y ∧ y ≤ 9223372036854775807) := by
  obtain ⟨cs, rfl, hsz⟩ := okWide_arr ht hv
  rw [hC] at hsz
  obtain ⟨fuel, hf⟩ := h
  obtain ⟨xs, m, _, _, hlen, hxl, hi⟩ := DataW.trod_array ht hf
  rw [cells3] at hi
  obtain ⟨c0, c1, rfl⟩ : ∃ c0 c1, cs = #[c0, c1] := by
    match cs, hsz with
    | ⟨[c0, c1]⟩, _ => exact ⟨c0, c1, rfl⟩
  have i0 := hi 0 (by decide)
  have i1 := hi 1 (by decide)
  match xs, hxl with
  | [y0, y1], _ =>
    simp [Value.cells] at i0 i1
    obtain ⟨x, e0, _, wx⟩ := DataW.trod_int Try.underlying3 i0
    obtain ⟨y, e1, _, wy⟩ := DataW.trod_int Try.underlying3 i1
    simp at e0 e1
    subst e0 e1
    exact ⟨x, y, rfl, bounds_i64 wx, bounds_i64 wy⟩
theorem open_twou {r : Reach} {b0 : Nat} {t : TypeId} {v : Value} {d : DataW H} {p : List MemPlace} {held : Nat → Bool} {k : Bool} (ht : Try.prog.underlying t = some (.array 2 5)) (hC : Try.prog.cellsOf t = 2)
    (hv : Value.okWide Try.prog w r b0 t v) (h : DataW.Trod enc Try.prog w base held k t v d p) :
    ∃ x y : Int, v = .agg #[.int .u8 x, .int .u8 y] ∧ (0 ≤ x ∧ x ≤ 255) ∧ (0 ≤ y ∧ y ≤ 255) := by
  obtain ⟨cs, rfl, hsz⟩ := okWide_arr ht hv
  rw [hC] at hsz
  obtain ⟨fuel, hf⟩ := h
  obtain ⟨xs, m, _, _, hlen, hxl, hi⟩ := DataW.trod_array ht hf
  have h5 : Try.prog.cellsOf 5 = 1 := by kernel_rfl
  rw [h5] at hi
  obtain ⟨c0, c1, rfl⟩ : ∃ c0 c1, cs = #[c0, c1] := by
    match cs, hsz with
    | ⟨[c0, c1]⟩, _ => exact ⟨c0, c1, rfl⟩
  have i0 := hi 0 (by decide)
  have i1 := hi 1 (by decide)
  match xs, hxl with
  | [y0, y1], _ =>
    simp [Value.cells] at i0 i1
    obtain ⟨x, e0, _, wx⟩ := DataW.trod_int Try.underlying5 i0
    obtain ⟨y, e1, _, wy⟩ := DataW.trod_int Try.underlying5 i1
    simp at e0 e1
    subst e0 e1
    exact ⟨x, y, rfl, bounds_u8 wx, bounds_u8 wy⟩
end
/-- where the next one is looked for is stored anew -/
theorem grp_ro {w : World} {B g j : Nat} {l : List Cy} {R : Nat → Option Addr} {C : Nat → Nat} (h : Grp w B g l R C) (hj : j < l.length) (r : Int) :
    Cyls (w.setCell ⟨g, j * 7 + 4, none⟩ (.int .i64 r)) (w.setCell ⟨g, j * 7 + 4, none⟩ (.int .i64 r)).heap.size (some ⟨g, 0, none⟩) (l.set j { cyN l j with ro := r }) := by
  have p := piece_set h.blk (length_cellsC l R C) hj (show 4 < 7 by omega) (.int .i64 r)
  have hk : Kept w (w.setCell ⟨g, j * 7 + 4, none⟩ (.int .i64 r)) (fun b => b = g) := (Kept.refl w _).set (.inl rfl)
  have hrow : ∀ t, rowC (l.set j { cyN l j with ro := r }) t = rowC l t := fun t => by
    rw [rowC_set hj]
    by_cases e : t / 2 = j
    · rw [if_pos e]; unfold rowC; rw [e]
    · rw [if_neg e]
  have hG : Grp (w.setCell ⟨g, j * 7 + 4, none⟩ (.int .i64 r)) B g (l.set j { cyN l j with ro := r }) R C := by
    refine ⟨?_, h.low, ⟨fun t ht => ?_, fun s t hs ht => ?_⟩⟩
    · rw [p.1, List.length_set]
      congr 3
      refine flat7_congr fun i hi => ?_
      by_cases e : i = j
      · subst e; rw [if_pos rfl]; simp [cellsC, cy7, cyN_set hj]
      · rw [if_neg e]; simp [cellsC, cyN_set hj, e]
    · rw [List.length_set] at ht
      rw [hrow]
      exact (h.rows.row t ht).keep hk (fun b hb q => (h.rows.row t ht).typed h.blk (by decide) (by rw [hb]; exact congrArg some q))
    · rw [List.length_set] at hs ht
      exact h.rows.apart s t hs ht
  exact hG.cyls
end Go.Proofs.Ytpcindemkkdbbaa
