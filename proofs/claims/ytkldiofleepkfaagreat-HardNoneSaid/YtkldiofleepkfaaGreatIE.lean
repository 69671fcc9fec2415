/- What came in: items, numbers, bytes, deeds (of an engine that writes together). -/
import Derived.Test.YtkldiofleepkfaaGreatID
import Derived.ChangeShapes
import Derived.OpenShut
import Derived.Deep.Slices
import Derived.Deep.Strs
import Derived.ProofKit
set_option linter.unusedVariables false
set_option linter.unusedSimpArgs false
namespace Go.Proofs.YtkldiofleepkfaaGreat.Hd
open Go.RowKit Go.ChangeShapes Go.WideShapes Go.ChangeAt

theorem bounds_i64 {n : Int} (h : (Lit.int .i64 n).wf = true) : -9223372036854775808 ≤ n ∧ n ≤ 9223372036854775807 := by
  simp [Lit.wf, IntKind.min, IntKind.max, IntKind.signed, IntKind.bits] at h
  omega
theorem bounds_u8 {n : Int} (h : (Lit.int .u8 n).wf = true) : 0 ≤ n ∧ n ≤ 255 := by
  simp [Lit.wf, IntKind.min, IntKind.max, IntKind.signed, IntKind.bits] at h
  omega
theorem lt_of_cell {w : World} {b o : Nat} {v : Value} (h : w.cell? ⟨b, o, none⟩ = some v) : b < w.heap.size := by
  rcases Nat.lt_or_ge b w.heap.size with hb | hb
  · exact hb
  · exact absurd h (by simp [World.cell?, Array.getElem?_eq_none hb])
theorem cellsDeed : Tryz.prog.cellsOf 74 = 4 := by kernel_rfl
theorem cellsItem : Tryz.prog.cellsOf 45 = 4 := by kernel_rfl
theorem cellsPatch : Tryz.prog.cellsOf 43 = 3 := by kernel_rfl
theorem cells3 : Tryz.prog.cellsOf 3 = 1 := by kernel_rfl
theorem cells4 : Tryz.prog.cellsOf 4 = 1 := by kernel_rfl
theorem cells5 : Tryz.prog.cellsOf 5 = 1 := by kernel_rfl
theorem cells9 : Tryz.prog.cellsOf 9 = 1 := by kernel_rfl
theorem cellsInts : Tryz.prog.cellsOf 23 = 1 := by kernel_rfl
theorem cellsItems : Tryz.prog.cellsOf 31 = 1 := by kernel_rfl
def no : Nat → Prop := fun _ => False
/-- numbers that lie where they came in are there later, too, outside what was made since -/
theorem IntsF.later {w W : World} {F : Nat → Prop} {A : Option Addr} {zs : List Int} (h : IntsF w no A zs) (hB : Below w.heap.size w W) (hF : ∀ b, F b → w.heap.size ≤ b) : IntsF W F A zs := fun hn => by
  obtain ⟨b, off, e, hb, _, hc⟩ := h hn
  exact ⟨b, off, e, Nat.lt_of_lt_of_le hb hB.size, fun q => by have := hF b q; omega, fun j hj => (hB.cell (p := ⟨b, off + j, none⟩) hb).trans (hc j hj)⟩
theorem ItAt.later {w W : World} {F : Nat → Prop} {b o : Nat} {x : It} {A : Option Addr} {c : Nat} (h : ItAt w no b o x A c) (hb : b < w.heap.size) (hB : Below w.heap.size w W) (hF : ∀ b, F b → w.heap.size ≤ b) : ItAt W F b o x A c := by
  have e : ∀ j, W.cell? ⟨b, j, none⟩ = w.cell? ⟨b, j, none⟩ := fun j => hB.cell (p := ⟨b, j, none⟩) hb
  exact ⟨(e _).trans h.c0, (e _).trans h.c1, (e _).trans h.c2, (e _).trans h.c3, h.row.later hB hF⟩
theorem ItemsF.later {w W : World} {F : Nat → Prop} {A : Option Addr} {l : List It} (h : ItemsF w no A l) (hB : Below w.heap.size w W) (hF : ∀ b, F b → w.heap.size ≤ b) : ItemsF W F A l := fun hn => by
  obtain ⟨b, off, Af, Cf, e, hb, _, hc⟩ := h hn
  exact ⟨b, off, Af, Cf, e, Nat.lt_of_lt_of_le hb hB.size, fun q => by have := hF b q; omega, fun j hj => (hc j hj).later hb hB hF⟩
/-- an item that came in: its numbers are such as may be -/
def It.wf (x : It) : Prop := x.p.ok ∧ x.d.length ≤ maxLen ∧ ∀ y ∈ x.d, WfI y
section
variable {H' : Type} {enc : TypeId × Value → H'} {w : World} {base : Nat} {spare : Nat → Bool} {held : Bool}
/-- numbers that came in -/
theorem open_nums {fuel : Nat} {cs : List Value} {x : DataW H' × List MemPlace} (h : DataW.trod enc Tryz.prog w base spare held fuel 23 cs = some x) :
    ∃ P pick pc, cs = [.slice P (pick : List Int).length pc] ∧ pick.length ≤ pc ∧ pc ≤ maxLen ∧ (∀ y ∈ pick, WfI y) ∧ IntsF w no P pick := by
  rcases open_ints Tryz.underlying23 Tryz.underlying3 (by kernel_rfl) h with ⟨hcs, _⟩ | ⟨a, len, cap, zs, hcs, _, hl, hm, hz, _, hcell, hwz⟩
  · exact ⟨none, [], 0, hcs, Nat.le_refl _, Nat.zero_le _, (fun y hy => by cases hy), fun h => by simp at h⟩
  · have hzl : len ≤ zs.length := by rw [hz]; split <;> omega
    have hpl : (zs.take len).length = len := by rw [List.length_take]; omega
    refine ⟨some a, zs.take len, cap, by rw [hpl]; exact hcs, by omega, hm, fun y hy => bounds_i64 (hwz y (List.mem_of_mem_take hy)), fun hn => ?_⟩
    rw [hpl] at hn
    obtain ⟨b, off, spot⟩ := a
    have hc0 := hcell 0 (by omega)
    have hspot : spot = none := by simpa [Addr.add] using World.cell?_spot hc0
    subst hspot
    refine ⟨b, off, rfl, lt_of_cell (by simpa [Addr.add] using hc0), fun q => q, fun j hj => ?_⟩
    rw [hpl] at hj
    have hcj := hcell j (by omega)
    rw [add_plain'] at hcj
    rw [hcj, List.getElem_take, List.getD_eq_getElem?_getD, List.getElem?_eq_getElem (by omega)]
    rfl
set_option maxRecDepth 100000 in
theorem cells_patch {fuel : Nat} {cs : List Value} {x : DataW H' × List MemPlace} (h : DataW.trod enc Tryz.prog w base spare held fuel 43 cs = some x) : ∃ p : Pt, cs = p.cs ∧ p.ok := by
  obtain ⟨y0, y1, y2, n, _, hl, h0, h1, h2⟩ := Deep.trod_struct3 Tryz.underlying43 h
  rw [cellsPatch] at hl
  obtain ⟨c0, c1, c2, rfl⟩ : ∃ a b c, cs = [a, b, c] := by
    match cs, hl with
    | [a, b, c], _ => exact ⟨a, b, c, rfl⟩
  simp only [cells3, cells9] at h0 h1 h2
  obtain ⟨b, e0, _, wb⟩ := DataW.trod_int Tryz.underlying3 h0
  obtain ⟨o, e1, _, wo⟩ := DataW.trod_int Tryz.underlying3 h1
  obtain ⟨s, e2, _, ws⟩ := DataW.trod_string Tryz.underlying9 h2
  simp at e0 e1 e2
  subst e0 e1 e2
  exact ⟨⟨b, o, s⟩, rfl, bounds_i64 wb, bounds_i64 wo, ws⟩
set_option maxRecDepth 100000 in
theorem cells_item {fuel : Nat} {cs : List Value} {x : DataW H' × List MemPlace} (h : DataW.trod enc Tryz.prog w base spare held fuel 45 cs = some x) :
    ∃ (y : It) (A : Option Addr) (c : Nat), cs = y.p.cs ++ [.slice A y.d.length c] ∧ y.wf ∧ y.d.length ≤ c ∧ c ≤ maxLen ∧ IntsF w no A y.d := by
  obtain ⟨y0, y1, n, _, hl, h0, h1⟩ := trod_struct2 Tryz.underlying45 h
  rw [cellsItem] at hl
  obtain ⟨c0, c1, c2, c3, rfl⟩ : ∃ a b c d, cs = [a, b, c, d] := by
    match cs, hl with
    | [a, b, c, d], _ => exact ⟨a, b, c, d, rfl⟩
  simp only [cellsPatch, cellsInts] at h0 h1
  obtain ⟨p, e, hp⟩ := cells_patch h0
  obtain ⟨A, zs, c, e1, hc1, hc2, hw, hi⟩ := open_nums h1
  simp [Pt.cs] at e
  obtain ⟨rfl, rfl, rfl⟩ := e
  simp at e1
  subst e1
  exact ⟨⟨p, zs⟩, A, c, rfl, ⟨hp, by dsimp only; omega, hw⟩, hc1, hc2, hi⟩
/-- items that came in -/
def ItemsIn (w : World) (A : Option Addr) (n c : Nat) (l : List It) : Prop := l.length = n ∧ n ≤ c ∧ c ≤ maxLen ∧ (∀ x ∈ l, x.wf) ∧ ItemsF w no A l
theorem open_items' {fuel : Nat} {cs : List Value} {x : DataW H' × List MemPlace} (h : DataW.trod enc Tryz.prog w base spare held fuel 31 cs = some x) : ∃ A n c l, cs = [.slice A n c] ∧ ItemsIn w A n c l := by
  rcases Deep.open_slice Tryz.underlying31 h with ⟨e, _⟩ | ⟨x, l, c, m, n, D, Pl, e, _, hl, hm, hmm, _, hx⟩
  · exact ⟨none, 0, 0, [], e, rfl, Nat.le_refl _, Nat.zero_le _, (fun x hx => by cases hx), fun h => by simp at h⟩
  · refine ⟨some x, l, c, ?_⟩
    rw [cellsItem] at hx
    have hlm : l ≤ m := by rw [hmm]; split <;> omega
    have hg : ∀ i, i < l → ∃ z : It × Option Addr × Nat, z.1.wf ∧ IntsF w no z.2.1 z.1.d ∧ ∀ j, j < 4 → w.cell? ((x.add (i * 4)).add j) = (z.1.p.cs ++ [.slice z.2.1 z.1.d.length z.2.2])[j]? := fun i hi => by
      obtain ⟨cs, h1, h2⟩ := hx i (by omega)
      obtain ⟨y, A, c, rfl, hy, _, _, hi⟩ := cells_item h2
      exact ⟨(y, A, c), hy, hi, (World.cells?_some h1).2.2⟩
    obtain ⟨f, hf⟩ : ∃ f : Nat → It × Option Addr × Nat, ∀ i, i < l → (f i).1.wf ∧ IntsF w no (f i).2.1 (f i).1.d ∧ ∀ j, j < 4 → w.cell? ((x.add (i * 4)).add j) = ((f i).1.p.cs ++ [.slice (f i).2.1 (f i).1.d.length (f i).2.2])[j]? := by
      classical
      exact ⟨fun i => if h : i < l then (hg i h).choose else (⟨⟨0, 0, ByteArray.empty⟩, []⟩, none, 0), fun i hi => by simp only [dif_pos hi]; exact (hg i hi).choose_spec⟩
    have hit : ∀ i, i < l → itN ((List.range l).map fun i => (f i).1) i = (f i).1 := fun i hi => by
      rw [itN_lt (by simpa using hi)]; simp
    refine ⟨(List.range l).map fun i => (f i).1, e, by simp, hl, hm, fun y hy => ?_, fun hn => ?_⟩
    · obtain ⟨i, hi, rfl⟩ := List.mem_map.1 hy
      exact (hf i (List.mem_range.1 hi)).1
    · have hn0 : 0 < l := by simpa using hn
      obtain ⟨b, off, spot⟩ := x
      have h0 := (hf 0 hn0).2.2 0 (by omega)
      have hspot : spot = none := by
        have : w.cell? ⟨b, off, spot⟩ = some (.int .i64 (f 0).1.p.b) := by simpa [Addr.add, Pt.cs] using h0
        exact World.cell?_spot this
      subst hspot
      refine ⟨b, off, fun i => (f i).2.1, fun i => (f i).2.2, rfl, lt_of_cell (v := .int .i64 (f 0).1.p.b) (by simpa [Addr.add, Pt.cs] using h0), fun q => q, fun i hi => ?_⟩
      have hi : i < l := by simpa using hi
      obtain ⟨_, hr, hc⟩ := hf i hi
      rw [hit i hi]
      have hcj : ∀ j, j < 4 → w.cell? ⟨b, off + i * 4 + j, none⟩ = ((f i).1.p.cs ++ [.slice (f i).2.1 (f i).1.d.length (f i).2.2])[j]? := fun j hj => by
        have := hc j hj
        rwa [add_plain', add_plain'] at this
      refine ⟨?_, ?_, ?_, ?_, hr⟩
      · exact hcj 0 (by omega)
      · exact hcj 1 (by omega)
      · exact hcj 2 (by omega)
      · exact hcj 3 (by omega)
theorem open_items {a : Option Addr} {len cap : Nat} {d : DataW H'} {pl : List MemPlace} (h : DataW.Trod enc Tryz.prog w base spare held 31 (.slice a len cap) d pl) : ∃ l, ItemsIn w a len cap l := by
  obtain ⟨fuel, hf⟩ := h
  obtain ⟨A, n, c, l, e, hl⟩ := open_items' hf
  simp [Value.cells] at e
  obtain ⟨rfl, rfl, rfl⟩ := e
  exact ⟨l, hl⟩
/-- bytes that came in -/
def BytesIn (w : World) (A : Option Addr) (n c : Nat) (l : List Int) : Prop := l.length = n ∧ n ≤ c ∧ c ≤ maxLen ∧ AllB l ∧ (0 < l.length → ∃ b off, A = some ⟨b, off, none⟩ ∧ b < w.heap.size ∧ ∀ j (h : j < l.length), w.cell? ⟨b, off + j, none⟩ = some (.int .u8 l[j]))
theorem open_bytes {a : Option Addr} {len cap : Nat} {d : DataW H'} {pl : List MemPlace} (h : DataW.Trod enc Tryz.prog w base spare held 32 (.slice a len cap) d pl) : ∃ l, BytesIn w a len cap l := by
  obtain ⟨fuel, hf⟩ := h
  rcases open_ints Tryz.underlying32 Tryz.underlying5 (by kernel_rfl) hf with ⟨hcs, _⟩ | ⟨x, l, c, zs, hcs, _, hl, hm, hz, _, hcell, hwz⟩
  · simp [Value.cells] at hcs
    obtain ⟨rfl, rfl, rfl⟩ := hcs
    exact ⟨[], rfl, Nat.le_refl _, Nat.zero_le _, (fun x hx => by cases hx), fun h => by simp at h⟩
  · simp [Value.cells] at hcs
    obtain ⟨rfl, rfl, rfl⟩ := hcs
    have hzl : len ≤ zs.length := by rw [hz]; split <;> omega
    have hpl : (zs.take len).length = len := by rw [List.length_take]; omega
    refine ⟨zs.take len, hpl, hl, hm, fun y hy => bounds_u8 (hwz y (List.mem_of_mem_take hy)), fun hn => ?_⟩
    rw [hpl] at hn
    obtain ⟨b, off, spot⟩ := x
    have hc0 := hcell 0 (by omega)
    have hspot : spot = none := by simpa [Addr.add] using World.cell?_spot hc0
    subst hspot
    refine ⟨b, off, rfl, lt_of_cell (by simpa [Addr.add] using hc0), fun j hj => ?_⟩
    rw [hpl] at hj
    have hcj := hcell j (by omega)
    rw [add_plain'] at hcj
    rw [hcj, List.getElem_take, List.getD_eq_getElem?_getD, List.getElem?_eq_getElem (by omega)]
    rfl
/-- numbers that came in, as a row of their own -/
def NumsIn (w : World) (A : Option Addr) (n c : Nat) (l : List Int) : Prop := l.length = n ∧ n ≤ c ∧ c ≤ maxLen ∧ (∀ y ∈ l, WfI y) ∧ IntsF w no A l
theorem open_ints' {a : Option Addr} {len cap : Nat} {d : DataW H'} {pl : List MemPlace} (h : DataW.Trod enc Tryz.prog w base spare held 23 (.slice a len cap) d pl) : ∃ l, NumsIn w a len cap l := by
  obtain ⟨fuel, hf⟩ := h
  obtain ⟨P, pick, pc, e, h1, h2, h3, h4⟩ := open_nums hf
  simp [Value.cells] at e
  obtain ⟨rfl, rfl, rfl⟩ := e
  exact ⟨pick, rfl, h1, h2, h3, h4⟩
/-- a deed: its kind, its number, its items, whether bad -/
structure Dd where
  kind : Int
  i : Int
  A : Option Addr
  n : Nat
  c : Nat
  L : List It
  bad : Bool
def Dd.cs (x : Dd) : List Value := [.int .i64 x.kind, .int .i64 x.i, .slice x.A x.n x.c, .bool x.bad]
def Dd.v (x : Dd) : Value := .agg #[.int .i64 x.kind, .int .i64 x.i, .slice x.A x.n x.c, .bool x.bad]
def DdIn (w : World) (x : Dd) : Prop := WfI x.kind ∧ WfI x.i ∧ ItemsIn w x.A x.n x.c x.L
set_option maxRecDepth 100000 in
theorem cells_deed {fuel : Nat} {cs : List Value} {x : DataW H' × List MemPlace} (h : DataW.trod enc Tryz.prog w base spare held fuel 74 cs = some x) : ∃ d : Dd, cs = d.cs ∧ DdIn w d := by
  obtain ⟨xs, n, _, _, hl, hxl, hf⟩ := DataW.trod_struct Tryz.underlying74 h
  rw [cellsDeed] at hl
  have hx5 : xs.length = 4 := by simpa using hxl
  obtain ⟨c0, c1, c2, c3, rfl⟩ : ∃ a b c d, cs = [a, b, c, d] := by
    match cs, hl with
    | [a, b, c, d], _ => exact ⟨a, b, c, d, rfl⟩
  obtain ⟨y0, y1, y2, y3, rfl⟩ : ∃ a b c d, xs = [a, b, c, d] := by
    match xs, hx5 with
    | [a, b, c, d], _ => exact ⟨a, b, c, d, rfl⟩
  have h0 := hf 0 _ rfl
  have h1 := hf 1 _ rfl
  have h2 := hf 2 _ rfl
  have h3 := hf 3 _ rfl
  change DataW.trod enc Tryz.prog w base spare held n 3 (([c0, c1, c2, c3].drop 0).take (Tryz.prog.cellsOf 3)) = some y0 at h0
  rw [cells3] at h0
  change DataW.trod enc Tryz.prog w base spare held n 3 (([c0, c1, c2, c3].drop 1).take (Tryz.prog.cellsOf 3)) = some y1 at h1
  rw [cells3] at h1
  change DataW.trod enc Tryz.prog w base spare held n 31 (([c0, c1, c2, c3].drop 2).take (Tryz.prog.cellsOf 31)) = some y2 at h2
  rw [cellsItems] at h2
  change DataW.trod enc Tryz.prog w base spare held n 4 (([c0, c1, c2, c3].drop 3).take (Tryz.prog.cellsOf 4)) = some y3 at h3
  rw [cells4] at h3
  obtain ⟨k, e0, _, w0⟩ := DataW.trod_int Tryz.underlying3 h0
  obtain ⟨i, e1, _, w1⟩ := DataW.trod_int Tryz.underlying3 h1
  obtain ⟨A, m, c, L, e2, hL⟩ := open_items' h2
  obtain ⟨b, e3, _⟩ := DataW.trod_bool Tryz.underlying4 h3
  simp at e0 e1 e2 e3
  subst e0 e1 e2 e3
  exact ⟨⟨k, i, A, m, c, L, b⟩, rfl, bounds_i64 w0, bounds_i64 w1, hL⟩
theorem open_deed {v : Value} {d : DataW H'} {ps : List MemPlace} (hv : ∃ cs, v = .agg cs) (h : DataW.Trod enc Tryz.prog w base spare held 74 v d ps) : ∃ x : Dd, v = x.v ∧ DdIn w x := by
  obtain ⟨cs, rfl⟩ := hv
  obtain ⟨fuel, hf⟩ := h
  obtain ⟨p, e, hp⟩ := cells_deed hf
  refine ⟨p, ?_, hp⟩
  simp only [Value.cells] at e
  have : cs = p.cs.toArray := by rw [← e]
  rw [this]
  rfl
end
end Go.Proofs.YtkldiofleepkfaaGreat.Hd
