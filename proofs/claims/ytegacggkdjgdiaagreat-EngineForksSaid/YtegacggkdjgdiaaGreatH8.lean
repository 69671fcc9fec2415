/- Texts in one: QW QX QY. -/
import Derived.Test.YtegacggkdjgdiaaGreatQU
import Derived.ChangeShapes
import Derived.OpenShut
import Derived.Deep.Slices
import Derived.Deep.Strs
import Derived.Deep.MidRow
import Derived.ProofKit
import Derived.Test.YtegacggkdjgdiaaGreatH7
import Derived.Test.YtegacggkdjgdiaaGreatER5
import Derived.BigQuiet
/- What came in, with the capacities; few. -/
set_option linter.unusedVariables false
set_option linter.unusedSimpArgs false
namespace Go.Proofs.YtegacggkdjgdiaaGreat
open Go.RowKit Go.ChangeShapes Go.WideShapes Go.ChangeAt

/-- items that came in, with the capacities of their numbers -/
def CapF (w : World) (A : Option Addr) (l : List It) : Prop :=
  0 < l.length → ∃ (b off : Nat) (Af : Nat → Option Addr) (Cf : Nat → Nat), A = some ⟨b, off, none⟩ ∧ b < w.heap.size ∧ ∀ j, j < l.length → ItAt w no b (off + j * 4) (itN l j) (Af j) (Cf j) ∧ (itN l j).d.length ≤ Cf j ∧ Cf j ≤ maxLen
def ItemsC (w : World) (A : Option Addr) (n c : Nat) (l : List It) : Prop := l.length = n ∧ n ≤ c ∧ c ≤ maxLen ∧ (∀ x ∈ l, x.wf) ∧ CapF w A l
def DdC (w : World) (x : Dd) : Prop := I64 x.kind ∧ I64 x.i ∧ ItemsC w x.A x.n x.c x.L
section
variable {H' : Type} {enc : TypeId × Value → H'} {w : World} {base : Nat} {spare : Nat → Bool} {held : Bool}
theorem open_itemsC' {fuel : Nat} {cs : List Value} {x : DataW H' × List MemPlace} (h : DataW.trod enc Tryz.prog w base spare held fuel 44 cs = some x) : ∃ A n c l, cs = [.slice A n c] ∧ ItemsC w A n c l := by
  rcases Deep.open_slice Tryz.underlying44 h with ⟨e, _⟩ | ⟨x, l, c, m, n, D, Pl, e, _, hl, hm, hmm, _, hx⟩
  · exact ⟨none, 0, 0, [], e, rfl, Nat.le_refl _, Nat.zero_le _, (fun x hx => by cases hx), fun h => by simp at h⟩
  · refine ⟨some x, l, c, ?_⟩
    rw [cellsItem] at hx
    have hlm : l ≤ m := by rw [hmm]; split <;> omega
    have hg : ∀ i, i < l → ∃ z : It × Option Addr × Nat, z.1.wf ∧ (IntsF w no z.2.1 z.1.d ∧ z.1.d.length ≤ z.2.2 ∧ z.2.2 ≤ maxLen) ∧ ∀ j, j < 4 → w.cell? ((x.add (i * 4)).add j) = (z.1.p.cs ++ [.slice z.2.1 z.1.d.length z.2.2])[j]? := fun i hi => by
      obtain ⟨cs, h1, h2⟩ := hx i (by omega)
      obtain ⟨y, A, c, rfl, hy, hc1, hc2, hi⟩ := cells_item h2
      exact ⟨(y, A, c), hy, ⟨hi, hc1, hc2⟩, (World.cells?_some h1).2.2⟩
    obtain ⟨f, hf⟩ : ∃ f : Nat → It × Option Addr × Nat, ∀ i, i < l → (f i).1.wf ∧ (IntsF w no (f i).2.1 (f i).1.d ∧ (f i).1.d.length ≤ (f i).2.2 ∧ (f i).2.2 ≤ maxLen) ∧ ∀ j, j < 4 → w.cell? ((x.add (i * 4)).add j) = ((f i).1.p.cs ++ [.slice (f i).2.1 (f i).1.d.length (f i).2.2])[j]? := by
      classical
      exact ⟨fun i => if h : i < l then (hg i h).choose else (⟨⟨0, 0, ByteArray.empty⟩, []⟩, none, 0), fun i hi => by simp only [dif_pos hi]; exact (hg i hi).choose_spec⟩
    have hit : ∀ i, i < l → itN ((List.range l).map fun i => (f i).1) i = (f i).1 := fun i hi => by
      rw [itN_lt (by simpa using hi)]; simp
    refine ⟨(List.range l).map fun i => (f i).1, e, by simp, hl, hm, fun y hy => ?_, fun hn => ?_⟩
    · obtain ⟨i, hi, rfl⟩ := List.mem_map.1 hy
      exact (hf i (List.mem_range.1 hi)).1
    · have hn0 : 0 < l := by simpa using hn
      obtain ⟨b, off, spot⟩ := x
      have h0 := (hf 0 hn0).2.2 0 (by omega)
      have hspot : spot = none := by
        have : w.cell? ⟨b, off, spot⟩ = some (.int .i64 (f 0).1.p.b) := by simpa [Addr.add, Pt.cs] using h0
        exact World.cell?_spot this
      subst hspot
      refine ⟨b, off, fun i => (f i).2.1, fun i => (f i).2.2, rfl, lt_of_cell (v := .int .i64 (f 0).1.p.b) (by simpa [Addr.add, Pt.cs] using h0), fun i hi => ?_⟩
      have hi : i < l := by simpa using hi
      obtain ⟨_, hr, hc⟩ := hf i hi
      rw [hit i hi]
      have hcj : ∀ j, j < 4 → w.cell? ⟨b, off + i * 4 + j, none⟩ = ((f i).1.p.cs ++ [.slice (f i).2.1 (f i).1.d.length (f i).2.2])[j]? := fun j hj => by
        have := hc j hj
        rwa [add_plain', add_plain'] at this
      refine ⟨⟨?_, ?_, ?_, ?_, hr.1⟩, hr.2⟩
      · exact hcj 0 (by omega)
      · exact hcj 1 (by omega)
      · exact hcj 2 (by omega)
      · exact hcj 3 (by omega)
set_option maxRecDepth 100000 in
theorem cells_deedC {fuel : Nat} {cs : List Value} {x : DataW H' × List MemPlace} (h : DataW.trod enc Tryz.prog w base spare held fuel 54 cs = some x) : ∃ d : Dd, cs = d.cs ∧ DdC w d := by
  obtain ⟨xs, n, _, _, hl, hxl, hf⟩ := DataW.trod_struct Tryz.underlying54 h
  rw [cellsDeed] at hl
  have hx5 : xs.length = 4 := by simpa using hxl
  obtain ⟨c0, c1, c2, c3, rfl⟩ : ∃ a b c d, cs = [a, b, c, d] := by
    match cs, hl with
    | [a, b, c, d], _ => exact ⟨a, b, c, d, rfl⟩
  obtain ⟨y0, y1, y2, y3, rfl⟩ : ∃ a b c d, xs = [a, b, c, d] := by
    match xs, hx5 with
    | [a, b, c, d], _ => exact ⟨a, b, c, d, rfl⟩
  have h0 := hf 0 _ rfl
  have h1 := hf 1 _ rfl
  have h2 := hf 2 _ rfl
  have h3 := hf 3 _ rfl
  change DataW.trod enc Tryz.prog w base spare held n 3 (([c0, c1, c2, c3].drop 0).take (Tryz.prog.cellsOf 3)) = some y0 at h0
  rw [cells3] at h0
  change DataW.trod enc Tryz.prog w base spare held n 3 (([c0, c1, c2, c3].drop 1).take (Tryz.prog.cellsOf 3)) = some y1 at h1
  rw [cells3] at h1
  change DataW.trod enc Tryz.prog w base spare held n 44 (([c0, c1, c2, c3].drop 2).take (Tryz.prog.cellsOf 44)) = some y2 at h2
  rw [cellsItems] at h2
  change DataW.trod enc Tryz.prog w base spare held n 4 (([c0, c1, c2, c3].drop 3).take (Tryz.prog.cellsOf 4)) = some y3 at h3
  rw [cells4] at h3
  obtain ⟨k, e0, _, w0⟩ := DataW.trod_int Tryz.underlying3 h0
  obtain ⟨i, e1, _, w1⟩ := DataW.trod_int Tryz.underlying3 h1
  obtain ⟨A, m, c, L, e2, hL⟩ := open_itemsC' h2
  obtain ⟨b, e3, _⟩ := DataW.trod_bool Tryz.underlying4 h3
  simp at e0 e1 e2 e3
  subst e0 e1 e2 e3
  exact ⟨⟨k, i, A, m, c, L, b⟩, rfl, bounds_i64 w0, bounds_i64 w1, hL⟩
theorem open_deedC {v : Value} {d : DataW H'} {ps : List MemPlace} (hv : ∃ cs, v = .agg cs) (h : DataW.Trod enc Tryz.prog w base spare held 54 v d ps) : ∃ x : Dd, v = x.v ∧ DdC w x := by
  obtain ⟨cs, rfl⟩ := hv
  obtain ⟨fuel, hf⟩ := h
  obtain ⟨p, e, hp⟩ := cells_deedC hf
  refine ⟨p, ?_, hp⟩
  simp only [Value.cells] at e
  have : cs = p.cs.toArray := by rw [← e]
  rw [this]
  rfl
end
/-- all of some items lie outside what was made since -/
theorem CapF.later {w W : World} {A : Option Addr} {l : List It} (h : CapF w A l) (hB : Below w.heap.size w W) : CapF W A l := fun hn => by
  obtain ⟨b, off, Af, Cf, e, hb, hc⟩ := h hn
  exact ⟨b, off, Af, Cf, e, Nat.lt_of_lt_of_le hb hB.size, fun j hj => ⟨(hc j hj).1.later hb hB (fun _ q => q.elim), (hc j hj).2⟩⟩
theorem ItemsC.later {w W : World} {A : Option Addr} {n c : Nat} {l : List It} (h : ItemsC w A n c l) (hB : Below w.heap.size w W) : ItemsC W A n c l := ⟨h.1, h.2.1, h.2.2.1, h.2.2.2.1, h.2.2.2.2.later hB⟩
/-- deeds in memory: their cells, one behind the other -/
def DeedsAt (w : World) (A : Option Addr) (L : List Dd) : Prop := L = [] ∨ ∃ b o, A = some ⟨b, o, none⟩ ∧ b < w.heap.size ∧ w.rangeAt b o (L.flatMap Dd.cs)
theorem Dd.cs_at {L : List Dd} {i : Nat} (hi : i < L.length) {j : Nat} (hj : j < 4) : (L.flatMap Dd.cs)[i * 4 + j]? = L[i].cs[j]? := by
  induction L generalizing i with
  | nil => simp at hi
  | cons y L ih =>
    rw [List.flatMap_cons]
    cases i with
    | zero => rw [Nat.zero_mul, Nat.zero_add, List.getElem?_append_left (by simpa [Dd.cs] using hj)]; rfl
    | succ i =>
      have hi' : i < L.length := by simpa using hi
      rw [List.getElem?_append_right (by simp [Dd.cs]; omega)]
      have e : (i + 1) * 4 + j - y.cs.length = i * 4 + j := by simp [Dd.cs]; omega
      rw [e, ih hi']
      rfl
theorem DeedsAt.get {w W : World} {A : Option Addr} {L : List Dd} (h : DeedsAt w A L) {i : Nat} (hi : i < L.length) (hB : Below w.heap.size w W) : ∃ b o, A = some ⟨b, o, none⟩ ∧ W.rangeAt b (o + i * 4) L[i].cs := by
  rcases h with rfl | ⟨b, o, hA, hb, hr⟩
  · simp at hi
  · refine ⟨b, o, hA, fun j u hj => ?_⟩
    have hj' : j < 4 := by
      rcases Nat.lt_or_ge j 4 with h1 | h1
      · exact h1
      · rw [List.getElem?_eq_none (by simpa [Dd.cs] using h1)] at hj; cases hj
    rw [World.cell?_of_block (a := ⟨b, o + i * 4 + j, none⟩) (hB.block b hb), Nat.add_assoc]
    exact hr _ u (by rw [Dd.cs_at hi hj']; exact hj)
section
variable {H' : Type} {enc : TypeId × Value → H'} {w : World} {base : Nat} {spare : Nat → Bool} {held : Bool}
theorem open_deeds {a : Option Addr} {len cap : Nat} {d : DataW H'} {pl : List MemPlace} (h : DataW.Trod enc Tryz.prog w base spare held 22 (.slice a len cap) d pl) : ∃ L : List Dd, L.length = len ∧ DeedsAt w a L ∧ ∀ x ∈ L, DdC w x := by
  obtain ⟨fuel, hf⟩ := h
  rcases Deep.open_slice Tryz.underlying22 hf with ⟨e, _⟩ | ⟨x, l, c, m, n, DD, Pl, e, _, hl, hm, hmm, _, hx⟩
  · simp [Value.cells] at e
    obtain ⟨rfl, rfl, rfl⟩ := e
    exact ⟨[], rfl, .inl rfl, (fun x hx => by cases hx)⟩
  · simp [Value.cells] at e
    obtain ⟨rfl, rfl, rfl⟩ := e
    rw [cellsDeed] at hx
    have hlm : len ≤ m := by rw [hmm]; split <;> omega
    have hg : ∀ i, i < len → ∃ p : Dd, DdC w p ∧ ∀ j, j < 4 → w.cell? ((x.add (i * 4)).add j) = p.cs[j]? := fun i hi => by
      obtain ⟨cs, h1, h2⟩ := hx i (by omega)
      obtain ⟨p, rfl, hp⟩ := cells_deedC h2
      exact ⟨p, hp, (World.cells?_some h1).2.2⟩
    obtain ⟨f, hf⟩ : ∃ f : Nat → Dd, ∀ i, i < len → DdC w (f i) ∧ ∀ j, j < 4 → w.cell? ((x.add (i * 4)).add j) = (f i).cs[j]? := by
      classical
      exact ⟨fun i => if h : i < len then (hg i h).choose else ⟨0, 0, none, 0, 0, [], false⟩, fun i hi => by simp only [dif_pos hi]; exact (hg i hi).choose_spec⟩
    refine ⟨(List.range len).map f, by simp, ?_, fun y hy => ?_⟩
    · by_cases hn : len = 0
      · subst hn; exact .inl rfl
      · obtain ⟨b, off, spot⟩ := x
        have h0 := (hf 0 (by omega)).2 0 (by omega)
        have hspot : spot = none := by
          have : w.cell? ⟨b, off, spot⟩ = some (.int .i64 (f 0).kind) := by simpa [Addr.add, Dd.cs] using h0
          exact World.cell?_spot this
        subst hspot
        refine .inr ⟨b, off, rfl, lt_of_cell (v := .int .i64 (f 0).kind) (by simpa [Addr.add, Dd.cs] using h0), fun k u hk => ?_⟩
        have hkl : k < ((List.range len).map f).length * 4 := by
          have h1 := (List.getElem?_eq_some_iff.1 hk).1
          have h2 : ∀ L : List Dd, (L.flatMap Dd.cs).length = L.length * 4 := fun L => by
            induction L with
            | nil => rfl
            | cons y L ih => rw [List.flatMap_cons, List.length_append, ih, List.length_cons]; simp [Dd.cs]; omega
          rw [h2] at h1; exact h1
        have hq : k / 4 < len := by simp at hkl; omega
        have hr : k % 4 < 4 := Nat.mod_lt _ (by decide)
        have e : k = k / 4 * 4 + k % 4 := by omega
        have h3 := Dd.cs_at (L := (List.range len).map f) (i := k / 4) (by simpa using hq) hr
        rw [← e, hk] at h3
        have h4 := (hf (k / 4) hq).2 (k % 4) hr
        rw [add_plain', add_plain', Nat.add_assoc, ← e] at h4
        rw [h4]
        simpa using h3.symm
    · obtain ⟨i, hi, rfl⟩ := List.mem_map.1 hy
      exact (hf i (List.mem_range.1 hi)).1
end
/-- at most twelve items, each behind at most twelve -/
def fewL (l : List It) : List It := (l.take 12).map fun x => ⟨x.p, x.d.take 12⟩
theorem length_fewL (l : List It) : (fewL l).length = min 12 l.length := by simp [fewL]
theorem itN_fewL {l : List It} {k : Nat} (h : k < (fewL l).length) : itN (fewL l) k = ⟨(itN l k).p, (itN l k).d.take 12⟩ := by
  rw [length_fewL] at h
  rw [itN_lt (by rw [length_fewL]; exact h), itN_lt (by omega)]
  simp [fewL]
theorem small_fewL {l : List It} (h : ∀ x ∈ l, x.wf) : SmallI (fewL l) := fun x hx => by
  obtain ⟨y, hy, rfl⟩ := List.mem_map.1 hx
  obtain ⟨h1, h2, h3⟩ := h y (List.mem_of_mem_take hy)
  exact ⟨h1, by dsimp only; rw [List.length_take]; omega, fun z hz => h3 z (List.mem_of_mem_take hz)⟩
/-- the cells of such as were made, one behind the other -/
def fcell (l : List It) (Af : Nat → Option Addr) (Cf : Nat → Nat) (j : Nat) : List Value := [.int .i64 (itN l j).p.b, .int .i64 (itN l j).p.o, .string (itN l j).p.s, .slice (Af j) (min 12 (itN l j).d.length) (Cf j)]
def fitV (l : List It) (Af : Nat → Option Addr) (Cf : Nat → Nat) (k : Nat) : List Value := (List.range k).flatMap (fcell l Af Cf)
theorem fitV_succ (l : List It) (Af : Nat → Option Addr) (Cf : Nat → Nat) (k : Nat) : fitV l Af Cf (k + 1) = fitV l Af Cf k ++ fcell l Af Cf k := by
  unfold fitV; rw [List.range_succ, List.flatMap_append]; simp
theorem length_fitV (l : List It) (Af : Nat → Option Addr) (Cf : Nat → Nat) (k : Nat) : (fitV l Af Cf k).length = k * 4 := by
  induction k with
  | zero => rfl
  | succ k ih => rw [fitV_succ, List.length_append, ih]; simp [fcell]; omega
theorem fitV_at (l : List It) (Af : Nat → Option Addr) (Cf : Nat → Nat) {k j i : Nat} (hj : j < k) (hi : i < 4) : (fitV l Af Cf k)[j * 4 + i]? = (fcell l Af Cf j)[i]? := by
  induction k with
  | zero => omega
  | succ k ih =>
    rw [fitV_succ]
    by_cases e : j < k
    · rw [List.getElem?_append_left (by rw [length_fitV]; omega), ih e]
    · obtain rfl : j = k := by omega
      rw [List.getElem?_append_right (by rw [length_fitV]; omega), length_fitV]
      congr 1; omega
/-- what few leaves: items in a row of its own; F: blocks outside which those lay that came in -/
def FewSays (w : World) (F : Nat → Prop) (l : List It) (e : Ending) (w' : World) : Prop := ∃ A' c', e = .returned (.slice A' (fewL l).length c') ∧ ItemsF w' F A' (fewL l) ∧ Below w.heap.size w w'
theorem own_fits {w W : World} {F : Nat → Prop} {v : Value} {n : Nat} {l : List It} {Af : Nat → Option Addr} {Cf : Nat → Nat} (hn : n = (fewL l).length) (h : W.ownsRow w.heap.size 64 4 v n (fitV l Af Cf n)) (hF : ∀ b, F b → b < w.heap.size) (hr : ∀ j, j < n → IntsF W F (Af j) (itN l j).d) : ∃ A c, v = .slice A n c ∧ ItemsF W F A (fewL l) := by
  rcases h.2 with ⟨rfl, e⟩ | ⟨g, cap, cur, rfl, hbg, hg, hnc, hcm, _⟩
  · refine ⟨none, 0, by rw [e], fun h0 => by omega⟩
  · refine ⟨_, cap, rfl, fun h0 => ⟨g, 0, Af, Cf, rfl, (h.lt g rfl).2, fun q => by have := hF g q; omega, fun j hj => ?_⟩⟩
    rw [← hn] at hj
    rw [itN_fewL (by rw [← hn]; exact hj)]
    have hc : ∀ i, i < 4 → W.cell? ⟨g, j * 4 + i, none⟩ = (fcell l Af Cf j)[i]? := fun i hi => by
      rw [h.cellAt _ (by omega), fitV_at _ _ _ hj hi]
    have h0 := hc 0 (by omega)
    have h1 := hc 1 (by omega)
    have h2 := hc 2 (by omega)
    have h3 := hc 3 (by omega)
    refine ⟨?_, ?_, ?_, ?_, fun q => ?_⟩
    · rw [Nat.zero_add]; exact h0
    · rw [Nat.zero_add]; exact h1
    · rw [Nat.zero_add]; exact h2
    · rw [Nat.zero_add, List.length_take]; exact h3
    · dsimp only at q ⊢
      have q0 := q
      rw [List.length_take] at q0
      obtain ⟨b, off, e1, e2, e3, e4⟩ := hr j hj (by omega)
      refine ⟨b, off, e1, e2, e3, fun i hi => ?_⟩
      rw [List.length_take] at hi
      rw [List.getElem_take]
      exact e4 i (by omega)
theorem infoIt : (Tryz.prog.info? 64).map (fun i => (i.zero, i.size, i.bytes)) = some (some (.agg #[.int .i64 0, .int .i64 0, .string ⟨#[]⟩, .slice none 0 0]), 4, 56) := by kernel_rfl
theorem cells_newF (W : World) (cs : Array Value) (t : TypeId) (j : Nat) (u : Value) (h : cs.toList[j]? = some u) : (W.alloc (.cells cs t)).cell? ((⟨W.heap.size, 0, none⟩ : Addr).add j) = some u := World.news_of_block (heap_alloc_new W _) j u h
set_option maxRecDepth 100000 in
set_option maxHeartbeats 4000000 in
theorem few_any (a : Option Addr) (len cap : Nat) (l : List It) (w : World) (F : Nat → Prop) (hlen : l.length = len) (hcap : len ≤ cap) (hmax : cap ≤ maxLen) (hF : ∀ b, F b → b < w.heap.size)
    (hat : 0 < len → ∃ (b off : Nat) (Af : Nat → Option Addr) (Cf : Nat → Nat), a = some ⟨b, off, none⟩ ∧ b < w.heap.size ∧ ¬ F b ∧ ∀ j, j < len → ItAt w F b (off + j * 4) (itN l j) (Af j) (Cf j) ∧ (itN l j).d.length ≤ Cf j ∧ Cf j ≤ maxLen) :
    Calls Tryz.prog 18 #[.slice a len cap] w (FewSays w F l) := by
  obtain ⟨Af, Cf, hAt⟩ : ∃ (Af : Nat → Option Addr) (Cf : Nat → Nat), 0 < len → ∃ b off, a = some ⟨b, off, none⟩ ∧ b < w.heap.size ∧ ¬ F b ∧ ∀ j, j < len → ItAt w F b (off + j * 4) (itN l j) (Af j) (Cf j) ∧ (itN l j).d.length ≤ Cf j ∧ Cf j ≤ maxLen := by
    by_cases h0 : 0 < len
    · obtain ⟨b, off, Af, Cf, h⟩ := hat h0
      exact ⟨Af, Cf, fun _ => ⟨b, off, h⟩⟩
    · exact ⟨fun _ => none, fun _ => 0, fun h => by omega⟩
  have HAt := Lib.hid hAt
  have HF := Lib.hid hF
  have hn0 : (fewL l).length = min 12 len := by rw [length_fewL, hlen]
  obtain ⟨n, hn⟩ : ∃ n, n = (fewL l).length := ⟨_, rfl⟩
  rw [← hn] at hn0
  have Hn := Lib.hid hn
  have hnle : n ≤ 12 := by omega
  obtain ⟨i0, hi, hz0, hz1, hz2⟩ := info_parts infoIt
  unfold maxLen at hmax
  clear hat hAt hlen hn hF
  by_cases h24 : 12 < len
  · obtain rfl : n = 12 := by omega
    have h24i : (12 : Int) < (len : Int) := by omega
    clear hn0 h24
    go_enter Tryz.func18, Tryz.ntmps18
    go_wp2_with fail
    go_loopw [3, 4] (fun v i wr => ∃ k : Nat, k ≤ 12 ∧ i = .int .i64 k ∧ wr.ownsRow w.heap.size 64 4 v k (fitV l Af Cf k) ∧ Below w.heap.size w wr) (fun _ i _ => 12 - (intOf i).toNat)
    case atStart => exact ⟨0, Nat.zero_le _, rfl, World.ownsRow_nil _ _ _ _, Below.refl _ _⟩
    case round =>
      obtain ⟨k, hk, rfl, hown, hB⟩ := hrel
      rename World => wr
      have hsz := hB.size
      by_cases hlt : k < 12
      · have hlti : (k : Int) < ((12 : Nat) : Int) := by omega
        have hk0 : (0 : Int) ≤ (k : Int) := by omega
        obtain ⟨b, off, rfl, hb, hnF, hj⟩ := HAt.out (by omega)
        obtain ⟨hx, hrc, hrm⟩ := hj k (by omega)
        have hx' := hx.keep (w' := wr) (F' := F) (G := fun _ => False) hb hnF (Kept.fresh hB) (fun _ q => q.elim) (fun _ q => .inl q)
        obtain ⟨c0, c1, c2, c3, _⟩ := hx'
        have hbw : b < wr.heap.size := Nat.lt_of_lt_of_le hb hsz
        have Hsu : Hid (fitV l Af Cf (k + 1) = fitV l Af Cf k ++ [.int .i64 (itN l k).p.b, .int .i64 (itN l k).p.o, .string (itN l k).p.s, .slice (Af k) (min 12 (itN l k).d.length) (Cf k)]) := fitV_succ l Af Cf k
        obtain ⟨x, hxe⟩ : ∃ x, x = itN l k := ⟨_, rfl⟩
        rw [← hxe] at c0 c1 c2 c3 Hsu hrc
        unfold maxLen at hrm
        clear hxe hx hj
        obtain ⟨⟨pb, po, ps⟩, d⟩ := x
        simp only at c0 c1 c2 c3 Hsu hrc
        obtain ⟨m, hm⟩ : ∃ m, m = d.length := ⟨_, rfl⟩
        rw [← hm] at c3 Hsu hrc
        clear hm
        by_cases h24 : 12 < m
        · have h24i : (12 : Int) < (m : Int) := by omega
          have e : min 12 m = 12 := by omega
          rw [e] at Hsu
          clear e h24
          go_wp2_with (at_builtin; refine wpList_append_own _ rfl _ _ 44 rfl w.heap.size 64 i0 (.agg #[.int .i64 0, .int .i64 0, .string ByteArray.empty, .slice none 0 0]) 4 56 Tryz.underlying44 hi hz0 hz1 hz2 rfl (by decide) _ _ _ rfl ((hown.alloc _).alloc _) ⟨wr.heap.size + 1, 0, none⟩ 1 1 [.int .i64 pb, .int .i64 po, .string ps, .slice (Af k) 12 (Cf k)] rfl rfl (by have := cells_newF (wr.alloc (.cells #[.int .i64 pb, .int .i64 po, .string ps, .slice (Af k) 12 (Cf k)] 64)) #[.int .i64 pb, .int .i64 po, .string ps, .slice (Af k) 12 (Cf k)] 64; simpa using this) (by simp [Value.oneCell']) (by unfold maxLen; omega) (by omega) (by simp; omega) ?_; intro v' w5 hown' hgrow _; have hB5 : Below w.heap.size w w5 := hB.trans ((((Below.refl _ wr).alloc hsz _).alloc (by simp; omega) _).grown hgrow (by simp; omega) (fun j e => (hown.lt j e).1)); have Hown := Lib.hid hown'; have HB5 := Lib.hid hB5; clear hown' hB5 hgrow)
          go_roundw
          case rel => exact ⟨k + 1, by omega, by go_num, by rw [Hsu.out]; exact Hown.out, HB5.out⟩
          case measure => simp [intOf]; omega
        · have h24i : ¬ (12 : Int) < (m : Int) := by omega
          have e : min 12 m = m := by omega
          rw [e] at Hsu
          clear e h24
          go_wp2_with (at_builtin; refine wpList_append_own _ rfl _ _ 44 rfl w.heap.size 64 i0 (.agg #[.int .i64 0, .int .i64 0, .string ByteArray.empty, .slice none 0 0]) 4 56 Tryz.underlying44 hi hz0 hz1 hz2 rfl (by decide) _ _ _ rfl ((hown.alloc _).alloc _) ⟨wr.heap.size + 1, 0, none⟩ 1 1 [.int .i64 pb, .int .i64 po, .string ps, .slice (Af k) m (Cf k)] rfl rfl (by have := cells_newF (wr.alloc (.cells #[.int .i64 pb, .int .i64 po, .string ps, .slice (Af k) m (Cf k)] 64)) #[.int .i64 pb, .int .i64 po, .string ps, .slice (Af k) m (Cf k)] 64; simpa using this) (by simp [Value.oneCell']) (by unfold maxLen; omega) (by omega) (by simp; omega) ?_; intro v' w5 hown' hgrow _; have hB5 : Below w.heap.size w w5 := hB.trans ((((Below.refl _ wr).alloc hsz _).alloc (by simp; omega) _).grown hgrow (by simp; omega) (fun j e => (hown.lt j e).1)); have Hown := Lib.hid hown'; have HB5 := Lib.hid hB5; clear hown' hB5 hgrow)
          go_roundw
          case rel => exact ⟨k + 1, by omega, by go_num, by rw [Hsu.out]; exact Hown.out, HB5.out⟩
          case measure => simp [intOf]; omega
      · have hlti : ¬ (k : Int) < ((12 : Nat) : Int) := by omega
        obtain rfl : k = 12 := by omega
        obtain ⟨A', c', rfl, hI⟩ := own_fits (F := F) Hn.out hown HF.out (fun j hj => by
          obtain ⟨b, off, _, hb, _, h⟩ := HAt.out (by omega)
          exact ((h j (by omega)).1.row).keep (G := fun _ => False) (Kept.fresh hB) (fun _ q => q.elim) (fun _ q => .inl q))
        have HI := Lib.hid hI
        have HB := Lib.hid hB
        clear hown hI hB
        go_wp2_with fail
        go_ret
        exact ⟨A', c', by rw [← Hn.out]; rfl, HI.out, HB.out⟩
  · obtain rfl : n = len := by omega
    have h24i : ¬ (12 : Int) < (n : Int) := by omega
    clear hn0 h24
    go_enter Tryz.func18, Tryz.ntmps18
    go_wp2_with fail
    go_loopw [3, 4] (fun v i wr => ∃ k : Nat, k ≤ n ∧ i = .int .i64 k ∧ wr.ownsRow w.heap.size 64 4 v k (fitV l Af Cf k) ∧ Below w.heap.size w wr) (fun _ i _ => n - (intOf i).toNat)
    case atStart => exact ⟨0, Nat.zero_le _, rfl, World.ownsRow_nil _ _ _ _, Below.refl _ _⟩
    case round =>
      obtain ⟨k, hk, rfl, hown, hB⟩ := hrel
      rename World => wr
      have hsz := hB.size
      by_cases hlt : k < n
      · have hlti : (k : Int) < ((n : Nat) : Int) := by omega
        have hk0 : (0 : Int) ≤ (k : Int) := by omega
        obtain ⟨b, off, rfl, hb, hnF, hj⟩ := HAt.out (by omega)
        obtain ⟨hx, hrc, hrm⟩ := hj k (by omega)
        have hx' := hx.keep (w' := wr) (F' := F) (G := fun _ => False) hb hnF (Kept.fresh hB) (fun _ q => q.elim) (fun _ q => .inl q)
        obtain ⟨c0, c1, c2, c3, _⟩ := hx'
        have hbw : b < wr.heap.size := Nat.lt_of_lt_of_le hb hsz
        have Hsu : Hid (fitV l Af Cf (k + 1) = fitV l Af Cf k ++ [.int .i64 (itN l k).p.b, .int .i64 (itN l k).p.o, .string (itN l k).p.s, .slice (Af k) (min 12 (itN l k).d.length) (Cf k)]) := fitV_succ l Af Cf k
        obtain ⟨x, hxe⟩ : ∃ x, x = itN l k := ⟨_, rfl⟩
        rw [← hxe] at c0 c1 c2 c3 Hsu hrc
        unfold maxLen at hrm
        clear hxe hx hj
        obtain ⟨⟨pb, po, ps⟩, d⟩ := x
        simp only at c0 c1 c2 c3 Hsu hrc
        obtain ⟨m, hm⟩ : ∃ m, m = d.length := ⟨_, rfl⟩
        rw [← hm] at c3 Hsu hrc
        clear hm
        by_cases h24 : 12 < m
        · have h24i : (12 : Int) < (m : Int) := by omega
          have e : min 12 m = 12 := by omega
          rw [e] at Hsu
          clear e h24
          go_wp2_with (at_builtin; refine wpList_append_own _ rfl _ _ 44 rfl w.heap.size 64 i0 (.agg #[.int .i64 0, .int .i64 0, .string ByteArray.empty, .slice none 0 0]) 4 56 Tryz.underlying44 hi hz0 hz1 hz2 rfl (by decide) _ _ _ rfl ((hown.alloc _).alloc _) ⟨wr.heap.size + 1, 0, none⟩ 1 1 [.int .i64 pb, .int .i64 po, .string ps, .slice (Af k) 12 (Cf k)] rfl rfl (by have := cells_newF (wr.alloc (.cells #[.int .i64 pb, .int .i64 po, .string ps, .slice (Af k) 12 (Cf k)] 64)) #[.int .i64 pb, .int .i64 po, .string ps, .slice (Af k) 12 (Cf k)] 64; simpa using this) (by simp [Value.oneCell']) (by unfold maxLen; omega) (by omega) (by simp; omega) ?_; intro v' w5 hown' hgrow _; have hB5 : Below w.heap.size w w5 := hB.trans ((((Below.refl _ wr).alloc hsz _).alloc (by simp; omega) _).grown hgrow (by simp; omega) (fun j e => (hown.lt j e).1)); have Hown := Lib.hid hown'; have HB5 := Lib.hid hB5; clear hown' hB5 hgrow)
          go_roundw
          case rel => exact ⟨k + 1, by omega, by go_num, by rw [Hsu.out]; exact Hown.out, HB5.out⟩
          case measure => simp [intOf]; omega
        · have h24i : ¬ (12 : Int) < (m : Int) := by omega
          have e : min 12 m = m := by omega
          rw [e] at Hsu
          clear e h24
          go_wp2_with (at_builtin; refine wpList_append_own _ rfl _ _ 44 rfl w.heap.size 64 i0 (.agg #[.int .i64 0, .int .i64 0, .string ByteArray.empty, .slice none 0 0]) 4 56 Tryz.underlying44 hi hz0 hz1 hz2 rfl (by decide) _ _ _ rfl ((hown.alloc _).alloc _) ⟨wr.heap.size + 1, 0, none⟩ 1 1 [.int .i64 pb, .int .i64 po, .string ps, .slice (Af k) m (Cf k)] rfl rfl (by have := cells_newF (wr.alloc (.cells #[.int .i64 pb, .int .i64 po, .string ps, .slice (Af k) m (Cf k)] 64)) #[.int .i64 pb, .int .i64 po, .string ps, .slice (Af k) m (Cf k)] 64; simpa using this) (by simp [Value.oneCell']) (by unfold maxLen; omega) (by omega) (by simp; omega) ?_; intro v' w5 hown' hgrow _; have hB5 : Below w.heap.size w w5 := hB.trans ((((Below.refl _ wr).alloc hsz _).alloc (by simp; omega) _).grown hgrow (by simp; omega) (fun j e => (hown.lt j e).1)); have Hown := Lib.hid hown'; have HB5 := Lib.hid hB5; clear hown' hB5 hgrow)
          go_roundw
          case rel => exact ⟨k + 1, by omega, by go_num, by rw [Hsu.out]; exact Hown.out, HB5.out⟩
          case measure => simp [intOf]; omega
      · have hlti : ¬ (k : Int) < ((n : Nat) : Int) := by omega
        obtain rfl : k = n := by omega
        obtain ⟨A', c', rfl, hI⟩ := own_fits (F := F) Hn.out hown HF.out (fun j hj => by
          obtain ⟨b, off, _, hb, _, h⟩ := HAt.out (by omega)
          exact ((h j (by omega)).1.row).keep (G := fun _ => False) (Kept.fresh hB) (fun _ q => q.elim) (fun _ q => .inl q))
        have HI := Lib.hid hI
        have HB := Lib.hid hB
        clear hown hI hB
        go_wp2_with fail
        go_ret
        exact ⟨A', c', by rw [← Hn.out]; rfl, HI.out, HB.out⟩
end Go.Proofs.YtegacggkdjgdiaaGreat

/- Both engines side by side; what a deed on both leaves. -/
set_option linter.unusedVariables false
set_option linter.unusedSimpArgs false
namespace Go.Proofs.YtegacggkdjgdiaaGreat
open Go.RowKit

/-- items that came in, outside the blocks F -/
def CapG (w : World) (F : Nat → Prop) (A : Option Addr) (l : List It) : Prop :=
  0 < l.length → ∃ (b off : Nat) (Af : Nat → Option Addr) (Cf : Nat → Nat), A = some ⟨b, off, none⟩ ∧ b < w.heap.size ∧ ¬ F b ∧ ∀ j, j < l.length → ItAt w F b (off + j * 4) (itN l j) (Af j) (Cf j) ∧ (itN l j).d.length ≤ Cf j ∧ Cf j ≤ maxLen
theorem CapG.keep {w w' : World} {F F' G : Nat → Prop} {A : Option Addr} {l : List It} (h : CapG w F A l) (hk : Kept w w' G) (hG : ∀ b, G b → F b) (hF : ∀ b, F' b → F b ∨ w.heap.size ≤ b) : CapG w' F' A l := fun hn => by
  obtain ⟨b, off, Af, Cf, e, hb, hf, hc⟩ := h hn
  exact ⟨b, off, Af, Cf, e, Nat.lt_of_lt_of_le hb hk.size, fun q => (hF b q).elim hf (fun q => by omega), fun j hj => ⟨(hc j hj).1.keep hb hf hk hG hF, (hc j hj).2⟩⟩
theorem CapF.outside {w W : World} {F : Nat → Prop} {A : Option Addr} {l : List It} (h : CapF w A l) (hB : Below w.heap.size w W) (hF : ∀ b, F b → w.heap.size ≤ b) : CapG W F A l := fun hn => by
  obtain ⟨b, off, Af, Cf, e, hb, hc⟩ := h hn
  exact ⟨b, off, Af, Cf, e, Nat.lt_of_lt_of_le hb hB.size, fun q => by have := hF b q; omega, fun j hj => ⟨(hc j hj).1.later hb hB hF, (hc j hj).2⟩⟩
/-- a deed that came in, outside the blocks F -/
structure DdG (w : World) (F : Nat → Prop) (x : Dd) : Prop where
  k64 : I64 x.kind
  i64 : I64 x.i
  len : x.L.length = x.n
  nc : x.n ≤ x.c
  cm : x.c ≤ maxLen
  wf : ∀ y ∈ x.L, y.wf
  cap : CapG w F x.A x.L
theorem DdC.outside {w W : World} {F : Nat → Prop} {x : Dd} (h : DdC w x) (hB : Below w.heap.size w W) (hF : ∀ b, F b → w.heap.size ≤ b) : DdG W F x :=
  ⟨h.1, h.2.1, h.2.2.1, h.2.2.2.1, h.2.2.2.2.1, h.2.2.2.2.2.1, h.2.2.2.2.2.2.outside hB hF⟩
theorem few_g {w : World} {F : Nat → Prop} {x : Dd} (h : DdG w F x) (hF : ∀ b, F b → b < w.heap.size) : Calls Tryz.prog 18 #[.slice x.A x.n x.c] w (FewSays w F x.L) :=
  few_any x.A x.n x.c x.L w F h.len h.nc h.cm hF (fun hn => by have := h.cap (by rw [h.len]; exact hn); rw [h.len] at this; exact this)
theorem ItemsF.sub {w : World} {F F' : Nat → Prop} {A : Option Addr} {l : List It} (h : ItemsF w F A l) (hF : ∀ b, F' b → F b) : ItemsF w F' A l :=
  h.keep (Kept.refl w (fun _ => False)) (fun _ q => q.elim) (fun b q => .inl (hF b q))

/-- both engines: the same blocks, the same that waits -/
structure PairAt (w : World) (e r : Nat) (S : Nat → Bk) (l : List Wr) (lv : List Vr) (t : List Tr) (k : Int) (m cc : Nat) (F1 F2 : Nat → Prop) : Prop where
  eng : Eng w e 5 S cc k l F1
  ref : Qe w r 5 S cc k lv t F2
  sep : ∀ b, F1 b → ¬ F2 b
  tie : Tie l lv t
  ds : ∀ x ∈ lv, x.ds.length ≤ 2000
  ts : ∀ x ∈ t, x.set.length ≤ 100000
  tl : t.length ≤ m
  k0 : 0 ≤ k
  kb : k ≤ 20 * m
  cb : cc ≤ 1300 * m
  fine : Fine S l
def Pair (w : World) (e r m : Nat) (F : Nat → Prop) : Prop := ∃ S l lv t k cc F1 F2, PairAt w e r S l lv t k m cc F1 F2 ∧ F = fun b => F1 b ∨ F2 b
theorem Eng.rights {w : World} {ge n cc : Nat} {S : Nat → Bk} {k : Int} {l : List Wr} {F : Nat → Prop} (h : Eng w ge n S cc k l F) : RightL l ∧ (∀ x ∈ l, x.p.b < n) ∧ (∀ x ∈ l, 0 ≤ x.num ∧ x.num < k) ∧ l.length ≤ 200 ∧ Asc l := by
  obtain ⟨gd, A, c, Fd, h, rfl⟩ := h; exact ⟨h.right, h.blk, h.lo, h.few, h.asc⟩
theorem Tw.mem {l0 r : List Wr} {rv : List Vr} (h : Tw l0 r rv) {y : Vr} (hy : y ∈ rv) : ∃ x ∈ r, x.num = y.num ∧ x.p = y.p := by
  induction h with
  | nil => cases hy
  | @cons x z r rv hn hp hd h ih =>
    rcases List.mem_cons.1 hy with rfl | hy
    · exact ⟨x, List.mem_cons_self, hn, hp⟩
    · obtain ⟨a, ha, h1, h2⟩ := ih hy
      exact ⟨a, List.mem_cons_of_mem _ ha, h1, h2⟩
namespace PairAt
variable {w w' : World} {e r : Nat} {S : Nat → Bk} {l : List Wr} {lv : List Vr} {t : List Tr} {k : Int} {m cc : Nat} {F1 F2 : Nat → Prop}
theorem vr (h : PairAt w e r S l lv t k m cc F1 F2) : ∀ x ∈ lv, x.p.right = true := fun x hx => by
  obtain ⟨y, hy, _, e⟩ := h.tie.tw.mem hx
  rw [← e]; exact h.eng.rights.1 y hy
theorem vlen (h : PairAt w e r S l lv t k m cc F1 F2) : lv.length ≤ 200 := by rw [h.tie.tw.len]; exact h.eng.rights.2.2.2.1
theorem fresh (h : PairAt w e r S l lv t k m cc F1 F2) (hB : Below w.heap.size w w') : PairAt w' e r S l lv t k m cc F1 F2 :=
  ⟨h.eng.fresh hB, h.ref.fresh hB, h.sep, h.tie, h.ds, h.ts, h.tl, h.k0, h.kb, h.cb, h.fine⟩
theorem keep {G : Nat → Prop} (h : PairAt w e r S l lv t k m cc F1 F2) (hk : Kept w w' G) (hd : ∀ b, F1 b ∨ F2 b → ¬ G b) (hG : NI w G) : PairAt w' e r S l lv t k m cc F1 F2 :=
  ⟨h.eng.keep hk (fun b q => hd b (.inl q)) hG, h.ref.keep hk (fun b q => hd b (.inr q)) hG, h.sep, h.tie, h.ds, h.ts, h.tl, h.k0, h.kb, h.cb, h.fine⟩
end PairAt
theorem Pair.fresh {w w' : World} {e r m : Nat} {F : Nat → Prop} (h : Pair w e r m F) (hB : Below w.heap.size w w') : Pair w' e r m F := by
  obtain ⟨S, l, lv, t, k, cc, F1, F2, h, rfl⟩ := h; exact ⟨S, l, lv, t, k, cc, F1, F2, h.fresh hB, rfl⟩
theorem Pair.keep {w w' : World} {e r m : Nat} {F G : Nat → Prop} (h : Pair w e r m F) (hk : Kept w w' G) (hd : ∀ b, F b → ¬ G b) (hG : NI w G) : Pair w' e r m F := by
  obtain ⟨S, l, lv, t, k, cc, F1, F2, h, rfl⟩ := h; exact ⟨S, l, lv, t, k, cc, F1, F2, h.keep hk hd hG, rfl⟩
theorem Pair.lt {w : World} {e r m : Nat} {F : Nat → Prop} (h : Pair w e r m F) : ∀ b, F b → b < w.heap.size := by
  obtain ⟨S, l, lv, t, k, cc, F1, F2, h, rfl⟩ := h
  rintro b (q | q)
  · exact h.eng.lt b q
  · exact h.ref.lt b q
theorem Pair.ni {w : World} {e r m : Nat} {F : Nat → Prop} (h : Pair w e r m F) : NI w F := by
  obtain ⟨S, l, lv, t, k, cc, F1, F2, h, rfl⟩ := h
  exact h.eng.ni.or h.ref.ni
theorem Pair.mono {w : World} {e r m m' : Nat} {F : Nat → Prop} (h : Pair w e r m F) (hm : m ≤ m') : Pair w e r m' F := by
  obtain ⟨S, l, lv, t, k, cc, F1, F2, h, rfl⟩ := h
  exact ⟨S, l, lv, t, k, cc, F1, F2, ⟨h.eng, h.ref, h.sep, h.tie, h.ds, h.ts, Nat.le_trans h.tl hm, h.k0, by have := h.kb; omega, by have := h.cb; omega, h.fine⟩, rfl⟩
/-- a call on the one, then a call on the other -/
theorem Pair.join {w w1 w2 w3 w4 : World} {e r m : Nat} {S S' : Nat → Bk} {l l' : List Wr} {lv lv' : List Vr} {t t' : List Tr} {k k' : Int} {cc cc' : Nat} {F1 F2 F1' F2' : Nat → Prop} (h : PairAt w e r S l lv t k m cc F1 F2)
    (hB : Below w.heap.size w w1) (hE : Eng w2 e 5 S' cc' k' l' F1') (hk1 : Kept w1 w2 F1) (hf1 : ∀ b, F1' b → F1 b ∨ w1.heap.size ≤ b) (hB3 : Below w2.heap.size w2 w3)
    (hQ : Qe w4 r 5 S' cc' k' lv' t' F2') (hk2 : Kept w3 w4 F2) (hf2 : ∀ b, F2' b → F2 b ∨ w3.heap.size ≤ b) (hT : Tie l' lv' t') (hds : ∀ x ∈ lv', x.ds.length ≤ 2000) (hts : ∀ x ∈ t', x.set.length ≤ 100000) (htl : t'.length ≤ m + 1) (hk0 : 0 ≤ k') (hkb : k' ≤ 20 * ((m + 1 : Nat) : Int)) (hcb : cc' ≤ 1300 * (m + 1)) (hid : Fine S' l') :
    Went w w4 (fun b => F1 b ∨ F2 b) (Pair w4 e r (m + 1)) := by
  have hs1 := hB.size
  have hs2 := hk1.size
  have hs3 := hB3.size
  have hQ1 := h.ref.fresh hB
  have hQ2 := hQ1.keep hk1 (fun b q1 q2 => h.sep b q2 q1) ((h.eng.fresh hB).ni)
  have hQ3 := hQ2.fresh hB3
  have hdis : ∀ b, F1' b → ¬ F2 b := fun b q1 q2 => by
    rcases hf1 b q1 with q | q
    · exact h.sep b q q2
    · have := hQ1.lt b q2; omega
  have hE3 := hE.fresh hB3
  have hE4 := hE3.keep hk2 hdis hQ3.ni
  refine ⟨fun b => F1' b ∨ F2' b, ⟨S', l', lv', t', k', cc', F1', F2', ⟨hE4, hQ, fun b q1 q2 => ?_, hT, hds, hts, htl, hk0, by exact_mod_cast hkb, hcb, hid⟩, rfl⟩, ?_, ?_⟩
  · rcases hf2 b q2 with q | q
    · exact hdis b q1 q
    · have := hE.lt b q1; omega
  · have K1 : Kept w w3 (fun b => F1 b ∨ F2 b) := ((Kept.fresh (S := fun b => F1 b ∨ F2 b) hB).trans hk1 (fun b q => .inl (.inl q))).trans (Kept.fresh (S := fun _ => False) hB3) (fun b q => q.elim)
    exact K1.trans hk2 (fun b q => .inl (.inr q))
  · rintro b (q | q)
    · rcases hf1 b q with q | q
      · exact .inl (.inl q)
      · exact .inr (by omega)
    · rcases hf2 b q with q | q
      · exact .inl (.inr q)
      · exact .inr (by omega)
theorem Added.sub {first k : Int} {l l' : List Wr} {its : List It} (h : Added first l k its l') : ∀ x ∈ l, x ∈ l' := by
  induction h with
  | nil => exact fun x hx => hx
  | snoc h hy ih => exact fun x hx => List.mem_append_left _ (ih x hx)
theorem QAdded.dsl {first k : Int} {l l' : List Vr} {its : List It} (h : QAdded first l k its l') (h1 : ∀ x ∈ l, x.ds.length ≤ 2000) (h2 : ∀ x ∈ its, x.d.length ≤ 1000) (h3 : l'.length ≤ 1000) : ∀ x ∈ l', x.ds.length ≤ 2000 := by
  induction h with
  | nil => exact h1
  | @snoc its l' x v h hv ih =>
    rw [List.length_append] at h3
    have ih := ih (fun x hx => h2 x (List.mem_append_left _ hx)) (by omega)
    intro y hy
    rcases List.mem_append.1 hy with hy | hy
    · exact ih y hy
    · rw [List.mem_singleton] at hy
      subst hy
      rw [hv.2.2, List.length_append, List.length_map, List.length_map]
      have := List.length_filter_le (fun o : Vr => o.p.over x.p) l'
      have := h2 x (by simp)
      omega
theorem Synced.still {n : Nat} {S S' : Nat → Bk} {l l' : List Wr} {e : Int} (h : Synced n S l S' l' e) : (l' = l ∧ S' = S) ∨ ∀ j, (S' j).v = [] := by
  induction h with
  | done => exact .inl ⟨rfl, rfl⟩
  | stuck hl he => exact .inr (fun j => rfl)
  | @more S l S' l' e hl he hr ih =>
    rcases ih with ⟨_, rfl⟩ | h3
    · exact .inr (fun j => rfl)
    · exact .inr h3
theorem QSyn.still {n : Nat} {S S' : Nat → Bk} {l l' : List Vr} {t t' : List Tr} {e : Int} (h : QSyn n S l t S' l' t' e) : (t' = t ∨ t' = []) ∧ ∀ x ∈ l', x ∈ l := by
  induction h with
  | done => exact ⟨.inl rfl, fun x hx => hx⟩
  | stuck hl h hn => exact ⟨.inr rfl, fun x hx => keepF_sub hx⟩
  | more hl h hn k ih => exact ⟨.inr (ih.1.elim id id), fun x hx => keepF_sub (ih.2 x hx)⟩
end Go.Proofs.YtegacggkdjgdiaaGreat

/- A deed on both engines: the walk of 'do'. -/
set_option linter.unusedVariables false
set_option linter.unusedSimpArgs false
namespace Go.Proofs.YtegacggkdjgdiaaGreat
open Go.RowKit

section
variable {w : World} {e r : Nat} {S : Nat → Bk} {l : List Wr} {lv : List Vr} {t : List Tr} {k : Int} {m cc : Nat} {F1 F2 : Nat → Prop}
/-- what a deed leaves -/
def DoS (w : World) (e r m : Nat) (F1 F2 : Nat → Prop) (en : Ending) (w' : World) : Prop := en = .returned (.bool true) ∧ Went w w' (fun b => F1 b ∨ F2 b) (Pair w' e r (m + 1))
theorem PairAt.still (h : PairAt w e r S l lv t k m cc F1 F2) {w' : World} (hB : Below w.heap.size w w') : Went w w' (fun b => F1 b ∨ F2 b) (Pair w' e r (m + 1)) :=
  ⟨_, Pair.mono ⟨S, l, lv, t, k, cc, F1, F2, h.fresh hB, rfl⟩ (Nat.le_succ m), Kept.fresh hB, fun b q => .inl q⟩
theorem box_cell {w1 w2 : World} {G : Nat → Prop} {x : Dd} {p : Nat} {K I A B : Value} (hp : w1.heap[p]? = some (.cells #[K, I, A, B] 54 (0, 0))) (hk : Kept w1 w2 G) (hG : ¬ G p) : w2.heap[p]? = some (.cells #[K, I, A, B] 54 (0, 0)) := by
  rw [hk.block p (Array.getElem?_eq_some_iff.1 hp).1 hG]; exact hp
set_option maxRecDepth 100000 in
set_option maxHeartbeats 2000000 in
theorem do_flush (h : PairAt w e r S l lv t k m cc F1 F2) (hm : m ≤ 40) (x : Dd) (hk : x.kind = 2)  : Calls Tryz.prog 23 #[.pointer (some ⟨e, 0, none⟩), .pointer (some ⟨r, 0, none⟩), x.v] w (DoS w e r m F1 F2) := by
  obtain ⟨kind, xi, A, n, c, L, bad⟩ := x
  dsimp only at hk
  subst hk
  have HE := Lib.hid (fun W (hB : Below w.heap.size w W) => eflush (h.eng.fresh hB) (by have := h.cb; omega))
  have HQ := Lib.hid (fun W hq => @qflush W r 5 cc S k lv t F2 hq (by have := h.cb; omega) (by have := h.vlen; omega) (by have := h.tl; omega) h.ts)
  have Hsep := Lib.hid h.sep
  have HP := Lib.hid h
  have Hlt1 := Lib.hid h.eng.lt
  have Hlt2 := Lib.hid h.ref.lt
  clear h
  unfold Dd.v
  dsimp only
  have HBx : Hid (Below w.heap.size w (w.alloc (.cells #[.int .i64 2, .int .i64 xi, .slice A n c, .bool bad] 54))) := (Below.refl _ _).alloc (Nat.le_refl _) _
  have Hpx : Hid ((w.alloc (.cells #[.int .i64 2, .int .i64 xi, .slice A n c, .bool bad] 54)).heap[w.heap.size]? = some (.cells #[.int .i64 2, .int .i64 xi, .slice A n c, .bool bad] 54 (0, 0))) := heap_alloc_new w _
  have hF1x : Hid (¬ F1 w.heap.size) := fun q => Nat.lt_irrefl _ (Hlt1.out _ q)
  have hF2x : Hid (¬ F2 w.heap.size) := fun q => Nat.lt_irrefl _ (Hlt2.out _ q)
  go_enter Tryz.func23, Tryz.ntmps23
  go_wp2_with (first
    | (go_at_call 29; refine (HE.out _ HBx.out).mono ?_; rintro en w2 ⟨rfl, F1', he, hk1, hf1⟩; have HE2 := Lib.hid he; have HK1 := Lib.hid hk1; have HF1 := Lib.hid hf1; have HQ2 := Lib.hid (HQ.out w2 ((HP.out.ref.fresh HBx.out).keep hk1 (fun b q1 q2 => Hsep.out b q2 q1) (HP.out.eng.fresh HBx.out).ni)); clear he hk1 hf1)
    | (go_at_call 56; refine HQ2.out.mono ?_; rintro en w3 ⟨rfl, F2', hq, hk2, hf2⟩; have HQ3 := Lib.hid hq; have HK2 := Lib.hid hk2; have HF2 := Lib.hid hf2; clear hq hk2 hf2))
  go_ret
  refine ⟨rfl, Pair.join HP.out HBx.out HE2.out HK1.out HF1.out (Below.refl _ _) HQ3.out HK2.out HF2.out HP.out.tie.flush (fun x hx => HP.out.ds x (keepF_sub hx)) (fun x hx => by cases hx) (Nat.zero_le _) HP.out.k0 (by have := HP.out.kb; omega) (by have := HP.out.cb; omega) (HP.out.fine.flush HP.out.tie HP.out.eng.rights.1)⟩
set_option maxRecDepth 100000 in
set_option maxHeartbeats 2000000 in
theorem do_sync (h : PairAt w e r S l lv t k m cc F1 F2) (hm : m ≤ 40) (x : Dd) (hk : x.kind = 3)  : Calls Tryz.prog 23 #[.pointer (some ⟨e, 0, none⟩), .pointer (some ⟨r, 0, none⟩), x.v] w (DoS w e r m F1 F2) := by
  obtain ⟨kind, xi, A, n, c, L, bad⟩ := x
  dsimp only at hk
  subst hk
  have HE := Lib.hid (fun W (hB : Below w.heap.size w W) => esync5 (h.eng.fresh hB) (by have := h.cb; omega) (Nat.le_refl _))
  have HQ := Lib.hid (fun W hq => @qsync W r 5 cc S k lv t F2 hq h.vlen (fun x hx => by have := h.ds x hx; omega) (by have := h.tl; omega) h.ts h.vr (by have := h.cb; omega) (Nat.le_refl _))
  have Hsep := Lib.hid h.sep
  have HP := Lib.hid h
  have Hlt1 := Lib.hid h.eng.lt
  have Hlt2 := Lib.hid h.ref.lt
  clear h
  unfold Dd.v
  dsimp only
  have HBx : Hid (Below w.heap.size w (w.alloc (.cells #[.int .i64 3, .int .i64 xi, .slice A n c, .bool bad] 54))) := (Below.refl _ _).alloc (Nat.le_refl _) _
  have Hpx : Hid ((w.alloc (.cells #[.int .i64 3, .int .i64 xi, .slice A n c, .bool bad] 54)).heap[w.heap.size]? = some (.cells #[.int .i64 3, .int .i64 xi, .slice A n c, .bool bad] 54 (0, 0))) := heap_alloc_new w _
  have hF1x : Hid (¬ F1 w.heap.size) := fun q => Nat.lt_irrefl _ (Hlt1.out _ q)
  have hF2x : Hid (¬ F2 w.heap.size) := fun q => Nat.lt_irrefl _ (Hlt2.out _ q)
  go_enter Tryz.func23, Tryz.ntmps23
  go_wp2_with (first
    | (go_at_call 11; refine (HE.out _ HBx.out).mono ?_; rintro en w2 ⟨S', l', re, rfl, hs, F1', ⟨c1, hc1, he⟩, hk1, hf1⟩; have HE2 := Lib.hid he; have HS1 := Lib.hid hs; have HK1 := Lib.hid hk1; have HF1 := Lib.hid hf1; have HQ2 := Lib.hid (HQ.out w2 ((HP.out.ref.fresh HBx.out).keep hk1 (fun b q1 q2 => Hsep.out b q2 q1) (HP.out.eng.fresh HBx.out).ni)); clear he hk1 hf1 hs)
    | (go_at_call 57; refine HQ2.out.mono ?_; rintro en w3 ⟨S2, l2, t2, r2, rfl, hs, F2', ⟨c2, hc2, hq⟩, hk2, hf2⟩; obtain ⟨hSS, hrr, hT⟩ := Tie.synced hs HP.out.tie HS1.out; subst hSS hrr; have HT := Lib.hid hT; have HFi := Lib.hid (Fine.synced hs HP.out.tie HP.out.fine HP.out.eng.rights.1 HS1.out); have HS2 := Lib.hid hs; have HQ3 := Lib.hid hq; have HK2 := Lib.hid hk2; have HF2 := Lib.hid hf2; clear hq hk2 hf2 hs hT))
  go_ret
  obtain ⟨ht, hl⟩ := HS2.out.still
  refine ⟨rfl, Pair.join HP.out HBx.out (HE2.out.mono (cc' := cc + 1200) hc1) HK1.out HF1.out (Below.refl _ _) (HQ3.out.mono (cc' := cc + 1200) hc2) HK2.out HF2.out HT.out (fun x hx => HP.out.ds x (hl x hx)) (fun x hx => ?_) ?_ HP.out.k0 (by have := HP.out.kb; omega) (by have := HP.out.cb; omega) HFi.out⟩
  · rcases ht with rfl | rfl
    · exact HP.out.ts x hx
    · cases hx
  · rcases ht with rfl | rfl
    · have := HP.out.tl; omega
    · exact Nat.zero_le _
set_option maxRecDepth 100000 in
set_option maxHeartbeats 2000000 in
theorem do_write (h : PairAt w e r S l lv t k m cc F1 F2) (hm : m ≤ 40) (x : Dd) (hk : x.kind = 1) (hi : 0 ≤ x.i ∧ x.i < 5) : Calls Tryz.prog 23 #[.pointer (some ⟨e, 0, none⟩), .pointer (some ⟨r, 0, none⟩), x.v] w (DoS w e r m F1 F2) := by
  obtain ⟨kind, xi, A, n, c, L, bad⟩ := x
  dsimp only at hk hi
  subst hk
  obtain ⟨i, hxi⟩ : ∃ i : Nat, xi = (i : Int) := ⟨xi.toNat, by omega⟩
  have hi5 : i < 5 := by omega
  have HE := Lib.hid (fun W (hB : Below w.heap.size w W) => ewrite_any (h.eng.fresh hB) hi5 (by have := h.cb; omega))
  have HQ := Lib.hid (fun W hq => @qwrite_any W r 5 cc S k lv t F2 hq (by have := h.vlen; omega) (fun x hx => by have := h.ds x hx; omega) (by have := h.tl; omega) h.vr i hi5 (by have := h.cb; omega))
  rw [h.tie.wN, h.tie.wE, h.tie.wS] at HQ
  rw [← hxi] at HE HQ
  generalize wrN S l i = N at HE HQ
  generalize wrE S l i = Er at HE HQ
  have Hsep := Lib.hid h.sep
  clear hi hxi
  have HP := Lib.hid h
  have Hlt1 := Lib.hid h.eng.lt
  have Hlt2 := Lib.hid h.ref.lt
  clear h
  unfold Dd.v
  dsimp only
  have HBx : Hid (Below w.heap.size w (w.alloc (.cells #[.int .i64 1, .int .i64 xi, .slice A n c, .bool bad] 54))) := (Below.refl _ _).alloc (Nat.le_refl _) _
  have Hpx : Hid ((w.alloc (.cells #[.int .i64 1, .int .i64 xi, .slice A n c, .bool bad] 54)).heap[w.heap.size]? = some (.cells #[.int .i64 1, .int .i64 xi, .slice A n c, .bool bad] 54 (0, 0))) := heap_alloc_new w _
  have hF1x : Hid (¬ F1 w.heap.size) := fun q => Nat.lt_irrefl _ (Hlt1.out _ q)
  have hF2x : Hid (¬ F2 w.heap.size) := fun q => Nat.lt_irrefl _ (Hlt2.out _ q)
  go_enter Tryz.func23, Tryz.ntmps23
  go_wp2_with (first
    | (go_at_call 28; refine (HE.out _ HBx.out).mono ?_; rintro en w2 ⟨rfl, F1', he, hk1, hf1⟩; have hp2 := box_cell (x := ⟨0, 0, none, 0, 0, [], false⟩) Hpx.out hk1 hF1x.out; have g1 : w2.cell? ⟨w.heap.size, 1, none⟩ = some (.int .i64 xi) := cell_of_row w2 _ 1 _ 54 (0, 0) hp2; have g2 : w.heap.size < w2.heap.size := (Array.getElem?_eq_some_iff.1 hp2).1; have HE2 := Lib.hid he; have HK1 := Lib.hid hk1; have HF1 := Lib.hid hf1; have HQ2 := Lib.hid (HQ.out w2 ((HP.out.ref.fresh HBx.out).keep hk1 (fun b q1 q2 => Hsep.out b q2 q1) (HP.out.eng.fresh HBx.out).ni)); clear he hk1 hf1 hp2)
    | (go_at_call 55; refine HQ2.out.mono ?_; rintro en w3 ⟨rfl, F2', ⟨t', hw, hq⟩, hk2, hf2⟩; have HW3 := Lib.hid hw; have HQ3 := Lib.hid hq; have HK2 := Lib.hid hk2; have HF2 := Lib.hid hf2; clear hq hk2 hf2 hw))
  go_ret
  refine ⟨rfl, Pair.join HP.out HBx.out HE2.out HK1.out HF1.out (Below.refl _ _) HQ3.out HK2.out HF2.out (HP.out.tie.write S i HW3.out) HP.out.ds (HW3.out.sets (by have := HP.out.vlen; omega) HP.out.ts) (by have := HW3.out.len; have := HP.out.tl; omega) HP.out.k0 (by have := HP.out.kb; omega) (by have := HP.out.cb; omega) (HP.out.fine.write HP.out.tie i)⟩
set_option maxRecDepth 100000 in
set_option maxHeartbeats 2000000 in
theorem do_write_no (h : PairAt w e r S l lv t k m cc F1 F2) (hm : m ≤ 40) (x : Dd) (hk : x.kind = 1) (hi : ¬ (0 ≤ x.i ∧ x.i < 5)) : Calls Tryz.prog 23 #[.pointer (some ⟨e, 0, none⟩), .pointer (some ⟨r, 0, none⟩), x.v] w (DoS w e r m F1 F2) := by
  obtain ⟨kind, xi, A, n, c, L, bad⟩ := x
  dsimp only at hk hi
  subst hk
  have HE := Lib.hid (fun W (hB : Below w.heap.size w W) => ewrite_no (h.eng.fresh hB) xi (by omega))
  have HQ := Lib.hid (fun W (hB : Below w.heap.size w W) => qwrite_no (h.ref.fresh hB) xi (by omega))
  clear hi
  have HP := Lib.hid h
  have Hlt1 := Lib.hid h.eng.lt
  have Hlt2 := Lib.hid h.ref.lt
  clear h
  unfold Dd.v
  dsimp only
  have HBx : Hid (Below w.heap.size w (w.alloc (.cells #[.int .i64 1, .int .i64 xi, .slice A n c, .bool bad] 54))) := (Below.refl _ _).alloc (Nat.le_refl _) _
  have Hpx : Hid ((w.alloc (.cells #[.int .i64 1, .int .i64 xi, .slice A n c, .bool bad] 54)).heap[w.heap.size]? = some (.cells #[.int .i64 1, .int .i64 xi, .slice A n c, .bool bad] 54 (0, 0))) := heap_alloc_new w _
  have hF1x : Hid (¬ F1 w.heap.size) := fun q => Nat.lt_irrefl _ (Hlt1.out _ q)
  have hF2x : Hid (¬ F2 w.heap.size) := fun q => Nat.lt_irrefl _ (Hlt2.out _ q)
  go_enter Tryz.func23, Tryz.ntmps23
  go_wp2_with (first
    | (go_at_call 28; refine (HE.out _ HBx.out).mono ?_; rintro en w2 ⟨rfl, hb2⟩; have hp2 := (hb2.block _ (Array.getElem?_eq_some_iff.1 Hpx.out).1).trans Hpx.out; have g1 : w2.cell? ⟨w.heap.size, 1, none⟩ = some (.int .i64 xi) := cell_of_row w2 _ 1 _ 54 (0, 0) hp2; have g2 : w.heap.size < w2.heap.size := (Array.getElem?_eq_some_iff.1 hp2).1; have HB2 : Hid (Below w.heap.size w w2) := HBx.out.trans (hb2.mono HBx.out.size); clear hb2 hp2)
    | (go_at_call 55; refine (HQ.out _ HB2.out).mono ?_; rintro en w3 ⟨rfl, rfl⟩))
  go_ret
  exact ⟨rfl, HP.out.still HB2.out⟩
set_option maxRecDepth 100000 in
set_option maxHeartbeats 2000000 in
theorem do_none (h : PairAt w e r S l lv t k m cc F1 F2) (x : Dd) (h0 : ¬ x.kind = 0) (h1 : ¬ x.kind = 1) (h2 : ¬ x.kind = 2) (h3 : ¬ x.kind = 3) (h4 : ¬ x.kind = 4) : Calls Tryz.prog 23 #[.pointer (some ⟨e, 0, none⟩), .pointer (some ⟨r, 0, none⟩), x.v] w (DoS w e r m F1 F2) := by
  obtain ⟨kind, xi, A, n, c, L, bad⟩ := x
  dsimp only at h0 h1 h2 h3 h4
  have HP := Lib.hid h
  clear h
  unfold Dd.v
  dsimp only
  have HBx : Hid (Below w.heap.size w (w.alloc (.cells #[.int .i64 kind, .int .i64 xi, .slice A n c, .bool bad] 54))) := (Below.refl _ _).alloc (Nat.le_refl _) _
  go_enter Tryz.func23, Tryz.ntmps23
  go_wp2
  go_ret
  exact ⟨rfl, HP.out.still HBx.out⟩
end
end Go.Proofs.YtegacggkdjgdiaaGreat
