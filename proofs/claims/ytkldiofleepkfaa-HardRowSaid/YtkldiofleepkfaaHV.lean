/- Items; those that one comes behind, plain; a map of pointers gone through into a row of numbers. -/
import Derived.Test.YtkldiofleepkfaaHT
import Derived.Test.YtkldiofleepkfaaHQ0
set_option linter.unusedVariables false
set_option linter.unusedSimpArgs false
namespace Go.Proofs.Ytkldiofleepkfaa.Hd
open Go.RowKit
open Go.Maps (Keyed)
/-- a patch, and the numbers that it comes behind -/
structure It where
  p : Pt
  d : List Int
def itN (l : List It) (k : Nat) : It := l.getD k ⟨⟨0, 0, ByteArray.empty⟩, []⟩
theorem itN_lt {l : List It} {k : Nat} (h : k < l.length) : itN l k = l[k] := by
  unfold itN; rw [List.getD_eq_getElem?_getD, List.getElem?_eq_getElem h]; rfl
def It.small (x : It) : Prop := x.p.ok ∧ x.d.length ≤ 1000 ∧ ∀ y ∈ x.d, WfI y
def SmallI (l : List It) : Prop := ∀ x ∈ l, x.small
/-- under A, outside the blocks F, the cells are the numbers zs -/
def IntsF (w : World) (F : Nat → Prop) (A : Option Addr) (zs : List Int) : Prop := 0 < zs.length → ∃ b off, A = some ⟨b, off, none⟩ ∧ b < w.heap.size ∧ ¬ F b ∧ ∀ j (h : j < zs.length), w.cell? ⟨b, off + j, none⟩ = some (.int .i64 zs[j])
/-- the cells of an item -/
structure ItAt (w : World) (F : Nat → Prop) (b o : Nat) (x : It) (A : Option Addr) (c : Nat) : Prop where
  c0 : w.cell? ⟨b, o, none⟩ = some (.int .i64 x.p.b)
  c1 : w.cell? ⟨b, o + 1, none⟩ = some (.int .i64 x.p.o)
  c2 : w.cell? ⟨b, o + 2, none⟩ = some (.string x.p.s)
  c3 : w.cell? ⟨b, o + 3, none⟩ = some (.slice A x.d.length c)
  row : IntsF w F A x.d
def ItemsF (w : World) (F : Nat → Prop) (A : Option Addr) (l : List It) : Prop :=
  0 < l.length → ∃ (b off : Nat) (Af : Nat → Option Addr) (Cf : Nat → Nat), A = some ⟨b, off, none⟩ ∧ b < w.heap.size ∧ ¬ F b ∧ ∀ j, j < l.length → ItAt w F b (off + j * 4) (itN l j) (Af j) (Cf j)
section
variable {w w' : World} {F F' G : Nat → Prop} {A : Option Addr} {l : List It}
theorem IntsF.keep {zs : List Int} (h : IntsF w F A zs) (hk : Kept w w' G) (hG : ∀ b, G b → F b) (hF : ∀ b, F' b → F b ∨ w.heap.size ≤ b) : IntsF w' F' A zs := fun hn => by
  obtain ⟨b, off, e, hb, hf, hc⟩ := h hn
  exact ⟨b, off, e, Nat.lt_of_lt_of_le hb hk.size, fun q => (hF b q).elim hf (fun q => by omega), fun j hj => (hk.cell (a := ⟨b, off + j, none⟩) hb (fun q => hf (hG b q))).trans (hc j hj)⟩
theorem ItAt.keep {b o : Nat} {x : It} {A : Option Addr} {c : Nat} (h : ItAt w F b o x A c) (hb : b < w.heap.size) (hf : ¬ F b) (hk : Kept w w' G) (hG : ∀ b, G b → F b) (hF : ∀ b, F' b → F b ∨ w.heap.size ≤ b) : ItAt w' F' b o x A c := by
  have e : ∀ j, w'.cell? ⟨b, j, none⟩ = w.cell? ⟨b, j, none⟩ := fun j => hk.cell (a := ⟨b, j, none⟩) hb (fun q => hf (hG b q))
  exact ⟨(e _).trans h.c0, (e _).trans h.c1, (e _).trans h.c2, (e _).trans h.c3, h.row.keep hk hG hF⟩
theorem ItemsF.keep (h : ItemsF w F A l) (hk : Kept w w' G) (hG : ∀ b, G b → F b) (hF : ∀ b, F' b → F b ∨ w.heap.size ≤ b) : ItemsF w' F' A l := fun hn => by
  obtain ⟨b, off, Af, Cf, e, hb, hf, hc⟩ := h hn
  exact ⟨b, off, Af, Cf, e, Nat.lt_of_lt_of_le hb hk.size, fun q => (hF b q).elim hf (fun q => by omega), fun j hj => (hc j hj).keep hb hf hk hG hF⟩
theorem ItemsF.fresh (h : ItemsF w F A l) (hB : Below w.heap.size w w') : ItemsF w' F A l := h.keep (G := fun _ => False) (Kept.fresh hB) (fun _ q => q.elim) (fun _ q => .inl q)
theorem ItemsF.at_ (h : ItemsF w F A l) {k : Nat} (hk : k < l.length) : ∃ b off Ak ck, A = some ⟨b, off, none⟩ ∧ b < w.heap.size ∧ ¬ F b ∧ ItAt w F b (off + k * 4) (itN l k) Ak ck := by
  obtain ⟨b, off, Af, Cf, e, hb, hf, hc⟩ := h (by omega)
  exact ⟨b, off, _, _, e, hb, hf, hc k hk⟩
end
theorem itN_mem {l : List It} {k : Nat} (h : k < l.length) : itN l k ∈ l := by rw [itN_lt h]; exact List.getElem_mem h
def badForm (n : Nat) (x : It) : Bool := !x.p.right || decide ((n : Int) ≤ x.p.b)
def badDep (k : Int) (t : Nat) (d : Int) : Bool := decide (k ≤ d) || decide ((t : Int) ≤ -1 - d)
def badDeps (k : Int) (t : Nat) (x : It) : Bool := x.d.any (badDep k t)
def badAll (k : Int) (l : List It) : Bool := (List.range l.length).any fun t => badDeps k t (itN l t)
def refusesE (n : Nat) (k : Int) (wl : Nat) (l : List It) : Int := if l.any (badForm n) then 3 else if badAll k l then 2 else if 200 < l.length + wl then 11 else 0
theorem form_at {n : Nat} {l : List It} {j : Nat} (hj : j < l.length) (h : badForm n (itN l j) = true) : l.any (badForm n) = true := List.any_eq_true.2 ⟨_, itN_mem hj, h⟩
theorem form_none {n : Nat} {l : List It} (h : ∀ j, j < l.length → badForm n (itN l j) = false) : l.any (badForm n) = false := by
  rw [List.any_eq_false]
  intro x hx
  obtain ⟨j, hj, rfl⟩ := List.mem_iff_getElem.1 hx
  have := h j hj
  rw [itN_lt hj] at this
  simp [this]
theorem badAll_at {k : Int} {l : List It} {j m : Nat} (hj : j < l.length) (hm : m < (itN l j).d.length) (h : badDep k j (itN l j).d[m] = true) : badAll k l = true :=
  List.any_eq_true.2 ⟨j, List.mem_range.2 hj, List.any_eq_true.2 ⟨_, List.getElem_mem hm, h⟩⟩
theorem badAll_none {k : Int} {l : List It} (h : ∀ j, j < l.length → badDeps k j (itN l j) = false) : badAll k l = false := by
  unfold badAll
  rw [List.any_eq_false]
  intro j hj
  have := h j (List.mem_range.1 hj)
  simp [this]


/-- the number that is meant -/
def depN (first d : Int) : Int := if d < 0 then first + (-1 - d) else d
def selH (ds : List Int) (p : Pt) (x : Hw) : Bool := decide (x.num ∈ ds) || x.p.over p
/-- those that wait and that one comes behind, rising -/
def ahH (l : List Hw) (ds : List Int) (p : Pt) : List Int := nums (l.filter (selH ds p))
theorem ahH_rise {l : List Hw} (h : Asc l) (ds : List Int) (p : Pt) : (ahH l ds p).Pairwise (· < ·) := by unfold ahH nums; rw [List.pairwise_map]; exact h.filter _
theorem ahH_len (l : List Hw) (ds : List Int) (p : Pt) : (ahH l ds p).length ≤ l.length := by unfold ahH nums; rw [List.length_map]; exact List.length_filter_le _ _
theorem mem_ahH {l : List Hw} {ds : List Int} {p : Pt} {n : Int} : n ∈ ahH l ds p ↔ ∃ y ∈ l, y.num = n ∧ selH ds p y = true := by
  unfold ahH
  rw [mem_nums]
  constructor
  · rintro ⟨x, hx, e⟩; exact ⟨x, (List.mem_filter.1 hx).1, e, (List.mem_filter.1 hx).2⟩
  · rintro ⟨x, hx, e, h⟩; exact ⟨x, List.mem_filter.2 ⟨hx, h⟩, e⟩
theorem ahH_waits {l : List Hw} {ds : List Int} {p : Pt} {n : Int} (h : n ∈ ahH l ds p) : hasN l n = true := by
  obtain ⟨y, hy, e, _⟩ := mem_ahH.1 h
  exact hasN_iff.2 ⟨y, hy, e⟩
/-- ahead under way: those that came and are come behind stand in the row -/
def AhS (w wr : World) (gu r cc : Nat) (D : DataW Value) (ks : List Int) (p : Int → Prop) (left : Lit → Bool) (cnt : Nat) (T : List Int) (A : Option Addr) (c : Nat) : Prop :=
  wr.ranges Try.prog 3 RV gu r cc D left cnt ∧ (∀ x : Int, left (.int .i64 x) = true → x ∈ ks) ∧ Below r w wr ∧ r < wr.heap.size ∧
    wr.ownsRow (r + 1) 3 1 (.slice A T.length c) T.length (intsI T) ∧ T.Nodup ∧ T.length + cnt ≤ Maps.size D ∧ ∀ x : Int, x ∈ T ↔ (x ∈ ks ∧ p x) ∧ left (.int .i64 x) = false
theorem AhS.skip {w wr w1 w2 : World} {gu r cc : Nat} {D : DataW Value} {ks : List Int} {p : Int → Prop} {left : Lit → Bool} {cnt cnt1 : Nat} {T : List Int} {A : Option Addr} {c : Nat} (h : AhS w wr gu r cc D ks p left cnt T A c) (hr : r ≤ w.heap.size) {x : Int} (hn : ¬ p x)
    (hrg : w1.ranges Try.prog 3 RV gu r cc D (fun z => left z && !z.sameKey (.int .i64 x)) cnt1) (hlt : cnt1 < cnt) (hg : wr.grownBy w1 (some r)) (hs : w1.heap.size = wr.heap.size) (hb : Below w1.heap.size w1 w2) : AhS w w2 gu r cc D ks p (fun z => left z && !z.sameKey (.int .i64 x)) cnt1 T A c := by
  obtain ⟨_, hX, hB, hrl, hrow, hnd, hcn, hm⟩ := h
  refine ⟨hrg.kept (below_grown hb) (by simp) (by simp), fun y hy => hX y (by simp only [Bool.and_eq_true] at hy; exact hy.1), (hB.trans (grown_below hg (Nat.le_refl _) (by omega))).trans (hb.mono (by omega)), by have := hb.size; omega, ?_, hnd, by omega, fun y => ?_⟩
  · refine (Kept.fresh (S := fun _ => False) hb).row ((Kept.grown (S := fun b => b = r) hg (fun b e => by cases e; exact .inl rfl)).row hrow fun b hb q => ?_) (fun _ _ q => q)
    have := (hrow.lt b hb).1
    omega
  · rw [hm]
    by_cases e : y = x
    · subst e
      constructor
      · rintro ⟨⟨_, q⟩, _⟩; exact absurd q hn
      · rintro ⟨⟨_, q⟩, _⟩; exact absurd q hn
    · rw [strike_other left e]
theorem AhS.took {w wr w1 w2 w3 : World} {gu r cc : Nat} {D : DataW Value} {ks : List Int} {p : Int → Prop} {left : Lit → Bool} {cnt cnt1 : Nat} {T : List Int} {A A2 : Option Addr} {c c2 : Nat} (h : AhS w wr gu r cc D ks p left cnt T A c) (hr : r ≤ w.heap.size) (hgu : gu < r) {x : Int} (hx : x ∈ ks) (hp : p x) (hl : left (.int .i64 x) = true)
    (hrg : w1.ranges Try.prog 3 RV gu r cc D (fun z => left z && !z.sameKey (.int .i64 x)) cnt1) (hlt : cnt1 < cnt) (hg : wr.grownBy w1 (some r)) (hs : w1.heap.size = wr.heap.size) (hb : Below w1.heap.size w1 w2) (o : Obj) (hg3 : (w2.alloc o).grownBy w3 (Value.slice A T.length c).ownBlock)
    (hrow3 : w3.ownsRow (r + 1) 3 1 (.slice A2 (T.length + 1) c2) (T.length + 1) (intsI T ++ [.int .i64 x])) : AhS w w3 gu r cc D ks p (fun z => left z && !z.sameKey (.int .i64 x)) cnt1 (T ++ [x]) A2 c2 := by
  obtain ⟨_, hX, hB, hrl, hrow, hnd, hcn, hm⟩ := h
  have hB1 : Below r w w1 := hB.trans (grown_below hg (Nat.le_refl _) (by omega))
  have hB2 : Below r w w2 := hB1.trans (hb.mono (by omega))
  have hs2 := hb.size
  have hne : ∀ b, (Value.slice A T.length c).ownBlock = some b → r + 1 ≤ b := fun b hb => (hrow.lt b hb).1
  have hB3 : Below r w w3 := (hB2.alloc (by omega) o).grown hg3 (by simp; omega) (fun b e => by have := hne b e; omega)
  have h4 : w2.ranges Try.prog 3 RV gu r cc D (fun z => left z && !z.sameKey (.int .i64 x)) cnt1 := hrg.kept (below_grown hb) (by simp) (by simp)
  have h5 : (w2.alloc o).ranges Try.prog 3 RV gu r cc D (fun z => left z && !z.sameKey (.int .i64 x)) cnt1 := h4.kept (below_grown (below_alloc1 w2 o)) (by simp) (by simp)
  refine ⟨h5.kept hg3 (fun e => by have := hne gu e.symm; omega) (fun e => by have := hne r e.symm; omega), fun y hy => hX y (by simp only [Bool.and_eq_true] at hy; exact hy.1), hB3, ?_, ?_, ?_, ?_, fun y => ?_⟩
  · have := hg3.size; simp at this; omega
  · have : intsI (T ++ [x]) = intsI T ++ [.int .i64 x] := by simp [intsI]
    rw [this, List.length_append]
    exact hrow3
  · rw [List.nodup_append]
    refine ⟨hnd, by simp, fun a ha b hb e => ?_⟩
    rw [List.mem_singleton] at hb
    subst hb; subst e
    have := ((hm a).1 ha).2
    rw [hl] at this; cases this
  · rw [List.length_append]; simp; omega
  · rw [List.mem_append, List.mem_singleton, hm]
    by_cases e : y = x
    · subst e
      have := strike_self left y
      exact ⟨fun _ => ⟨⟨hx, hp⟩, this⟩, fun _ => .inr rfl⟩
    · rw [strike_other left e]
      simp [e]
end Go.Proofs.Ytkldiofleepkfaa.Hd
