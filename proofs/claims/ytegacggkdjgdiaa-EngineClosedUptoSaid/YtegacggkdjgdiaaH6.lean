/- Texts in one: QA QB QC QD QE QG QF QH QI. -/
import Derived.Test.YtegacggkdjgdiaaEU
import Derived.Test.YtegacggkdjgdiaaEZ
import Derived.Test.YtegacggkdjgdiaaH5
import Derived.Test.YtegacggkdjgdiaaDQ
/- The document's own engine, as it lies in memory: what waits, what was written since the last Flush. -/
set_option linter.unusedVariables false
set_option linter.unusedSimpArgs false
namespace Go.Proofs.Ytegacggkdjgdiaa
open Go.RowKit

/-- one that waits: its number, its patch, what it comes behind (and where these numbers lie) -/
structure Vr where
  num : Int
  p : Pt
  ds : List Int
  A : Option Addr
  c : Nat
def Vr.cs (x : Vr) : List Value := [.int .i64 x.num, .int .i64 x.p.b, .int .i64 x.p.o, .string x.p.s, .slice x.A x.ds.length x.c]
def Vr.v (x : Vr) : Value := .agg x.cs.toArray
def flatV (l : List Vr) : List Value := l.flatMap Vr.cs
def vn (l : List Vr) (k : Nat) : Vr := l.getD k ⟨0, ⟨0, 0, ByteArray.empty⟩, [], none, 0⟩
theorem vn_lt {l : List Vr} {k : Nat} (h : k < l.length) : vn l k = l[k] := by
  unfold vn; rw [List.getD_eq_getElem?_getD, List.getElem?_eq_getElem h]; rfl
theorem vn_mem {l : List Vr} {k : Nat} (h : k < l.length) : vn l k ∈ l := by rw [vn_lt h]; exact List.getElem_mem h
theorem vn_take {l : List Vr} {k j : Nat} (h : j < k) : vn (l.take k) j = vn l j := by
  unfold vn
  rw [List.getD_eq_getElem?_getD, List.getD_eq_getElem?_getD, List.getElem?_take, if_pos h]
theorem take_vn {l : List Vr} {k : Nat} (h : k < l.length) : l.take (k + 1) = l.take k ++ [vn l k] := by
  rw [List.take_succ_eq_append_getElem h, vn_lt h]
theorem flatV_cons (h : Vr) (l : List Vr) : flatV (h :: l) = h.cs ++ flatV l := by simp [flatV]
theorem flatV_append (a b : List Vr) : flatV (a ++ b) = flatV a ++ flatV b := by simp [flatV]
theorem flatV_one (x : Vr) : flatV [x] = x.cs := by simp [flatV]
theorem length_csV (x : Vr) : x.cs.length = 5 := rfl
theorem length_flatV (l : List Vr) : (flatV l).length = l.length * 5 := by
  induction l with
  | nil => rfl
  | cons h r ih => rw [flatV_cons, List.length_append, ih, length_csV, List.length_cons]; omega
theorem flatV_take (l : List Vr) (k : Nat) : (flatV l).take (k * 5) = flatV (l.take k) := by
  induction l generalizing k with
  | nil => simp [flatV]
  | cons h r ih =>
    cases k with
    | zero => simp [flatV]
    | succ k => rw [List.take_succ_cons, flatV_cons, flatV_cons, ← ih, show (k + 1) * 5 = k * 5 + 5 by omega]; simp [Vr.cs]
theorem flatV_drop (l : List Vr) (k : Nat) : (flatV l).drop (k * 5) = flatV (l.drop k) := by
  induction l generalizing k with
  | nil => simp [flatV]
  | cons h r ih =>
    cases k with
    | zero => simp
    | succ k => rw [List.drop_succ_cons, flatV_cons, ← ih, show (k + 1) * 5 = k * 5 + 5 by omega]; simp [Vr.cs]
theorem flatV_get {l : List Vr} {k j : Nat} (hk : k < l.length) (hj : j < 5) : (flatV l)[k * 5 + j]? = (vn l k).cs[j]? := by
  have h := List.getElem?_drop (xs := flatV l) (i := k * 5) (j := j)
  rw [← h, flatV_drop, List.drop_eq_getElem_cons hk, flatV_cons, List.getElem?_append_left (by rw [length_csV]; exact hj), vn_lt hk]
theorem cs_oneV (x : Vr) : ∀ u ∈ x.cs, u.oneCell' = true := by
  intro u hu
  simp [Vr.cs] at hu
  rcases hu with rfl | rfl | rfl | rfl | rfl <;> rfl
theorem flatV_cells (l : List Vr) : ∀ u ∈ flatV l, u.oneCell' = true := by
  intro u hu
  obtain ⟨x, _, hx⟩ := List.mem_flatMap.1 hu
  exact cs_oneV x u hx
/-- what stood in a block's last Write -/
structure Tr where
  b : Int
  set : List Int
  A : Option Addr
  c : Nat
def Tr.cs (x : Tr) : List Value := [.int .i64 x.b, .slice x.A x.set.length x.c]
def Tr.v (x : Tr) : Value := .agg x.cs.toArray
def flatT (l : List Tr) : List Value := l.flatMap Tr.cs
def tn (l : List Tr) (k : Nat) : Tr := l.getD k ⟨0, [], none, 0⟩
theorem tn_lt {l : List Tr} {k : Nat} (h : k < l.length) : tn l k = l[k] := by
  unfold tn; rw [List.getD_eq_getElem?_getD, List.getElem?_eq_getElem h]; rfl
theorem tn_mem {l : List Tr} {k : Nat} (h : k < l.length) : tn l k ∈ l := by rw [tn_lt h]; exact List.getElem_mem h
theorem tn_take {l : List Tr} {k j : Nat} (h : j < k) : tn (l.take k) j = tn l j := by
  unfold tn
  rw [List.getD_eq_getElem?_getD, List.getD_eq_getElem?_getD, List.getElem?_take, if_pos h]
theorem take_tn {l : List Tr} {k : Nat} (h : k < l.length) : l.take (k + 1) = l.take k ++ [tn l k] := by
  rw [List.take_succ_eq_append_getElem h, tn_lt h]
theorem flatT_cons (h : Tr) (l : List Tr) : flatT (h :: l) = h.cs ++ flatT l := by simp [flatT]
theorem flatT_append (a b : List Tr) : flatT (a ++ b) = flatT a ++ flatT b := by simp [flatT]
theorem flatT_one (x : Tr) : flatT [x] = x.cs := by simp [flatT]
theorem length_csT (x : Tr) : x.cs.length = 2 := rfl
theorem length_flatT (l : List Tr) : (flatT l).length = l.length * 2 := by
  induction l with
  | nil => rfl
  | cons h r ih => rw [flatT_cons, List.length_append, ih, length_csT, List.length_cons]; omega
theorem flatT_take (l : List Tr) (k : Nat) : (flatT l).take (k * 2) = flatT (l.take k) := by
  induction l generalizing k with
  | nil => simp [flatT]
  | cons h r ih =>
    cases k with
    | zero => simp [flatT]
    | succ k => rw [List.take_succ_cons, flatT_cons, flatT_cons, ← ih, show (k + 1) * 2 = k * 2 + 2 by omega]; simp [Tr.cs]
theorem flatT_drop (l : List Tr) (k : Nat) : (flatT l).drop (k * 2) = flatT (l.drop k) := by
  induction l generalizing k with
  | nil => simp [flatT]
  | cons h r ih =>
    cases k with
    | zero => simp
    | succ k => rw [List.drop_succ_cons, flatT_cons, ← ih, show (k + 1) * 2 = k * 2 + 2 by omega]; simp [Tr.cs]
theorem flatT_get {l : List Tr} {k j : Nat} (hk : k < l.length) (hj : j < 2) : (flatT l)[k * 2 + j]? = (tn l k).cs[j]? := by
  have h := List.getElem?_drop (xs := flatT l) (i := k * 2) (j := j)
  rw [← h, flatT_drop, List.drop_eq_getElem_cons hk, flatT_cons, List.getElem?_append_left (by rw [length_csT]; exact hj), tn_lt hk]
theorem cs_oneT (x : Tr) : ∀ u ∈ x.cs, u.oneCell' = true := by
  intro u hu
  simp [Tr.cs] at hu
  rcases hu with rfl | rfl <;> rfl
theorem flatT_cells (l : List Tr) : ∀ u ∈ flatT l, u.oneCell' = true := by
  intro u hu
  obtain ⟨x, _, hx⟩ := List.mem_flatMap.1 hu
  exact cs_oneT x u hx
/-- where the numbers lie that one comes behind -/
def NumVAt (w : World) (x : Vr) : Prop := w.ownsRow 0 3 1 (.slice x.A x.ds.length x.c) x.ds.length (x.ds.map (Value.int .i64))
/-- a row of such as wait, in memory -/
structure RowV (w : World) (B : Nat) (A : Option Addr) (c : Nat) (l : List Vr) : Prop where
  row : w.ownsRow B 152 5 (.slice A l.length c) l.length (flatV l)
  ah : ∀ x ∈ l, NumVAt w x
theorem NumVAt.keep {w w' : World} {x : Vr} {F : Nat → Prop} (h : NumVAt w x) (hk : Kept w w' F) (hF : NI w F) : NumVAt w' x :=
  hk.row h fun b hb hf => by
    rcases h.2 with ⟨q, _⟩ | ⟨g, cap, cur, q, _, hg, _⟩
    · rw [q] at hb; simp [Value.ownBlock] at hb
    · rw [q] at hb
      have : g = b := by simpa [Value.ownBlock] using hb
      subst this
      exact hF g hf _ _ hg
theorem RowV.keep {w w' : World} {B : Nat} {A : Option Addr} {c : Nat} {l : List Vr} {F : Nat → Prop} (h : RowV w B A c l) (hk : Kept w w' F) (hF : NI w F) (hA : ∀ b, own A = some b → ¬ F b) : RowV w' B A c l :=
  ⟨hk.row h.row (fun b hb => hA b (by rw [← own_eq]; exact hb)), fun x hx => (h.ah x hx).keep hk hF⟩
theorem RowV.fresh {w w' : World} {B : Nat} {A : Option Addr} {c : Nat} {l : List Vr} (h : RowV w B A c l) (hb : Below w.heap.size w w') : RowV w' B A c l :=
  h.keep (F := fun _ => False) (Kept.fresh hb) (NI.none w) (fun _ _ q => q)
theorem RowV.drew {w : World} {B : Nat} {A : Option Addr} {c : Nat} {l : List Vr} (h : RowV w B A c l) : RowV w.drew B A c l := ⟨h.row, h.ah⟩
theorem RowV.nil (w : World) (B : Nat) : RowV w B none 0 [] := ⟨World.ownsRow_nil _ _ _ _, fun x hx => by cases hx⟩
theorem RowV.lt {w : World} {B : Nat} {A : Option Addr} {c : Nat} {l : List Vr} (h : RowV w B A c l) : ∀ b, own A = some b → B ≤ b ∧ b < w.heap.size := fun b hb => h.row.lt b (by rw [own_eq]; exact hb)
/-- the cells of the q-th that waits -/
theorem RowV.at_ {w : World} {B : Nat} {A : Option Addr} {c : Nat} {l : List Vr} (h : RowV w B A c l) {q : Nat} (hq : q < l.length) :
    ∃ ab, A = some ⟨ab, 0, none⟩ ∧ l.length ≤ c ∧ c ≤ maxLen ∧ ab < w.heap.size ∧ (∀ j, j < 5 → w.cell? ⟨ab, q * 5 + j, none⟩ = (vn l q).cs[j]?) ∧ ∀ j, w.frozen? ⟨ab, j, none⟩ = false := by
  obtain ⟨ab, cap, hv, hB, hb⟩ := h.row.form (by omega)
  obtain ⟨rfl, _, rfl⟩ := Value.slice.inj hv
  refine ⟨ab, rfl, ?_, ?_, hb, fun j hj => ?_, fun j => h.row.frozenAt j⟩
  · rcases h.row.2 with ⟨q, _⟩ | ⟨_, _, _, q, _, _, h1, _⟩
    · cases q
    · cases q; exact h1
  · rcases h.row.2 with ⟨q, _⟩ | ⟨_, _, _, q, _, _, _, h1, _⟩
    · cases q
    · cases q; exact h1
  · rw [h.row.cellAt (q * 5 + j) (by omega), flatV_get hq hj]
theorem RowV.cap {w : World} {B : Nat} {A : Option Addr} {c : Nat} {l : List Vr} (h : RowV w B A c l) : l.length ≤ c ∧ c ≤ maxLen := by
  rcases h.row.2 with ⟨q, h0⟩ | ⟨_, _, _, q, _, _, h1, h2, _⟩
  · obtain ⟨_, _, rfl⟩ := Value.slice.inj q
    exact ⟨by omega, Nat.zero_le _⟩
  · cases q; exact ⟨h1, h2⟩
theorem RowV.take {w : World} {B : Nat} {A : Option Addr} {c : Nat} {l : List Vr} (h : RowV w B A c l) (k : Nat) (hk : k ≤ l.length) : RowV w B A c (l.take k) := by
  refine ⟨?_, fun x hx => h.ah x (List.mem_of_mem_take hx)⟩
  rw [List.length_take, Nat.min_eq_left hk, ← flatV_take]
  refine ⟨by rw [List.length_take, length_flatV]; omega, ?_⟩
  rcases h.row.2 with ⟨q, h0⟩ | ⟨g, cap, cur, q, hB, hg, h1, h2, h3, h4⟩
  · obtain ⟨rfl, _, rfl⟩ := Value.slice.inj q
    exact .inl ⟨by rw [show k = 0 by omega], by omega⟩
  · obtain ⟨rfl, _, rfl⟩ := Value.slice.inj q
    refine .inr ⟨g, _, cur, rfl, hB, hg, by omega, h2, h3, ?_⟩
    rw [← h4, List.take_take]
    congr 1; omega
/-- where the numbers lie that one comes behind -/
def NumTAt (w : World) (x : Tr) : Prop := w.ownsRow 0 3 1 (.slice x.A x.set.length x.c) x.set.length (x.set.map (Value.int .i64))
/-- a row of such as wait, in memory -/
structure RowT (w : World) (B : Nat) (A : Option Addr) (c : Nat) (l : List Tr) : Prop where
  row : w.ownsRow B 157 2 (.slice A l.length c) l.length (flatT l)
  ah : ∀ x ∈ l, NumTAt w x
theorem NumTAt.keep {w w' : World} {x : Tr} {F : Nat → Prop} (h : NumTAt w x) (hk : Kept w w' F) (hF : NI w F) : NumTAt w' x :=
  hk.row h fun b hb hf => by
    rcases h.2 with ⟨q, _⟩ | ⟨g, cap, cur, q, _, hg, _⟩
    · rw [q] at hb; simp [Value.ownBlock] at hb
    · rw [q] at hb
      have : g = b := by simpa [Value.ownBlock] using hb
      subst this
      exact hF g hf _ _ hg
theorem RowT.keep {w w' : World} {B : Nat} {A : Option Addr} {c : Nat} {l : List Tr} {F : Nat → Prop} (h : RowT w B A c l) (hk : Kept w w' F) (hF : NI w F) (hA : ∀ b, own A = some b → ¬ F b) : RowT w' B A c l :=
  ⟨hk.row h.row (fun b hb => hA b (by rw [← own_eq]; exact hb)), fun x hx => (h.ah x hx).keep hk hF⟩
theorem RowT.fresh {w w' : World} {B : Nat} {A : Option Addr} {c : Nat} {l : List Tr} (h : RowT w B A c l) (hb : Below w.heap.size w w') : RowT w' B A c l :=
  h.keep (F := fun _ => False) (Kept.fresh hb) (NI.none w) (fun _ _ q => q)
theorem RowT.drew {w : World} {B : Nat} {A : Option Addr} {c : Nat} {l : List Tr} (h : RowT w B A c l) : RowT w.drew B A c l := ⟨h.row, h.ah⟩
theorem RowT.nil (w : World) (B : Nat) : RowT w B none 0 [] := ⟨World.ownsRow_nil _ _ _ _, fun x hx => by cases hx⟩
theorem RowT.lt {w : World} {B : Nat} {A : Option Addr} {c : Nat} {l : List Tr} (h : RowT w B A c l) : ∀ b, own A = some b → B ≤ b ∧ b < w.heap.size := fun b hb => h.row.lt b (by rw [own_eq]; exact hb)
/-- the cells of the q-th that waits -/
theorem RowT.at_ {w : World} {B : Nat} {A : Option Addr} {c : Nat} {l : List Tr} (h : RowT w B A c l) {q : Nat} (hq : q < l.length) :
    ∃ ab, A = some ⟨ab, 0, none⟩ ∧ l.length ≤ c ∧ c ≤ maxLen ∧ ab < w.heap.size ∧ (∀ j, j < 2 → w.cell? ⟨ab, q * 2 + j, none⟩ = (tn l q).cs[j]?) ∧ ∀ j, w.frozen? ⟨ab, j, none⟩ = false := by
  obtain ⟨ab, cap, hv, hB, hb⟩ := h.row.form (by omega)
  obtain ⟨rfl, _, rfl⟩ := Value.slice.inj hv
  refine ⟨ab, rfl, ?_, ?_, hb, fun j hj => ?_, fun j => h.row.frozenAt j⟩
  · rcases h.row.2 with ⟨q, _⟩ | ⟨_, _, _, q, _, _, h1, _⟩
    · cases q
    · cases q; exact h1
  · rcases h.row.2 with ⟨q, _⟩ | ⟨_, _, _, q, _, _, _, h1, _⟩
    · cases q
    · cases q; exact h1
  · rw [h.row.cellAt (q * 2 + j) (by omega), flatT_get hq hj]
theorem RowT.cap {w : World} {B : Nat} {A : Option Addr} {c : Nat} {l : List Tr} (h : RowT w B A c l) : l.length ≤ c ∧ c ≤ maxLen := by
  rcases h.row.2 with ⟨q, h0⟩ | ⟨_, _, _, q, _, _, h1, h2, _⟩
  · obtain ⟨_, _, rfl⟩ := Value.slice.inj q
    exact ⟨by omega, Nat.zero_le _⟩
  · cases q; exact ⟨h1, h2⟩
theorem RowT.take {w : World} {B : Nat} {A : Option Addr} {c : Nat} {l : List Tr} (h : RowT w B A c l) (k : Nat) (hk : k ≤ l.length) : RowT w B A c (l.take k) := by
  refine ⟨?_, fun x hx => h.ah x (List.mem_of_mem_take hx)⟩
  rw [List.length_take, Nat.min_eq_left hk, ← flatT_take]
  refine ⟨by rw [List.length_take, length_flatT]; omega, ?_⟩
  rcases h.row.2 with ⟨q, h0⟩ | ⟨g, cap, cur, q, hB, hg, h1, h2, h3, h4⟩
  · obtain ⟨rfl, _, rfl⟩ := Value.slice.inj q
    exact .inl ⟨by rw [show k = 0 by omega], by omega⟩
  · obtain ⟨rfl, _, rfl⟩ := Value.slice.inj q
    refine .inr ⟨g, _, cur, rfl, hB, hg, by omega, h2, h3, ?_⟩
    rw [← h4, List.take_take]
    congr 1; omega
theorem infoV : (Try.prog.info? 152).map (fun i => (i.zero, i.size, i.bytes)) = some (some (.agg #[.int .i64 0, .int .i64 0, .int .i64 0, .string ⟨#[]⟩, .slice none 0 0]), 5, 64) := by kernel_rfl
theorem infoT : (Try.prog.info? 157).map (fun i => (i.zero, i.size, i.bytes)) = some (some (.agg #[.int .i64 0, .slice none 0 0]), 2, 32) := by kernel_rfl
structure HeadQ (w : World) (g d : Nat) (vl vt : Value) (k : Int) : Prop where
  head : w.heap[g]? = some (.cells #[.pointer (some ⟨d, 0, none⟩), vl, vt, .int .i64 k] 133 (0, 0))
namespace HeadQ
variable {w w' : World} {g d : Nat} {vl vt : Value} {k : Int}
theorem lt (h : HeadQ w g d vl vt k) : g < w.heap.size := (Array.getElem?_eq_some_iff.1 h.head).1
theorem c0 (h : HeadQ w g d vl vt k) : w.cell? ⟨g, 0, none⟩ = some (.pointer (some ⟨d, 0, none⟩)) := cell_of_row w g 0 _ 133 (0, 0) h.head
theorem c1 (h : HeadQ w g d vl vt k) : w.cell? ⟨g, 1, none⟩ = some vl := cell_of_row w g 1 _ 133 (0, 0) h.head
theorem c2 (h : HeadQ w g d vl vt k) : w.cell? ⟨g, 2, none⟩ = some vt := cell_of_row w g 2 _ 133 (0, 0) h.head
theorem c3 (h : HeadQ w g d vl vt k) : w.cell? ⟨g, 3, none⟩ = some (.int .i64 k) := cell_of_row w g 3 _ 133 (0, 0) h.head
theorem free (h : HeadQ w g d vl vt k) (j : Nat) : w.frozen? ⟨g, j, none⟩ = false := frozen_of_row w g j _ 133 h.head
theorem keep {F : Nat → Prop} (h : HeadQ w g d vl vt k) (hk : Kept w w' F) (hF : ¬ F g) : HeadQ w' g d vl vt k := ⟨by rw [hk.block g h.lt hF]; exact h.head⟩
theorem fresh (h : HeadQ w g d vl vt k) (hb : Below w.heap.size w w') : HeadQ w' g d vl vt k := ⟨by rw [hb.block g h.lt]; exact h.head⟩
theorem ni (h : HeadQ w g d vl vt k) : NI w (fun b => b = g) := NI.of_type h.head (by decide)
end HeadQ
end Go.Proofs.Ytegacggkdjgdiaa

/- The document's engine: the whole of it, and what it is asked: waits, last, may. -/
set_option linter.unusedVariables false
set_option linter.unusedSimpArgs false
namespace Go.Proofs.Ytegacggkdjgdiaa
open Go.RowKit

theorem Ref.kinds {w : World} {g n c : Nat} {S : Nat → Bk} {F : Nat → Prop} (h : Ref w g n S c F) : ∀ b, F b → ∃ cs t fr, w.heap[b]? = some (.cells cs t fr) ∧ (t = 136 ∨ t = 148 ∨ t = 146) := by
  obtain ⟨gb, cp, A, C, h, rfl⟩ := h
  rintro b (rfl | rfl | ⟨j, hj, hb⟩)
  · exact ⟨_, _, _, h.hd, .inl rfl⟩
  · obtain ⟨cs, e⟩ := h.typed
    exact ⟨cs, _, _, e, .inr (.inl rfl)⟩
  · obtain ⟨cs, e⟩ := h.vtyped hj hb
    exact ⟨cs, _, _, e, .inr (.inr rfl)⟩
theorem Ref.not_type {w : World} {g n c : Nat} {S : Nat → Bk} {F : Nat → Prop} (h : Ref w g n S c F) {b : Nat} {cs : Array Value} {t : TypeId} {fr : Nat × Nat} (hb : w.heap[b]? = some (.cells cs t fr)) (h1 : t ≠ 136) (h2 : t ≠ 148) (h3 : t ≠ 146) : ¬ F b := by
  intro hf
  obtain ⟨cs', t', fr', e, ht⟩ := h.kinds b hf
  rw [hb] at e
  simp at e
  obtain ⟨_, rfl, _⟩ := e
  rcases ht with q | q | q
  · exact h1 q
  · exact h2 q
  · exact h3 q
theorem Ref.ni {w : World} {g n c : Nat} {S : Nat → Bk} {F : Nat → Prop} (h : Ref w g n S c F) : NI w F := fun b hf cs fr e => h.not_type e (by decide) (by decide) (by decide) hf
theorem RowV.typed {w : World} {B : Nat} {A : Option Addr} {c : Nat} {l : List Vr} (h : RowV w B A c l) {b : Nat} (hb : own A = some b) : ∃ cs, w.heap[b]? = some (.cells cs 152 (0, 0)) := by
  rcases h.row.2 with ⟨q, _⟩ | ⟨g, cap, cur, q, _, hg, _⟩
  · obtain ⟨rfl, _, _⟩ := Value.slice.inj q
    simp [own] at hb
  · obtain ⟨rfl, _, _⟩ := Value.slice.inj q
    simp [own] at hb
    subst hb
    exact ⟨_, hg⟩
theorem RowT.typed {w : World} {B : Nat} {A : Option Addr} {c : Nat} {l : List Tr} (h : RowT w B A c l) {b : Nat} (hb : own A = some b) : ∃ cs, w.heap[b]? = some (.cells cs 157 (0, 0)) := by
  rcases h.row.2 with ⟨q, _⟩ | ⟨g, cap, cur, q, _, hg, _⟩
  · obtain ⟨rfl, _, _⟩ := Value.slice.inj q
    simp [own] at hb
  · obtain ⟨rfl, _, _⟩ := Value.slice.inj q
    simp [own] at hb
    subst hb
    exact ⟨_, hg⟩
theorem RowV.ni {w : World} {B : Nat} {A : Option Addr} {c : Nat} {l : List Vr} (h : RowV w B A c l) : NI w (fun b => own A = some b) := fun b hb cs fr e => by
  obtain ⟨cs', q⟩ := h.typed hb
  rw [q] at e; simp at e
theorem RowT.ni {w : World} {B : Nat} {A : Option Addr} {c : Nat} {l : List Tr} (h : RowT w B A c l) : NI w (fun b => own A = some b) := fun b hb cs fr e => by
  obtain ⟨cs', q⟩ := h.typed hb
  rw [q] at e; simp at e
/-- the document's engine: its disk d of n blocks S, the next number k, those that wait l, what was written t -/
structure QAt (w : World) (g d n : Nat) (S : Nat → Bk) (cc : Nat) (k : Int) (l : List Vr) (t : List Tr) (A : Option Addr) (c : Nat) (A2 : Option Addr) (c2 : Nat) (Fd : Nat → Prop) : Prop where
  head : HeadQ w g d (.slice A l.length c) (.slice A2 t.length c2) k
  disk : Ref w d n S cc Fd
  row : RowV w 0 A c l
  tow : RowT w 0 A2 c2 t
def footQ (g : Nat) (A A2 : Option Addr) (Fd : Nat → Prop) : Nat → Prop := fun b => b = g ∨ own A = some b ∨ own A2 = some b ∨ Fd b
def Qe (w : World) (g n : Nat) (S : Nat → Bk) (cc : Nat) (k : Int) (l : List Vr) (t : List Tr) (F : Nat → Prop) : Prop := ∃ d A c A2 c2 Fd, QAt w g d n S cc k l t A c A2 c2 Fd ∧ F = footQ g A A2 Fd
namespace QAt
variable {w w' : World} {g d n cc c c2 : Nat} {S : Nat → Bk} {k : Int} {l : List Vr} {t : List Tr} {A A2 : Option Addr} {Fd : Nat → Prop}
theorem g_fd (h : QAt w g d n S cc k l t A c A2 c2 Fd) : ¬ Fd g := h.disk.not_type h.head.head (by decide) (by decide) (by decide)
theorem row_fd (h : QAt w g d n S cc k l t A c A2 c2 Fd) : ∀ b, own A = some b → ¬ Fd b := fun b hb => by
  obtain ⟨cs, e⟩ := h.row.typed hb
  exact h.disk.not_type e (by decide) (by decide) (by decide)
theorem tow_fd (h : QAt w g d n S cc k l t A c A2 c2 Fd) : ∀ b, own A2 = some b → ¬ Fd b := fun b hb => by
  obtain ⟨cs, e⟩ := h.tow.typed hb
  exact h.disk.not_type e (by decide) (by decide) (by decide)
theorem ni (h : QAt w g d n S cc k l t A c A2 c2 Fd) : NI w (footQ g A A2 Fd) := by
  rintro b (rfl | q | q | q)
  · exact h.head.ni b rfl
  · exact h.row.ni b q
  · exact h.tow.ni b q
  · exact h.disk.ni b q
theorem lt (h : QAt w g d n S cc k l t A c A2 c2 Fd) : ∀ b, footQ g A A2 Fd b → b < w.heap.size := by
  rintro b (rfl | q | q | q)
  · exact h.head.lt
  · exact (h.row.lt b q).2
  · exact (h.tow.lt b q).2
  · exact h.disk.lt b q
theorem keep {G : Nat → Prop} (h : QAt w g d n S cc k l t A c A2 c2 Fd) (hk : Kept w w' G) (hd : ∀ b, footQ g A A2 Fd b → ¬ G b) (hG : NI w G) : QAt w' g d n S cc k l t A c A2 c2 Fd :=
  ⟨h.head.keep hk (hd g (.inl rfl)), h.disk.keep hk (fun b q => hd b (.inr (.inr (.inr q)))), h.row.keep hk hG (fun b q => hd b (.inr (.inl q))), h.tow.keep hk hG (fun b q => hd b (.inr (.inr (.inl q))))⟩
theorem fresh (h : QAt w g d n S cc k l t A c A2 c2 Fd) (hb : Below w.heap.size w w') : QAt w' g d n S cc k l t A c A2 c2 Fd :=
  h.keep (G := fun _ => False) (Kept.fresh hb) (fun _ _ q => q) (NI.none w)
/-- its disk has turned -/
theorem disked {S' : Nat → Bk} {cc' : Nat} {Fd' : Nat → Prop} (h : QAt w g d n S cc k l t A c A2 c2 Fd) (hk : Kept w w' Fd) (hc : Ref w' d n S' cc' Fd') : QAt w' g d n S' cc' k l t A c A2 c2 Fd' :=
  ⟨h.head.keep hk h.g_fd, hc, h.row.keep hk h.disk.ni h.row_fd, h.tow.keep hk h.disk.ni h.tow_fd⟩
end QAt
theorem Qe.lt {w : World} {g n cc : Nat} {S : Nat → Bk} {k : Int} {l : List Vr} {t : List Tr} {F : Nat → Prop} (h : Qe w g n S cc k l t F) : ∀ b, F b → b < w.heap.size := by
  obtain ⟨d, A, c, A2, c2, Fd, h, rfl⟩ := h; exact h.lt
theorem Qe.ni {w : World} {g n cc : Nat} {S : Nat → Bk} {k : Int} {l : List Vr} {t : List Tr} {F : Nat → Prop} (h : Qe w g n S cc k l t F) : NI w F := by
  obtain ⟨d, A, c, A2, c2, Fd, h, rfl⟩ := h; exact h.ni
theorem Qe.keep {w w' : World} {g n cc : Nat} {S : Nat → Bk} {k : Int} {l : List Vr} {t : List Tr} {F G : Nat → Prop} (h : Qe w g n S cc k l t F) (hk : Kept w w' G) (hd : ∀ b, F b → ¬ G b) (hG : NI w G) : Qe w' g n S cc k l t F := by
  obtain ⟨d, A, c, A2, c2, Fd, h, rfl⟩ := h; exact ⟨d, A, c, A2, c2, Fd, h.keep hk hd hG, rfl⟩
theorem Qe.fresh {w w' : World} {g n cc : Nat} {S : Nat → Bk} {k : Int} {l : List Vr} {t : List Tr} {F : Nat → Prop} (h : Qe w g n S cc k l t F) (hb : Below w.heap.size w w') : Qe w' g n S cc k l t F :=
  h.keep (G := fun _ => False) (Kept.fresh hb) (fun _ _ q => q) (NI.none w)

/-- does a number wait? -/
def hasV (l : List Vr) (n : Int) : Bool := l.any fun x => x.num == n
theorem hasV_take {l : List Vr} {k : Nat} (hk : k < l.length) (n : Int) : hasV (l.take (k + 1)) n = (hasV (l.take k) n || (vn l k).num == n) := by
  unfold hasV; rw [take_vn hk]; simp
theorem hasV_mono {l : List Vr} {k : Nat} {n : Int} (h : hasV (l.take k) n = true) : hasV l n = true := by
  unfold hasV at h ⊢
  obtain ⟨x, hx, e⟩ := List.any_eq_true.1 h
  exact List.any_eq_true.2 ⟨x, List.mem_of_mem_take hx, e⟩
/-- what stood in the last Write of a block -/
def lastT : List Tr → Int → Option Tr
  | [], _ => none
  | x :: r, i => if x.b = i then some x else lastT r i
theorem lastT_skip {t : List Tr} {i : Int} {k : Nat} (h : ∀ j, j < k → (tn t j).b ≠ i) (hk : k ≤ t.length) : lastT t i = lastT (t.drop k) i := by
  induction t generalizing k with
  | nil => simp
  | cons x r ih =>
    cases k with
    | zero => simp
    | succ k =>
      have h0 := h 0 (by omega)
      have e0 : tn (x :: r) 0 = x := by simp [tn]
      rw [e0] at h0
      rw [List.drop_succ_cons, ← ih (fun j hj => by have := h (j + 1) (by omega); simpa [tn] using this) (by simpa using hk)]
      simp only [lastT, if_neg h0]
section
variable {w : World} {g d n cc c c2 : Nat} {S : Nat → Bk} {k : Int} {l : List Vr} {t : List Tr} {A A2 : Option Addr} {Fd : Nat → Prop}
set_option maxRecDepth 100000 in
set_option maxHeartbeats 1000000 in
theorem qwaits_any (h : QAt w g d n S cc k l t A c A2 c2 Fd) (hl : l.length ≤ 1000) (x : Int) : Calls Try.prog 114 #[.pointer (some ⟨g, 0, none⟩), .int .i64 x] w fun e w' => e = .returned (.bool (hasV l x)) ∧ w = w' := by
  have h1 := h.head.c1
  have hgl := h.head.lt
  have HR := Lib.hid h.row
  clear h
  go_enter Try.func114, Try.ntmps114
  go_wp2
  go_loop [5] (fun q => ∃ j : Nat, j ≤ l.length ∧ q = .int .i64 j ∧ hasV (l.take j) x = false) (fun q => l.length - (intOf q).toNat)
  case atStart => exact ⟨0, Nat.zero_le _, rfl, by simp [hasV]⟩
  case round =>
    obtain ⟨j, hj, rfl, hno⟩ := hrel
    have HNo := Lib.hid hno
    clear hno
    by_cases hlt : j < l.length
    · have hlti : (j : Int) < (l.length : Int) := by omega
      have hj0 : (0 : Int) ≤ (j : Int) := by omega
      obtain ⟨ab, hA, h3, h4, hb, hcs, _⟩ := HR.out.at_ hlt
      have Hst := Lib.hid (hasV_take hlt x)
      subst hA
      unfold maxLen at h4
      have c0 := hcs 0 (by omega)
      clear hcs
      have HM : Hid ((vn l j).num = x → hasV l x = true) := fun e => hasV_mono (k := j + 1) (by rw [Hst.out, e]; simp)
      obtain ⟨y, hy⟩ : ∃ y, y = (vn l j).num := ⟨_, rfl⟩
      simp [Vr.cs] at c0
      rw [← hy] at c0 Hst HM
      clear hy
      by_cases e : y = x
      · have hyes := Lib.hid (HM.out e)
        subst e
        clear Hst HM HNo
        go_wp2
        go_ret
        exact ⟨by rw [hyes.out]; rfl, rfl⟩
      · have hno2 : Hid (hasV (l.take (j + 1)) x = false) := by unfold Hid; rw [Hst.out, HNo.out]; simp [e]
        clear Hst HM HNo
        go_wp2
        go_roundw
        case rel => exact ⟨j + 1, by omega, by go_num, hno2.out⟩
        case measure => simp [intOf]; omega
    · obtain rfl : j = l.length := by omega
      have hlti : ¬ (l.length : Int) < (l.length : Int) := by omega
      rw [List.take_length] at HNo
      go_wp2
      go_ret
      exact ⟨by rw [HNo.out]; rfl, rfl⟩
theorem qmay_any (h : QAt w g d n S cc k l t A c A2 c2 Fd) (i : Int) : Calls Try.prog 93 #[.pointer (some ⟨g, 0, none⟩), .int .i64 i] w fun e w' => e = .returned (.int .i64 (if 0 ≤ i ∧ i < n then 0 else 2)) ∧ w = w' := by
  have h0 := h.head.c0
  have hgl := h.head.lt
  have HS := Lib.hid (rsize h.disk)
  clear h
  by_cases hi0 : i < 0
  · rw [if_neg (by omega)]
    go_enter Try.func93, Try.ntmps93
    go_wp2
    go_ret
    exact ⟨rfl, rfl⟩
  · by_cases hi : i < n
    · rw [if_pos (by omega)]
      have hi' : ¬ (n : Int) ≤ i := by omega
      go_enter Try.func93, Try.ntmps93
      go_wp2_with (refine HS.out.mono ?_; rintro e w' ⟨rfl, rfl⟩)
      go_ret
      exact ⟨rfl, rfl⟩
    · rw [if_neg (by omega)]
      have hi' : (n : Int) ≤ i := by omega
      go_enter Try.func93, Try.ntmps93
      go_wp2_with (refine HS.out.mono ?_; rintro e w' ⟨rfl, rfl⟩)
      go_ret
      exact ⟨rfl, rfl⟩
end
end Go.Proofs.Ytegacggkdjgdiaa

/- The document's engine: Ready. -/
set_option linter.unusedVariables false
set_option linter.unusedSimpArgs false
namespace Go.Proofs.Ytegacggkdjgdiaa
open Go.RowKit

/-- may these come, when those of out came? -/
def okD (l : List Vr) (out ds : List Int) : Bool := ds.all fun d => !hasV l d || decide (d ∈ out)
def stepV (l : List Vr) (i : Int) (out : List Int) (x : Vr) : List Int := if (decide (x.p.b = i) && okD l out x.ds) = true then out ++ [x.num] else out
def readyK (l : List Vr) (i : Int) (j : Nat) : List Int := (l.take j).foldl (stepV l i) []
/-- what Ready answers -/
def readyV (l : List Vr) (i : Int) : List Int := l.foldl (stepV l i) []
theorem readyK_step {l : List Vr} {j : Nat} (h : j < l.length) (i : Int) : readyK l i (j + 1) = stepV l i (readyK l i j) (vn l j) := by
  unfold readyK; rw [take_vn h, List.foldl_append]; rfl
theorem readyK_all (l : List Vr) (i : Int) : readyK l i l.length = readyV l i := by unfold readyK readyV; rw [List.take_length]
theorem readyK_len (l : List Vr) (i : Int) (j : Nat) : (readyK l i j).length ≤ j := by
  induction j with
  | zero => simp [readyK]
  | succ j ih =>
    by_cases h : j < l.length
    · rw [readyK_step h]; unfold stepV; split
      · simp; omega
      · omega
    · have : readyK l i (j + 1) = readyK l i j := by unfold readyK; rw [List.take_of_length_le (by omega), List.take_of_length_le (by omega)]
      rw [this]; omega
theorem okD_take {l : List Vr} {out ds : List Int} {m : Nat} (h : m < ds.length) : okD l out (ds.take (m + 1)) = (okD l out (ds.take m) && (!hasV l ds[m] || decide (ds[m] ∈ out))) := by
  unfold okD; rw [List.take_succ_eq_append_getElem h, List.all_append]; simp
section
variable {w : World} {g d n cc c c2 : Nat} {S : Nat → Bk} {k : Int} {l : List Vr} {t : List Tr} {A A2 : Option Addr} {Fd : Nat → Prop}
set_option maxRecDepth 100000 in
set_option maxHeartbeats 2000000 in
theorem qready_any (h : QAt w g d n S cc k l t A c A2 c2 Fd) (hl : l.length ≤ 1000) (hds : ∀ x ∈ l, x.ds.length ≤ 100000) (i : Int) (hi : 0 ≤ i ∧ i < n) :
    Calls Try.prog 94 #[.pointer (some ⟨g, 0, none⟩), .int .i64 i] w (Says w (readyV l i)) := by
  have h1 := h.head.c1
  have hgl := h.head.lt
  have HQ := Lib.hid h
  have HM := Lib.hid (qmay_any h i)
  rw [if_pos hi] at HM
  have HD := Lib.hid hds
  obtain ⟨i0, hi0, hz0, hz1, hz2⟩ := info_parts infoI
  clear h hds hi
  go_enter Try.func94, Try.ntmps94
  go_wp2_with (go_at_call 93; refine HM.out.mono ?_; rintro e w' ⟨rfl, rfl⟩)
  go_loopw [5, 6] (fun s q wr => ∃ (j m : Nat) (A' : Option Addr) (c' : Nat), j ≤ l.length ∧ q = .int .i64 j ∧ s = .slice A' m c' ∧ (readyK l i j).length = m ∧ Hid (wr.ownsRow w.heap.size 3 1 (.slice A' m c') m (intsI (readyK l i j))) ∧ Hid (Below w.heap.size w wr)) (fun _ q _ => l.length - (intOf q).toNat)
  case atStart => exact ⟨0, 0, none, 0, Nat.zero_le _, rfl, rfl, rfl, World.ownsRow_nil _ _ _ _, Below.refl _ _⟩
  case round =>
    obtain ⟨j, m, A', c', hj, rfl, rfl, hm, hrow, hB⟩ := hrel
    rename World => wr
    have hsz := hB.out.size
    have hml : m ≤ j := by rw [← hm]; exact readyK_len l i j
    have HQr := Lib.hid (HQ.out.fresh hB.out)
    have h1r := HQr.out.head.c1
    have hglr := HQr.out.head.lt
    by_cases hlt : j < l.length
    · have hlti : (j : Int) < (l.length : Int) := by omega
      have hj0 : (0 : Int) ≤ (j : Int) := by omega
      obtain ⟨ab, hA, h3, h4, hb, hcs, _⟩ := HQr.out.row.at_ hlt
      have hah := HQr.out.row.ah _ (vn_mem hlt)
      have hdl := HD.out _ (vn_mem hlt)
      have Hst := Lib.hid (readyK_step hlt i)
      subst hA
      unfold maxLen at h4
      have d0 := hcs 0 (by omega)
      have d1 := hcs 1 (by omega)
      have d2 := hcs 2 (by omega)
      have d3 := hcs 3 (by omega)
      have d4 := hcs 4 (by omega)
      clear hcs
      obtain ⟨x, hx⟩ : ∃ x, x = vn l j := ⟨_, rfl⟩
      rw [← hx] at d0 d1 d2 d3 d4 Hst hah hdl
      clear hx
      obtain ⟨num, ⟨b, o, s⟩, ds, a4, c4⟩ := x
      simp [Vr.cs] at d0 d1 d2 d3 d4
      obtain ⟨out, hout⟩ : ∃ out, out = readyK l i j := ⟨_, rfl⟩
      rw [← hout] at hrow Hst hm
      have Hm := Lib.hid hm
      have HDr : Hid (∀ W, Below wr.heap.size wr W → W.ownsRow 0 3 1 (.slice a4 ds.length c4) ds.length (ds.map (Value.int .i64))) := fun W hW => (Kept.fresh (S := fun _ => False) hW).row hah (fun _ _ q => q)
      clear hout hm hah
      dsimp only at hdl
      have HBa : Hid (Below wr.heap.size wr (wr.alloc (.cells #[.int .i64 num, .int .i64 b, .int .i64 o, .string s, .slice a4 ds.length c4] 152))) := (Below.refl _ _).alloc (Nat.le_refl _) _
      have HW := Lib.hid (fun y => qwaits_any (HQr.out.fresh HBa.out) hl y)
      have HH : Hid (∀ y, Calls Try.prog 24 #[.slice A' m c', .int .i64 y] (wr.alloc (.cells #[.int .i64 num, .int .i64 b, .int .i64 o, .string s, .slice a4 ds.length c4] 152)) fun e w' => e = .returned (.bool (decide (y ∈ out))) ∧ (wr.alloc (.cells #[.int .i64 num, .int .i64 b, .int .i64 o, .string s, .slice a4 ds.length c4] 152)) = w') := fun y =>
        Gr.has_any A' c' m out y _ _ Hm.out.symm (by rw [Hm.out]; omega) (grow_row Hm.out (hrow.out.alloc _))
      go_wp2
      obtain ⟨tb0, htb0⟩ : ∃ tb, tb = decide (b = i) := ⟨_, rfl⟩
      have HT0 := Lib.hid htb0
      go_loop [8, 9] (fun v q => ∃ m2 : Nat, m2 ≤ ds.length ∧ q = .int .i64 m2 ∧ v = .bool (tb0 && okD l out (ds.take m2))) (fun _ q => ds.length - (intOf q).toNat)
      case atStart => exact ⟨0, Nat.zero_le _, rfl, by rw [HT0.out]; simp [okD]; rfl⟩
      case round =>
        obtain ⟨m2, hm2, rfl, rfl⟩ := hrel
        clear htb0
        by_cases hml2 : m2 < ds.length
        · have hmi : (m2 : Int) < (ds.length : Int) := by omega
          have hm0 : (0 : Int) ≤ (m2 : Int) := by omega
          have hrw := HDr.out _ HBa.out
          obtain ⟨eb, ecap, hv, _, heb⟩ := hrw.form (by omega)
          obtain ⟨rfl, _, rfl⟩ := Value.slice.inj hv
          have hcy := hrw.cellAt m2 (by omega)
          have Hst2 := Lib.hid (okD_take (l := l) (out := out) hml2)
          rw [List.getElem?_map, List.getElem?_eq_getElem hml2] at hcy
          obtain ⟨y, hy⟩ : ∃ y, y = ds[m2] := ⟨_, rfl⟩
          rw [← hy] at hcy Hst2
          simp only [Option.map_some] at hcy
          have hWy := Lib.hid (HW.out y)
          have hHy := Lib.hid (HH.out y)
          obtain ⟨t2, ht2⟩ : ∃ t2, t2 = hasV l y := ⟨_, rfl⟩
          rw [← ht2] at hWy Hst2
          obtain ⟨t3, ht3⟩ : ∃ t3, t3 = decide (y ∈ out) := ⟨_, rfl⟩
          rw [← ht3] at hHy Hst2
          obtain ⟨t4, ht4⟩ : ∃ t4, t4 = (tb0 && okD l out (ds.take m2)) := ⟨_, rfl⟩
          have Hst3 : Hid ((tb0 && okD l out (ds.take (m2 + 1))) = (t4 && (!t2 || t3))) := by unfold Hid; rw [Hst2.out, ht4, Bool.and_assoc]
          rw [← ht4]
          clear hrw hv hy ht2 ht3 ht4 Hst2
          cases t4 with
          | false =>
            go_wp2
            go_roundw
            case rel => exact ⟨m2 + 1, by omega, by go_num, by rw [Hst3.out]; simp⟩
            case measure => simp [intOf]; omega
          | true =>
            cases t2 with
            | false =>
              go_wp2_with (go_at_call 114; refine hWy.out.mono ?_; rintro e w' ⟨rfl, rfl⟩)
              go_roundw
              case rel => exact ⟨m2 + 1, by omega, by go_num, by rw [Hst3.out]; simp⟩
              case measure => simp [intOf]; omega
            | true =>
              go_wp2_with (first
                | (go_at_call 114; refine hWy.out.mono ?_; rintro e w' ⟨rfl, rfl⟩)
                | (go_at_call 24; refine hHy.out.mono ?_; rintro e w' ⟨rfl, rfl⟩))
              go_roundw
              case rel => exact ⟨m2 + 1, by omega, by go_num, by rw [Hst3.out]; simp⟩
              case measure => simp [intOf]; omega
        · obtain rfl : m2 = ds.length := by omega
          have hmi : ¬ (ds.length : Int) < (ds.length : Int) := by omega
          rw [List.take_length]
          have Hst4 : Hid (readyK l i (j + 1) = if (tb0 && okD l out ds) = true then out ++ [num] else out) := by unfold Hid; rw [Hst.out, HT0.out]; rfl
          generalize (tb0 && okD l out ds) = t4 at *
          cases t4 with
          | false =>
            have hst : Hid (readyK l i (j + 1) = out) := by unfold Hid; rw [Hst4.out]; rfl
            clear Hst Hst4
            go_wp2
            go_roundw
            case rel => exact ⟨j + 1, m, A', c', by omega, by go_num, rfl, by rw [hst.out]; exact Hm.out, by rw [hst.out]; exact hrow.out.alloc _, hB.out.alloc hsz _⟩
            case measure => simp [intOf]; omega
          | true =>
            have hst : Hid (readyK l i (j + 1) = out ++ [num]) := by unfold Hid; rw [Hst4.out]; rfl
            have Hys : Hid (intsI out ++ [.int .i64 num] = intsI (out ++ [num])) := by simp [intsI, Hid]
            have Hold : Hid (∀ j, (Value.slice A' m c').ownBlock = some j → w.heap.size ≤ j) := fun j e => (hrow.out.lt j e).1
            clear Hst Hst4
            go_wp2_with (at_builtin; go_loud (refine wpList_append_src rfl (.tmp 63) (.tmp 66) 24 rfl w.heap.size 3 i0 _ 1 8 Try.underlying24 hi0 hz0 hz1 hz2 rfl (by decide) (.slice A' m c') m (intsI out) rfl ((hrow.out.alloc _).alloc _) (some ⟨wr.heap.size + 1, 0, none⟩) 1 1 [.int .i64 num] rfl rfl (fun ad e j u hu => by cases e; have := World.news_of_block (heap_alloc_new (wr.alloc (.cells #[.int .i64 num, .int .i64 b, .int .i64 o, .string s, .slice a4 ds.length c4] 152)) (.cells #[.int .i64 num] 3)) j u hu; simpa using this) (fun e => by cases e) (by intro u hu; rw [List.mem_singleton] at hu; rw [hu]; rfl) (by unfold maxLen; omega) (by omega) (by simp; omega) (m + 1) rfl ?_; intro A3 c3 w2 ho2 hg2 hor2; have HO2 := Lib.hid ho2; have HG2 := Lib.hid hg2; clear ho2 hg2 hor2))
            go_roundw
            case rel =>
              refine ⟨j + 1, m + 1, A3, c3, by omega, by go_num, rfl, by rw [hst.out, List.length_append, Hm.out]; rfl, ?_, ((hB.out.alloc hsz _).alloc (by simp; omega) _).grown HG2.out (by simp; omega) Hold.out⟩
              have := HO2.out
              rw [Hys.out] at this
              rw [hst.out]
              exact this
            case measure => simp [intOf]; omega
    · obtain rfl : j = l.length := by omega
      have hlti : ¬ (l.length : Int) < (l.length : Int) := by omega
      rw [readyK_all] at hrow hm
      go_wp2
      go_ret
      unfold Says
      rw [hm]
      exact ⟨A', c', rfl, hrow.out, hB.out⟩
end
end Go.Proofs.Ytegacggkdjgdiaa

/- The document's engine: last. -/
set_option linter.unusedVariables false
set_option linter.unusedSimpArgs false
namespace Go.Proofs.Ytegacggkdjgdiaa
open Go.RowKit

def lastV (t : List Tr) (i : Int) : Value := match lastT t i with | none => .slice none 0 0 | some x => .slice x.A x.set.length x.c
theorem lastT_at {t : List Tr} {i : Int} {k : Nat} (h : ∀ j, j < k → (tn t j).b ≠ i) (hk : k < t.length) (e : (tn t k).b = i) : lastT t i = some (tn t k) := by
  rw [lastT_skip h (by omega), List.drop_eq_getElem_cons hk]
  unfold lastT
  rw [← tn_lt hk, if_pos e]
theorem lastT_none {t : List Tr} {i : Int} (h : ∀ j, j < t.length → (tn t j).b ≠ i) : lastT t i = none := by
  rw [lastT_skip h (Nat.le_refl _), List.drop_length]; rfl
section
variable {w : World} {g d n cc c c2 : Nat} {S : Nat → Bk} {k : Int} {l : List Vr} {t : List Tr} {A A2 : Option Addr} {Fd : Nat → Prop}
set_option maxRecDepth 100000 in
set_option maxHeartbeats 1000000 in
theorem qlast_any (h : QAt w g d n S cc k l t A c A2 c2 Fd) (hl : t.length ≤ 1000) (x : Int) : Calls Try.prog 96 #[.pointer (some ⟨g, 0, none⟩), .int .i64 x] w fun e w' => e = .returned (lastV t x) ∧ w = w' := by
  have h1 := h.head.c2
  have hgl := h.head.lt
  have HR := Lib.hid h.tow
  clear h
  go_enter Try.func96, Try.ntmps96
  go_wp2
  go_loop [5] (fun q => ∃ j : Nat, j ≤ t.length ∧ q = .int .i64 j ∧ Hid (∀ q, q < j → (tn t q).b ≠ x)) (fun q => t.length - (intOf q).toNat)
  case atStart => exact ⟨0, Nat.zero_le _, rfl, fun q hq => absurd hq (Nat.not_lt_zero _)⟩
  case round =>
    obtain ⟨j, hj, rfl, HNo⟩ := hrel
    by_cases hlt : j < t.length
    · have hlti : (j : Int) < (t.length : Int) := by omega
      have hj0 : (0 : Int) ≤ (j : Int) := by omega
      obtain ⟨ab, hA, h3, h4, hb, hcs, _⟩ := HR.out.at_ hlt
      subst hA
      unfold maxLen at h4
      have c0 := hcs 0 (by omega)
      have c1 := hcs 1 (by omega)
      clear hcs
      have HM : Hid ((tn t j).b = x → lastT t x = some (tn t j)) := fun e => lastT_at HNo.out hlt e
      have HN2 : Hid ((tn t j).b ≠ x → ∀ q, q < j + 1 → (tn t q).b ≠ x) := fun e q hq => by
        rcases Nat.lt_or_ge q j with h | h
        · exact HNo.out q h
        · have : q = j := by omega
          subst this; exact e
      obtain ⟨y, hy⟩ : ∃ y, y = tn t j := ⟨_, rfl⟩
      rw [← hy] at c0 c1 HM HN2
      clear hy HNo
      obtain ⟨yb, ys, yA, yc⟩ := y
      simp [Tr.cs] at c0 c1
      by_cases e : yb = x
      · have hyes : Hid (lastV t x = .slice yA ys.length yc) := by unfold Hid lastV; rw [HM.out e]
        subst e
        clear HM HN2
        go_wp2
        go_ret
        exact ⟨by rw [hyes.out]; rfl, rfl⟩
      · have hno2 := Lib.hid (HN2.out e)
        clear HM HN2
        go_wp2
        go_roundw
        case rel => exact ⟨j + 1, by omega, by go_num, hno2.out⟩
        case measure => simp [intOf]; omega
    · obtain rfl : j = t.length := by omega
      have hlti : ¬ (t.length : Int) < (t.length : Int) := by omega
      have hno : Hid (lastV t x = .slice none 0 0) := by unfold Hid lastV; rw [lastT_none HNo.out]
      clear HNo
      go_wp2
      go_ret
      exact ⟨by rw [hno.out]; rfl, rfl⟩
end
end Go.Proofs.Ytegacggkdjgdiaa

/- The document's engine: what a block is with some that wait. -/
set_option linter.unusedVariables false
set_option linter.unusedSimpArgs false
namespace Go.Proofs.Ytegacggkdjgdiaa
open Go.RowKit

def selV (i : Int) (all : Bool) (set : List Int) (x : Vr) : Bool := decide (x.p.b = i) && (all || decide (x.num ∈ set))
def putS (i : Int) (all : Bool) (set : List Int) (l : List Vr) (b : List Int) : List Int := l.foldl (fun cur x => if selV i all set x = true then put cur x.p else cur) b
def putSK (i : Int) (all : Bool) (set : List Int) (l : List Vr) (b : List Int) (j : Nat) : List Int := putS i all set (l.take j) b
theorem putSK_step {l : List Vr} {j : Nat} (h : j < l.length) (i : Int) (all : Bool) (set b : List Int) : putSK i all set l b (j + 1) = if selV i all set (vn l j) = true then put (putSK i all set l b j) (vn l j).p else putSK i all set l b j := by
  unfold putSK putS; rw [take_vn h, List.foldl_append]; rfl
theorem putSK_all (i : Int) (all : Bool) (set : List Int) (l : List Vr) (b : List Int) : putSK i all set l b l.length = putS i all set l b := by unfold putSK; rw [List.take_length]
section
variable {w : World} {g d n cc c c2 : Nat} {S : Nat → Bk} {k : Int} {l : List Vr} {t : List Tr} {A A2 : Option Addr} {Fd : Nat → Prop}
set_option maxRecDepth 100000 in
set_option maxHeartbeats 2000000 in
theorem qbytes_any (h : QAt w g d n S cc k l t A c A2 c2 Fd) (hl : l.length ≤ 1000) (hr : ∀ x ∈ l, x.p.right = true) {i : Nat} (hi : i < n) (all : Bool) (P : Option Addr) (pc pn : Nat) (set : List Int) (hpn : pn = set.length) (hpl : set.length ≤ 100000) (hP : Gr.Ints w w.heap.size P set) :
    Calls Try.prog 97 #[.pointer (some ⟨g, 0, none⟩), .int .i64 (i : Int), .bool all, .slice P pn pc] w fun e w' => Below w.heap.size w w' ∧ ∃ gb c', e = .returned (.slice (some ⟨gb, 0, none⟩) 32 c') ∧ w.heap.size ≤ gb ∧ 32 ≤ c' ∧ c' ≤ maxLen ∧ Bts w' w'.heap.size (some ⟨gb, 0, none⟩) (putS i all set l (S i).s) ∧ (putS i all set l (S i).s).length = 32 := by
  subst hpn
  have h0 := h.head.c0
  have hgl := h.head.lt
  have HQ := Lib.hid h
  have HL := rlast h.disk hi
  have HP := Lib.hid hP
  have HR := Lib.hid hr
  have hok : OkS (S i).s := by obtain ⟨gb, cp, A, C, hd, _⟩ := h.disk; exact (hd.ok i hi).1
  have hsl := hok.1
  have HAll := Lib.hid hok.2
  obtain ⟨s0, hs0⟩ : ∃ s0, s0 = (S i).s := ⟨_, rfl⟩
  rw [← hs0] at HL hsl HAll ⊢
  have hsz2 : Hid ((Try.prog.info? 146).map (·.size) = some (bytesV s0).toArray.size) := by unfold Hid; rw [List.size_toArray, length_bytesV, hsl]; exact size53
  have hone : Hid ((bytesV s0).toArray.all (·.oneCell') = true) := all_oneCell_toArray (bytesV_one _)
  have hold : Hid (32 = (bytesV s0).toArray.size) := by unfold Hid; rw [List.size_toArray, length_bytesV, hsl]
  have HLs := Lib.hid HL
  unfold secV at HLs
  obtain ⟨R0, hR0⟩ : ∃ R0, R0 = (bytesV s0).toArray := ⟨_, rfl⟩
  rw [← hR0] at HLs hsz2 hone hold
  have HR0 := Lib.hid hR0
  have Hsl := Lib.hid hsl
  clear HL hok hs0 hR0 h hP hr hsl
  go_enter Try.func97, Try.ntmps97
  go_wp2_with (first
    | (go_at_call 115; refine HLs.out.mono ?_; rintro e w1 ⟨rfl, hb1⟩; have HB1 := Lib.hid hb1; clear hb1)
    | (refine wpList_store_row rfl 146 (.tmp 9) (.tmp 20) rfl w1.heap.size R0 rfl rfl 146 _ (heap_alloc_new w1 _) hsz2.out hold.out hone.out ?_; generalize hW : World.setRow (w1.alloc (Obj.cells _ 146)) _ R0 = w2; have HB2 : Hid (Below w.heap.size w w2) := (by rw [← hW]; exact HB1.out.trans ((below_setRow (below_alloc1 w1 _) (Nat.le_refl _) _).mono HB1.out.size)); have hfin : Hid (w2.heap[w1.heap.size]? = some (.cells R0 146 (0, 0))) := (by rw [← hW]; exact setRow_heap _ _ _ _ _ _ (heap_alloc_new w1 _)); have Hl12 : Hid (w1.heap.size < w2.heap.size) := (by rw [← hW]; simp [Hid]); clear hW)
    | (at_builtin; go_loud (refine wpList_append_bytes rfl (.tmp 22) (.tmp 23) rfl w2.heap.size _ 0 [] rfl (own_empty w2) w2.heap.size (some ⟨w1.heap.size, 0, none⟩) s0 32 32 Hsl.out.symm rfl ((row_bts (t := 146) (by unfold BlkIs; rw [← HR0.out]; exact hfin.out) HAll.out Hl12.out).below (below_alloc1 w2 _)) (by omega) (by simp) ?_; intro v3 w3 ho3 hg3; obtain ⟨ga, ca, rfl, ha1, ha2⟩ := ho3.form (by omega); have HB3 := Lib.hid (HB2.out.trans ((below_copy hg3).mono HB2.out.size)); have HO3 := Lib.hid ho3; clear ho3 hg3)))
  have HS0 : Hid (w.heap.size ≤ ga ∧ 32 ≤ ca ∧ ca ≤ maxLen ∧ Bts w3 w3.heap.size (some ⟨ga, 0, none⟩) (putSK i all set l s0 0) ∧ (putSK i all set l s0 0).length = 32) := by
    have ho := HO3.out
    simp only [Nat.zero_add, List.nil_append] at ho
    have hi := info_own ho HAll.out
    have hcap : 32 ≤ ca ∧ ca ≤ maxLen := by
      rcases ho.2 with ⟨e, _⟩ | ⟨g', cap', cur, e, _, _, h1, h2, _⟩
      · cases e
      · injection e with e1 e2 e3; subst e3; exact ⟨h1, h2⟩
    exact ⟨Nat.le_trans HB2.out.size ha1, hcap.1, hcap.2, hi.1, Hsl.out⟩
  clear HO3 ha2
  go_loopw [11, 12] (fun v q wr => ∃ (j gA c' : Nat), j ≤ l.length ∧ q = .int .i64 j ∧ v = .slice (some ⟨gA, 0, none⟩) 32 c' ∧ Hid (w.heap.size ≤ gA ∧ 32 ≤ c' ∧ c' ≤ maxLen ∧ Bts wr wr.heap.size (some ⟨gA, 0, none⟩) (putSK i all set l s0 j) ∧ (putSK i all set l s0 j).length = 32) ∧ Hid (Below w.heap.size w wr)) (fun _ q _ => l.length - (intOf q).toNat)
  case atStart => exact ⟨0, _, _, Nat.zero_le _, rfl, rfl, HS0.out, HB3.out⟩
  case round =>
    obtain ⟨j, gA, c', hj, rfl, rfl, HS, hB⟩ := hrel
    rename World => wr
    have HQr := Lib.hid (HQ.out.fresh hB.out)
    have h1r := HQr.out.head.c1
    have hglr := HQr.out.head.lt
    have hsz := hB.out.size
    by_cases hlt : j < l.length
    · have hlti : (j : Int) < (l.length : Int) := by omega
      have hj0 : (0 : Int) ≤ (j : Int) := by omega
      obtain ⟨ab, hA, h3, h4, hb, hcs, _⟩ := HQr.out.row.at_ hlt
      have hxr := HR.out _ (vn_mem hlt)
      have Hst := Lib.hid (putSK_step hlt i all set s0)
      subst hA
      unfold maxLen at h4
      have d0 := hcs 0 (by omega)
      have d1 := hcs 1 (by omega)
      have d2 := hcs 2 (by omega)
      have d3 := hcs 3 (by omega)
      clear hcs
      obtain ⟨x, hx⟩ : ∃ x, x = vn l j := ⟨_, rfl⟩
      rw [← hx] at d0 d1 d2 d3 Hst hxr
      clear hx
      obtain ⟨num, ⟨b, o, s⟩, ds, a4, c4⟩ := x
      simp [Vr.cs] at d0 d1 d2 d3
      obtain ⟨cur, hcur⟩ : ∃ cur, cur = putSK i all set l s0 j := ⟨_, rfl⟩
      rw [← hcur] at HS Hst
      clear hcur
      dsimp only at hxr
      have HA := Lib.hid (ref_yes (some ⟨gA, 0, none⟩) c' cur ⟨b, o, s⟩ wr HS.out.2.2.2.1 HS.out.2.2.2.2 hxr)
      have HH := Lib.hid (Gr.has_any P pc set.length set num wr w.heap.size rfl hpl (HP.out.keep (fun p hp => hB.out.cell hp)))
      unfold Pt.v at HA
      simp only [Pt.cs] at HA
      obtain ⟨tm, htm⟩ : ∃ tm, tm = decide (num ∈ set) := ⟨_, rfl⟩
      have Hs2 : Hid (putSK i all set l s0 (j + 1) = if (decide (b = (i : Int)) && (all || tm)) = true then put cur ⟨b, o, s⟩ else cur) := by unfold Hid; rw [Hst.out, htm]; rfl
      rw [← htm] at HH
      clear htm hxr Hst
      by_cases hbi : b = (i : Int)
      · subst hbi
        cases all with
        | true =>
          have Hs3 : Hid (putSK i true set l s0 (j + 1) = put cur ⟨(i : Int), o, s⟩) := by unfold Hid; rw [Hs2.out]; simp
          clear Hs2
          go_wp2_with (go_at_call 116; refine HA.out.mono ?_; rintro e w4 ⟨hb4, A4, c4', rfl, k0, k1, k2, k3, k4⟩; have HB4 := Lib.hid (hB.out.trans (hb4.mono hsz)); have HK4 := Lib.hid (And.intro (Nat.le_trans hsz k0) (And.intro k1 (And.intro k2 (And.intro k3 k4)))); clear hb4 k0 k1 k2 k3 k4)
          go_roundw
          case rel => exact ⟨j + 1, A4, c4', by omega, by go_num, rfl, by rw [Hs3.out]; exact HK4.out, HB4.out⟩
          case measure => simp [intOf]; omega
        | false =>
          cases tm with
          | true =>
            have Hs3 : Hid (putSK i false set l s0 (j + 1) = put cur ⟨(i : Int), o, s⟩) := by unfold Hid; rw [Hs2.out]; simp
            clear Hs2
            go_wp2_with (first
              | (go_at_call 24; refine HH.out.mono ?_; rintro e w' ⟨rfl, rfl⟩)
              | (go_at_call 116; refine HA.out.mono ?_; rintro e w4 ⟨hb4, A4, c4', rfl, k0, k1, k2, k3, k4⟩; have HB4 := Lib.hid (hB.out.trans (hb4.mono hsz)); have HK4 := Lib.hid (And.intro (Nat.le_trans hsz k0) (And.intro k1 (And.intro k2 (And.intro k3 k4)))); clear hb4 k0 k1 k2 k3 k4))
            go_roundw
            case rel => exact ⟨j + 1, A4, c4', by omega, by go_num, rfl, by rw [Hs3.out]; exact HK4.out, HB4.out⟩
            case measure => simp [intOf]; omega
          | false =>
            have Hs3 : Hid (putSK i false set l s0 (j + 1) = cur) := by unfold Hid; rw [Hs2.out]; simp
            clear Hs2
            go_wp2_with (go_at_call 24; refine HH.out.mono ?_; rintro e w' ⟨rfl, rfl⟩)
            go_roundw
            case rel => exact ⟨j + 1, gA, c', by omega, by go_num, rfl, by rw [Hs3.out]; exact HS.out, hB⟩
            case measure => simp [intOf]; omega
      · have Hs3 : Hid (putSK i all set l s0 (j + 1) = cur) := by unfold Hid; rw [Hs2.out, decide_eq_false hbi]; simp
        clear Hs2
        go_wp2
        go_roundw
        case rel => exact ⟨j + 1, gA, c', by omega, by go_num, rfl, by rw [Hs3.out]; exact HS.out, hB⟩
        case measure => simp [intOf]; omega
    · obtain rfl : j = l.length := by omega
      have hlti : ¬ (l.length : Int) < (l.length : Int) := by omega
      rw [putSK_all] at HS
      go_wp2
      go_ret
      exact ⟨hB.out, gA, c', rfl, HS.out.1, HS.out.2.1, HS.out.2.2.1, HS.out.2.2.2.1, HS.out.2.2.2.2⟩
end
end Go.Proofs.Ytegacggkdjgdiaa

/- The document's engine: are two rows of numbers the same? -/
set_option linter.unusedVariables false
set_option linter.unusedSimpArgs false
namespace Go.Proofs.Ytegacggkdjgdiaa
open Go.RowKit

theorem take_step_eq {l1 l2 : List Int} {k : Nat} (h1 : k < l1.length) (h2 : k < l2.length) (h : l1.take k = l2.take k) (e : Gr.nth l1 k = Gr.nth l2 k) : l1.take (k + 1) = l2.take (k + 1) := by
  rw [List.take_succ_eq_append_getElem h1, List.take_succ_eq_append_getElem h2, h, ← Gr.nth_lt h1, ← Gr.nth_lt h2, e]
set_option maxRecDepth 100000 in
set_option maxHeartbeats 1000000 in
theorem same_full (A1 A2 : Option Addr) (c1 c2 n1 n2 : Nat) (l1 l2 : List Int) (w : World) (B1 B2 : Nat) (e1 : n1 = l1.length) (e2 : n2 = l2.length) (h1 : Gr.Ints w B1 A1 l1) (h2 : Gr.Ints w B2 A2 l2) (hl : l1.length ≤ 100000) :
    Calls Try.prog 95 #[.slice A1 n1 c1, .slice A2 n2 c2] w fun e w' => e = .returned (.bool (decide (l1 = l2))) ∧ Below w.heap.size w w' := by
  subst e1 e2
  by_cases hlen : l1.length = l2.length
  · have hI : Hid (l1.length = l2.length) := hlen
    have hli : (l1.length : Int) = (l2.length : Int) := by rw [hlen]
    clear hlen
    generalize hm2 : l2.length = m2 at hli
    have hM2 := Lib.hid hm2
    obtain rfl : l1.length = m2 := by omega
    clear hli hm2
    go_enter Try.func95, Try.ntmps95
    go_wp2
    go_loopw [5] (fun i wr => ∃ k : Nat, k ≤ l1.length ∧ i = .int .i64 k ∧ Gr.Quiet w wr ∧ Hid (l1.take k = l2.take k)) (fun i _ => l1.length - (intOf i).toNat)
    case atStart => exact ⟨0, Nat.zero_le _, rfl, ⟨0, rfl⟩, by simp [Hid]⟩
    case round =>
      obtain ⟨k, hk, rfl, hq, ht⟩ := hrel
      rename World => wr
      by_cases hlt : k < l1.length
      · have hlti : (k : Int) < (l1.length : Int) := by omega
        have hk0 : (0 : Int) ≤ (k : Int) := by omega
        have hlt2 : k < l2.length := by rw [hM2.out]; exact hlt
        obtain ⟨b1, o1, rfl, _, e1⟩ := h1.at_ hlt
        obtain ⟨b2, o2, rfl, _, e2⟩ := h2.at_ hlt2
        have e1' : wr.cell? ⟨b1, o1 + k, none⟩ = some (.int .i64 (Gr.nth l1 k)) := by obtain ⟨n, rfl⟩ := hq; exact e1
        have e2' : wr.cell? ⟨b2, o2 + k, none⟩ = some (.int .i64 (Gr.nth l2 k)) := by obtain ⟨n, rfl⟩ := hq; exact e2
        have Hq := Lib.hid hq
        have Hst : Hid (Gr.nth l1 k = Gr.nth l2 k → l1.take (k + 1) = l2.take (k + 1)) := fun e => take_step_eq hlt hlt2 ht.out e
        have Hne : Hid (Gr.nth l1 k ≠ Gr.nth l2 k → decide (l1 = l2) = false) := fun e => decide_eq_false (fun q => e (by rw [q]))
        generalize Gr.nth l1 k = y1 at *
        generalize Gr.nth l2 k = y2 at *
        clear hq e1 e2 hlt2
        by_cases e : y1 = y2
        · have Hs2 := Lib.hid (Hst.out e)
          subst e
          clear Hst Hne
          go_wp2_with fail
          go_quiet (fail)
          go_wp2
          go_roundw
          case rel => exact ⟨k + 1, by omega, by go_num, Hq.out.trans ⟨_, rfl⟩, Hs2⟩
          case measure => simp [intOf]; omega
        · have Hs2 := Lib.hid (Hne.out e)
          clear Hst Hne
          go_wp2_with fail
          go_quiet (fail)
          go_wp2
          go_ret
          exact ⟨by rw [Hs2.out]; rfl, (Hq.out.trans ⟨_, rfl⟩).belowR⟩
      · have hlti : ¬ (k : Int) < (l1.length : Int) := by omega
        obtain rfl : k = l1.length := by omega
        have Heq : Hid (decide (l1 = l2) = true) := by
          have := ht.out
          rw [List.take_length, hI.out, List.take_length] at this
          exact decide_eq_true this
        clear ht
        go_wp2
        go_ret
        exact ⟨by rw [Heq.out]; rfl, hq.belowR⟩
  · have Hne : Hid (decide (l1 = l2) = false) := decide_eq_false (fun q => hlen (by rw [q]))
    have hli : ¬ (l1.length : Int) = (l2.length : Int) := by omega
    clear hlen h1 h2
    go_enter Try.func95, Try.ntmps95
    go_wp2
    go_ret
    exact ⟨by rw [Hne.out]; rfl, Below.refl _ _⟩
end Go.Proofs.Ytegacggkdjgdiaa

/- The document's engine: Flush. -/
set_option linter.unusedVariables false
set_option linter.unusedSimpArgs false
namespace Go.Proofs.Ytegacggkdjgdiaa
open Go.RowKit

/-- did a number stand in a last Write? -/
def inT (t : List Tr) (n : Int) : Bool := t.any fun x => decide (n ∈ x.set)
theorem inT_take {t : List Tr} {k : Nat} (h : k < t.length) (n : Int) : inT (t.take (k + 1)) n = (inT (t.take k) n || decide (n ∈ (tn t k).set)) := by
  unfold inT; rw [take_tn h]; simp
def keepF (l : List Vr) (t : List Tr) : List Vr := l.filter fun x => !inT t x.num
theorem keepF_step {l : List Vr} {k : Nat} (h : k < l.length) (t : List Tr) : keepF (l.take (k + 1)) t = if inT t (vn l k).num = true then keepF (l.take k) t else keepF (l.take k) t ++ [vn l k] := by
  unfold keepF; rw [take_vn h, List.filter_append]
  by_cases e : inT t (vn l k).num = true
  · rw [if_pos e]; simp [e]
  · rw [if_neg e]; simp [e]
theorem keepF_len (l : List Vr) (t : List Tr) (k : Nat) : (keepF (l.take k) t).length ≤ k := by
  unfold keepF
  have h1 := List.length_filter_le (fun x : Vr => !inT t x.num) (l.take k)
  rw [List.length_take] at h1; omega
theorem vcs_src {w : World} (x : Vr) : ∀ ad, some (⟨w.heap.size, 0, none⟩ : Addr) = some ad → ∀ j u, x.cs[j]? = some u → (w.alloc (.cells x.cs.toArray 152)).cell? (ad.add j) = some u := fun ad e j u hu => by
  cases e
  exact World.news_of_block (heap_alloc_new w _) j u (by simpa using hu)
theorem numsT_ints {w : World} {x : Tr} (h : NumTAt w x) : Gr.Ints w w.heap.size x.A x.set := grow_row rfl (by have := row_zero h; simpa [NumTAt, intsI] using h)
theorem HeadQ.put2 {w : World} {g d : Nat} {vl vt : Value} {k : Int} (h : HeadQ w g d vl vt k) (vl' vt' : Value) : HeadQ ((w.setCell ⟨g, 1, none⟩ vl').setCell ⟨g, 2, none⟩ vt') g d vl' vt' k ∧ Kept w ((w.setCell ⟨g, 1, none⟩ vl').setCell ⟨g, 2, none⟩ vt') (fun b => b = g) := by
  have e1 := heap_setCell_same w g 1 _ 133 vl' h.head
  have e2 := heap_setCell_same (w.setCell ⟨g, 1, none⟩ vl') g 2 _ 133 vt' e1
  refine ⟨⟨by simpa using e2⟩, ⟨rfl, rfl, rfl, by simp, fun b hb hn => ?_⟩⟩
  rw [heap_setCell_other _ ⟨g, 2, none⟩ b _ hn, heap_setCell_other _ ⟨g, 1, none⟩ b _ hn]
/-- rows turned, in blocks that are new -/
theorem QAt.rowed {w w' : World} {g d n cc c c2 c3 c4 : Nat} {S : Nat → Bk} {k k' : Int} {l l' : List Vr} {t t' : List Tr} {A A2 A3 A4 : Option Addr} {Fd : Nat → Prop} (h : QAt w g d n S cc k l t A c A2 c2 Fd) (hh : HeadQ w' g d (.slice A3 l'.length c3) (.slice A4 t'.length c4) k') (hk : Kept w w' (fun b => b = g)) (hr : RowV w' 0 A3 c3 l') (ht : RowT w' 0 A4 c4 t') : QAt w' g d n S cc k' l' t' A3 c3 A4 c4 Fd :=
  ⟨hh, h.disk.keep hk (fun b q e => by subst e; exact h.g_fd q), hr, ht⟩
theorem RowV.zero {w : World} {B : Nat} {A : Option Addr} {c : Nat} {l : List Vr} (h : RowV w B A c l) : RowV w 0 A c l := ⟨row_zero h.row, h.ah⟩
theorem RowT.zero {w : World} {B : Nat} {A : Option Addr} {c : Nat} {l : List Tr} (h : RowT w B A c l) : RowT w 0 A c l := ⟨row_zero h.row, h.ah⟩
theorem RowV.head {w w' : World} {B g d : Nat} {A : Option Addr} {c : Nat} {l : List Vr} {vl vt : Value} {k : Int} (h : RowV w B A c l) (hh : HeadQ w g d vl vt k) (hk : Kept w w' (fun b => b = g)) : RowV w' B A c l :=
  h.keep hk hh.ni (fun b e q => by
    subst q
    obtain ⟨cs, e⟩ := h.typed e
    rw [hh.head] at e; simp at e)
theorem RowT.head {w w' : World} {B g d : Nat} {A : Option Addr} {c : Nat} {l : List Tr} {vl vt : Value} {k : Int} (h : RowT w B A c l) (hh : HeadQ w g d vl vt k) (hk : Kept w w' (fun b => b = g)) : RowT w' B A c l :=
  h.keep hk hh.ni (fun b e q => by
    subst q
    obtain ⟨cs, e⟩ := h.typed e
    rw [hh.head] at e; simp at e)
section
variable {w : World} {g n cc : Nat} {S : Nat → Bk} {k : Int} {l : List Vr} {t : List Tr} {F : Nat → Prop}
set_option maxRecDepth 100000 in
set_option maxHeartbeats 4000000 in
theorem qflush (h : Qe w g n S cc k l t F) (hc : cc < 100000) (hl : l.length ≤ 1000) (ht : t.length ≤ 1000) (hs : ∀ x ∈ t, x.set.length ≤ 100000) :
    Calls Try.prog 79 #[.pointer (some ⟨g, 0, none⟩)] w fun e w' => e = .returned (.int .i64 0) ∧ Went w w' F (Qe w' g n (fun j => (S j).flushed) cc k (keepF l t) []) := by
  obtain ⟨d, A, c, A2, c2, Fd, h, rfl⟩ := h
  have h0 := h.head.c0
  have hgl := h.head.lt
  have HQ := Lib.hid h
  have HF := Lib.hid (rflush h.disk hc)
  have HSt := Lib.hid hs
  obtain ⟨i0, hi0, hz0, hz1, hz2⟩ := info_parts infoV
  clear h hs
  go_enter Try.func79, Try.ntmps79
  go_wp2_with (go_at_call 75; refine HF.out.mono ?_; rintro e w1 ⟨rfl, Fd', hr1, hk1, hf1⟩; have HQ1 := Lib.hid (HQ.out.disked hk1 hr1); have HK1 := Lib.hid hk1; have HFf := Lib.hid hf1; clear hr1 hk1 hf1)
  go_loopw [3, 4] (fun v q wr => ∃ (j m : Nat) (A' : Option Addr) (c' : Nat), j ≤ l.length ∧ q = .int .i64 j ∧ v = .slice A' m c' ∧ (keepF (l.take j) t).length = m ∧ Hid (RowV wr w1.heap.size A' c' (keepF (l.take j) t)) ∧ Hid (Below w1.heap.size w1 wr)) (fun _ q _ => l.length - (intOf q).toNat)
  case atStart => exact ⟨0, 0, none, 0, Nat.zero_le _, rfl, rfl, rfl, RowV.nil _ _, Below.refl _ _⟩
  case round =>
    obtain ⟨j, m, A', c', hj, rfl, rfl, hm, hrow, hB⟩ := hrel
    rename World => wr
    have hsz := hB.out.size
    have hml : m ≤ j := by rw [← hm]; exact keepF_len l t j
    have HQr := Lib.hid (HQ1.out.fresh hB.out)
    have h1r := HQr.out.head.c1
    have h2r := HQr.out.head.c2
    have hglr := HQr.out.head.lt
    by_cases hlt : j < l.length
    · have hlti : (j : Int) < (l.length : Int) := by omega
      have hj0 : (0 : Int) ≤ (j : Int) := by omega
      obtain ⟨ab, hA, h3, h4, hb, hcs, _⟩ := HQr.out.row.at_ hlt
      have hah := HQr.out.row.ah _ (vn_mem hlt)
      have Hst := Lib.hid (keepF_step hlt t)
      subst hA
      unfold maxLen at h4
      have d0 := hcs 0 (by omega)
      have d1 := hcs 1 (by omega)
      have d2 := hcs 2 (by omega)
      have d3 := hcs 3 (by omega)
      have d4 := hcs 4 (by omega)
      clear hcs
      obtain ⟨x, hx⟩ : ∃ x, x = vn l j := ⟨_, rfl⟩
      rw [← hx] at d0 d1 d2 d3 d4 Hst hah
      have hon : Hid (∀ u ∈ x.cs, u.oneCell' = true) := cs_oneV x
      have hff : Hid (∀ M, flatV M ++ x.cs = flatV (M ++ [x])) := fun M => by rw [flatV_append, flatV_one]
      clear hx
      obtain ⟨num, ⟨b, o, s⟩, ds, a4, c4⟩ := x
      simp [Vr.cs] at d0 d1 d2 d3 d4
      obtain ⟨M, hM⟩ : ∃ M, M = keepF (l.take j) t := ⟨_, rfl⟩
      rw [← hM] at hrow Hst hm
      have Hm := Lib.hid hm
      have Hah := Lib.hid hah
      dsimp only at Hst
      clear hM hm hah
      go_wp2
      go_loopw [5, 6] (fun v q wq => ∃ m2 : Nat, m2 ≤ t.length ∧ q = .int .i64 m2 ∧ v = .bool (inT (t.take m2) num) ∧ Gr.Quiet wr wq) (fun _ q _ => t.length - (intOf q).toNat)
      case atStart => exact ⟨0, Nat.zero_le _, rfl, by simp [inT], ⟨0, rfl⟩⟩
      case round =>
        obtain ⟨m2, hm2, rfl, rfl, hq⟩ := hrel
        rename World => wq
        have Hq := Lib.hid hq
        have HBq : Hid (Below wr.heap.size wr wq) := hq.belowR
        have hszq := HBq.out.size
        have HQq := Lib.hid (HQr.out.fresh HBq.out)
        have h1q := HQq.out.head.c1
        have h2q := HQq.out.head.c2
        have hglq := HQq.out.head.lt
        have hbq : ab < wq.heap.size := Nat.lt_of_lt_of_le hb hszq
        by_cases hlt2 : m2 < t.length
        · have hmi : (m2 : Int) < (t.length : Int) := by omega
          have hm0 : (0 : Int) ≤ (m2 : Int) := by omega
          obtain ⟨tb, hA2, t3, t4, htb, hcs2, _⟩ := HQq.out.tow.at_ hlt2
          subst hA2
          unfold maxLen at t4
          have d0q := (HBq.out.cell (p := ⟨ab, j * 5, none⟩) hb).trans d0
          have f1 := hcs2 1 (by omega)
          have Hst2 := Lib.hid (inT_take hlt2 num)
          have hnt := HQq.out.tow.ah _ (tn_mem hlt2)
          have hsl := HSt.out _ (tn_mem hlt2)
          obtain ⟨y, hy⟩ : ∃ y, y = tn t m2 := ⟨_, rfl⟩
          rw [← hy] at f1 Hst2 hnt hsl
          clear hy hcs2
          obtain ⟨yb, ys, yA, yc⟩ := y
          simp [Tr.cs] at f1
          dsimp only at Hst2 hsl
          have Hx : Hid (∀ W', Gr.Quiet wq W' → Calls Try.prog 24 #[.slice yA ys.length yc, .int .i64 num] W' fun e w' => e = .returned (.bool (decide (num ∈ ys))) ∧ w' = W') := fun W' hq' =>
            (Gr.has_any yA yc ys.length ys num W' wq.heap.size rfl hsl ((numsT_ints hnt).keep (fun p hp => (hq'.belowR (B := wq.heap.size)).cell hp))).mono fun _ _ ⟨e1, e2⟩ => ⟨e1, e2.symm⟩
          obtain ⟨dd, hdd⟩ : ∃ dd, dd = decide (num ∈ ys) := ⟨_, rfl⟩
          rw [← hdd] at Hx Hst2
          obtain ⟨u0, hu0⟩ : ∃ u0, u0 = inT (t.take m2) num := ⟨_, rfl⟩
          rw [← hu0] at Hst2 ⊢
          clear hdd hu0 hnt hq
          cases u0 with
          | true =>
            have Hv : Hid (inT (t.take (m2 + 1)) num = true) := by unfold Hid; rw [Hst2.out]; rfl
            clear Hst2
            go_wp2_with fail
            go_quiet (fail)
            go_wp2
            go_roundw
            case rel => exact ⟨m2 + 1, by omega, by go_num, by rw [Hv.out], Hq.out.trans ⟨_, rfl⟩⟩
            case measure => simp [intOf]; omega
          | false =>
            have Hv : Hid (inT (t.take (m2 + 1)) num = dd) := by unfold Hid; rw [Hst2.out]; simp
            clear Hst2
            go_wp2_with fail
            go_quiet ((go_at_call 24; exact Calls.quiet_of_same (Hx.out _ ⟨_, rfl⟩)))
            go_wp2
            go_roundw
            case rel => exact ⟨m2 + 1, by omega, by go_num, by rw [Hv.out], Hq.out.trans ⟨_, rfl⟩⟩
            case measure => simp [intOf]; omega
        · obtain rfl : m2 = t.length := by omega
          have hmi : ¬ (t.length : Int) < (t.length : Int) := by omega
          rw [List.take_length]
          have d0q := (HBq.out.cell (p := ⟨ab, j * 5, none⟩) hb).trans d0
          have d1q := (HBq.out.cell (p := ⟨ab, j * 5 + 1, none⟩) hb).trans d1
          have d2q := (HBq.out.cell (p := ⟨ab, j * 5 + 2, none⟩) hb).trans d2
          have d3q := (HBq.out.cell (p := ⟨ab, j * 5 + 3, none⟩) hb).trans d3
          have d4q := (HBq.out.cell (p := ⟨ab, j * 5 + 4, none⟩) hb).trans d4
          have Hrq := Lib.hid (hrow.out.fresh HBq.out)
          have HB1q := Lib.hid (hB.out.trans (HBq.out.mono hsz))
          have hsz1 := HB1q.out.size
          generalize inT t num = u0 at *
          clear hq
          cases u0 with
          | true =>
            have hst : Hid (keepF (l.take (j + 1)) t = M) := by unfold Hid; rw [Hst.out]; rfl
            clear Hst
            go_wp2
            go_roundw
            case rel => exact ⟨j + 1, m, A', c', by omega, by go_num, rfl, by rw [hst.out]; exact Hm.out, by rw [hst.out]; exact Hrq.out, HB1q.out⟩
            case measure => simp [intOf]; omega
          | false =>
            have hst : Hid (keepF (l.take (j + 1)) t = M ++ [⟨num, ⟨b, o, s⟩, ds, a4, c4⟩]) := by unfold Hid; rw [Hst.out]; rfl
            have Hold := Lib.hid Hrq.out.row.lt
            have Hrm : Hid (wq.ownsRow w1.heap.size 152 5 (.slice A' m c') m (flatV M)) := by have := Hrq.out.row; rw [Hm.out] at this; exact this
            clear Hst
            go_wp2_with (at_builtin; go_loud (refine wpList_append_src rfl (.tmp 54) (.tmp 62) 130 rfl w1.heap.size 152 i0 _ 5 64 Try.underlying130 hi0 hz0 hz1 hz2 rfl (by decide) (.slice A' m c') m (flatV M) rfl (Hrm.out.alloc _) (some ⟨wq.heap.size, 0, none⟩) 1 1 [.int .i64 num, .int .i64 b, .int .i64 o, .string s, .slice a4 ds.length c4] rfl rfl (fun ad e j u hu => by cases e; exact World.news_of_block (heap_alloc_new wq _) j u hu) (fun e => by cases e) hon.out (by unfold maxLen; omega) (by omega) (by simp; omega) (m + 1) rfl ?_; intro A3 c3 w4 ho2 hg2 hor2; have HO2 := Lib.hid ho2; have HG2 := Lib.hid hg2; clear ho2 hg2 hor2))
            go_roundw
            case rel =>
              have hB2 : Below w1.heap.size w1 w4 := (HB1q.out.alloc hsz1 _).grown HG2.out (by simp; omega) (fun j e => (Hrm.out.lt j e).1)
              have hk : Kept wq w4 (fun b => own A' = some b) := (Kept.fresh (S := fun b => own A' = some b) ((Below.refl _ _).alloc (Nat.le_refl _) _)).trans (Kept.grown (S := fun b => own A' = some b) HG2.out (fun k e => .inl (by rw [← own_eq]; exact e))) (fun b q => .inl q)
              refine ⟨j + 1, m + 1, A3, c3, by omega, by go_num, rfl, by rw [hst.out, List.length_append, Hm.out]; rfl, ?_, hB2⟩
              rw [hst.out]
              refine ⟨?_, fun y hy => ?_⟩
              · have e := hff.out M
                rw [← e, List.length_append, Hm.out]
                exact HO2.out
              · rcases List.mem_append.1 hy with hy | hy
                · exact (Hrq.out.ah y hy).keep hk Hrq.out.ni
                · rw [List.mem_singleton] at hy
                  subst hy
                  exact (Hah.out.keep (F := fun _ => False) (Kept.fresh HBq.out) (NI.none _)).keep hk Hrq.out.ni
            case measure => simp [intOf]; omega
    · obtain rfl : j = l.length := by omega
      have hlti : ¬ (l.length : Int) < (l.length : Int) := by omega
      rw [List.take_length] at hrow hm
      have f1 := HQr.out.head.free 1
      have f2 := HQr.out.head.free 2
      go_wp2
      go_ret
      obtain ⟨hh, hk⟩ := HQr.out.head.put2 (.slice A' m c') (.slice none 0 0)
      refine ⟨rfl, footQ g A' none Fd', ⟨d, A', c', none, 0, Fd', HQr.out.rowed (by rw [hm]; exact hh) hk (hrow.out.head HQr.out.head hk).zero (RowT.nil _ _), rfl⟩, ?_, ?_⟩
      · exact ((HK1.out.more (S' := footQ g A A2 Fd) (fun b q => .inl (.inr (.inr (.inr q))))).trans (Kept.fresh (S := fun _ => False) hB.out) (fun b q => q.elim)).trans hk (fun b q => .inl (.inl q))
      · rintro b (q | q | q | q)
        · exact .inl (.inl q)
        · have := (hrow.out.lt b q).1; have := HK1.out.size; exact .inr (by omega)
        · cases q
        · rcases HFf.out b q with q | q
          · exact .inl (.inr (.inr (.inr q)))
          · exact .inr q
end
end Go.Proofs.Ytegacggkdjgdiaa

/- The document's engine: New, Spoil. -/
set_option linter.unusedVariables false
set_option linter.unusedSimpArgs false
namespace Go.Proofs.Ytegacggkdjgdiaa
open Go.RowKit

set_option maxRecDepth 100000 in
set_option maxHeartbeats 1000000 in
theorem qnew {w : World} {d n cc : Nat} {S : Nat → Bk} {Fd : Nat → Prop} (h : Ref w d n S cc Fd) (hc : cc < 100000) :
    Calls Try.prog 51 #[.pointer (some ⟨d, 0, none⟩)] w fun e w' => ∃ g F, e = .returned (.pointer (some ⟨g, 0, none⟩)) ∧ Qe w' g n (fun j => (S j).flushed) cc 0 [] [] F ∧ (∀ b, F b → w.heap.size ≤ b) ∧ Below w.heap.size w w' := by
  have HF := Lib.hid (rfork h hc)
  clear h
  go_enter Try.func51, Try.ntmps51
  go_wp2_with (first
    | (go_at_call 74; refine HF.out.mono ?_; rintro e w1 ⟨d1, F1, rfl, hr1, hf1, hb1⟩; have HB1 := Lib.hid hb1; have HF1 := Lib.hid hf1; have HR1 : Hid (Ref (w1.alloc (.cells #[.pointer (some ⟨d1, 0, none⟩), .slice none 0 0, .slice none 0 0, .int .i64 0] 133)) d1 n S cc F1) := hr1.fresh ((Below.refl _ _).alloc (Nat.le_refl _) _); have HL := Lib.hid (rflush HR1.out hc); have HH : Hid (HeadQ (w1.alloc (.cells #[.pointer (some ⟨d1, 0, none⟩), .slice none 0 0, .slice none 0 0, .int .i64 0] 133)) w1.heap.size d1 (.slice none 0 0) (.slice none 0 0) 0) := ⟨heap_alloc_new w1 _⟩; have HBa : Hid (Below w.heap.size w (w1.alloc (.cells #[.pointer (some ⟨d1, 0, none⟩), .slice none 0 0, .slice none 0 0, .int .i64 0] 133))) := hb1.alloc hb1.size _; clear hr1 hf1 hb1)
    | (go_at_call 75; refine HL.out.mono ?_; rintro e w2 ⟨rfl, F2, hr2, hk2, hf2⟩; have HR2 := Lib.hid hr2; have HK2 := Lib.hid hk2; have HF2 := Lib.hid hf2; clear hr2 hk2 hf2))
  go_ret
  have hq : QAt (w1.alloc (.cells #[.pointer (some ⟨d1, 0, none⟩), .slice none 0 0, .slice none 0 0, .int .i64 0] 133)) w1.heap.size d1 n S cc 0 [] [] none 0 none 0 F1 := ⟨HH.out, HR1.out, RowV.nil _ _, RowT.nil _ _⟩
  have hs1 := HB1.out.size
  refine ⟨w1.heap.size, _, rfl, ⟨d1, none, 0, none, 0, F2, hq.disked HK2.out HR2.out, rfl⟩, ?_, ?_⟩
  · rintro b (q | q | q | q)
    · omega
    · cases q
    · cases q
    · rcases HF2.out b q with q | q
      · exact HF1.out b q
      · have := HBa.out.size; omega
  · exact HBa.out.trans (HK2.out.below HF1.out HBa.out.size)
theorem qspoil {w : World} {g n cc : Nat} {S : Nat → Bk} {k : Int} {l : List Vr} {t : List Tr} {F : Nat → Prop} (h : Qe w g n S cc k l t F) {i : Nat} (hi : i < n) (b : Bool) :
    Calls Try.prog 81 #[.pointer (some ⟨g, 0, none⟩), .int .i64 (i : Int), .bool b] w fun e w' => e = .returned (.int .i64 0) ∧ Went w w' F (Qe w' g n (upd S i ⟨(S i).s, (S i).v, b⟩) cc k l t) := by
  obtain ⟨d, A, c, A2, c2, Fd, h, rfl⟩ := h
  have h0 := h.head.c0
  have hgl := h.head.lt
  have HS := Lib.hid (rspoil h.disk hi b)
  have HQ := Lib.hid h
  clear h
  go_enter Try.func81, Try.ntmps81
  go_wp2_with (go_at_call 100; refine HS.out.mono ?_; rintro e w' ⟨rfl, F2, hr2, hk2, hf2⟩; have HR2 := Lib.hid hr2; have HK2 := Lib.hid hk2; have HF2 := Lib.hid hf2; clear hr2 hk2 hf2)
  go_ret
  refine ⟨rfl, _, ⟨d, A, c, A2, c2, F2, HQ.out.disked HK2.out HR2.out, rfl⟩, HK2.out.more (fun b q => .inl (.inr (.inr (.inr q)))), ?_⟩
  rintro b (q | q | q | q)
  · exact .inl (.inl q)
  · exact .inl (.inr (.inl q))
  · exact .inl (.inr (.inr (.inl q)))
  · exact (HF2.out b q).elim (fun q => .inl (.inr (.inr (.inr q)))) .inr
theorem qspoil_no {w : World} {g n cc : Nat} {S : Nat → Bk} {k : Int} {l : List Vr} {t : List Tr} {F : Nat → Prop} (h : Qe w g n S cc k l t F) (i : Int) (hi : ¬ (0 ≤ i ∧ i < n)) (b : Bool) :
    Calls Try.prog 81 #[.pointer (some ⟨g, 0, none⟩), .int .i64 i, .bool b] w fun e w' => e = .returned (.int .i64 2) ∧ w = w' := by
  obtain ⟨d, A, c, A2, c2, Fd, h, rfl⟩ := h
  have h0 := h.head.c0
  have hgl := h.head.lt
  have HS := Lib.hid (rspoil_no h.disk i hi b)
  clear h hi
  go_enter Try.func81, Try.ntmps81
  go_wp2_with (go_at_call 100; refine HS.out.mono ?_; rintro e w' ⟨rfl, rfl⟩)
  go_ret
  exact ⟨rfl, rfl⟩
end Go.Proofs.Ytegacggkdjgdiaa

/- The document's engine: Write, where nothing is written. -/
set_option linter.unusedVariables false
set_option linter.unusedSimpArgs false
namespace Go.Proofs.Ytegacggkdjgdiaa
open Go.RowKit

/-- the numbers of the last Write of a block -/
def lastS (t : List Tr) (i : Int) : List Int := match lastT t i with | none => [] | some x => x.set
theorem lastT_mem {t : List Tr} {i : Int} {x : Tr} (h : lastT t i = some x) : x ∈ t ∧ x.b = i := by
  induction t with
  | nil => cases h
  | cons y r ih =>
    unfold lastT at h
    split at h
    · injection h with h; subst h; exact ⟨List.mem_cons_self, by assumption⟩
    · exact ⟨List.mem_cons_of_mem _ (ih h).1, (ih h).2⟩
theorem last_form {w : World} {B c2 : Nat} {A2 : Option Addr} {t : List Tr} (h : RowT w B A2 c2 t) (i : Int) : ∃ Al cl, lastV t i = .slice Al (lastS t i).length cl ∧ Gr.Ints w w.heap.size Al (lastS t i) := by
  unfold lastV lastS
  cases e : lastT t i with
  | none => exact ⟨none, 0, rfl, fun h => absurd h (Nat.lt_irrefl _)⟩
  | some x => exact ⟨x.A, x.c, rfl, numsT_ints (h.ah x (lastT_mem e).1)⟩
section
variable {w : World} {g n cc : Nat} {S : Nat → Bk} {k : Int} {l : List Vr} {t : List Tr} {F : Nat → Prop}
set_option maxRecDepth 100000 in
set_option maxHeartbeats 1000000 in
theorem qwrite_no (h : Qe w g n S cc k l t F) (i : Int) (hi : ¬ (0 ≤ i ∧ i < n)) :
    Calls Try.prog 78 #[.pointer (some ⟨g, 0, none⟩), .int .i64 i] w fun e w' => e = .returned (.tuple #[.int .i64 0, .int .i64 2]) ∧ w = w' := by
  obtain ⟨d, A, c, A2, c2, Fd, h, rfl⟩ := h
  have HM := Lib.hid (qmay_any h i)
  rw [if_neg hi] at HM
  clear h hi
  go_enter Try.func78, Try.ntmps78
  go_wp2_with (go_at_call 93; refine HM.out.mono ?_; rintro e w' ⟨rfl, rfl⟩)
  go_ret2
  exact ⟨rfl, rfl⟩
set_option maxRecDepth 100000 in
set_option maxHeartbeats 1000000 in
theorem qwrite_idle (h : Qe w g n S cc k l t F) (hl : l.length ≤ 1000) (hds : ∀ x ∈ l, x.ds.length ≤ 100000) (ht : t.length ≤ 1000) {i : Nat} (hi : i < n) (hid : readyV l i = [] ∨ readyV l i = lastS t i) :
    Calls Try.prog 78 #[.pointer (some ⟨g, 0, none⟩), .int .i64 (i : Int)] w fun e w' => e = .returned (.tuple #[.int .i64 0, .int .i64 0]) ∧ Below w.heap.size w w' := by
  obtain ⟨d, A, c, A2, c2, Fd, h, rfl⟩ := h
  have HM := Lib.hid (qmay_any h (i : Int))
  rw [if_pos (by omega)] at HM
  have HR := Lib.hid (qready_any h hl hds (i : Int) (by omega))
  have hrl : (readyV l i).length ≤ 1000 := by rw [← readyK_all]; have := readyK_len l i l.length; omega
  have HQ := Lib.hid h
  have hlf := last_form h.tow (i : Int)
  have HLa := Lib.hid (fun W hW => qlast_any (h.fresh (w' := W) hW) ht (i : Int))
  obtain ⟨Al, cl, hlv, hla⟩ := hlf
  rw [hlv] at HLa
  have HI := Lib.hid hla
  generalize readyV l i = set at *
  generalize lastS t i = lst at *
  obtain ⟨nl, hnl⟩ : ∃ nl, nl = lst.length := ⟨_, rfl⟩
  rw [← hnl] at HLa
  have Hnl := Lib.hid hnl
  obtain ⟨ns, hns⟩ : ∃ ns, ns = set.length := ⟨_, rfl⟩
  unfold Says at HR
  rw [← hns] at HR hrl
  have Hns := Lib.hid hns
  by_cases h0 : ns = 0
  · clear hid hla hlv hnl hns h hds
    subst h0
    go_enter Try.func78, Try.ntmps78
    go_wp2_with (first
      | (go_at_call 93; refine HM.out.mono ?_; rintro e w' ⟨rfl, rfl⟩)
      | (go_at_call 94; refine HR.out.mono ?_; rintro e w1 ⟨Ar, cr, rfl, hor, hbr⟩; have HBr := Lib.hid hbr; clear hor hbr))
    go_ret2
    exact ⟨rfl, HBr.out⟩
  · have hsl : Hid (decide (set = lst) = true) := by
      rcases hid with e | e
      · subst e; exact absurd hns h0
      · exact decide_eq_true e
    have h0' : ¬ (ns : Int) = 0 := by omega
    have HSm : Hid (∀ (Ar : Option Addr) (cr : Nat) (W : World), W.ownsRow w.heap.size 3 1 (.slice Ar ns cr) ns (intsI set) → Below w.heap.size w W → Calls Try.prog 95 #[.slice Ar ns cr, .slice Al nl cl] W fun e w' => e = .returned (.bool true) ∧ Below W.heap.size W w') := fun Ar cr W ho hb => by
      have := same_full Ar Al cr cl ns nl set lst W W.heap.size w.heap.size Hns.out Hnl.out (grow_row Hns.out.symm ho) (HI.out.keep (fun p hp => hb.cell hp)) (by rw [← Hns.out]; omega)
      rw [hsl.out] at this
      exact this
    clear hid hla hlv hnl hns h hds
    go_enter Try.func78, Try.ntmps78
    go_wp2_with (first
      | (go_at_call 93; refine HM.out.mono ?_; rintro e w' ⟨rfl, rfl⟩)
      | (go_at_call 94; refine HR.out.mono ?_; rintro e w1 ⟨Ar, cr, rfl, hor, hbr⟩; have HBr := Lib.hid hbr; have HL1 := Lib.hid (HLa.out w1 hbr); have HS1 := Lib.hid (HSm.out Ar cr w1 hor hbr); clear hor hbr)
      | (go_at_call 96; refine HL1.out.mono ?_; rintro e w' ⟨rfl, rfl⟩)
      | (go_at_call 95; refine HS1.out.mono ?_; rintro e w2 ⟨rfl, hb2⟩; have HB2 := Lib.hid (HBr.out.trans (hb2.mono HBr.out.size)); clear hb2))
    go_ret2
    exact ⟨rfl, HB2.out⟩
end
end Go.Proofs.Ytegacggkdjgdiaa
