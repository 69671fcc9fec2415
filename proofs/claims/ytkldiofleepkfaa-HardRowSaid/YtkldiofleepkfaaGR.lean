/- What must come ahead of what: the document's own answer, whether a set is closed. -/
import Derived.Laws.Entries
import Derived.Test.YtkldiofleepkfaaProg
import Derived.WalkKit
import Derived.WalkLawsBesides
import Derived.WalkSpells
import Derived.Deep.QuietTactic
import Derived.BigQuiet
import Derived.Lib.Hide
import Derived.Outline
import Derived.IntWalk
import Derived.Below
import Derived.Deep.OwnRows
import Derived.Laws.CopyOwn
import Derived.Deep.RegionWith
import Derived.Deep.RegionHeld3
import Derived.Deep.DeepFit
import Derived.Deep.WholeRow
import Derived.RangeFuncBox
import Derived.Deep.Slices
import Derived.RangeFuncWrites
import Derived.RangeFuncLeaves
import Derived.RangeFuncFrom
import Derived.RangeFuncNested
import Derived.Shelf.Abstract
import Derived.OwnWalkIn
import Derived.TacticsInMore
import Derived.LoopNIn
import Derived.LoopIn
import Derived.Maps.AppendAt
import Derived.Stop.RegionWithIn
import Derived.RegionTactic
import Derived.ChangeAlike
import Derived.BigRegion
import Derived.Laws.MakeOwn
import Derived.ChangeShapes
import Derived.OpenShut
import Derived.Deep.Matrix
import Derived.ProofKit
/- Plain words: deps, marks, what must come ahead. No program is imported. -/
namespace Go.Proofs.Ytkldiofleepkfaa.Gr

/-- the numbers that must come right ahead of n -/
def rowN (D : List (List Nat)) (n : Nat) : List Nat := D.getD n []
/-- deps are right -/
def Right (D : List (List Nat)) : Prop := D.length ≤ 256 ∧ ∀ n, ∀ d ∈ rowN D n, d < n
/-- x must come ahead of y -/
inductive Must (D : List (List Nat)) : Nat → Nat → Prop where
  | one {x y : Nat} (h : x ∈ rowN D y) : Must D x y
  | more {x z y : Nat} (h : x ∈ rowN D z) (k : Must D z y) : Must D x y
/-- x is marked, or must come ahead of one that is -/
def Ahead (D : List (List Nat)) (m : Nat → Bool) (x : Nat) : Prop := m x = true ∨ ∃ y, m y = true ∧ Must D x y

theorem rowN_nil {D : List (List Nat)} {n : Nat} (h : D.length ≤ n) : rowN D n = [] := by
  unfold rowN; rw [List.getD_eq_getElem?_getD, List.getElem?_eq_none h]; rfl
theorem rowN_lt {D : List (List Nat)} {n : Nat} (h : n < D.length) : rowN D n = D[n] := by
  unfold rowN; rw [List.getD_eq_getElem?_getD, List.getElem?_eq_getElem h]; rfl
theorem mem_row_lt {D : List (List Nat)} {n d : Nat} (h : d ∈ rowN D n) : n < D.length := by
  rcases Nat.lt_or_ge n D.length with h1 | h1
  · exact h1
  · rw [rowN_nil h1] at h; cases h
theorem Must.lt {D : List (List Nat)} (hD : Right D) {x y : Nat} (h : Must D x y) : x < y ∧ y < D.length := by
  induction h with
  | one h => exact ⟨hD.2 _ _ h, mem_row_lt h⟩
  | more h k ih => exact ⟨Nat.lt_trans (hD.2 _ _ h) ih.1, ih.2⟩
theorem Must.trans {D : List (List Nat)} {x y z : Nat} (h : Must D x y) (k : Must D y z) : Must D x z := by
  induction h with
  | one h => exact .more h k
  | more h _ ih => exact .more h (ih k)
/-- the last step -/
theorem Must.last {D : List (List Nat)} {x y : Nat} (h : Must D x y) : ∃ z, z ∈ rowN D y ∧ (x = z ∨ Must D x z) := by
  induction h with
  | one h => exact ⟨_, h, .inl rfl⟩
  | more h k ih =>
    obtain ⟨z, hz, rfl | hk⟩ := ih
    · exact ⟨_, hz, .inr (.one h)⟩
    · exact ⟨_, hz, .inr (.more h hk)⟩

def addAll (c : Nat → Bool) (l : List Nat) : Nat → Bool := fun x => c x || decide (x ∈ l)
theorem addAll_nil (c : Nat → Bool) : addAll c [] = c := by funext x; simp [addAll]
theorem addAll_snoc (c : Nat → Bool) (l : List Nat) (x : Nat) : addAll c (l ++ [x]) = fun y => addAll c l y || y == x := by
  funext y
  simp only [addAll, Bool.or_assoc]
  congr 1
  rw [Bool.eq_iff_iff]; simp
theorem addAll_true {c : Nat → Bool} {l : List Nat} {x : Nat} : addAll c l x = true ↔ c x = true ∨ x ∈ l := by simp [addAll]
/-- the marks behind a walk over some numbers -/
def foldR (D : List (List Nat)) (m : Nat → Bool) (pre : List Nat) : Nat → Bool := pre.foldl (fun c n => addAll c (rowN D n)) m
theorem foldR_snoc (D : List (List Nat)) (m : Nat → Bool) (pre : List Nat) (n : Nat) : foldR D m (pre ++ [n]) = addAll (foldR D m pre) (rowN D n) := by simp [foldR]
/-- the numbers that are gone to, from B - 1 on, the first j of them asked -/
def fallS (D : List (List Nat)) (m : Nat → Bool) (B : Nat) : Nat → List Nat
  | 0 => []
  | j + 1 => if foldR D m (fallS D m B j) (B - 1 - j) then fallS D m B j ++ [B - 1 - j] else fallS D m B j
theorem fallS_hit {D : List (List Nat)} {m : Nat → Bool} {B j : Nat} (h : foldR D m (fallS D m B j) (B - 1 - j) = true) : fallS D m B (j + 1) = fallS D m B j ++ [B - 1 - j] := by simp [fallS, h]
theorem fallS_miss {D : List (List Nat)} {m : Nat → Bool} {B j : Nat} (h : foldR D m (fallS D m B j) (B - 1 - j) = false) : fallS D m B (j + 1) = fallS D m B j := by simp [fallS, h]
theorem length_fallS (D : List (List Nat)) (m : Nat → Bool) (B j : Nat) : (fallS D m B j).length ≤ j := by
  induction j with
  | zero => simp [fallS]
  | succ j ih => simp only [fallS]; split <;> (try rw [List.length_append, List.length_singleton]) <;> omega
def upM (D : List (List Nat)) (m : Nat → Bool) (B : Nat) : Nat → Bool := foldR D m (fallS D m B B)

theorem fall_inv (D : List (List Nat)) (hD : ∀ n, ∀ d ∈ rowN D n, d < n) (m : Nat → Bool) (B j : Nat) (hj : j ≤ B) :
    (∀ x, m x = true → foldR D m (fallS D m B j) x = true) ∧ (∀ x, foldR D m (fallS D m B j) x = true → Ahead D m x) ∧
    (∀ n, B ≤ n + j → n < B → foldR D m (fallS D m B j) n = true → ∀ d ∈ rowN D n, foldR D m (fallS D m B j) d = true) := by
  induction j with
  | zero => exact ⟨fun x h => h, fun x h => .inl h, fun n h1 h2 => by omega⟩
  | succ j ih =>
    obtain ⟨i1, i2, i3⟩ := ih (by omega)
    cases hc : foldR D m (fallS D m B j) (B - 1 - j) with
    | false =>
      rw [fallS_miss hc]
      refine ⟨i1, i2, fun n h1 h2 h3 d hd => ?_⟩
      by_cases e : n = B - 1 - j
      · subst e; rw [hc] at h3; cases h3
      · exact i3 n (by omega) h2 h3 d hd
    | true =>
      rw [fallS_hit hc, foldR_snoc]
      refine ⟨fun x h => addAll_true.2 (.inl (i1 x h)), fun x h => ?_, fun n h1 h2 h3 d hd => ?_⟩
      · rcases addAll_true.1 h with h | h
        · exact i2 x h
        · rcases i2 _ hc with h4 | ⟨y, h4, h5⟩
          · exact .inr ⟨_, h4, .one h⟩
          · exact .inr ⟨y, h4, .more h h5⟩
      · rw [addAll_true] at h3 ⊢
        by_cases e : n = B - 1 - j
        · subst e; exact .inr hd
        · rcases h3 with h3 | h3
          · exact .inl (i3 n (by omega) h2 h3 d hd)
          · have := hD _ _ h3; omega
/-- WHAT IS MARKED BEHIND THE WALK is what was, and what must come ahead of it -/
theorem upM_iff {D : List (List Nat)} (hD : ∀ n, ∀ d ∈ rowN D n, d < n) {m : Nat → Bool} {B : Nat} (hm : ∀ x, m x = true → x < B) (x : Nat) : upM D m B x = true ↔ Ahead D m x := by
  obtain ⟨i1, i2, i3⟩ := fall_inv D hD m B B (Nat.le_refl _)
  refine ⟨i2 x, ?_⟩
  rintro (h | ⟨y, h, hk⟩)
  · exact i1 x h
  · have key : ∀ {x y}, Must D x y → y < B → upM D m B y = true → x < B ∧ upM D m B x = true := by
      intro x y hk
      induction hk with
      | one h => intro hy hu; exact ⟨Nat.lt_trans (hD _ _ h) hy, i3 _ (by omega) hy hu _ h⟩
      | more h _ ih => intro hy hu; obtain ⟨a, b⟩ := ih hy hu; exact ⟨Nat.lt_trans (hD _ _ h) a, i3 _ (by omega) a b _ h⟩
    exact (key hk (hm y h) (i1 y h)).2
/-- so it is the same, whatever it starts from -/
theorem upM_bound {D : List (List Nat)} (hD : ∀ n, ∀ d ∈ rowN D n, d < n) {m : Nat → Bool} {B B' : Nat} (hm : ∀ x, m x = true → x < B) (hm' : ∀ x, m x = true → x < B') : upM D m B = upM D m B' := by
  funext x
  rw [Bool.eq_iff_iff, upM_iff hD hm, upM_iff hD hm']
/-- the numbers that are marked, below B -/
def listM (B : Nat) (c : Nat → Bool) : List Nat := (List.range B).filter c
theorem listM_more {B B' : Nat} {c : Nat → Bool} (h : B ≤ B') (hc : ∀ x, c x = true → x < B) : listM B' c = listM B c := by
  obtain ⟨d, rfl⟩ : ∃ d, B' = B + d := ⟨B' - B, by omega⟩
  unfold listM
  rw [List.range_add, List.filter_append]
  have : ((List.range d).map (B + ·)).filter c = [] := by
    rw [List.filter_eq_nil_iff]
    intro x hx hcx
    obtain ⟨i, _, rfl⟩ := List.mem_map.1 hx
    have := hc _ hcx; omega
  rw [this, List.append_nil]
theorem listM_succ (B : Nat) (c : Nat → Bool) : listM (B + 1) c = listM B c ++ (if c B then [B] else []) := by
  unfold listM
  rw [List.range_succ, List.filter_append]
  cases h : c B <;> simp [h]
theorem length_listM (B : Nat) (c : Nat → Bool) : (listM B c).length ≤ B := by
  have := List.length_filter_le c (List.range B); simpa [listM] using this
theorem mem_listM {B : Nat} {c : Nat → Bool} {x : Nat} : x ∈ listM B c ↔ x < B ∧ c x = true := by simp [listM]
theorem listM_pre {B k : Nat} (hk : k ≤ B) (c : Nat → Bool) : listM k c <+: listM B c := by
  obtain ⟨d, rfl⟩ : ∃ d, B = k + d := ⟨B - k, by omega⟩
  unfold listM
  rw [List.range_add, List.filter_append]
  exact List.prefix_append _ _
theorem listM_rising (B : Nat) (c : Nat → Bool) : (listM B c).Pairwise (· < ·) := List.Pairwise.filter _ List.pairwise_lt_range
/-- the marks of some numbers that may be no numbers of deps -/
def markI (n : Nat) (l : List Int) : Nat → Bool := fun x => decide (x < n) && decide ((x : Int) ∈ l)
theorem markI_nil (n : Nat) : markI n [] = fun _ => false := by funext x; simp [markI]
theorem markI_lt {n : Nat} {l : List Int} {x : Nat} (h : markI n l x = true) : x < n := by simp [markI] at h; exact h.1
theorem markI_hit {n : Nat} {l : List Int} {x : Nat} (h : x < n) : markI n (l ++ [(x : Int)]) = fun y => markI n l y || y == x := by
  funext y
  rw [Bool.eq_iff_iff]
  simp only [markI, Bool.and_eq_true, Bool.or_eq_true, decide_eq_true_eq, List.mem_append, List.mem_singleton, beq_iff_eq]
  constructor
  · rintro ⟨h1, h2 | h2⟩
    · exact .inl ⟨h1, h2⟩
    · exact .inr (by omega)
  · rintro (⟨h1, h2⟩ | rfl)
    · exact ⟨h1, .inl h2⟩
    · exact ⟨h, .inr rfl⟩
theorem markI_miss {n : Nat} {l : List Int} {i : Int} (h : ¬ (0 ≤ i ∧ i < (n : Int))) : markI n (l ++ [i]) = markI n l := by
  funext y
  rw [Bool.eq_iff_iff]
  simp only [markI, Bool.and_eq_true, decide_eq_true_eq, List.mem_append, List.mem_singleton]
  constructor
  · rintro ⟨h1, h2 | h2⟩
    · exact ⟨h1, h2⟩
    · omega
  · rintro ⟨h1, h2⟩
    exact ⟨h1, .inl h2⟩
/-- Close -/
def closeL (D : List (List Nat)) (l : List Int) : List Nat := listM D.length (upM D (markI D.length l) D.length)
end Go.Proofs.Ytkldiofleepkfaa.Gr

/- Rows of numbers in memory; contracts of Right, there, and of the document's own Right. -/
namespace Go.Proofs.Ytkldiofleepkfaa.Gr
set_option linter.unusedVariables false
set_option linter.unusedSimpArgs false
open Go.RowKit

theorem ret_int {k : IntKind} {a b : Int} (h : a = b) : Ending.returned (.int k a) = .returned (.int k b) := by rw [h]
theorem ret_bool {a b : Bool} (h : a = b) : Ending.returned (.bool a) = .returned (.bool b) := by rw [h]
def nth (l : List Int) (k : Nat) : Int := l.getD k 0
theorem nth_lt {l : List Int} {k : Nat} (h : k < l.length) : nth l k = l[k] := by
  unfold nth; rw [List.getD_eq_getElem?_getD, List.getElem?_eq_getElem h]; rfl
/-- a slice's address under which, below block B, the cells are the ints l -/
def Ints (w : World) (B : Nat) (A : Option Addr) (l : List Int) : Prop :=
  0 < l.length → ∃ b off, A = some ⟨b, off, none⟩ ∧ b < B ∧ ∀ j, j < l.length → w.cell? ⟨b, off + j, none⟩ = some (.int .i64 (nth l j))
section
variable {w w' : World} {B B' : Nat} {A : Option Addr} {l : List Int}
theorem Ints.at_ (h : Ints w B A l) {k : Nat} (hk : k < l.length) : ∃ b off, A = some ⟨b, off, none⟩ ∧ b < B ∧ w.cell? ⟨b, off + k, none⟩ = some (.int .i64 (nth l k)) := by
  obtain ⟨b, off, e, hb, hc⟩ := h (by omega)
  exact ⟨b, off, e, hb, hc k hk⟩
theorem Ints.keep (h : Ints w B A l) (hk : ∀ p : Addr, p.block < B → w'.cell? p = w.cell? p) : Ints w' B A l := fun hn => by
  obtain ⟨b, off, e, hb, hc⟩ := h hn
  exact ⟨b, off, e, hb, fun j hj => (hk _ hb).trans (hc j hj)⟩
theorem Ints.more (h : Ints w B A l) (hB : B ≤ B') : Ints w B' A l := fun hn => by
  obtain ⟨b, off, e, hb, hc⟩ := h hn
  exact ⟨b, off, e, by omega, hc⟩
theorem Ints.below (h : Ints w B A l) (hb : Below B w w') : Ints w' B A l := h.keep fun _ hp => hb.cell hp
theorem Ints.nil : Ints w B A [] := fun h => by simp at h
end
def natsI (l : List Nat) : List Int := l.map fun i : Nat => (i : Int)
theorem length_natsI (l : List Nat) : (natsI l).length = l.length := by simp [natsI]
def el (l : List Nat) (k : Nat) : Nat := l.getD k 0
theorem el_lt {l : List Nat} {k : Nat} (h : k < l.length) : el l k = l[k] := by
  unfold el; rw [List.getD_eq_getElem?_getD, List.getElem?_eq_getElem h]; rfl
theorem nth_nats (q : List Nat) (k : Nat) (h : k < q.length) : nth (natsI q) k = ((el q k : Nat) : Int) := by
  rw [nth_lt (by rw [length_natsI]; exact h), el_lt h]; simp [natsI]

/-- the n-th row -/
def rowI (R : List (List Int)) (n : Nat) : List Int := R.getD n []
theorem rowI_lt {R : List (List Int)} {n : Nat} (h : n < R.length) : rowI R n = R[n] := by
  unfold rowI; rw [List.getD_eq_getElem?_getD, List.getElem?_eq_getElem h]; rfl
/-- a slice's address under which, below block B, the cells are slices of the ints R -/
def Mat (w : World) (B : Nat) (A : Option Addr) (R : List (List Int)) : Prop :=
  0 < R.length → ∃ b off, A = some ⟨b, off, none⟩ ∧ b < B ∧ ∀ j, j < R.length → ∃ Aj cj, w.cell? ⟨b, off + j, none⟩ = some (.slice Aj (rowI R j).length cj) ∧ Ints w B Aj (rowI R j)
section
variable {w w' : World} {B B' : Nat} {A : Option Addr} {R : List (List Int)}
theorem Mat.at_ (h : Mat w B A R) {k : Nat} (hk : k < R.length) : ∃ b off Ak ck, A = some ⟨b, off, none⟩ ∧ b < B ∧ w.cell? ⟨b, off + k, none⟩ = some (.slice Ak (rowI R k).length ck) ∧ Ints w B Ak (rowI R k) := by
  obtain ⟨b, off, e, hb, hc⟩ := h (by omega)
  obtain ⟨Aj, cj, h1, h2⟩ := hc k hk
  exact ⟨b, off, Aj, cj, e, hb, h1, h2⟩
theorem Mat.keep (h : Mat w B A R) (hk : ∀ p : Addr, p.block < B → w'.cell? p = w.cell? p) : Mat w' B A R := fun hn => by
  obtain ⟨b, off, e, hb, hc⟩ := h hn
  refine ⟨b, off, e, hb, fun j hj => ?_⟩
  obtain ⟨Aj, cj, h1, h2⟩ := hc j hj
  exact ⟨Aj, cj, (hk _ hb).trans h1, h2.keep hk⟩
theorem Mat.more (h : Mat w B A R) (hB : B ≤ B') : Mat w B' A R := fun hn => by
  obtain ⟨b, off, e, hb, hc⟩ := h hn
  refine ⟨b, off, e, by omega, fun j hj => ?_⟩
  obtain ⟨Aj, cj, h1, h2⟩ := hc j hj
  exact ⟨Aj, cj, h1, h2.more hB⟩
theorem Mat.below (h : Mat w B A R) (hb : Below B w w') : Mat w' B A R := h.keep fun _ hp => hb.cell hp
theorem Mat.nil : Mat w B A [] := fun h => by simp at h
end
/-- deps that came in are right -/
def okRow (n : Nat) (l : List Int) (k : Nat) : Bool := (List.range k).all fun j => decide (0 ≤ nth l j) && decide (nth l j < (n : Int))
def okTo (R : List (List Int)) (k : Nat) : Bool := (List.range k).all fun n => decide ((rowI R n).length ≤ 256) && okRow n (rowI R n) (rowI R n).length
def okB (R : List (List Int)) : Bool := decide (R.length ≤ 256) && okTo R R.length
theorem okRow_succ (n : Nat) (l : List Int) (k : Nat) : okRow n l (k + 1) = (okRow n l k && (decide (0 ≤ nth l k) && decide (nth l k < (n : Int)))) := by
  simp [okRow, List.range_succ]
theorem okTo_succ (R : List (List Int)) (k : Nat) : okTo R (k + 1) = (okTo R k && (decide ((rowI R k).length ≤ 256) && okRow k (rowI R k) (rowI R k).length)) := by
  simp [okTo, List.range_succ]
theorem okRow_stop {n : Nat} {l : List Int} {k : Nat} (hk : k < l.length) (h : ¬ (0 ≤ nth l k ∧ nth l k < (n : Int))) : okRow n l l.length = false := by
  rw [Bool.eq_false_iff]
  intro ht
  have := List.all_eq_true.1 ht k (List.mem_range.2 hk)
  simp only [Bool.and_eq_true, decide_eq_true_eq] at this
  exact h this
theorem okTo_stop {R : List (List Int)} {k : Nat} (hk : k < R.length) (h : (decide ((rowI R k).length ≤ 256) && okRow k (rowI R k) (rowI R k).length) = false) : okB R = false := by
  rw [Bool.eq_false_iff]
  intro ht
  have h1 : okTo R R.length = true := by unfold okB at ht; simp only [Bool.and_eq_true] at ht; exact ht.2
  have := List.all_eq_true.1 h1 k (List.mem_range.2 hk)
  rw [h] at this; cases this
theorem okB_long {R : List (List Int)} (h : ¬ R.length ≤ 256) : okB R = false := by simp [okB, h]
theorem okB_all {R : List (List Int)} (h : R.length ≤ 256) (h2 : okTo R R.length = true) : okB R = true := by simp [okB, h, h2]
theorem okRow_zero (n : Nat) (l : List Int) : okRow n l 0 = true := rfl
theorem okTo_zero (R : List (List Int)) : okTo R 0 = true := rfl

end Go.Proofs.Ytkldiofleepkfaa.Gr

/- Blocks of cells; marks in memory; contract of mark. -/
namespace Go.Proofs.Ytkldiofleepkfaa.Gr
set_option linter.unusedVariables false
set_option linter.unusedSimpArgs false
open Go.RowKit

def BlkIs (w : World) (g : Nat) (t : TypeId) (l : List Value) : Prop := w.heap[g]? = some (.cells l.toArray t (0, 0))
theorem BlkIs.cell {w : World} {g : Nat} {t : TypeId} {l : List Value} (h : BlkIs w g t l) (k : Nat) : w.cell? ⟨g, k, none⟩ = l[k]? := by
  unfold BlkIs at h
  simp [World.cell?, h]
theorem BlkIs.frozen {w : World} {g : Nat} {t : TypeId} {l : List Value} (h : BlkIs w g t l) (k : Nat) : w.frozen? ⟨g, k, none⟩ = false := by
  unfold BlkIs at h
  simp [World.frozen?, h]
theorem BlkIs.set_ {w : World} {g : Nat} {t : TypeId} {l : List Value} (h : BlkIs w g t l) (k : Nat) (v : Value) : BlkIs (w.setCell ⟨g, k, none⟩ v) g t (l.set k v) := by
  unfold BlkIs at h ⊢
  simp [World.setCell, Array.getElem?_modify, h]
theorem BlkIs.lt {w : World} {g : Nat} {t : TypeId} {l : List Value} (h : BlkIs w g t l) : g < w.heap.size := by
  rcases Nat.lt_or_ge g w.heap.size with hlt | hge
  · exact hlt
  · unfold BlkIs at h; rw [Array.getElem?_eq_none hge] at h; cases h
theorem BlkIs.range {w : World} {g : Nat} {t : TypeId} {l : List Value} (h : BlkIs w g t l) : w.rangeAt g 0 l := fun j v hv => by
  rw [Nat.zero_add, h.cell]; exact hv
theorem BlkIs.there {w : World} {g : Nat} {t : TypeId} {l : List Value} (h : BlkIs w g t l) (n : Nat) (hn : n ≤ l.length) : w.there g 0 n := fun j hj => by
  rw [Nat.zero_add, h.cell, List.getElem?_eq_getElem (by omega)]
  exact ⟨rfl, h.frozen _⟩
theorem BlkIs.kept {w w' : World} {g : Nat} {t : TypeId} {l : List Value} {row : Option Nat} (h : BlkIs w g t l) (hg : w.grownBy w' row) (hne : some g ≠ row) : BlkIs w' g t l := by
  unfold BlkIs at h ⊢
  rw [hg.block g (Array.getElem?_eq_some_iff.1 h).1 hne]
  exact h
theorem BlkIs.below {w w' : World} {g B : Nat} {t : TypeId} {l : List Value} (h : BlkIs w g t l) (hb : Below B w w') (hlt : g < B) : BlkIs w' g t l := by
  unfold BlkIs at h ⊢
  rw [hb.block g hlt]
  exact h
theorem grownBy_setCells (b : Nat) : ∀ (vs : List Value) (o : Nat) (w w' : World), w.grownBy w' (some b) → w.grownBy (w'.setCells b o vs) (some b)
  | [], _, _, _, h => h
  | v :: r, o, w, w', h => by
    refine grownBy_setCells b r (o + 1) w _ ?_
    refine ⟨h.os, h.tape, h.output, by have := h.size; simpa [World.setCell] using this, fun k hk hne => ?_⟩
    rw [← h.block k hk hne]
    have : k ≠ b := fun e => hne (by rw [e])
    simp [World.setCell, Array.getElem?_modify]
    intro e
    exact absurd e.symm this
theorem grownBy_set (W : World) (b o : Nat) (v : Value) : W.grownBy (W.setCell ⟨b, o, none⟩ v) (some b) := grownBy_setCells b [v] o W W ⟨rfl, rfl, rfl, Nat.le_refl _, fun _ _ _ => rfl⟩
theorem BlkIs.alloc {w : World} {g : Nat} {t : TypeId} {l : List Value} (h : BlkIs w g t l) (o : Obj) : BlkIs (w.alloc o) g t l := h.kept (World.grownBy_alloc w o none) (by simp)
theorem BlkIs.new (w : World) (t : TypeId) (c : Array Value) : BlkIs (w.alloc (.cells c t)) w.heap.size t c.toList := by
  unfold BlkIs; rw [Array.toArray_toList]; exact heap_alloc_last w _
theorem BlkIs.other {w : World} {g g' o : Nat} {t : TypeId} {l : List Value} (h : BlkIs w g t l) (hne : g ≠ g') (v : Value) : BlkIs (w.setCell ⟨g', o, none⟩ v) g t l := h.kept (grownBy_set w g' o v) (fun e => hne (by cases e; rfl))

/-- marks as values -/
def marksV (m : Nat → Bool) : List Value := (List.range 256).map fun n => .bool (m n)
theorem length_marksV (m : Nat → Bool) : (marksV m).length = 256 := by simp [marksV]
theorem marksV_at (m : Nat → Bool) {x : Nat} (h : x < 256) : (marksV m)[x]? = some (.bool (m x)) := by
  rw [List.getElem?_eq_getElem (by rw [length_marksV]; exact h)]
  simp [marksV]
theorem marksV_set (m : Nat → Bool) (x : Nat) : (marksV m).set x (.bool true) = marksV fun y => m y || y == x := by
  apply List.ext_getElem
  · simp [marksV]
  · intro i h1 h2
    rw [List.getElem_set]
    by_cases e : x = i
    · subst e; simp [marksV]
    · rw [if_neg e]
      have : (i == x) = false := by simp; omega
      simp [marksV, this]
theorem marksV_clear (m : Nat → Bool) (x : Nat) : (marksV m).set x (.bool false) = marksV fun y => m y && !(y == x) := by
  apply List.ext_getElem
  · simp [marksV]
  · intro i h1 h2
    rw [List.getElem_set]
    by_cases e : x = i
    · subst e; simp [marksV]
    · rw [if_neg e]
      have : (i == x) = false := by simp; omega
      simp [marksV, this]
theorem marksV_one (m : Nat → Bool) : ∀ u ∈ marksV m, u.oneCell' = true := by
  intro u hu
  obtain ⟨x, _, rfl⟩ := List.mem_map.1 hu
  rfl
def zero51 : Array Value := (List.replicate 256 (Value.bool false)).toArray
theorem marksV_zero : marksV (fun _ => false) = zero51.toList := by
  have h : ∀ n, (List.range n).map (fun _ => Value.bool false) = List.replicate n (Value.bool false) := by
    intro n
    apply List.ext_getElem
    · simp
    · intro i h1 h2; simp
  unfold marksV zero51
  exact h 256
theorem BlkIs.row {w : World} {g : Nat} {t : TypeId} {l : List Value} (h : BlkIs w g t l) (cs : Array Value) : BlkIs (w.setRow g cs) g t cs.toList := by
  unfold BlkIs at h ⊢
  rw [Array.toArray_toList]; exact setRow_heap w g _ cs t (0, 0) h
theorem grownBy_setRow (W : World) (b : Nat) (cs : Array Value) : W.grownBy (W.setRow b cs) (some b) :=
  ⟨rfl, rfl, rfl, by simp, fun k _ hk => setRow_other W b k cs (fun e => hk (by rw [e]))⟩
/-- a store of a whole array -/
theorem wp_store_row {P : Program} {op : Oper} {a : Act} {w : World} {K : Act → World → Prop} {Q : Exit → Act → World → Prop} (ty : TypeId) (x y : Operand) (ho : op.op = .store ty x y)
    (g : Nat) (cs : Array Value) (hx : a.eval x = .pointer (some ⟨g, 0, none⟩)) (hy : a.eval y = .agg cs) (cur : List Value) (t : TypeId) (hg : BlkIs w g t cur)
    (hi : (P.info? ty).map (·.size) = some cs.size) (hsz : cur.length = cs.size) (h1 : ∀ v ∈ cs.toList, v.oneCell' = true)
    (h : K (a.put op.dst undef) (w.setRow g cs)) : op.wp P a w K Q := by
  have hrun := run_storeVar_row (P := P) w g t ty cur.toArray cs hg hi (by simpa using hsz) (Array.all_eq_true_iff_forall_mem.2 (fun v hv => h1 v (by simpa using hv)))
  unfold Oper.wp execOp
  simp only [ho, hx, hy, Instr.storeAt, Instr.sureAddr, Sem.run_bind, Sem.run_pure, Result.andThen_ok, hrun]
  exact h
theorem wpList_store_row {P : Program} {ops : Array Oper} {rest : List Oper} {op : Oper} {a : Act} {w : World} {Q : Exit → Act → World → Prop} (hgd : op.guard = none) (ty : TypeId) (x y : Operand) (ho : op.op = .store ty x y)
    (g : Nat) (cs : Array Value) (hx : a.eval x = .pointer (some ⟨g, 0, none⟩)) (hy : a.eval y = .agg cs) (cur : List Value) (t : TypeId) (hg : BlkIs w g t cur)
    (hi : (P.info? ty).map (·.size) = some cs.size) (hsz : cur.length = cs.size) (h1 : ∀ v ∈ cs.toList, v.oneCell' = true)
    (h : wpList P ops Q rest (a.put op.dst undef) (w.setRow g cs)) : wpList P ops Q (op :: rest) a w :=
  wpList_plain hgd fun _ hK => wp_store_row ty x y ho g cs hx hy cur t hg hi hsz h1 (hK _ _ h)
/-- a store of a whole array into a block that was just made -/
theorem wp_store_new {P : Program} {op : Oper} {a : Act} {w : World} {K : Act → World → Prop} {Q : Exit → Act → World → Prop} (ty : TypeId) (x y : Operand) (ho : op.op = .store ty x y)
    (g : Nat) (hgs : g = w.heap.size) (cs cur : Array Value) (hx : a.eval x = .pointer (some ⟨g, 0, none⟩)) (hy : a.eval y = .agg cs)
    (hi : (P.info? ty).map (·.size) = some cs.size) (hsz : cur.size = cs.size) (h1 : ∀ v ∈ cs.toList, v.oneCell' = true)
    (h : K (a.put op.dst undef) (w.alloc (.cells cs ty))) : op.wp P a (w.alloc (.cells cur ty)) K Q := by
  subst hgs
  have hrun := run_storeVar_new (P := P) w ty cur cs hi hsz (Array.all_eq_true_iff_forall_mem.2 (fun v hv => h1 v (by simpa using hv)))
  unfold Oper.wp execOp
  simp only [ho, hx, hy, Instr.storeAt, Instr.sureAddr, Sem.run_bind, Sem.run_pure, Result.andThen_ok, hrun]
  exact h

theorem wpList_store_new {P : Program} {ops : Array Oper} {rest : List Oper} {op : Oper} {a : Act} {w : World} {Q : Exit → Act → World → Prop} (hgd : op.guard = none) (ty : TypeId) (x y : Operand) (ho : op.op = .store ty x y)
    (g : Nat) (hgs : g = w.heap.size) (cs cur : Array Value) (hx : a.eval x = .pointer (some ⟨g, 0, none⟩)) (hy : a.eval y = .agg cs)
    (hi : (P.info? ty).map (·.size) = some cs.size) (hsz : cur.size = cs.size) (h1 : ∀ v ∈ cs.toList, v.oneCell' = true)
    (h : wpList P ops Q rest (a.put op.dst undef) (w.alloc (.cells cs ty))) : wpList P ops Q (op :: rest) a (w.alloc (.cells cur ty)) :=
  wpList_plain hgd fun _ hK => wp_store_new ty x y ho g hgs cs cur hx hy hi hsz h1 (hK _ _ h)

theorem take_nth (l : List Int) (k : Nat) (h : k < l.length) : l.take (k + 1) = l.take k ++ [nth l k] := by
  rw [List.take_succ_eq_append_getElem h, nth_lt h]

end Go.Proofs.Ytkldiofleepkfaa.Gr

/- A loop over a function whose body never leaves it, and may change what the function reads: the function is met with the body's own invariant at hand. -/
namespace Go.Proofs.Ytkldiofleepkfaa.Gr
set_option linter.unusedVariables false
set_option linter.unusedSimpArgs false
open Go.RowKit

/-- how a round is left: it goes on -/
def onPost (B : Nat) (R : World → Prop) (W : World) : Exit → Act → World → Prop
  | .normal, _, W' => KeepsFrom B W W' ∧ R W'
  | _, _, _ => False

variable {F : Fence} {n : Nat} {P : Program}

theorem range_runs {α : Type} {g : Operand} {ps : Array Tmp} {assign body : Code} {Q : Exit → Act → World → Prop} {a : Act} {w : World}
    (hro : F.round = none) (h1 : 1 ≤ n) {gf : Nat} {lb : Array Value} (hg : a.eval g = .func (.func gf) #[] lb) (hFg : F.fn gf) (eg : ∀ args w, (callFunc gf args).run P w = .ok (.enter gf args) w)
    {encs : α → Array Value} (hps : ∀ x, (encs x).size = ps.size)
    (I : List α → World → Prop) (Nx : List α → α → Prop) (S : List α → Prop) (hI : OwnFrom w.heap.size I) (h0 : I [] w) (a₁ : α → Act)
    (hassign : ∀ (l : Nat) (x : α) (W : World) (K : Act → World → Prop), K (a₁ x) W →
      assign.wpIn (F.inRound l) (n - 1 - 1) P (Exit.then K (fun _ _ _ => False)) { tmps := (ps.zip (encs x)).foldl (fun t (p, v) => t.setIfInBounds p v) a.tmps, defers := [] } W)
    (hbody : ∀ (l : Nat) (pre : List α) (x : α) (W : World), I pre W → Nx pre x → body.wpIn (F.inRound l) (n - 1 - 1) P (onPost w.heap.size (I (pre ++ [x])) W) (a₁ x) W)
    (hiter : ∀ (l : Nat) (J : List α → World → Prop) (W1 : World), (∀ pre W, J pre W → I pre W) →
      (∀ pre x W, J pre W → Nx pre x → YieldAt F (n - 1 - 1) P l (encs x) W fun e W' => e = .returned (.bool true) ∧ J (pre ++ [x]) W') → J [] W1 →
      CallsIn F (n - 1) P gf (#[.func (.yield l) #[] #[]] ++ lb) W1 fun e W' => (∃ v, e = .returned v) ∧ ∃ xs, S xs ∧ J xs W')
    (hdone : ∀ (D : Nat) (xs : List α) (W : World), w.heap.size ≤ D → S xs → I xs W → W.heap[D]? = some (.deferred (some [])) → Q .normal { a with defers := { target := .collected D, args := #[] } :: a.defers } W) :
    (Code.rangeFunc g ps assign body).wpIn F n P Q a w := by
  refine wpIn_rangeFunc fun fn hfn => ?_
  rw [hro]
  -- the two blocks that the loop lays: D for deferred calls, L its record in one of three states
  obtain ⟨D, hD⟩ : ∃ D, D = w.heap.size := ⟨_, rfl⟩
  obtain ⟨r, hr⟩ : ∃ r : LoopState → Loop, r = fun st => { state := st, pending := none, fn, tmps := a.tmps, params := ps, assign, body, defers := D } := ⟨_, rfl⟩
  have hrp : ∀ st, (r st).params = ps := fun st => by rw [hr]
  obtain ⟨W1, hW1⟩ : ∃ W1, W1 = (w.alloc (.deferred (some []))).alloc (.loop (r .ready)) := ⟨_, rfl⟩
  -- what the book says of a world: the loop's record, and the block for deferred calls
  obtain ⟨Bk, hBk⟩ : ∃ Bk : LoopState → World → Prop, Bk = fun st W => W.heap[D + 1]? = some (.loop (r st)) ∧ W.heap[D]? = some (.deferred (some [])) := ⟨_, rfl⟩
  have turn : ∀ {st W} (st'), Bk st W → Bk st' (W.putObj (D + 1) (.loop (r st'))) := fun st' h => by
    rw [hBk] at h ⊢
    exact ⟨World.putObj_heap_same (Array.getElem?_eq_some_iff.1 h.1).1, (World.putObj_heap_other (by omega)).trans h.2⟩
  have turnI : ∀ {st W xs} (st'), Bk st W → I xs W → I xs (W.putObj (D + 1) (.loop (r st'))) := fun st' h hi => by
    rw [hBk] at h
    exact hI.putObj _ hi (by omega) h.1 rfl
  have keep : ∀ {st W W'}, Bk st W → KeepsFrom w.heap.size W W' → Bk st W' := fun h k => by
    rw [hBk] at h ⊢
    exact ⟨k.same _ _ (by omega) h.1 rfl, k.same _ _ (by omega) h.2 rfl⟩
  have hB1 : Bk .ready W1 := by
    rw [hBk, hW1, hD]
    refine ⟨?_, (Below.heap_alloc _ _ _ (by simp)).trans (World.alloc_heap_new w _)⟩
    have := World.alloc_heap_new (w.alloc (.deferred (some []))) (.loop (r .ready))
    rwa [World.size_alloc] at this
  have hI1 : I [] W1 := by rw [hW1]; exact hI.alloc _ (hI.alloc _ h0)
  refine ⟨D + 1, [{ target := .collected D, args := #[] }], W1, { target := .fn (.func gf) lb, args := #[.func (.yield (D + 1)) #[] #[]] }, W1, gf,
    #[.func (.yield (D + 1)) #[] #[]] ++ lb, W1, ?_, ?_, ?_, ?_, fun _ => h1, ?_⟩
  · rw [hW1, hr, hD]; exact run_enterLoop_outer _ _ _ _ _
  · simp only [resolve, hg]; simp [go_sem]
  · intro f' hf'; simp [Target.leads] at hf'; subst hf'; exact hFg
  · simp [invoke, go_sem, eg]
  · refine (hiter (D + 1) (fun pre W => I pre W ∧ Bk .ready W) W1 (fun _ _ h => h.1) ?_ ⟨hI1, hB1⟩).mono ?_
    · rintro pre x W ⟨hi, hb⟩ hx
      have hl : W.heap[D + 1]? = some (.loop (r .ready)) := by have := hb; rw [hBk] at this; exact this.1
      have hy := run_yield (P := P) (args := encs x) hl (by rw [hrp]; exact hps x)
      have hbusy := turn .busy hb
      have hbg := run_beginRound (P := P) hl (by rw [hr])
      have eb : ({ r .ready with state := .busy } : Loop) = r .busy := by rw [hr]
      rw [eb] at hbg
      have ef : (r .ready).fn = fn ∧ (r .ready).tmps = a.tmps ∧ (r .ready).assign = assign ∧ (r .ready).body = body := by rw [hr]; exact ⟨rfl, rfl, rfl, rfl⟩
      rw [ef.1, ef.2.1, ef.2.2.1, ef.2.2.2, hrp] at hy
      refine ⟨fn, _, assign, body, hy, roundIn_of_wpIn hfn (hassign _ x W _ ⟨_, hbg, ?_⟩)⟩
      refine wpIn_mono (hbody _ pre x _ (turnI .busy hb hi) hx) ?_
      rintro e a3 W3 hp
      cases e with
      | normal =>
        obtain ⟨hk3, hi3⟩ := hp
        have hb3 := keep hbusy hk3
        have hl3 : W3.heap[D + 1]? = some (.loop (r .busy)) := by have := hb3; rw [hBk] at this; exact this.1
        have hend := run_endRound (P := P) none hl3
        have ee : ({ r .busy with state := if (none : Option Code).isNone then .ready else .done, pending := none } : Loop) = r .ready := by rw [hr]; rfl
        rw [ee] at hend
        exact ⟨_, _, hend, rfl, turnI .ready hb3 hi3, turn .ready hb3⟩
      | ret => exact hp.elim
      | exit id => exact hp.elim
      | goto t => exact hp.elim
      | panic ch => exact hp.elim
      | outgrown => exact hp.elim
    · rintro e W2 ⟨⟨v, rfl⟩, xs, hS, hi, hb⟩
      have hl : W2.heap[D + 1]? = some (.loop (r .ready)) := by have := hb; rw [hBk] at this; exact this.1
      have hend := run_endLoop (P := P) hl (by rw [hr]; simp)
      have ee : ({ r .ready with state := .exhausted } : Loop) = r .exhausted := by rw [hr]
      have ep : (r .ready).pending = none := by rw [hr]
      rw [ee, ep] at hend
      have hb2 := turn .exhausted hb
      exact ⟨none, _, hend, hdone D xs _ (by omega) hS (turnI .exhausted hb hi) (by have := hb2; rw [hBk] at this; exact this.2)⟩
end Go.Proofs.Ytkldiofleepkfaa.Gr

/- The two iterators over marks; contract of add. -/
namespace Go.Proofs.Ytkldiofleepkfaa.Gr
set_option linter.unusedVariables false
set_option linter.unusedSimpArgs false
open Go.RowKit Go.Shelf

attribute [local go_sem] Oper.semAt_some

theorem take_el (q : List Nat) (k : Nat) (h : k < q.length) : q.take (k + 1) = q.take k ++ [el q k] := by
  rw [List.take_succ_eq_append_getElem h, el_lt h]
theorem lt_cell {w : World} {b o : Nat} {v : Value} (h : w.cell? ⟨b, o, none⟩ = some v) : b < w.heap.size := by
  rcases Nat.lt_or_ge b w.heap.size with hb | hb
  · exact hb
  · exact absurd h (by simp [World.cell?, Array.getElem?_eq_none hb])
/-- what lay below n₀ lies as it lay, and so do the blocks Bn and g -/
def KeepsTwo (n₀ Bn g : Nat) (A B : World) : Prop := Below n₀ A B ∧ B.heap[Bn]? = A.heap[Bn]? ∧ B.heap[g]? = A.heap[g]?
theorem KeepsTwo.refl (n₀ Bn g : Nat) (A : World) : KeepsTwo n₀ Bn g A A := ⟨Below.refl _ _, rfl, rfl⟩
theorem KeepsTwo.trans {n₀ Bn g : Nat} {A B C : World} (h : KeepsTwo n₀ Bn g A B) (k : KeepsTwo n₀ Bn g B C) : KeepsTwo n₀ Bn g A C := ⟨h.1.trans k.1, k.2.1.trans h.2.1, k.2.2.trans h.2.2⟩
theorem KeepsTwo.cell {n₀ Bn g : Nat} {A B : World} (h : KeepsTwo n₀ Bn g A B) : B.cell? ⟨Bn, 0, none⟩ = A.cell? ⟨Bn, 0, none⟩ := World.cell?_of_block h.2.1
theorem keepsTwo_b {n₀ Bn g : Nat} {w : World} (hn : n₀ ≤ w.heap.size) (hB : Bn < w.heap.size) (hg : g < w.heap.size) (W : World) (l : Nat) (o o' : Obj) (hl : w.heap.size ≤ l) (h : W.heap[l]? = some o) (hc : o.isCells = false) (hw : o.isWalk = false) : KeepsTwo n₀ Bn g W (W.putObj l o') :=
  ⟨belowK_b hn W l o o' hl h hc hw, (grownBy_putObj' W l o').block Bn (by have := (Array.getElem?_eq_some_iff.1 h).1; omega) (fun e => by cases e; omega),
    (grownBy_putObj' W l o').block g (by have := (Array.getElem?_eq_some_iff.1 h).1; omega) (fun e => by cases e; omega)⟩

/-- a number that is marked -/
abbrev On (m : Nat → Bool) := { x : Nat // x < 256 ∧ m x = true }
def plainO {m : Nat → Bool} (p : List (On m)) : List Nat := p.map (·.1)
theorem plainO_snoc {m : Nat → Bool} (p : List (On m)) (x : On m) : plainO (p ++ [x]) = plainO p ++ [x.1] := by simp [plainO]
theorem length_plainO {m : Nat → Bool} (p : List (On m)) : (plainO p).length = p.length := by simp [plainO]

end Go.Proofs.Ytkldiofleepkfaa.Gr

/- Contracts of list, addAhead, Close. -/
namespace Go.Proofs.Ytkldiofleepkfaa.Gr
set_option linter.unusedVariables false
set_option linter.unusedSimpArgs false
open Go.RowKit Go.Shelf

attribute [local go_sem] Oper.semAt_some
theorem info3 : (Try.prog.info? 3).map (fun i => (i.zero, i.size, i.bytes)) = some (some (.int .i64 0), 1, 8) := by kernel_rfl
theorem wide_depth {p : Prop} (h : Fence.wide.depth.isSome = true) : p := by cases h
def natsV (l : List Nat) : List Value := l.map fun i => Value.int .i64 ((i : Nat) : Int)
def intsV (l : List Int) : List Value := l.map fun i => Value.int .i64 i
theorem natsV_intsV (l : List Nat) : natsV l = intsV (natsI l) := by simp [natsV, intsV, natsI]
theorem length_natsV (l : List Nat) : (natsV l).length = l.length := by simp [natsV]
/-- a slice that owns ints is such a slice -/
theorem own_ints {w : World} {B : Nat} {v : Value} {n : Nat} {l : List Int} (h : w.ownsRow B 3 1 v n (intsV l)) : ∃ A c, v = .slice A l.length c ∧ l.length ≤ c ∧ c ≤ maxLen ∧ Ints w w.heap.size A l := by
  have hn : l.length = n := by have := h.1; simpa [intsV] using this
  subst hn
  rcases h.2 with ⟨rfl, hn⟩ | ⟨g, cap, cur, rfl, _, hg, hnc, hcm, _⟩
  · have hl : l = [] := List.eq_nil_of_length_eq_zero hn
    subst hl
    exact ⟨none, 0, rfl, Nat.le_refl _, Nat.zero_le _, Ints.nil⟩
  · refine ⟨some ⟨g, 0, none⟩, cap, rfl, hnc, hcm, fun _ => ⟨g, 0, rfl, (h.lt g rfl).2, fun j hj => ?_⟩⟩
    rw [Nat.zero_add, h.cellAt j (by omega), intsV, List.getElem?_map, List.getElem?_eq_getElem hj, nth_lt hj]; rfl

end Go.Proofs.Ytkldiofleepkfaa.Gr

/- Contract of addAhead. -/
namespace Go.Proofs.Ytkldiofleepkfaa.Gr
set_option linter.unusedVariables false
set_option linter.unusedSimpArgs false
open Go.RowKit Go.Shelf

attribute [local go_sem] Oper.semAt_some
def rowsI (D : List (List Nat)) : List (List Int) := D.map natsI
theorem length_rowsI (D : List (List Nat)) : (rowsI D).length = D.length := by simp [rowsI]
theorem rowI_rowsI (D : List (List Nat)) (n : Nat) : rowI (rowsI D) n = natsI (rowN D n) := by
  unfold rowI rowsI rowN
  rw [List.getD_eq_getElem?_getD, List.getD_eq_getElem?_getD, List.getElem?_map]
  cases h : D[n]? <;> rfl
theorem foldR_lt {D : List (List Nat)} {m : Nat → Bool} {K : Nat} (hm : ∀ x, m x = true → x < K) (hr : ∀ n, ∀ d ∈ rowN D n, d < K) (pre : List Nat) (x : Nat) (h : foldR D m pre x = true) : x < K := by
  have key : ∀ (pre : List Nat) (m : Nat → Bool), (∀ x, m x = true → x < K) → foldR D m pre x = true → x < K := by
    intro pre
    induction pre with
    | nil => intro m hm h; exact hm x h
    | cons a pre ih =>
      intro m hm h
      refine ih (addAll m (rowN D a)) (fun y hy => ?_) h
      rcases addAll_true.1 hy with hy | hy
      · exact hm y hy
      · exact hr a y hy
  exact key pre m hm h
theorem Right.row_lt {D : List (List Nat)} (hD : Right D) (n : Nat) : ∀ d ∈ rowN D n, d < D.length := fun d hd => Nat.lt_trans (hD.2 n d hd) (mem_row_lt hd)
theorem Ints.grown {w w' : World} {B g : Nat} {A : Option Addr} {l : List Int} (h : Ints w B A l) (hg : w.grownBy w' (some g)) (hB : B ≤ g) (hl : g < w.heap.size) : Ints w' B A l :=
  h.keep fun p hp => World.cell?_of_block (hg.block p.block (by omega) (fun e => by injection e with e; omega))
theorem Mat.grown {w w' : World} {B g : Nat} {A : Option Addr} {R : List (List Int)} (h : Mat w B A R) (hg : w.grownBy w' (some g)) (hB : B ≤ g) (hl : g < w.heap.size) : Mat w' B A R :=
  h.keep fun p hp => World.cell?_of_block (hg.block p.block (by omega) (fun e => by injection e with e; omega))
theorem grown_own {β : Type} {B : Nat} (w : World) (g : Nat) (h : w.heap.size ≤ B) : OwnFrom B (fun (_ : β) W => w.grownBy W (some g)) := fun _ X Y row hs hg hrow =>
  ⟨hg.os.trans hs.os, hg.tape.trans hs.tape, hg.output.trans hs.output, Nat.le_trans hs.size hg.size, fun k hk hne =>
    (hg.block k (Nat.lt_of_lt_of_le hk hs.size) (fun e => by have := (hrow k e.symm).1; omega)).trans (hs.block k hk hne)⟩
theorem grown_keeps {B g : Nat} {W W' : World} (h : W.grownBy W' (some g)) (hg : g < B) : KeepsFrom B W W' := KeepsFrom.of_grownBy h (fun j e => by cases e; exact hg)

end Go.Proofs.Ytkldiofleepkfaa.Gr

/- Deps that are right; contract of Close. -/
namespace Go.Proofs.Ytkldiofleepkfaa.Gr
set_option linter.unusedVariables false
set_option linter.unusedSimpArgs false
open Go.RowKit Go.Shelf

theorem own_mono {w : World} {base base' : Nat} {e : TypeId} {size : Nat} {v : Value} {n : Nat} {xs : List Value} (h : w.ownsRow base e size v n xs) (hb : base' ≤ base) : w.ownsRow base' e size v n xs := by
  refine ⟨h.1, ?_⟩
  rcases h.2 with h | ⟨g, cap, cur, h1, h2, h3⟩
  · exact .inl h
  · exact .inr ⟨g, cap, cur, h1, Nat.le_trans hb h2, h3⟩
structure OkD (D : List (List Nat)) : Prop where
  right : Right D
  len : ∀ n, (rowN D n).length ≤ 256
theorem okRow_of {n : Nat} {l : List Int} (h : ∀ x ∈ l, 0 ≤ x ∧ x < (n : Int)) : okRow n l l.length = true := by
  refine List.all_eq_true.2 fun k hk => ?_
  have hk := List.mem_range.1 hk
  have := h (nth l k) (by rw [nth_lt hk]; exact List.getElem_mem _)
  simp only [Bool.and_eq_true, decide_eq_true_eq]; exact this
theorem okRow_out {n : Nat} {l : List Int} (h : okRow n l l.length = true) : ∀ x ∈ l, 0 ≤ x ∧ x < (n : Int) := by
  intro x hx
  obtain ⟨k, hk, rfl⟩ := List.getElem_of_mem hx
  have := List.all_eq_true.1 h k (List.mem_range.2 hk)
  simp only [Bool.and_eq_true, decide_eq_true_eq] at this
  rwa [nth_lt hk] at this
theorem okB_of {D : List (List Nat)} (h : OkD D) : okB (rowsI D) = true := by
  refine okB_all (by rw [length_rowsI]; exact h.right.1) (List.all_eq_true.2 fun n _ => ?_)
  rw [rowI_rowsI, length_natsI]
  simp only [Bool.and_eq_true, decide_eq_true_eq]
  refine ⟨h.len n, ?_⟩
  have := okRow_of (n := n) (l := natsI (rowN D n)) (fun x hx => by
    obtain ⟨d, hd, rfl⟩ := List.mem_map.1 hx
    have := h.right.2 n d hd
    omega)
  rwa [length_natsI] at this
theorem okB_out {R : List (List Int)} (h : okB R = true) : ∃ D, R = rowsI D ∧ OkD D := by
  unfold okB at h
  simp only [Bool.and_eq_true, decide_eq_true_eq] at h
  have hrow : ∀ n, n < R.length → (rowI R n).length ≤ 256 ∧ ∀ x ∈ rowI R n, 0 ≤ x ∧ x < (n : Int) := fun n hn => by
    have := List.all_eq_true.1 h.2 n (List.mem_range.2 hn)
    simp only [Bool.and_eq_true, decide_eq_true_eq] at this
    exact ⟨this.1, okRow_out this.2⟩
  have hD : R = rowsI (R.map fun l => l.map Int.toNat) := by
    unfold rowsI natsI
    rw [List.map_map]
    apply List.ext_getElem
    · simp
    · intro n h1 h2
      rw [List.getElem_map]
      show R[n] = ((R[n]).map Int.toNat).map _
      rw [List.map_map]
      apply List.ext_getElem
      · simp
      · intro k k1 k2
        have := (hrow n h1).2 (R[n][k]) (by rw [rowI_lt h1]; exact List.getElem_mem _)
        simp; omega
  refine ⟨_, hD, ?_⟩
  have hl : (R.map fun l => l.map Int.toNat).length = R.length := by simp
  have hr : ∀ n, n < R.length → rowN (R.map fun l => l.map Int.toNat) n = (rowI R n).map Int.toNat := fun n hn => by
    rw [rowN_lt (by rw [hl]; exact hn), rowI_lt hn]; simp
  refine ⟨⟨by rw [hl]; exact h.1, fun n d hd => ?_⟩, fun n => ?_⟩
  · have hn := mem_row_lt hd
    rw [hl] at hn
    rw [hr n hn] at hd
    obtain ⟨x, hx, rfl⟩ := List.mem_map.1 hd
    have := (hrow n hn).2 x hx
    omega
  · rcases Nat.lt_or_ge n R.length with hn | hn
    · rw [hr n hn, List.length_map]; exact (hrow n hn).1
    · rw [rowN_nil (by rw [hl]; exact hn)]; simp

theorem OkD.lenBig {D : List (List Nat)} (h : OkD D) (n : Nat) : (rowN D n).length ≤ 100000 := Nat.le_trans (h.len n) (by omega)

theorem closeL_256 {D : List (List Nat)} (hD : Right D) (l : List Int) : listM 256 (upM D (markI D.length l) 256) = closeL D l := by
  have hm : ∀ x, markI D.length l x = true → x < D.length := fun x h => markI_lt h
  have h1 := upM_bound (D := D) hD.2 (B := 256) (fun x h => Nat.lt_of_lt_of_le (hm x h) hD.1) hm
  rw [h1]
  unfold closeL
  exact listM_more hD.1 (fun x h => by
    have := (upM_iff (D := D) hD.2 hm x).1 h
    rcases this with h | ⟨y, hy, hk⟩
    · exact hm x h
    · have := hk.lt hD; omega)

end Go.Proofs.Ytkldiofleepkfaa.Gr

/- Contract of Before. -/
namespace Go.Proofs.Ytkldiofleepkfaa.Gr
set_option linter.unusedVariables false
set_option linter.unusedSimpArgs false
open Go.RowKit Go.Shelf

/-- a is a number of deps -/
def isN (D : List (List Nat)) (a : Int) : Bool := decide (0 ≤ a) && decide (a < (D.length : Int))
/-- Before -/
def befB (D : List (List Nat)) (a b : Int) : Bool := isN D a && isN D b && !(a == b) && upM D (markI D.length [b]) 256 a.toNat

theorem Ints.one (w : World) (i : Int) (B : Nat) (hB : w.heap.size < B) : Ints (w.alloc (.cells #[.int .i64 i] 3)) B (some ⟨w.heap.size, 0, none⟩) [i] := fun _ =>
  ⟨w.heap.size, 0, rfl, hB, fun j hj => by
    have : j = 0 := by simp at hj; exact hj
    subst this
    have := heap_alloc_last w (.cells #[.int .i64 i] 3)
    simp only [World.cell?, Nat.add_zero, this]
    rfl⟩

end Go.Proofs.Ytkldiofleepkfaa.Gr

/- How deep a number is; contract of Depth. -/
namespace Go.Proofs.Ytkldiofleepkfaa.Gr
set_option linter.unusedVariables false
set_option linter.unusedSimpArgs false
open Go.RowKit

def maxL (c : Nat → Nat) (l : List Nat) : Nat := l.foldl (fun a d => max a (c d)) 0
theorem maxL_snoc (c : Nat → Nat) (l : List Nat) (x : Nat) : maxL c (l ++ [x]) = max (maxL c l) (c x) := by simp [maxL]
theorem foldl_max_ge (c : Nat → Nat) (l : List Nat) : ∀ a, a ≤ l.foldl (fun a d => max a (c d)) a := by
  induction l with
  | nil => intro a; exact Nat.le_refl _
  | cons x l ih => intro a; exact Nat.le_trans (Nat.le_max_left _ _) (ih _)
theorem foldl_max_mem (c : Nat → Nat) (l : List Nat) : ∀ a, ∀ d ∈ l, c d ≤ l.foldl (fun a d => max a (c d)) a := by
  induction l with
  | nil => intro a d h; cases h
  | cons x l ih =>
    intro a d h
    rcases List.mem_cons.1 h with rfl | h
    · exact Nat.le_trans (Nat.le_max_right _ _) (foldl_max_ge c l _)
    · exact ih _ d h
theorem foldl_max_le (c : Nat → Nat) (l : List Nat) (K : Nat) (h : ∀ d ∈ l, c d ≤ K) : ∀ a, a ≤ K → l.foldl (fun a d => max a (c d)) a ≤ K := by
  induction l with
  | nil => intro a ha; exact ha
  | cons x l ih => intro a ha; exact ih (fun d hd => h d (List.mem_cons_of_mem _ hd)) _ (Nat.max_le.2 ⟨ha, h x (by simp)⟩)
theorem maxL_mem (c : Nat → Nat) (l : List Nat) : ∀ d ∈ l, c d ≤ maxL c l := foldl_max_mem c l 0
theorem maxL_le (c : Nat → Nat) (l : List Nat) (K : Nat) (h : ∀ d ∈ l, c d ≤ K) : maxL c l ≤ K := foldl_max_le c l K h 0 (Nat.zero_le _)
theorem maxL_congr {c c' : Nat → Nat} {l : List Nat} (h : ∀ d ∈ l, c d = c' d) : maxL c l = maxL c' l := by
  refine Nat.le_antisymm (maxL_le c l _ fun d hd => ?_) (maxL_le c' l _ fun d hd => ?_)
  · rw [h d hd]; exact maxL_mem c' l d hd
  · rw [← h d hd]; exact maxL_mem c l d hd
/-- the depths of the numbers below k; of all others 0 -/
def depT (D : List (List Nat)) : Nat → Nat → Nat
  | 0 => fun _ => 0
  | k + 1 => fun n => if n = k then maxL (depT D k) (rowN D k) + 1 else depT D k n
theorem depT_high (D : List (List Nat)) (k : Nat) : ∀ n, k ≤ n → depT D k n = 0 := by
  induction k with
  | zero => intros; rfl
  | succ k ih => intro n h; simp only [depT]; rw [if_neg (by omega)]; exact ih n (by omega)
theorem depT_le (D : List (List Nat)) (k : Nat) : ∀ n, depT D k n ≤ k := by
  induction k with
  | zero => intro n; exact Nat.le_refl _
  | succ k ih =>
    intro n
    simp only [depT]
    split
    · have := maxL_le (depT D k) (rowN D k) k (fun d _ => ih d); omega
    · exact Nat.le_trans (ih n) (by omega)
def depN (D : List (List Nat)) (n : Nat) : Nat := depT D (n + 1) n
theorem depT_low (D : List (List Nat)) (k n : Nat) (h : n < k) : depT D k n = depN D n := by
  induction k with
  | zero => omega
  | succ k ih =>
    by_cases e : n = k
    · subst e; rfl
    · simp only [depT]; rw [if_neg e]; exact ih (by omega)
theorem depN_eq {D : List (List Nat)} (hD : ∀ n, ∀ d ∈ rowN D n, d < n) (n : Nat) : depN D n = maxL (depN D) (rowN D n) + 1 := by
  show depT D (n + 1) n = _
  simp only [depT, if_true]
  rw [maxL_congr (fun d hd => depT_low D n d (hD n d hd))]

/-- numbers as values -/
def natsM (f : Nat → Nat) : List Value := (List.range 256).map fun n => .int .i64 ((f n : Nat) : Int)
theorem length_natsM (f : Nat → Nat) : (natsM f).length = 256 := by simp [natsM]
theorem natsM_at (f : Nat → Nat) {x : Nat} (h : x < 256) : (natsM f)[x]? = some (.int .i64 ((f x : Nat) : Int)) := by
  rw [List.getElem?_eq_getElem (by rw [length_natsM]; exact h)]
  simp [natsM]
theorem natsM_set (f : Nat → Nat) (x v : Nat) : (natsM f).set x (.int .i64 (v : Int)) = natsM fun y => if y = x then v else f y := by
  apply List.ext_getElem
  · simp [natsM]
  · intro i h1 h2
    rw [List.getElem_set]
    by_cases e : x = i
    · subst e; simp [natsM]
    · rw [if_neg e]
      simp [natsM, Ne.symm e]
def zero60 : Array Value := (List.replicate 256 (Value.int .i64 0)).toArray
theorem natsM_zero : natsM (fun _ => 0) = zero60.toList := by
  have h : ∀ n, (List.range n).map (fun _ => Value.int .i64 ((0 : Nat) : Int)) = List.replicate n (Value.int .i64 0) := by
    intro n
    apply List.ext_getElem
    · simp
    · intro i h1 h2; simp
  unfold natsM zero60
  exact h 256
def Nats (w : World) (g : Nat) (f : Nat → Nat) : Prop := BlkIs w g 60 (natsM f)
theorem Nats.set_ {w : World} {g : Nat} {f : Nat → Nat} (h : Nats w g f) (x v : Nat) : Nats (w.setCell ⟨g, x, none⟩ (.int .i64 (v : Int))) g (fun y => if y = x then v else f y) := by
  have := BlkIs.set_ h x (.int .i64 (v : Int)); rw [natsM_set] at this; exact this
theorem Nats.cell {w : World} {g : Nat} {f : Nat → Nat} (h : Nats w g f) {x : Nat} (hx : x < 256) : w.cell? ⟨g, x, none⟩ = some (.int .i64 ((f x : Nat) : Int)) := by
  rw [BlkIs.cell h, natsM_at f hx]

/-- row by row: the depths while row k is read to its j-th number -/
def depJ (D : List (List Nat)) (k j : Nat) : Nat → Nat := fun n => if n = k then maxL (depT D k) ((rowN D k).take j) else depT D k n
theorem depJ_zero (D : List (List Nat)) (k : Nat) : depJ D k 0 = depT D k := by
  funext n
  unfold depJ
  split
  · rename_i e; subst e; rw [List.take_zero, depT_high D n n (Nat.le_refl _)]; rfl
  · rfl
theorem depJ_done (D : List (List Nat)) (k : Nat) : (fun n => if n = k then depJ D k (rowN D k).length k + 1 else depJ D k (rowN D k).length n) = depT D (k + 1) := by
  funext n
  simp only [depT, depJ, if_true, List.take_length]
  split
  · rfl
  · rfl
theorem depJ_le (D : List (List Nat)) (k j n : Nat) : depJ D k j n ≤ k := by
  unfold depJ
  split
  · exact maxL_le _ _ _ fun d _ => depT_le D k d
  · exact depT_le D k n
theorem depJ_succ {D : List (List Nat)} (hD : ∀ n, ∀ d ∈ rowN D n, d < n) (k j : Nat) (hj : j < (rowN D k).length) :
    (fun n => if n = k then max (depJ D k j k) (depJ D k j (el (rowN D k) j)) else depJ D k j n) = depJ D k (j + 1) := by
  have hx : el (rowN D k) j < k := hD k _ (by rw [el_lt hj]; exact List.getElem_mem _)
  funext n
  unfold depJ
  split
  · rw [if_pos rfl, if_neg (by omega), take_el _ _ hj, maxL_snoc]
  · rfl

/-- Depth -/
def depthI (D : List (List Nat)) (a : Int) : Int := if isN D a then (depN D a.toNat : Nat) else 0

end Go.Proofs.Ytkldiofleepkfaa.Gr

/- Thin's rows; a function that is left with many marks of loops; makes of slices. -/
namespace Go.Proofs.Ytkldiofleepkfaa.Gr
set_option linter.unusedVariables false
set_option linter.unusedSimpArgs false
open Go.RowKit

def clr (m : Nat → Bool) (p : List Nat) : Nat → Bool := fun x => m x && !decide (x ∈ p)
theorem clr_nil (m : Nat → Bool) : clr m [] = m := by funext x; simp [clr]
theorem clr_snoc (m : Nat → Bool) (p : List Nat) (d : Nat) : clr m (p ++ [d]) = fun x => clr m p x && !(x == d) := by
  funext x
  simp only [clr, Bool.and_assoc]
  congr 1
  rw [Bool.eq_iff_iff]; simp
/-- what is marked of a row's numbers; of all that must come ahead of one of them -/
def ownM (D : List (List Nat)) (k : Nat) : Nat → Bool := markI D.length (natsI (rowN D k))
def sayM (D : List (List Nat)) (k : Nat) : Nat → Bool := foldR D (fun _ => false) (listM 256 (ownM D k))
def saidM (D : List (List Nat)) (k : Nat) : Nat → Bool := upM D (sayM D k) 256
def thinRow (D : List (List Nat)) (k : Nat) : List Nat := listM 256 (clr (ownM D k) (listM 256 (saidM D k)))
def thinL (D : List (List Nat)) : List (List Nat) := (List.range D.length).map (thinRow D)
theorem length_thinL (D : List (List Nat)) : (thinL D).length = D.length := by simp [thinL]
theorem mem_natsI {p : List Nat} {j : Nat} : (j : Int) ∈ natsI p ↔ j ∈ p := by
  constructor
  · intro h
    obtain ⟨i, hi, e⟩ := List.mem_map.1 h
    have : i = j := by omega
    rw [← this]; exact hi
  · intro h
    exact List.mem_map.2 ⟨j, h, rfl⟩
theorem ownM_iff {D : List (List Nat)} (hD : Right D) {k x : Nat} : ownM D k x = true ↔ x ∈ rowN D k := by
  unfold ownM markI
  simp only [Bool.and_eq_true, decide_eq_true_eq, mem_natsI]
  exact ⟨fun h => h.2, fun h => ⟨hD.row_lt k x h, h⟩⟩
theorem ownM_lt {D : List (List Nat)} {k x : Nat} (h : ownM D k x = true) : x < D.length := markI_lt h
theorem foldR_iff (D : List (List Nat)) (pre : List Nat) : ∀ m x, foldR D m pre x = true ↔ m x = true ∨ ∃ d ∈ pre, x ∈ rowN D d := by
  induction pre with
  | nil => intro m x; simp [foldR]
  | cons a pre ih =>
    intro m x
    show foldR D (addAll m (rowN D a)) pre x = true ↔ _
    rw [ih, addAll_true]
    simp [or_assoc]
theorem sayM_iff {D : List (List Nat)} (hD : Right D) {k x : Nat} : sayM D k x = true ↔ ∃ d ∈ rowN D k, x ∈ rowN D d := by
  unfold sayM
  rw [foldR_iff]
  simp only [Bool.false_eq_true, false_or]
  constructor
  · rintro ⟨d, hd, hx⟩; exact ⟨d, (ownM_iff hD).1 (mem_listM.1 hd).2, hx⟩
  · rintro ⟨d, hd, hx⟩; exact ⟨d, mem_listM.2 ⟨Nat.lt_of_lt_of_le (hD.row_lt k d hd) hD.1, (ownM_iff hD).2 hd⟩, hx⟩
theorem sayM_lt {D : List (List Nat)} (hD : Right D) {k x : Nat} (h : sayM D k x = true) : x < D.length := by
  obtain ⟨d, _, hx⟩ := (sayM_iff hD).1 h
  exact hD.row_lt d x hx
theorem saidM_iff {D : List (List Nat)} (hD : Right D) {k x : Nat} : saidM D k x = true ↔ ∃ d ∈ rowN D k, Must D x d := by
  unfold saidM
  rw [upM_iff hD.2 (fun y h => Nat.lt_of_lt_of_le (sayM_lt hD h) hD.1)]
  constructor
  · rintro (h | ⟨y, h, hk⟩)
    · obtain ⟨d, hd, hx⟩ := (sayM_iff hD).1 h; exact ⟨d, hd, .one hx⟩
    · obtain ⟨d, hd, hx⟩ := (sayM_iff hD).1 h; exact ⟨d, hd, hk.trans (.one hx)⟩
  · rintro ⟨d, hd, hm⟩
    obtain ⟨z, hz, rfl | hk⟩ := hm.last
    · exact .inl ((sayM_iff hD).2 ⟨d, hd, hz⟩)
    · exact .inr ⟨z, (sayM_iff hD).2 ⟨d, hd, hz⟩, hk⟩
/-- THIN: those of the row that must not come ahead of another one of it -/
theorem mem_thinRow {D : List (List Nat)} (hD : Right D) {k x : Nat} : x ∈ thinRow D k ↔ x ∈ rowN D k ∧ ¬ ∃ d ∈ rowN D k, Must D x d := by
  unfold thinRow
  rw [mem_listM]
  simp only [clr, Bool.and_eq_true, Bool.not_eq_true', decide_eq_false_iff_not, mem_listM, ownM_iff hD, saidM_iff hD]
  constructor
  · rintro ⟨h1, h2, h3⟩; exact ⟨h2, fun h => h3 ⟨h1, h⟩⟩
  · rintro ⟨h2, h3⟩; exact ⟨Nat.lt_of_lt_of_le (hD.row_lt k x h2) hD.1, h2, fun h => h3 h.2⟩

def markD (D : Nat) : Deferred := { target := .collected D, args := #[] }
/-- all marks are taken in, one behind the other -/
theorem leaves_marks {F : Fence} {n : Nat} {P : Program} {fn : Func} {tmps : Array Value} {R : Ending → World → Prop} {base : Nat} (T : World → Prop)
    (hT : ∀ W D, T W → base ≤ D → W.heap[D]? = some (.deferred (some [])) → T (W.putObj D (.deferred none)))
    (hfin : ∀ W, T W → LeavesInM F n P fn tmps R [] .returning W) : ∀ (L : List Nat) (W : World), L.Nodup → (∀ D ∈ L, base ≤ D ∧ W.heap[D]? = some (.deferred (some []))) → T W → LeavesInM F n P fn tmps R (L.map markD) .returning W := by
  intro L
  induction L with
  | nil => intro W _ _ h; exact hfin W h
  | cons D L ih =>
    intro W hn hL h
    obtain ⟨hD, hk⟩ := hL D (by simp)
    obtain ⟨hn1, hn2⟩ := List.nodup_cons.1 hn
    refine ⟨by simp, .inl ⟨D, _, rfl, run_takeDeferred hk, ih _ hn2 (fun D' h' => ?_) (hT W D h hD hk)⟩⟩
    obtain ⟨h1, h2⟩ := hL D' (List.mem_cons_of_mem _ h')
    exact ⟨h1, (World.putObj_heap_other (fun e => hn1 (by rw [← e]; exact h'))).trans h2⟩
end Go.Proofs.Ytkldiofleepkfaa.Gr

/- Contract of Thin. -/
namespace Go.Proofs.Ytkldiofleepkfaa.Gr
set_option linter.unusedVariables false
set_option linter.unusedSimpArgs false
open Go.RowKit Go.Shelf

attribute [local go_sem] Oper.semAt_some
theorem info23 : (Try.prog.info? 33).map (fun i => (i.zero, i.size, i.bytes)) = some (some (.slice none 0 0), 1, 24) := by kernel_rfl
theorem made_rows (n : Nat) : (madeCells #[Value.slice none 0 0] n).toList = List.replicate n (Value.slice none 0 0) := by
  apply List.ext_getElem
  · simp [size_madeCells]
  · intro i h1 h2; simp [madeCells, Nat.mod_one]
/-- a slice of ints that lies beyond block lo -/
def IntsOver (w : World) (lo : Nat) (A : Option Addr) (l : List Int) : Prop :=
  0 < l.length → ∃ b off, A = some ⟨b, off, none⟩ ∧ lo < b ∧ b < w.heap.size ∧ ∀ j, j < l.length → w.cell? ⟨b, off + j, none⟩ = some (.int .i64 (nth l j))
theorem IntsOver.grown {w w' : World} {lo g : Nat} {A : Option Addr} {l : List Int} (h : IntsOver w lo A l) (hg : w.grownBy w' (some g)) (hl : g ≤ lo) : IntsOver w' lo A l := fun hn => by
  obtain ⟨b, off, e, h1, h2, hc⟩ := h hn
  refine ⟨b, off, e, h1, Nat.lt_of_lt_of_le h2 hg.size, fun j hj => ?_⟩
  rw [← hc j hj]
  exact World.cell?_of_block (hg.block b h2 (fun e => by injection e with e; omega))
theorem IntsOver.ints {w : World} {lo : Nat} {A : Option Addr} {l : List Int} (h : IntsOver w lo A l) : Ints w w.heap.size A l := fun hn => by
  obtain ⟨b, off, e, _, h2, hc⟩ := h hn
  exact ⟨b, off, e, h2, hc⟩
theorem own_over {w : World} {B lo : Nat} {v : Value} {n : Nat} {l : List Int} (h : w.ownsRow B 3 1 v n (intsV l)) (hlo : lo < B) : ∃ A c, v = .slice A l.length c ∧ IntsOver w lo A l := by
  have hn : l.length = n := by have := h.1; simpa [intsV] using this
  subst hn
  rcases h.2 with ⟨rfl, hn⟩ | ⟨g, cap, cur, rfl, hbg, hg, hnc, hcm, _⟩
  · have hl : l = [] := List.eq_nil_of_length_eq_zero hn
    subst hl
    exact ⟨none, 0, rfl, fun h => by simp at h⟩
  · refine ⟨some ⟨g, 0, none⟩, cap, rfl, fun _ => ⟨g, 0, rfl, by omega, (h.lt g rfl).2, fun j hj => ?_⟩⟩
    rw [Nat.zero_add, h.cellAt j (by omega), intsV, List.getElem?_map, List.getElem?_eq_getElem hj, nth_lt hj]; rfl

theorem IntsOver.below {w w' : World} {lo : Nat} {A : Option Addr} {l : List Int} (h : IntsOver w lo A l) (hb : Below w.heap.size w w') : IntsOver w' lo A l := fun hn => by
  obtain ⟨b, off, e, h1, h2, hc⟩ := h hn
  exact ⟨b, off, e, h1, Nat.lt_of_lt_of_le h2 hb.size, fun j hj => (Below.cell hb (p := ⟨b, off + j, none⟩) h2).trans (hc j hj)⟩
theorem map_range_set {α : Type} (n k : Nat) (S : Nat → α) (v : α) : ((List.range n).map S).set k v = (List.range n).map (fun j => if j = k then v else S j) := by
  apply List.ext_getElem
  · simp
  · intro i h1 h2
    rw [List.getElem_set]
    by_cases e : k = i
    · subst e; simp
    · rw [if_neg e]
      simp [Ne.symm e]
theorem rowN_thinL {D : List (List Nat)} {j : Nat} (hj : j < D.length) : rowN (thinL D) j = thinRow D j := by
  rw [rowN_lt (by rw [length_thinL]; exact hj)]
  simp [thinL]
/-- a store of a whole array into a block that was just made, within a fence -/
theorem wpIn_store_new {F : Fence} {n : Nat} {P : Program} {op : Oper} {a : Act} {w : World} {K : Act → World → Prop} {Q : Exit → Act → World → Prop} (ty : TypeId) (x y : Operand) (ho : op.op = .store ty x y)
    (g : Nat) (hgs : g = w.heap.size) (cs cur : Array Value) (hx : a.eval x = .pointer (some ⟨g, 0, none⟩)) (hy : a.eval y = .agg cs)
    (hi : (P.info? ty).map (·.size) = some cs.size) (hsz : cur.size = cs.size) (h1 : ∀ v ∈ cs.toList, v.oneCell' = true)
    (h : K (a.put op.dst undef) (w.alloc (.cells cs ty))) : op.wpIn F n P a (w.alloc (.cells cur ty)) K Q := by
  subst hgs
  have hrun := run_storeVar_new (P := P) w ty cur cs hi hsz (Array.all_eq_true_iff_forall_mem.2 (fun v hv => h1 v (by simpa using hv)))
  unfold Oper.wpIn
  refine ⟨fun f hf => by simp [Oper.about, ho] at hf, ?_⟩
  rw [Oper.semAt_plain F _ _ (by rw [ho]; intro c hc'; cases hc')]
  unfold execOp
  simp only [ho, hx, hy, Instr.storeAt, Instr.sureAddr, Sem.run_bind, Sem.run_pure, Result.andThen_ok, hrun]
  exact h
theorem wpListIn_store_new {F : Fence} {n : Nat} {P : Program} {ops : Array Oper} {rest : List Oper} {op : Oper} {a : Act} {w : World} {Q : Exit → Act → World → Prop} (hgd : op.guard = none) (ty : TypeId) (x y : Operand) (ho : op.op = .store ty x y)
    (g : Nat) (hgs : g = w.heap.size) (cs cur : Array Value) (hx : a.eval x = .pointer (some ⟨g, 0, none⟩)) (hy : a.eval y = .agg cs)
    (hi : (P.info? ty).map (·.size) = some cs.size) (hsz : cur.size = cs.size) (h1 : ∀ v ∈ cs.toList, v.oneCell' = true)
    (h : wpListIn F n P ops Q rest (a.put op.dst undef) (w.alloc (.cells cs ty))) : wpListIn F n P ops Q (op :: rest) a (w.alloc (.cells cur ty)) :=
  wpListIn_plain hgd fun _ hK => wpIn_store_new ty x y ho g hgs cs cur hx hy hi hsz h1 (hK _ _ h)
def ThinSays (w : World) (D : List (List Nat)) (e : Ending) (W' : World) : Prop :=
  (∃ A' c', e = .returned (.slice A' D.length c') ∧ Mat W' W'.heap.size A' (rowsI (thinL D))) ∧ Below w.heap.size w W'

end Go.Proofs.Ytkldiofleepkfaa.Gr

/- Contract of live. -/
namespace Go.Proofs.Ytkldiofleepkfaa.Gr
set_option linter.unusedVariables false
set_option linter.unusedSimpArgs false
open Go.RowKit

/-- two rising lists of the same numbers are one -/
theorem rising_ext : ∀ (l l' : List Nat), l.Pairwise (· < ·) → l'.Pairwise (· < ·) → (∀ x, x ∈ l ↔ x ∈ l') → l = l' := by
  intro l
  induction l with
  | nil =>
    intro l' _ _ h
    cases l' with
    | nil => rfl
    | cons a l' => exact absurd ((h a).2 (by simp)) (by simp)
  | cons a l ih =>
    intro l' h1 h2 h
    cases l' with
    | nil => exact absurd ((h a).1 (by simp)) (by simp)
    | cons b l' =>
      obtain ⟨p1, p2⟩ := List.pairwise_cons.1 h1
      obtain ⟨q1, q2⟩ := List.pairwise_cons.1 h2
      have hab : a = b := by
        rcases List.mem_cons.1 ((h a).1 (by simp)) with e | e
        · exact e
        · rcases List.mem_cons.1 ((h b).2 (by simp)) with e' | e'
          · exact e'.symm
          · have := q1 a e; have := p1 b e'; omega
      subst hab
      rw [ih l' p2 q2 fun x => ?_]
      constructor
      · intro hx
        rcases List.mem_cons.1 ((h x).1 (List.mem_cons_of_mem _ hx)) with e | e
        · have := p1 x hx; omega
        · exact e
      · intro hx
        rcases List.mem_cons.1 ((h x).2 (List.mem_cons_of_mem _ hx)) with e | e
        · have := q1 x hx; omega
        · exact e

def D3 : List (List Nat) := [[], [0], [0, 1]]
theorem row3 (n : Nat) : rowN D3 n = if n = 1 then [0] else if n = 2 then [0, 1] else [] := by
  match n with
  | 0 => rfl
  | 1 => rfl
  | 2 => rfl
  | n + 3 => rw [if_neg (by omega), if_neg (by omega)]; rfl
theorem ok3 : OkD D3 := by
  refine ⟨⟨by decide, fun n d hd => ?_⟩, fun n => ?_⟩
  · rw [row3] at hd
    split at hd
    · simp at hd; omega
    · split at hd
      · simp at hd; omega
      · cases hd
  · rw [row3]; split
    · simp
    · split <;> simp
theorem must3_0 (x : Nat) : ¬ Must D3 x 0 := fun h => by have := h.lt ok3.right; omega
theorem must3_1 (x : Nat) : Must D3 x 1 ↔ x = 0 := ⟨fun h => by have := h.lt ok3.right; omega, fun h => by subst h; exact .one (by rw [row3]; simp)⟩
theorem thin3 : thinRow D3 2 = [1] := by
  refine rising_ext _ _ (listM_rising _ _) (by simp) fun x => ?_
  rw [mem_thinRow ok3.right, row3]
  simp
  constructor
  · rintro ⟨h1 | h1, h2, h3⟩
    · subst h1; exact absurd ((must3_1 0).2 rfl) h3
    · exact h1
  · rintro rfl; exact ⟨.inr rfl, must3_0 1, fun h => by have := (must3_1 1).1 h; omega⟩
theorem up3 (x : Nat) (hx : x < 3) (B : Nat) (hB : 3 ≤ B) : upM D3 (markI D3.length [2]) B x = true := by
  rw [upM_iff ok3.right.2 (fun y hy => by have := markI_lt hy; have : D3.length = 3 := rfl; omega)]
  have h2 : markI D3.length [2] 2 = true := by decide
  match x with
  | 0 => exact .inr ⟨2, h2, .one (by rw [row3]; simp)⟩
  | 1 => exact .inr ⟨2, h2, .one (by rw [row3]; simp)⟩
  | 2 => exact .inl h2
  | x + 3 => omega
theorem close3 : (closeL D3 [2]).length = 3 := by
  have : closeL D3 [2] = List.range 3 := by
    unfold closeL listM
    exact List.filter_eq_self.2 (fun a ha => up3 a (List.mem_range.1 ha) _ (Nat.le_refl _))
  rw [this]; rfl
theorem bef3 : befB D3 0 2 = true := by
  unfold befB
  rw [show upM D3 (markI D3.length [2]) 256 (Int.toNat 0) = true from up3 0 (by omega) _ (by omega)]
  rfl
theorem dep3 : depthI D3 2 = 3 := by decide

theorem thin3_at {w : World} {A : Option Addr} (h : Mat w w.heap.size A (rowsI (thinL D3))) : ∃ b off Ak ck bk ok, A = some ⟨b, off, none⟩ ∧ b < w.heap.size ∧ w.cell? ⟨b, off + 2, none⟩ = some (.slice Ak 1 ck) ∧ Ak = some ⟨bk, ok, none⟩ ∧ bk < w.heap.size ∧ w.cell? ⟨bk, ok, none⟩ = some (.int .i64 1) := by
  obtain ⟨b, off, Ak, ck, rfl, hb, hc, hI⟩ := h.at_ (k := 2) (by rw [length_rowsI, length_thinL]; decide)
  rw [rowI_rowsI, rowN_thinL (by decide), thin3] at hc hI
  obtain ⟨bk, ok, rfl, hbk, hck⟩ := hI.at_ (k := 0) (by decide)
  exact ⟨b, off, _, ck, bk, ok, rfl, hb, hc, rfl, hbk, hck⟩
end Go.Proofs.Ytkldiofleepkfaa.Gr

/- What came in: rows of numbers; few and some. -/
namespace Go.Proofs.Ytkldiofleepkfaa.Gr
set_option linter.unusedVariables false
set_option linter.unusedSimpArgs false
open Go.RowKit

/-- A slice of integers that came in: it is nil; or it leads to a row of 'cap' cells, the numbers 'zs' (the first 'len' are its elements). -/
def IsRow (k : IntKind) (w : World) (a : Option Addr) (len cap : Nat) (zs : List Int) : Prop :=
  (a = none ∧ len = 0 ∧ cap = 0 ∧ zs = []) ∨
  ∃ x, a = some x ∧ len ≤ cap ∧ cap ≤ maxLen ∧ zs.length = cap ∧ (∀ i, i < zs.length → w.cell? (x.add i) = some (.int k (zs.getD i 0))) ∧ ∀ n ∈ zs, (Lit.int k n).wf = true
theorem add_plain {b off j : Nat} : (⟨b, off, none⟩ : Addr).add j = ⟨b, off + j, none⟩ := by unfold Addr.add; split <;> simp_all
theorem IsRow.ints {w : World} {a : Option Addr} {len cap : Nat} {zs : List Int} (h : IsRow .i64 w a len cap zs) : len ≤ cap ∧ cap ≤ maxLen ∧ Ints w w.heap.size a (zs.take len) ∧ (zs.take len).length = len := by
  rcases h with ⟨rfl, rfl, rfl, rfl⟩ | ⟨x, rfl, hl, hm, hz, hc, _⟩
  · exact ⟨Nat.le_refl _, Nat.zero_le _, Ints.nil, rfl⟩
  · have hn : (zs.take len).length = len := by rw [List.length_take]; omega
    refine ⟨hl, hm, fun hp => ?_, hn⟩
    obtain ⟨b, off, spot⟩ := x
    have hc0 := hc 0 (by omega)
    have hspot : spot = none := by simpa [Addr.add] using World.cell?_spot hc0
    subst hspot
    refine ⟨b, off, rfl, lt_cell (by simpa [Addr.add] using hc0), fun j hj => ?_⟩
    have hcj := hc j (by omega)
    rw [add_plain] at hcj
    rw [hcj]
    unfold nth
    rw [List.getD_eq_getElem?_getD, List.getD_eq_getElem?_getD, List.getElem?_take, if_pos (by omega)]
theorem Ints.take {w : World} {B : Nat} {A : Option Addr} {l : List Int} (h : Ints w B A l) (k : Nat) : Ints w B A (l.take k) := fun hp => by
  rw [List.length_take] at hp
  obtain ⟨b, off, e, hb, hc⟩ := h (by omega)
  refine ⟨b, off, e, hb, fun j hj => ?_⟩
  rw [List.length_take] at hj
  rw [hc j (by omega)]
  unfold nth
  rw [List.getD_eq_getElem?_getD, List.getD_eq_getElem?_getD, List.getElem?_take, if_pos (by omega)]
/-- rows of integers that came in -/
structure IsMat (w : World) (a : Option Addr) (len cap : Nat) (R : List (List Int)) (A : Nat → Option Addr) (C : Nat → Nat) : Prop where
  hlen : R.length = len
  hcap : len ≤ cap
  hmax : cap ≤ maxLen
  at_ : 0 < len → ∃ b off, a = some ⟨b, off, none⟩ ∧ b < w.heap.size ∧ ∀ j, j < len → w.cell? ⟨b, off + j, none⟩ = some (.slice (A j) (rowI R j).length (C j)) ∧ Ints w w.heap.size (A j) (rowI R j) ∧ (rowI R j).length ≤ C j ∧ C j ≤ maxLen
def fewR (R : List (List Int)) : List (List Int) := (R.take 40).map (·.take 40)
theorem length_fewR (R : List (List Int)) : (fewR R).length = min 40 R.length := by simp [fewR]
theorem rowI_fewR (R : List (List Int)) (k : Nat) (h : k < (fewR R).length) : rowI (fewR R) k = (rowI R k).take 40 := by
  rw [length_fewR] at h
  rw [rowI_lt (by rw [length_fewR]; exact h), rowI_lt (by omega)]
  simp [fewR]
theorem fewR_small (R : List (List Int)) : (fewR R).length ≤ 40 ∧ ∀ k, k < (fewR R).length → (rowI (fewR R) k).length ≤ 40 :=
  ⟨by rw [length_fewR]; omega, fun k h => by rw [rowI_fewR R k h, List.length_take]; omega⟩

/-- a slice of slices that is its own -/
theorem own_slices {w : World} {B : Nat} {v : Value} {n : Nat} {xs : List Value} (h : w.ownsRow B 33 1 v n xs) : ∃ A c, v = .slice A n c ∧ (0 < n → ∃ g, A = some ⟨g, 0, none⟩ ∧ g < w.heap.size ∧ ∀ j, j < n → w.cell? ⟨g, j, none⟩ = xs[j]?) := by
  rcases h.2 with ⟨rfl, rfl⟩ | ⟨g, cap, cur, rfl, hbg, hg, hnc, hcm, _⟩
  · exact ⟨none, 0, rfl, fun h => by omega⟩
  · exact ⟨_, cap, rfl, fun _ => ⟨g, rfl, (h.lt g rfl).2, fun j hj => h.cellAt j (by omega)⟩⟩

def rowV (A : Nat → Option Addr) (C : Nat → Nat) (R : List (List Int)) (k : Nat) : Value := .slice (A k) (rowI (fewR R) k).length (C k)

def FewSays (w : World) (R : List (List Int)) (e : Ending) (w' : World) : Prop := ∃ A' c', e = .returned (.slice A' (fewR R).length c') ∧ Mat w' w'.heap.size A' (fewR R) ∧ Below w.heap.size w w'

end Go.Proofs.Ytkldiofleepkfaa.Gr

/- What came in, opened. -/
namespace Go.Proofs.Ytkldiofleepkfaa.Gr
set_option linter.unusedVariables false
set_option linter.unusedSimpArgs false
open Go.RowKit Go.ChangeShapes Go.WideShapes Go.Deep

theorem open_row {H : Type} {enc : TypeId × Value → H} {w : World} {a : Option Addr} {len cap : Nat} {x : DataW H × List MemPlace}
    (h : ∃ fuel, DataW.trod enc Try.prog w 0 (fun _ => true) true fuel 33 (Value.slice a len cap).cells.toList = some x) : ∃ zs, IsRow .i64 w a len cap zs := by
  obtain ⟨fuel, hf⟩ := h
  rcases open_ints Try.underlying33 Try.underlying3 (by kernel_rfl) hf with ⟨hcs, _⟩ | ⟨x, l, c, zs, hcs, _, hl, hm, hz, _, hcell, hwz⟩
  · simp [Value.cells] at hcs
    obtain ⟨rfl, rfl, rfl⟩ := hcs
    exact ⟨[], .inl ⟨rfl, rfl, rfl, rfl⟩⟩
  · simp [Value.cells] at hcs
    obtain ⟨rfl, rfl, rfl⟩ := hcs
    exact ⟨zs, .inr ⟨_, rfl, hl, hm, by simpa using hz, hcell, hwz⟩⟩

end Go.Proofs.Ytkldiofleepkfaa.Gr

/- Contract of Closed. -/
namespace Go.Proofs.Ytkldiofleepkfaa.Gr
set_option linter.unusedVariables false
set_option linter.unusedSimpArgs false
open Go.RowKit Go.Shelf

attribute [local go_sem] Oper.semAt_some
def ClosedP (D : List (List Nat)) (l : List Int) : Prop := (∀ x ∈ l, isN D x = true) ∧ ∀ n, markI D.length l n = true → ∀ d ∈ rowN D n, markI D.length l d = true
noncomputable def closedB (D : List (List Nat)) (l : List Int) : Bool := @decide (ClosedP D l) (Classical.propDecidable _)
theorem closedB_yes {D : List (List Nat)} {l : List Int} (h : ClosedP D l) : closedB D l = true := by unfold closedB; exact @decide_eq_true _ (Classical.propDecidable _) h
theorem closedB_no {D : List (List Nat)} {l : List Int} (h : ¬ ClosedP D l) : closedB D l = false := by unfold closedB; exact @decide_eq_false _ (Classical.propDecidable _) h
theorem zero4 : (Try.prog.info? 4).map (fun i => (i.zero, i.size)) = some (some (.bool false), 1) := by kernel_rfl
theorem boxed_below {w w' : World} {B k : Nat} {t : TypeId} {v : Value} (h : Boxed w k t v) (hb : Below B w w') (hk : k < B) : Boxed w' k t v := (hb.block k hk).trans h
theorem boxed_grown {w w' : World} {k g : Nat} {t : TypeId} {v : Value} (h : Boxed w k t v) (hg : w.grownBy w' (some g)) (hne : k ≠ g) : Boxed w' k t v := h.kept hg (fun e => hne (by injection e))
theorem ClosedP.out {D : List (List Nat)} {l : List Int} (h : ClosedP D l) {n d : Nat} (hn : markI D.length l n = true) (hd : d ∈ rowN D n) : markI D.length l d = true := h.2 n hn d hd
theorem results_cell4 {fn : Func} {p : Tmp} {ty : TypeId} (h : fn.results = #[.cell p ty]) (tmps : Array Value) (P : Program) (w : World) :
    (results fn tmps).run P w = ((asAddr (tmps.getD p undef)).run P w).andThen fun a w₁ => (loadVar ty a).run P w₁ := by
  simp only [results, h]
  simp [Sem.run_bind]

/-- a bool that is handed back out of a block -/
theorem results_one {fn : Func} {p : Tmp} (tmps : Array Value) (w : World) (g : Nat) (v : Bool) (h : fn.results = #[.cell p 4]) (hp : tmps.getD p undef = .pointer (some ⟨g, 0, none⟩)) (hb : Boxed w g 4 (.bool v)) :
    (results fn tmps).run Try.prog w = .ok (.bool v) w := by
  have hc := hb.cell
  have hp' : tmps[p]?.getD undef = .pointer (some ⟨g, 0, none⟩) := by simpa using hp
  rw [results_cell4 h, hp]
  simp [asAddr, Result.andThen, go_sem, hc]

end Go.Proofs.Ytkldiofleepkfaa.Gr

/- Contracts of the document's Has and Same, and of the two rows' Same. -/
namespace Go.Proofs.Ytkldiofleepkfaa.Gr
set_option linter.unusedVariables false
set_option linter.unusedSimpArgs false
open Go.RowKit

/-- only draws lie between two worlds -/
def Quiet (w w' : World) : Prop := ∃ n, w' = w.drewN n
theorem Quiet.below {B : Nat} {a w w' : World} (q : Quiet w w') (h : Below B a w) : Below B a w' := by obtain ⟨n, rfl⟩ := q; exact ⟨h.os, h.tape, h.output, h.size, h.block⟩
theorem Quiet.belowR {B : Nat} {w w' : World} (q : Quiet w w') : Below B w w' := by
  obtain ⟨n, rfl⟩ := q; exact ⟨rfl, rfl, rfl, Nat.le_refl _, fun _ _ => rfl⟩
theorem Quiet.trans {a b c : World} (h : Quiet a b) (k : Quiet b c) : Quiet a c := by
  obtain ⟨n, rfl⟩ := h; obtain ⟨m, rfl⟩ := k; exact ⟨n + m, by simp [World.drewN, Nat.add_assoc]⟩
theorem Quiet.refl (w : World) : Quiet w w := ⟨0, rfl⟩

end Go.Proofs.Ytkldiofleepkfaa.Gr

/- The document's own marks; contracts of those and of its Close. -/
namespace Go.Proofs.Ytkldiofleepkfaa.Gr
set_option linter.unusedVariables false
set_option linter.unusedSimpArgs false
open Go.RowKit

def marksN (n : Nat) (m : Nat → Bool) : List Value := (List.range n).map fun x => .bool (m x)
theorem length_marksN (n : Nat) (m : Nat → Bool) : (marksN n m).length = n := by simp [marksN]
theorem marksN_at (n : Nat) (m : Nat → Bool) {x : Nat} (h : x < n) : (marksN n m)[x]? = some (.bool (m x)) := by
  rw [List.getElem?_eq_getElem (by rw [length_marksN]; exact h)]
  simp [marksN]
theorem marksN_set (n : Nat) (m : Nat → Bool) (x : Nat) : (marksN n m).set x (.bool true) = marksN n fun y => m y || y == x := by
  apply List.ext_getElem
  · simp [marksN]
  · intro i h1 h2
    rw [List.getElem_set]
    by_cases e : x = i
    · subst e; simp [marksN]
    · rw [if_neg e]
      have : (i == x) = false := by simp; omega
      simp [marksN, this]
def MarksN (w : World) (g n : Nat) (m : Nat → Bool) : Prop := BlkIs w g 4 (marksN n m)
theorem MarksN.set_ {w : World} {g n : Nat} {m : Nat → Bool} (h : MarksN w g n m) (x : Nat) : MarksN (w.setCell ⟨g, x, none⟩ (.bool true)) g n (fun y => m y || y == x) := by
  have := BlkIs.set_ h x (.bool true); rw [marksN_set] at this; exact this
theorem MarksN.cell {w : World} {g n : Nat} {m : Nat → Bool} (h : MarksN w g n m) {x : Nat} (hx : x < n) : w.cell? ⟨g, x, none⟩ = some (.bool (m x)) := by
  rw [BlkIs.cell h, marksN_at n m hx]
theorem info4 : (Try.prog.info? 4).map (fun i => (i.zero, i.size, i.bytes)) = some (some (.bool false), 1, 1) := by kernel_rfl
theorem made_bools (n : Nat) : (madeCells #[Value.bool false] n).toList = marksN n (fun _ => false) := by
  apply List.ext_getElem
  · simp [size_madeCells, marksN]
  · intro i h1 h2; simp [madeCells, marksN, Nat.mod_one]
theorem MarksN.made (W : World) (n : Nat) (M : Array Value) (h : M.toList = marksN n (fun _ => false)) : MarksN (W.alloc (.cells M 4)) W.heap.size n (fun _ => false) := by
  have := BlkIs.new W 4 M
  rw [h] at this
  exact this

end Go.Proofs.Ytkldiofleepkfaa.Gr

/- Contract of the document's Closed; Closed anyhow. -/
namespace Go.Proofs.Ytkldiofleepkfaa.Gr
set_option linter.unusedVariables false
set_option linter.unusedSimpArgs false
open Go.RowKit

end Go.Proofs.Ytkldiofleepkfaa.Gr
