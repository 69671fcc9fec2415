/- The library's calls on rows of numbers: Clone, BinarySearch, Insert, Delete, Equal. -/
import Derived.Test.YtpcindemkkdbbaaC
import Derived.Test.YtpcindemkkdbbaaSh
import Derived.Shelf.Slices.Clone
import Derived.Shelf.Slices.SearchI
import Derived.Shelf.Slices.Cells
import Derived.Shelf.Slices.Empties
import Derived.Shelf.Slices.Empties2
import Derived.Shelf.Slices.Equal
import Derived.Shelf.Spec.SlicesInsert
import Derived.Shelf.Spec.SlicesInsertGrow
namespace Go.Proofs.Ytpcindemkkdbbaa
set_option linter.unusedVariables false
set_option linter.unusedSimpArgs false
open Go.RowKit

theorem getD_nth (l : List Int) (j : Nat) : l.getD j 0 = nth l j := rfl
theorem Ints.some_ {w : World} {B : Nat} {A : Option Addr} {l : List Int} (h : Ints w B A l) (h0 : l ≠ []) : ∃ b off, A = some ⟨b, off, none⟩ ∧ b < B ∧ ∀ j, j < l.length → w.cell? ⟨b, off + j, none⟩ = some (.int .i64 (l.getD j 0)) :=
  h (List.length_pos_iff.2 h0)

/-- a copy of numbers -/
theorem clone_any (A : Option Addr) (c : Nat) (l : List Int) (w : World) (hl : l.length ≤ 1000) (hI : Ints w w.heap.size A l) :
    Calls Try.prog 69 #[.slice A l.length c] w fun e w' => ∃ A' c', e = .returned (.slice A' l.length c') ∧ RowI w' w.heap.size A' c' l ∧ Below w.heap.size w w' := by
  cases A with
  | none =>
    have h0 : l = [] := by
      cases l with
      | nil => rfl
      | cons a q => obtain ⟨b, off, e, _⟩ := hI (by simp); cases e
    subst h0
    refine (Any.slices_Clone_int_nil Try.clone 0 c w).mono ?_
    rintro e w' ⟨rfl, rfl⟩
    exact ⟨none, 0, rfl, World.ownsRow_nil _ _ _ _, Below.refl _ _⟩
  | some a =>
    by_cases h0 : l = []
    · subst h0
      refine (Any.slices_Clone_int_zero Try.clone a c w).mono ?_
      rintro e w' ⟨v', rfl, h1, _, hB⟩
      obtain ⟨_, A', c', rfl, hr⟩ := own_ints (l := []) h1
      exact ⟨A', c', rfl, hr, hB⟩
    · obtain ⟨b, off, e, hb, hc⟩ := hI.some_ h0
      cases e
      refine (Any.slices_Clone_int Try.clone b off l.length c l w (Nat.le_refl _) (by omega) hc).mono ?_
      rintro e w' ⟨v', rfl, h1, _, hB⟩
      rw [List.take_length] at h1
      obtain ⟨_, A', c', rfl, hr⟩ := own_ints (l := l) h1
      exact ⟨A', c', rfl, hr, hB⟩

/-- where a number stands, or would stand, among numbers that rise; whether it is there -/
theorem search_any (A : Option Addr) (c : Nat) (l : List Int) (x : Int) (w : World) (hl : l.length ≤ 1000) (hI : Ints w w.heap.size A l) (hs : l.Pairwise (· < ·)) :
    Calls Try.prog 71 #[.slice A l.length c, .int .i64 x] w fun e w' => e = .returned (.tuple #[.int .i64 (posI l x : Nat), .bool (l.contains x)]) ∧ ∃ q, w' = w.drewN q := by
  by_cases h0 : l = []
  · subst h0
    refine (Any.slices_BinarySearch_int_empty Try.search A c x w).mono ?_
    rintro e w' ⟨rfl, rfl⟩
    exact ⟨rfl, 0, rfl⟩
  · obtain ⟨b, off, rfl, hb, hc⟩ := hI.some_ h0
    have h := Any.slices_BinarySearch_int Try.search b off l.length c l x w (Nat.le_refl _) (by omega) hc (by rw [List.take_length]; exact hs.imp fun h => by omega)
    rw [List.take_length] at h
    exact h

/-- two rows of numbers are the same -/
theorem equal_any (A : Option Addr) (c : Nat) (l : List Int) (A2 : Option Addr) (d : Nat) (m : List Int) (w : World) (hl : l.length ≤ 1000) (hm : m.length ≤ 1000) (hI : Ints w w.heap.size A l) (hJ : Ints w w.heap.size A2 m) :
    Calls Try.prog 66 #[.slice A l.length c, .slice A2 m.length d] w fun e w' => e = .returned (.bool (l == m)) ∧ ∃ q, w' = w.drewN q := by
  by_cases hn : l.length = m.length
  · by_cases h0 : l = []
    · subst h0
      have hm0 : m = [] := List.eq_nil_of_length_eq_zero hn.symm
      subst hm0
      refine (Any.slices_Equal_int_empty Try.equal A A2 c 0 d w (by omega)).mono ?_
      rintro e w' ⟨rfl, rfl⟩
      exact ⟨rfl, 0, rfl⟩
    · have hm0 : m ≠ [] := fun e => h0 (List.eq_nil_of_length_eq_zero (by rw [hn, e]; rfl))
      obtain ⟨b, off, rfl, hb, hc⟩ := hI.some_ h0
      obtain ⟨b2, off2, rfl, hb2, hc2⟩ := hJ.some_ hm0
      have h := Any.slices_Equal_int Try.equal b off l.length c b2 off2 m.length d l m w (Nat.le_refl _) (Nat.le_refl _) (by omega) (by omega) hc hc2
      rw [List.take_length, List.take_length] at h
      exact h
  · have h := Any.slices_Equal_int_lens Try.equal A A2 l.length c m.length d w hn
    refine h.mono ?_
    rintro e w' ⟨rfl, rfl⟩
    have : (l == m) = false := by rw [beq_eq_false_iff_ne]; rintro rfl; exact hn rfl
    exact ⟨by rw [this], 0, rfl⟩

/-- cells that are written one behind the other -/
def putL (l : List Value) : Nat → List Value → List Value
  | _, [] => l
  | o, v :: r => putL (l.set o v) (o + 1) r
theorem putL_eq : ∀ (vs : List Value) (l : List Value) (o : Nat), o + vs.length ≤ l.length → putL l o vs = l.take o ++ vs ++ l.drop (o + vs.length)
  | [], l, o, _ => by simp [putL]
  | v :: r, l, o, h => by
    rw [List.length_cons] at h
    rw [putL, putL_eq r (l.set o v) (o + 1) (by rw [List.length_set]; omega)]
    have e1 : (l.set o v).take (o + 1) = l.take o ++ [v] := by
      rw [List.take_succ_eq_append_getElem (by rw [List.length_set]; omega), List.getElem_set_self, List.take_set_of_le (Nat.le_refl _)]
    have e2 : (l.set o v).drop (o + 1 + r.length) = l.drop (o + (r.length + 1)) := by
      rw [List.drop_set_of_lt (by omega)]; congr 1; omega
    rw [e1, e2, List.length_cons]; simp
theorem setCells_cells (b : Nat) (t : TypeId) : ∀ (vs : List Value) (o : Nat) (w : World) (cur : Array Value), w.heap[b]? = some (.cells cur t (0, 0)) → (w.setCells b o vs).heap[b]? = some (.cells (putL cur.toList o vs).toArray t (0, 0))
  | [], o, w, cur, h => by simpa [World.setCells, putL] using h
  | v :: r, o, w, cur, h => by
    rw [World.setCells, setCells_cells b t r (o + 1) _ _ (Go.heap_setCell_same w b o cur t v h), Array.toList_setIfInBounds]
    rfl
theorem setCells_kept (b : Nat) : ∀ (vs : List Value) (o : Nat) (w : World), Kept w (w.setCells b o vs) (fun k => k = b)
  | [], o, w => Kept.refl _ _
  | v :: r, o, w => by
    have h1 : Kept w (w.setCell ⟨b, o, none⟩ v) (fun k => k = b) := ⟨rfl, rfl, rfl, by simp, fun k _ hn => Go.heap_setCell_other w ⟨b, o, none⟩ k v (fun e => hn e)⟩
    exact h1.trans (setCells_kept b r (o + 1) _) (fun b q => .inl q)
theorem rowI_some {w : World} {B g c : Nat} {l : List Int} {cur : Array Value} (hB : B ≤ g) (hg : w.heap[g]? = some (.cells cur 3 (0, 0))) (hc : l.length ≤ c) (hm : c ≤ maxLen) (hs : cur.size = c) (ht : cur.toList.take l.length = intsV l) : RowI w B (some ⟨g, 0, none⟩) c l :=
  ⟨by rw [length_intsV]; omega, .inr ⟨g, c, cur, rfl, hB, hg, hc, hm, by omega, by rw [Nat.mul_one]; exact ht⟩⟩
theorem RowI.open_ {w : World} {B c : Nat} {A : Option Addr} {l : List Int} (h : RowI w B A c l) : (A = none ∧ l = [] ∧ c = 0) ∨ ∃ g cur, A = some ⟨g, 0, none⟩ ∧ B ≤ g ∧ w.heap[g]? = some (.cells cur 3 (0, 0)) ∧ l.length ≤ c ∧ c ≤ maxLen ∧ cur.size = c ∧ cur.toList.take l.length = intsV l := by
  rcases h.2 with ⟨q, hn⟩ | ⟨g, cap, cur, q, hb, hg, hnc, hcm, hs, ht⟩
  · obtain ⟨rfl, _, rfl⟩ := Value.slice.inj q
    exact .inl ⟨rfl, List.eq_nil_of_length_eq_zero hn, rfl⟩
  · obtain ⟨rfl, _, rfl⟩ := Value.slice.inj q
    exact .inr ⟨g, cur, rfl, hb, hg, hnc, hcm, by omega, by rw [Nat.mul_one] at ht; exact ht⟩
theorem RowI.more {w : World} {B B' c : Nat} {A : Option Addr} {l : List Int} (h : RowI w B A c l) (hB : B' ≤ B) : RowI w B' A c l := by
  refine ⟨h.1, ?_⟩
  rcases h.2 with q | ⟨g, cap, cur, q, hb, r⟩
  · exact .inl q
  · exact .inr ⟨g, cap, cur, q, by omega, r⟩
theorem RowI.lt {w : World} {B c : Nat} {A : Option Addr} {l : List Int} (h : RowI w B A c l) {b : Nat} (hb : own A = some b) : B ≤ b ∧ b < w.heap.size := World.ownsRow.lt h b (by rw [own_eq]; exact hb)
theorem RowI.keep {w w' : World} {B c : Nat} {A : Option Addr} {l : List Int} {S : Nat → Prop} (h : RowI w B A c l) (hk : Kept w w' S) (hn : ∀ b, own A = some b → ¬ S b) : RowI w' B A c l := hk.row h (fun b hb => hn b (by rw [← own_eq]; exact hb))
theorem RowI.next {w w' : World} {B c : Nat} {A : Option Addr} {l : List Int} (h : RowI w B A c l) (hb : Below w.heap.size w w') : RowI w' B A c l := h.keep (S := fun _ => False) (Kept.fresh hb) (fun _ _ q => q)
theorem cellAt_of {w : World} {g : Nat} {cur : Array Value} {t : TypeId} (hg : w.heap[g]? = some (.cells cur t (0, 0))) (j : Nat) : w.cell? ⟨g, j, none⟩ = cur[j]? := by
  simp [World.cell?, hg]
end Go.Proofs.Ytpcindemkkdbbaa
