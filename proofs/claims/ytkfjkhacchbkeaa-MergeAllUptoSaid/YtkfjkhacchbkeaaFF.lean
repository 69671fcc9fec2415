/- Rows of bytes: what came in, what a call made; the contract of Copy. -/
import Derived.Test.YtkfjkhacchbkeaaQJ
import Derived.Test.YtkfjkhacchbkeaaBB
namespace Go.Proofs.Ytkfjkhacchbkeaa
set_option linter.unusedVariables false
set_option linter.unusedSimpArgs false
open Go.RowKit

/-- rows of bytes -/
def Rws (W : World) (B : Nat) (A : Option Addr) (L : List (List Int)) : Prop :=
  0 < L.length → ∃ g off, A = some ⟨g, off, none⟩ ∧ g < B ∧ ∀ j, j < L.length → ∃ Aj cj, W.cell? ⟨g, off + j, none⟩ = some (.slice Aj (rowI L j).length cj) ∧ Pat.Bts W B Aj (rowI L j)
section
variable {W W' : World} {B B' : Nat} {A : Option Addr} {L : List (List Int)}
theorem Rws.at_ (h : Rws W B A L) {k : Nat} (hk : k < L.length) : ∃ g off Ak ck, A = some ⟨g, off, none⟩ ∧ g < B ∧ W.cell? ⟨g, off + k, none⟩ = some (.slice Ak (rowI L k).length ck) ∧ Pat.Bts W B Ak (rowI L k) := by
  obtain ⟨g, off, e, hg, hc⟩ := h (by omega)
  obtain ⟨Ak, ck, h1, h2⟩ := hc k hk
  exact ⟨g, off, Ak, ck, e, hg, h1, h2⟩
theorem Rws.below (h : Rws W B A L) (hb : Below B W W') : Rws W' B A L := fun h0 => by
  obtain ⟨g, off, e, hg, hc⟩ := h h0
  refine ⟨g, off, e, hg, fun j hj => ?_⟩
  obtain ⟨Aj, cj, h1, h2⟩ := hc j hj
  exact ⟨Aj, cj, (hb.cell (p := ⟨g, off + j, none⟩) hg).trans h1, h2.below hb⟩
theorem Rws.more (h : Rws W B A L) (hB : B ≤ B') : Rws W B' A L := fun h0 => by
  obtain ⟨g, off, e, hg, hc⟩ := h h0
  refine ⟨g, off, e, by omega, fun j hj => ?_⟩
  obtain ⟨Aj, cj, h1, h2⟩ := hc j hj
  exact ⟨Aj, cj, h1, h2.more hB⟩
theorem Rws.next (h : Rws W W.heap.size A L) (hb : Below W.heap.size W W') : Rws W' W'.heap.size A L := (h.below hb).more hb.size
theorem Rws.take (h : Rws W B A L) (k : Nat) : Rws W B A (L.take k) := fun h0 => by
  rw [List.length_take] at h0
  obtain ⟨g, off, e, hg, hc⟩ := h (by omega)
  refine ⟨g, off, e, hg, fun j hj => ?_⟩
  rw [List.length_take] at hj
  obtain ⟨Aj, cj, h1, h2⟩ := hc j (by omega)
  have e2 : rowI (L.take k) j = rowI L j := by
    unfold rowI
    rw [List.getD_eq_getElem?_getD, List.getD_eq_getElem?_getD, List.getElem?_take, if_pos (by omega)]
  rw [e2]
  exact ⟨Aj, cj, h1, h2⟩
end
theorem cell_ne {W : World} {g o : Nat} {v : Value} {p : Addr} (h : p.block ≠ g) : (W.setCell ⟨g, o, none⟩ v).cell? p = W.cell? p := by
  have : ¬ g = p.block := fun e => h e.symm
  simp [World.cell?, World.setCell, Array.getElem?_modify, this]
theorem bts_set {W : World} {B g o : Nat} {v : Value} {A : Option Addr} {l : List Int} (h : Pat.Bts W B A l) (ha : ∀ a, A = some a → a.block ≠ g) : Pat.Bts (W.setCell ⟨g, o, none⟩ v) B A l :=
  ⟨h.1, fun h0 => by
    obtain ⟨b, off, rfl, hb, hc⟩ := h.2 h0
    exact ⟨b, off, rfl, hb, fun j hj => by rw [cell_ne (p := ⟨b, off + j, none⟩) (show b ≠ g from ha _ rfl)]; exact hc j hj⟩⟩

/-- rows of bytes in a slice of the call's own, at a block -/
structure OutB (W : World) (bo : Nat) (L : List (List Int)) (As : Nat → Option Addr) (Cs : Nat → Nat) : Prop where
  blk : ∃ l, BlkIs W bo 53 l ∧ ∀ j, j < L.length → l[j]? = some (.slice (As j) (rowI L j).length (Cs j))
  rows : ∀ j, j < L.length → Pat.Bts W W.heap.size (As j) (rowI L j) ∧ ∀ a, As j = some a → a.block ≠ bo
section
variable {W W' : World} {bo : Nat} {L : List (List Int)} {As : Nat → Option Addr} {Cs : Nat → Nat}
theorem OutB.lt (h : OutB W bo L As Cs) : bo < W.heap.size := by obtain ⟨l, hl, _⟩ := h.blk; exact hl.lt
theorem OutB.cell (h : OutB W bo L As Cs) {j : Nat} (hj : j < L.length) : W.cell? ⟨bo, j, none⟩ = some (.slice (As j) (rowI L j).length (Cs j)) := by
  obtain ⟨l, hl, hc⟩ := h.blk
  rw [hl.cell]; exact hc j hj
theorem OutB.frozen (h : OutB W bo L As Cs) (j : Nat) : W.frozen? ⟨bo, j, none⟩ = false := by
  obtain ⟨l, hl, hc⟩ := h.blk
  exact hl.frozen j
theorem OutB.next (h : OutB W bo L As Cs) (hb : Below W.heap.size W W') : OutB W' bo L As Cs := by
  obtain ⟨⟨l, hl, hc⟩, hr⟩ := h
  exact ⟨⟨l, hl.below hb hl.lt, hc⟩, fun j hj => ⟨((hr j hj).1.below hb).more hb.size, (hr j hj).2⟩⟩
theorem rowI_set (L : List (List Int)) (j : Nat) (m : List Int) (z : Nat) (hj : j < L.length) : rowI (L.set j m) z = if z = j then m else rowI L z := by
  unfold rowI
  rw [List.getD_eq_getElem?_getD, List.getD_eq_getElem?_getD, List.getElem?_set]
  by_cases e : j = z
  · subst e; rw [if_pos rfl, if_pos hj, if_pos rfl]; rfl
  · rw [if_neg e, if_neg (fun h => e h.symm)]
/-- a row is put in the place of another -/
theorem OutB.put (h : OutB W bo L As Cs) {j : Nat} (hj : j < L.length) {A : Option Addr} {m : List Int} {c : Nat} (hB : Below W.heap.size (W.setCell ⟨bo, j, none⟩ (.slice A m.length c)) W') (hb : Pat.Bts W' W'.heap.size A m) (ha : ∀ a, A = some a → a.block ≠ bo) :
    OutB W' bo (L.set j m) (fun z => if z = j then A else As z) (fun z => if z = j then c else Cs z) := by
  have hlt := h.lt
  obtain ⟨⟨l, hl, hc⟩, hr⟩ := h
  have hsz : W.heap.size ≤ W'.heap.size := by have := hB.size; simpa [World.setCell] using this
  refine ⟨⟨l.set j (.slice A m.length c), (hl.set_ j _).below hB hlt, fun z hz => ?_⟩, fun z hz => ?_⟩
  · rw [List.length_set] at hz
    rw [rowI_set _ _ _ _ hj]
    have hz2 := hc z hz
    by_cases e : z = j
    · subst e
      have hlz : z < l.length := by
        rcases Nat.lt_or_ge z l.length with h | h
        · exact h
        · rw [List.getElem?_eq_none h] at hz2; cases hz2
      simp [hlz]
    · have e2 : ¬ j = z := fun h => e h.symm
      simp only [if_neg e]
      rw [List.getElem?_set, if_neg e2]
      exact hz2
  · rw [List.length_set] at hz
    rw [rowI_set _ _ _ _ hj]
    by_cases e : z = j
    · simp only [if_pos e]; exact ⟨hb, ha⟩
    · simp only [if_neg e]
      obtain ⟨h1, h2⟩ := hr z hz
      exact ⟨((bts_set h1 h2).below hB).more hsz, h2⟩
end
/-- what a call made -/
def OutR (W : World) (A : Option Addr) (L : List (List Int)) : Prop := 0 < L.length → ∃ bo As Cs, A = some ⟨bo, 0, none⟩ ∧ OutB W bo L As Cs
theorem OutR.next {W W' : World} {A : Option Addr} {L : List (List Int)} (h : OutR W A L) (hb : Below W.heap.size W W') : OutR W' A L := fun h0 => by
  obtain ⟨bo, As, Cs, e, h1⟩ := h h0
  exact ⟨bo, As, Cs, e, h1.next hb⟩
theorem OutR.rws {W : World} {A : Option Addr} {L : List (List Int)} (h : OutR W A L) : Rws W W.heap.size A L := fun h0 => by
  obtain ⟨bo, As, Cs, e, h1⟩ := h h0
  exact ⟨bo, 0, e, h1.lt, fun j hj => ⟨As j, Cs j, by rw [Nat.zero_add]; exact h1.cell hj, (h1.rows j hj).1⟩⟩

/-- rows of bytes that a call makes, one behind the other -/
structure RbSt (base : Nat) (W : World) (q : List (List Int)) (v : Value) (vs : Nat → Value) : Prop where
  grp : W.ownsRow base 53 1 v q.length ((List.range q.length).map vs)
  rows : ∀ j, j < q.length → W.ownsRow base 5 1 (vs j) (rowI q j).length (Pat.bytesV (rowI q j)) ∧ Pat.AllB (rowI q j)
theorem RbSt.next {base : Nat} {W W' : World} {q : List (List Int)} {v : Value} {vs : Nat → Value} (h : RbSt base W q v vs) (hb : Below W.heap.size W W') : RbSt base W' q v vs :=
  ⟨own_lay h.grp hb, fun j hj => ⟨own_lay (h.rows j hj).1 hb, (h.rows j hj).2⟩⟩
theorem RbSt.nil (base : Nat) (W : World) : RbSt base W [] (.slice none 0 0) (fun _ => undef) := ⟨World.ownsRow_nil _ _ _ _, fun j hj => by cases hj⟩
theorem rowI_snoc (l : List (List Int)) (x : List Int) (j : Nat) : rowI (l ++ [x]) j = if j = l.length then x else rowI l j := by
  unfold rowI
  rw [List.getD_eq_getElem?_getD, List.getD_eq_getElem?_getD, List.getElem?_append]
  by_cases h : j < l.length
  · rw [if_pos h, if_neg (by omega)]
  · rw [if_neg h]
    by_cases e : j = l.length
    · subst e; simp
    · rw [if_neg e, List.getElem?_eq_none (by simp; omega), List.getElem?_eq_none (by omega)]
theorem RbSt.push {base : Nat} {W w5 : World} {q : List (List Int)} {row : List Int} {v v' x : Value} {vs : Nat → Value} {t : Obj} (h : RbSt base W q v vs) (hr : W.ownsRow base 5 1 x row.length (Pat.bytesV row)) (ha : Pat.AllB row)
    (hown : w5.ownsRow base 53 1 v' (q.length + 1) ((List.range q.length).map vs ++ [x])) (hg : (W.alloc t).grownBy w5 v.ownBlock) : RbSt base w5 (q ++ [row]) v' (fun j => if j = q.length then x else vs j) := by
  have hga := h.grp.alloc t
  refine ⟨?_, fun j hj => ?_⟩
  · have e : (List.range (q ++ [row]).length).map (fun j => if j = q.length then x else vs j) = (List.range q.length).map vs ++ [x] := by
      simp only [List.length_append, List.length_singleton, List.range_succ, List.map_append, List.map_cons, List.map_nil, if_true]
      congr 1
      apply List.map_congr_left
      intro j hj
      have := List.mem_range.1 hj
      rw [if_neg (by omega)]
    rw [e, List.length_append, List.length_singleton]
    exact hown
  · rw [rowI_snoc]
    by_cases e : j = q.length
    · simp only [if_pos e]
      have h2 := hr.alloc t
      exact ⟨h2.kept hg (own_apart h2 hga (by decide)), ha⟩
    · simp only [if_neg e]
      have hj' : j < q.length := by simp at hj; omega
      have h2 := (h.rows j hj').1.alloc t
      exact ⟨h2.kept hg (own_apart h2 hga (by decide)), (h.rows j hj').2⟩
theorem own_form {w : World} {B : Nat} {v : Value} {l : List Int} (h : w.ownsRow B 5 1 v l.length (Pat.bytesV l)) (hl : Pat.AllB l) : ∃ A c, v = .slice A l.length c ∧ Pat.Bts w w.heap.size A l ∧ ∀ a, A = some a → ∃ cur, B ≤ a.block ∧ w.heap[a.block]? = some (.cells cur 5 (0, 0)) := by
  rcases h.2 with ⟨rfl, hn⟩ | ⟨g, cap, cur, rfl, hB, hg, hnc, hcm, _⟩
  · obtain rfl : l = [] := List.eq_nil_of_length_eq_zero hn
    exact ⟨none, 0, rfl, Pat.Bts.nil, fun a h => by cases h⟩
  · exact ⟨some ⟨g, 0, none⟩, cap, rfl, (Pat.info_own h hl).1, fun a e => by cases e; exact ⟨cur, hB, hg⟩⟩
theorem RbSt.out {base : Nat} {W : World} {q : List (List Int)} {v : Value} {vs : Nat → Value} (h : RbSt base W q v vs) : ∃ A c, v = .slice A q.length c ∧ OutR W A q ∧ ∀ a, A = some a → base ≤ a.block := by
  rcases h.grp.2 with ⟨rfl, hn⟩ | ⟨g, cap, cur, rfl, hB, hg, hnc, hcm, _, htk⟩
  · exact ⟨none, 0, by rw [hn], fun h0 => by omega, fun a e => by cases e⟩
  · refine ⟨some ⟨g, 0, none⟩, cap, rfl, fun h0 => ?_, fun a e => by cases e; exact hB⟩
    have hrow : ∀ j, ∃ A c, j < q.length → vs j = .slice A (rowI q j).length c ∧ Pat.Bts W W.heap.size A (rowI q j) ∧ ∀ a, A = some a → a.block ≠ g := fun j => by
      by_cases hj : j < q.length
      · obtain ⟨A, c, e, h1, h2⟩ := own_form (h.rows j hj).1 (h.rows j hj).2
        refine ⟨A, c, fun _ => ⟨e, h1, fun a ea eg => ?_⟩⟩
        obtain ⟨cur2, _, h3⟩ := h2 a ea
        rw [eg, hg] at h3
        cases h3
      · exact ⟨none, 0, fun h => absurd h hj⟩
    obtain ⟨As, Cs, hA⟩ : ∃ As Cs, ∀ j, j < q.length → vs j = .slice (As j) (rowI q j).length (Cs j) ∧ Pat.Bts W W.heap.size (As j) (rowI q j) ∧ ∀ a, As j = some a → a.block ≠ g :=
      ⟨fun j => (hrow j).choose, fun j => (hrow j).choose_spec.choose, fun j => (hrow j).choose_spec.choose_spec⟩
    refine ⟨g, As, Cs, rfl, ⟨cur.toList, by unfold BlkIs; rw [Array.toArray_toList]; exact hg, fun j hj => ?_⟩, fun j hj => (hA j hj).2⟩
    rw [← (hA j hj).1]
    rw [Nat.mul_one] at htk
    have h1 : (cur.toList.take q.length)[j]? = ((List.range q.length).map vs)[j]? := by rw [htk]
    rw [List.getElem?_take, if_pos hj] at h1
    rw [h1]
    simp [hj]
end Go.Proofs.Ytkfjkhacchbkeaa
