/- Inodes: what each call makes of groups, plain. -/
import Derived.Test.YtpcindemkkdbbaaTN
import Derived.Test.YtpcindemkkdbbaaCA
import Derived.Test.YtpcindemkkdbbaaGV
namespace Go.Proofs.Ytpcindemkkdbbaa
set_option linter.unusedVariables false
set_option linter.unusedSimpArgs false
open Go.RowKit

def inodeAt (x : Cy) : Option Nat := (List.range 16).find? fun i => !x.is.contains (i : Int)
def inodeG (l : List Cy) (g : Nat) : An := match inodeAt (cyN l g) with
  | some i => ⟨l.set g (takeI (cyN l g) i), g, i, 0⟩
  | none => ⟨[], 0, 0, 4⟩
theorem range_pre {j k : Nat} (h : j ≤ k) : List.range j <+: List.range k := ⟨(List.range (k - j)).map (fun x => j + x), by
  have e : k = j + (k - j) := by omega
  conv => rhs; rw [e]
  rw [List.range_add]⟩
theorem inodeAt_some {x : Cy} {k : Nat} (hk : k < 16) (hp : ∀ i, i < k → x.is.contains ((i : Nat) : Int) = true) (hb : x.is.contains ((k : Nat) : Int) = false) : inodeAt x = some k :=
  find_pre (p := List.range k) (x := k) (by rw [← List.range_succ]; exact range_pre hk) (fun y hy => by rw [hp y (List.mem_range.1 hy)]; rfl) (by rw [hb]; rfl)
theorem inodeAt_none {x : Cy} (hp : ∀ i, i < 16 → x.is.contains ((i : Nat) : Int) = true) : inodeAt x = none := by
  unfold inodeAt; rw [List.find?_eq_none]; intro y hy; rw [hp y (List.mem_range.1 hy)]; decide
theorem inodeG_some {l : List Cy} {g k : Nat} (h : inodeAt (cyN l g) = some k) : inodeG l g = ⟨l.set g (takeI (cyN l g) k), g, k, 0⟩ := by unfold inodeG; rw [h]
theorem inodeG_none {l : List Cy} {g : Nat} (h : inodeAt (cyN l g) = none) : inodeG l g = ⟨[], 0, 0, 4⟩ := by unfold inodeG; rw [h]
theorem inodeAt_spec {x : Cy} {k : Nat} (h : inodeAt x = some k) : k < 16 ∧ (k : Int) ∉ x.is := by
  have h1 := List.mem_range.1 (List.mem_of_find?_eq_some h)
  have h2 := List.find?_some h
  exact ⟨h1, by simpa using h2⟩
/-- of 16 inodes that are not all used one is found -/
theorem rise_full {m : Nat} {l : List Int} (h : ∀ i, i < m → ((i : Nat) : Int) ∈ l) (hr : Rise m l) : m ≤ l.length := by
  have hs : upI m ⊆ l := fun x hx => by
    have := mem_upI.1 hx
    have h2 := h x.toNat (by omega)
    rwa [Int.toNat_of_nonneg this.1] at h2
  have hn : (upI m).Nodup := (rise_upI (i := m) (m := (m : Int)) (by omega)).2.imp fun h => by omega
  have := hn.length_le_of_subset hs
  simpa [upI] using this
theorem inodeAt_of {x : Cy} (h : RightC x) (hf : 0 < x.fi) : ∃ k, inodeAt x = some k := by
  cases e : inodeAt x with
  | some k => exact ⟨k, rfl⟩
  | none =>
    unfold inodeAt at e
    rw [List.find?_eq_none] at e
    have := rise_full (m := 16) (fun i hi => by have := e i (List.mem_range.2 hi); simpa using this) h.is
    have := h.fi
    omega
theorem freeAt_of {x : Cy} (h : RightC x) (hf : 0 < x.fb) (f : Nat) : ∃ k, freeAt x f = some k := by
  cases e : freeAt x f with
  | some k => exact ⟨k, rfl⟩
  | none =>
    rw [← freeAt_eq, Option.map_eq_none_iff] at e
    have hb := h.bl
    have := rise_full (m := x.bl.toNat) (l := x.us) (fun i hi => freeIn_no e i hi) (by rw [Int.toNat_of_nonneg (by omega)]; exact h.us)
    have := h.fb
    omega
def leaveL (l : List Cy) (g b : Int) : An := if wholeL l then (if amongB g l.length && amongB b 16 then (if (cyN l g.toNat).is.contains b then ⟨l.set g.toNat (leaveC (cyN l g.toNat) b), 0, 0, 0⟩ else ⟨[], 0, 0, 5⟩) else ⟨[], 0, 0, 2⟩) else ⟨[], 0, 0, 3⟩
/-- how many inodes must be free where a directory goes -/
def enough (l : List Cy) : Int := max (freeI l / (l.length : Int)) 1
def bestTo (l : List Cy) (q : Int) : Nat → Nat × Int
  | 0 => (0, -1)
  | k + 1 => if q ≤ (cyN l k).fi ∧ (bestTo l q k).2 < (cyN l k).fb then (k, (cyN l k).fb) else bestTo l q k
def dirL (l : List Cy) : An := if wholeL l then (if freeI l = 0 then ⟨[], 0, 0, 4⟩ else inodeG l (bestTo l (enough l) l.length).1) else ⟨[], 0, 0, 3⟩
/-- the groups in which a file's inode is looked for -/
def searchW (m g : Nat) : List Nat := g :: (([1, 3, 7, 15].filter fun b => decide (b ≤ m)).map fun b => (g + b) % m) ++ wayT m g m
def fileAt (l : List Cy) (g : Nat) : Option Nat := (searchW l.length g).find? fun i => decide (0 < (cyN l i).fi)
def fileL (l : List Cy) (g : Int) : An := if wholeL l then (if amongB g l.length then (match fileAt l g.toNat with | some i => inodeG l i | none => ⟨[], 0, 0, 4⟩) else ⟨[], 0, 0, 2⟩) else ⟨[], 0, 0, 3⟩
/-- what bestTo is: none yet, or the first of those with most -/
theorem bestTo_inv (l : List Cy) (q : Int) (hl : ∀ j, j < l.length → 0 ≤ (cyN l j).fb) : ∀ k, k ≤ l.length → ((bestTo l q k).2 = -1 ∧ (bestTo l q k).1 = 0 ∧ (∀ j, j < k → ¬ q ≤ (cyN l j).fi)) ∨ ((bestTo l q k).1 < k ∧ (bestTo l q k).2 = (cyN l (bestTo l q k).1).fb ∧ q ≤ (cyN l (bestTo l q k).1).fi ∧ (∀ j, j < k → q ≤ (cyN l j).fi → (cyN l j).fb ≤ (bestTo l q k).2)) := by
  intro k
  induction k with
  | zero => intro _; exact .inl ⟨rfl, rfl, fun j hj => by omega⟩
  | succ k ih =>
    intro hk
    have h0 := hl k (by omega)
    have ih := ih (by omega)
    show (_ ∨ _)
    unfold bestTo
    by_cases h : q ≤ (cyN l k).fi ∧ (bestTo l q k).2 < (cyN l k).fb
    · rw [if_pos h]
      refine .inr ⟨by simp, rfl, h.1, fun j hj hq => ?_⟩
      rcases Nat.lt_or_ge j k with h3 | h3
      · rcases ih with ⟨_, _, h4⟩ | ⟨_, _, _, h4⟩
        · exact absurd hq (h4 j h3)
        · have := h4 j h3 hq; have := h.2; show (cyN l j).fb ≤ (cyN l k).fb; omega
      · obtain rfl : j = k := by omega
        exact Int.le_refl _
    · rw [if_neg h]
      rcases ih with ⟨h1, h2, h3⟩ | ⟨h1, h2, h3, h4⟩
      · refine .inl ⟨h1, h2, fun j hj hq => ?_⟩
        rcases Nat.lt_or_ge j k with h5 | h5
        · exact h3 j h5 hq
        · obtain rfl : j = k := by omega
          exact h ⟨hq, by omega⟩
      · refine .inr ⟨by omega, h2, h3, fun j hj hq => ?_⟩
        rcases Nat.lt_or_ge j k with h5 | h5
        · exact h4 j h5 hq
        · obtain rfl : j = k := by omega
          exact Int.not_lt.1 fun h6 => h ⟨hq, h6⟩
/-- some group has as many as on average -/
theorem sum_lt {f : Cy → Int} {l : List Cy} {q : Int} : ∀ k : Nat, (∀ i, i < k → f (cyN l i) ≤ q) → sumF f l k ≤ q * k := by
  intro k
  induction k with
  | zero => intro _; simp [sumF]
  | succ k ih =>
    intro h
    have h1 := ih (fun i hi => h i (by omega))
    have h2 := h k (by omega)
    show sumF f l k + f (cyN l k) ≤ _
    have : q * ((k + 1 : Nat) : Int) = q * (k : Int) + q := by rw [Int.natCast_add, Int.mul_add]; simp
    omega
theorem enough_one {l : List Cy} (hW : Whole l) (h : freeI l ≠ 0) : ∃ j, j < l.length ∧ enough l ≤ (cyN l j).fi := by
  apply Classical.byContradiction
  intro hn
  have hall : ∀ j, j < l.length → (cyN l j).fi ≤ enough l - 1 := fun j hj => by
    have : ¬ enough l ≤ (cyN l j).fi := fun q => hn ⟨j, hj, q⟩
    omega
  have hf : freeI l = sumF Cy.fi l l.length := by unfold freeI; rw [if_pos ((wholeL_iff l).2 hW)]
  have hs := sum_in (f := Cy.fi) (l := l) (m := 16) (fun i hi => (hW.ok i hi).fi_in) l.length (Nat.le_refl _)
  have hle := sum_lt (f := Cy.fi) (l := l) l.length hall
  rw [← hf] at hs hle
  have hlen : (1 : Int) ≤ (l.length : Int) := by have := hW.n1; omega
  unfold enough at hle
  by_cases h1 : freeI l / (l.length : Int) ≤ 1
  · rw [Int.max_eq_right h1] at hle
    simp at hle
    omega
  · rw [Int.max_eq_left (by omega)] at hle
    have h2 : (l.length : Int) * (freeI l / (l.length : Int)) ≤ freeI l := Int.mul_ediv_self_le (by omega)
    rw [Int.sub_mul, Int.one_mul, Int.mul_comm] at hle
    omega
theorem best_found {l : List Cy} (hW : Whole l) (h : freeI l ≠ 0) : (bestTo l (enough l) l.length).1 < l.length ∧ enough l ≤ (cyN l (bestTo l (enough l) l.length).1).fi ∧ ∀ j, j < l.length → enough l ≤ (cyN l j).fi → (cyN l j).fb ≤ (cyN l (bestTo l (enough l) l.length).1).fb := by
  obtain ⟨j, hj, hq⟩ := enough_one hW h
  rcases bestTo_inv l (enough l) (fun j hj => (hW.ok j hj).fb_in.1) l.length (Nat.le_refl _) with ⟨_, _, h3⟩ | ⟨h1, h2, h3, h4⟩
  · exact absurd hq (h3 j hj)
  · exact ⟨h1, h3, fun j hj hq => by rw [← h2]; exact h4 j hj hq⟩
theorem enough_pos (l : List Cy) : 1 ≤ enough l := Int.le_max_right _ _
/-- with a free inode one is found -/
theorem wayT_all {m f y : Nat} (h : y < m) : y ∈ wayT m f m := by
  have hm : 0 < m := by omega
  rw [← wayT_eq hm]
  exact List.mem_map.2 ⟨⟨y, h⟩, mem_wayN f _, rfl⟩
theorem searchW_lt {m g y : Nat} (hg : g < m) (h : y ∈ searchW m g) : y < m := by
  unfold searchW at h
  rw [List.cons_append, List.mem_cons, List.mem_append] at h
  rcases h with rfl | h | h
  · exact hg
  · obtain ⟨b, _, rfl⟩ := List.mem_map.1 h
    exact Nat.mod_lt _ (by omega)
  · exact wayT_lt h
theorem fileAt_of {l : List Cy} {g j : Nat} (hj : j < l.length) (hf : 0 < (cyN l j).fi) : ∃ i, fileAt l g = some i := by
  cases e : fileAt l g with
  | some k => exact ⟨k, rfl⟩
  | none =>
    unfold fileAt at e
    rw [List.find?_eq_none] at e
    have := e j (by unfold searchW; rw [List.cons_append, List.mem_cons, List.mem_append]; exact .inr (.inr (wayT_all hj)))
    simp at this; omega
theorem fileAt_spec {l : List Cy} {g i : Nat} (hg : g < l.length) (h : fileAt l g = some i) : i < l.length ∧ 0 < (cyN l i).fi :=
  ⟨searchW_lt hg (List.mem_of_find?_eq_some h), by have := List.find?_some h; simpa using this⟩
/-- what is taken leaves groups whole -/
theorem whole_inode {l : List Cy} (hW : Whole l) {g i : Nat} (hg : g < l.length) (h : inodeAt (cyN l g) = some i) : Whole (l.set g (takeI (cyN l g) i)) := by
  obtain ⟨h1, h2⟩ := inodeAt_spec h
  exact hW.set hg (right_take (hW.ok g hg) (by omega) (by omega) h2) (hW.ix g hg)
end Go.Proofs.Ytpcindemkkdbbaa
