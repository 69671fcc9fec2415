/- Blocks that are taken one near the other: plain. What each call leaves is right. -/
import Derived.Test.YtpcindemkkdbbaaBF
import Derived.Test.YtpcindemkkdbbaaBG
namespace Go.Proofs.Ytpcindemkkdbbaa
set_option linter.unusedVariables false
set_option linter.unusedSimpArgs false
open Go.RowKit

theorem right_use {x : Cy} {b : Int} (h : RightC x) (h0 : 0 ≤ b) (h1 : b < x.bl) (hb : b ∉ x.us) : RightC (useC x b) :=
  ⟨h.ix, h.bl, by show 0 ≤ (b + 1) % x.bl ∧ (b + 1) % x.bl < x.bl; exact ⟨Int.emod_nonneg _ (by have := h.bl.1; omega), Int.emod_lt_of_pos _ (by have := h.bl.1; omega)⟩, h.us.with_ h0 h1 hb, h.is, by show x.fb - 1 = x.bl - (withI x.us b).length; rw [length_withI, h.fb]; omega, h.fi⟩
theorem right_take {x : Cy} {i : Int} (h : RightC x) (h0 : 0 ≤ i) (h1 : i < 16) (hb : i ∉ x.is) : RightC (takeI x i) :=
  ⟨h.ix, h.bl, h.ro, h.us, h.is.with_ h0 h1 hb, h.fb, by show x.fi - 1 = 16 - (withI x.is i).length; rw [length_withI, h.fi]; omega⟩
theorem right_give {x : Cy} {b : Int} (h : RightC x) (hb : b ∈ x.us) : RightC (giveC x b) :=
  ⟨h.ix, h.bl, h.ro, h.us.without b, h.is, by show x.fb + 1 = x.bl - (withoutI x.us b).length; have := length_withoutI h.us hb; rw [h.fb]; omega, h.fi⟩
theorem right_leave {x : Cy} {i : Int} (h : RightC x) (hb : i ∈ x.is) : RightC (leaveC x i) :=
  ⟨h.ix, h.bl, h.ro, h.us, h.is.without i, h.fb, by show x.fi + 1 = 16 - (withoutI x.is i).length; have := length_withoutI h.is hb; rw [h.fi]; omega⟩
theorem Whole.set {l : List Cy} {j : Nat} {x : Cy} (h : Whole l) (hj : j < l.length) (hx : RightC x) (hi : x.ix = j) : Whole (l.set j x) := by
  refine ⟨by simpa using h.n1, by simpa using h.n2, fun i hl => ?_, fun i hl => ?_⟩ <;> rw [List.length_set] at hl <;> rw [cyN_set hj]
  · by_cases e : i = j
    · rw [if_pos e, e, hi]
    · rw [if_neg e]; exact h.ix i hl
  · by_cases e : i = j
    · rw [if_pos e]; exact hx
    · rw [if_neg e]; exact h.ok i hl
theorem mem_wayN {m : Nat} (f : Nat) (y : Fin m) : y ∈ wayN m f m := by
  have h := y.2
  have hm : 0 < m := by omega
  unfold wayN
  rw [dif_pos hm, List.mem_map]
  have hf := Nat.mod_lt f hm
  refine ⟨(y.1 + (m - f % m)) % m, List.mem_range.2 (Nat.mod_lt _ hm), ?_⟩
  apply Fin.ext
  show (f + (y.1 + (m - f % m)) % m) % m = y.1
  rw [Nat.add_mod, Nat.mod_mod, ← Nat.add_mod]
  have e : f + (y.1 + (m - f % m)) = y.1 + m * (f / m + 1) := by
    have := Nat.div_add_mod f m
    rw [Nat.mul_add, Nat.mul_one]; omega
  rw [e, Nat.add_mul_mod_self_left, Nat.mod_eq_of_lt h]
theorem freeIn_spec {x : Cy} {f : Nat} {b : Fin x.bl.toNat} (h : freeIn x f = some b) : ((b.1 : Nat) : Int) ∉ x.us := by
  have := List.find?_some h
  simpa using this
theorem freeIn_no {x : Cy} {f : Nat} (h : freeIn x f = none) (b : Nat) (hb : b < x.bl.toNat) : (b : Int) ∈ x.us := by
  unfold freeIn at h
  rw [List.find?_eq_none] at h
  have := h ⟨b, hb⟩ (mem_wayN f _)
  simpa using this
/-- the same in plain numbers -/
def wayT (m f k : Nat) : List Nat := (List.range k).map fun i => (f + i) % m
theorem wayT_eq {m : Nat} (h : 0 < m) (f k : Nat) : (wayN m f k).map (·.1) = wayT m f k := by simp [wayN, wayT, h]
theorem wayT_pre (m f : Nat) {j k : Nat} (hj : j ≤ k) : wayT m f j <+: wayT m f k := by
  refine ⟨(List.range (k - j)).map fun i => (f + (j + i)) % m, ?_⟩
  have e : k = j + (k - j) := by omega
  conv => rhs; rw [e]
  simp [wayT, List.range_add, Function.comp_def]
theorem wayT_lt {m f y : Nat} (h : y ∈ wayT m f m) : y < m := by
  obtain ⟨i, hi, rfl⟩ := List.mem_map.1 h
  have := List.mem_range.1 hi
  exact Nat.mod_lt _ (by omega)
def freeAt (x : Cy) (f : Nat) : Option Nat := (wayT x.bl.toNat f x.bl.toNat).find? fun b => !x.us.contains (b : Int)
theorem freeAt_eq (x : Cy) (f : Nat) : (freeIn x f).map (·.1) = freeAt x f := by
  by_cases h : 0 < x.bl.toNat
  · unfold freeAt freeIn
    rw [← wayT_eq h, List.find?_map]; rfl
  · have e : x.bl.toNat = 0 := by omega
    unfold freeAt freeIn
    rw [List.find?_eq_none.2, List.find?_eq_none.2]
    · rfl
    · intro y hy; rw [e] at hy; simp [wayT] at hy
    · intro y hy; have := y.2; omega
theorem takeAt_eq {l : List Cy} (h : 0 < l.length) (ng nb : Nat) : takeAt l ng nb = (wayT l.length ng l.length).findSome? fun g => (freeAt (cyN l g) (frm l ng nb g)).map fun b => (g, b) := by
  unfold takeAt
  rw [← wayT_eq h, List.findSome?_map]
  congr 1
  funext g
  show _ = Option.map _ (freeAt (cyN l g.1) (frm l ng nb g.1))
  rw [← freeAt_eq, Option.map_map]; rfl
theorem takeG_at {l : List Cy} {ng nb g b : Nat} (h : takeAt l ng nb = some (g, b)) : takeG l ng nb = ⟨l.set g (useC (cyN l g) b), g, b, 0⟩ := by unfold takeG; rw [h]
/-- the numbers below i -/
def upI (i : Nat) : List Int := (List.range i).map fun k : Nat => (k : Int)
theorem mem_upI {i : Nat} {x : Int} : x ∈ upI i ↔ 0 ≤ x ∧ x < i := by
  unfold upI
  rw [List.mem_map]
  constructor
  · rintro ⟨k, hk, rfl⟩; have := List.mem_range.1 hk; omega
  · rintro ⟨h0, h1⟩; exact ⟨x.toNat, List.mem_range.2 (by omega), by omega⟩
theorem rise_upI {i : Nat} {m : Int} (h : (i : Int) ≤ m) : Rise m (upI i) := by
  refine ⟨fun x hx => ?_, ?_⟩
  · have := mem_upI.1 hx; omega
  · unfold upI
    rw [List.pairwise_map]
    exact List.pairwise_lt_range.imp fun h => by omega
theorem with_upI (i : Nat) : withI (upI i) i = upI (i + 1) := by
  have h := rise_upI (i := i) (m := (i : Int) + 1) (by omega)
  refine rise_ext (h.with_ (n := (i : Int)) (by omega) (by omega) (by rw [mem_upI]; omega)).2 (rise_upI (i := i + 1) (Int.le_refl _)).2 fun x => ?_
  rw [mem_withI, mem_upI, mem_upI]; omega
/-- a group of n blocks of which the first i are used -/
def grpI (g n i : Nat) : Cy := ⟨g, n, n - i, 16, (i : Int) % n, upI i, []⟩
theorem right_grpI {g n i : Nat} (hg : g < 16) (h1 : 1 ≤ n) (h2 : n ≤ 64) (hi : i ≤ n) : RightC (grpI g n i) :=
  ⟨by show 0 ≤ (g : Int) ∧ (g : Int) < 16; omega, by show 1 ≤ (n : Int) ∧ (n : Int) ≤ 64; omega, by show 0 ≤ (i : Int) % n ∧ (i : Int) % n < n; exact ⟨Int.emod_nonneg _ (by omega), Int.emod_lt_of_pos _ (by omega)⟩, rise_upI (by show (i : Int) ≤ n; omega), ⟨fun x hx => (by cases hx), List.Pairwise.nil⟩, by show ((n : Int) - i) = n - (upI i).length; simp [upI], by show (16 : Int) = 16 - (([] : List Int).length : Int); simp⟩
theorem use_grpI {g n i : Nat} (hi : i < n) : useC (grpI g n i) i = grpI g n (i + 1) := by
  unfold useC grpI
  simp only [with_upI]
  congr 1
  omega
theorem grpI_zero (g n : Nat) : grpI g n 0 = bare g n := by simp [grpI, bare, upI]
theorem contains_grpI {g n i : Nat} (y : Nat) : (grpI g n i).us.contains ((y : Nat) : Int) = decide (y < i) := by
  rw [Bool.eq_iff_iff, contains_iff, decide_eq_true_iff]
  show (y : Int) ∈ upI i ↔ _
  rw [mem_upI]; omega
def nearI (i : Nat) : Nat := i - 1
theorem free_grpI {g n i : Nat} (hi : i < n) : freeAt (grpI g n i) (nearI i) = some i := by
  have hn : 0 < n := by omega
  have hb : (grpI g n i).bl.toNat = n := by simp [grpI]
  unfold freeAt
  rw [hb]
  by_cases h0 : i = 0
  · subst h0
    refine find_pre (p := []) (x := 0) (by
      have := wayT_pre n (nearI 0) (j := 1) (k := n) (by omega)
      simpa [wayT, nearI] using this) (fun y hy => by cases hy) (by rw [contains_grpI]; simp)
  · refine find_pre (p := [i - 1]) (x := i) (by
      have := wayT_pre n (nearI i) (j := 2) (k := n) (by omega)
      have e1 : (i - 1 + 0) % n = i - 1 := by rw [Nat.mod_eq_of_lt (by omega)]; omega
      have e2 : (i - 1 + 1) % n = i := by rw [Nat.mod_eq_of_lt (by omega)]; omega
      simpa [wayT, nearI, List.range_succ, e1, e2, Nat.mod_eq_of_lt (show i - 1 < n by omega)] using this) (fun y hy => by rw [List.mem_singleton] at hy; subst hy; rw [contains_grpI, decide_eq_true (by omega)]; rfl) (by rw [contains_grpI]; simp)
theorem full_grpI {g n : Nat} (f : Nat) : freeAt (grpI g n n) f = none := by
  have hb : (grpI g n n).bl.toNat = n := by simp [grpI]
  unfold freeAt
  rw [hb, List.find?_eq_none]
  intro y hy
  have := wayT_lt hy
  rw [contains_grpI, decide_eq_true this]; decide
/-- three groups, of which one has its first i blocks used -/
def triL (s : Nat → Nat) : List Cy := (List.range 3).map fun j : Nat => bare (j : Int) (s j : Int)
theorem length_triL (s : Nat → Nat) : (triL s).length = 3 := by simp [triL]
theorem triL_at (s : Nat → Nat) {j : Nat} (h : j < 3) : cyN (triL s) j = grpI j (s j) 0 := by
  rw [cyN_lt (by rw [length_triL]; exact h), grpI_zero]; simp [triL]
def stepL (s : Nat → Nat) (g i : Nat) : List Cy := (triL s).set g (grpI g (s g) i)
theorem length_stepL (s : Nat → Nat) (g i : Nat) : (stepL s g i).length = 3 := by simp [stepL, length_triL]
theorem stepL_at (s : Nat → Nat) {g : Nat} (hg : g < 3) (i j : Nat) : cyN (stepL s g i) j = if j = g then grpI g (s g) i else cyN (triL s) j := cyN_set (by rw [length_triL]; exact hg) _
theorem stepL_zero (s : Nat → Nat) {g : Nat} (hg : g < 3) : stepL s g 0 = triL s := by
  refine ext_cyN (by rw [length_stepL, length_triL]) fun k hk => ?_
  rw [stepL_at s hg]
  by_cases e : k = g
  · rw [if_pos e, e, triL_at s hg]
  · rw [if_neg e]
theorem whole_stepL {s : Nat → Nat} (hs : ∀ j, 1 ≤ s j ∧ s j ≤ 30) {g i : Nat} (hg : g < 3) (hi : i ≤ s g) : Whole (stepL s g i) := by
  have h0 : ∀ j, j < 3 → cyN (stepL s g i) j = grpI j (s j) (if j = g then i else 0) := fun j hj => by
    rw [stepL_at s hg]
    by_cases e : j = g
    · rw [if_pos e, if_pos e, e]
    · rw [if_neg e, if_neg e, triL_at s hj]
  refine ⟨by rw [length_stepL]; omega, by rw [length_stepL]; omega, fun j hj => ?_, fun j hj => ?_⟩ <;> rw [length_stepL] at hj <;> rw [h0 j hj]
  · rfl
  · refine right_grpI (by omega) (hs j).1 (by have := (hs j).2; omega) ?_
    split
    · rename_i e; rw [e]; exact hi
    · omega
theorem take_stepL {s : Nat → Nat} (hs : ∀ j, 1 ≤ s j ∧ s j ≤ 30) {g i : Nat} (hg : g < 3) (hi : i < s g) : takeL (stepL s g i) g (nearI i) = ⟨stepL s g (i + 1), g, i, 0⟩ := by
  have hW := whole_stepL hs hg (i := i) (by omega)
  have hc : cyN (stepL s g i) g = grpI g (s g) i := by rw [stepL_at s hg, if_pos rfl]
  have hb : isBlk (stepL s g i) g (nearI i) = true := isBlk_iff.2 ⟨⟨by omega, by rw [length_stepL]; omega⟩, by omega, by rw [Int.toNat_natCast, hc]; show ((nearI i : Nat) : Int) < (s g : Nat); unfold nearI; omega⟩
  unfold takeL
  rw [if_pos ((wholeL_iff _).2 hW), if_pos hb, Int.toNat_natCast, Int.toNat_natCast]
  have hf : frm (stepL s g i) g (nearI i) g = nearI i := by simp [frm]
  have key : takeAt (stepL s g i) g (nearI i) = some (g, i) := by
    rw [takeAt_eq (by rw [length_stepL]; omega), length_stepL]
    refine findSome_pre (p := []) (x := g) (by
      have := wayT_pre 3 g (j := 1) (k := 3) (by omega)
      simpa [wayT, Nat.mod_eq_of_lt hg] using this) (fun y hy => by cases hy) (by rw [hf, hc, free_grpI hi]; rfl)
  rw [takeG_at key, hc, use_grpI hi]
  unfold stepL
  rw [List.set_set]
theorem last_stepL {s : Nat → Nat} (hs : ∀ j, 1 ≤ s j ∧ s j ≤ 30) {g : Nat} (hg : g < 3) : ∃ L, takeL (stepL s g (s g)) g (nearI (s g)) = ⟨L, ((g + 1) % 3 : Nat), 0, 0⟩ ∧ Whole L ∧ L.length = 3 := by
  have h1 := hs g
  have hW := whole_stepL hs hg (i := s g) (by omega)
  have hc : cyN (stepL s g (s g)) g = grpI g (s g) (s g) := by rw [stepL_at s hg, if_pos rfl]
  have hb : isBlk (stepL s g (s g)) g (nearI (s g)) = true := isBlk_iff.2 ⟨⟨by omega, by rw [length_stepL]; omega⟩, by omega, by rw [Int.toNat_natCast, hc]; show ((nearI (s g) : Nat) : Int) < (s g : Nat); unfold nearI; omega⟩
  have hg2 : (g + 1) % 3 < 3 := Nat.mod_lt _ (by omega)
  have hne : (g + 1) % 3 ≠ g := by omega
  have hc2 : cyN (stepL s g (s g)) ((g + 1) % 3) = grpI ((g + 1) % 3) (s ((g + 1) % 3)) 0 := by rw [stepL_at s hg, if_neg hne, triL_at s hg2]
  have h2 := hs ((g + 1) % 3)
  unfold takeL
  rw [if_pos ((wholeL_iff _).2 hW), if_pos hb, Int.toNat_natCast, Int.toNat_natCast]
  have hf : frm (stepL s g (s g)) g (nearI (s g)) ((g + 1) % 3) = nearI 0 := by
    unfold frm; rw [if_neg hne, hc2]; simp [grpI, nearI]
  have key : takeAt (stepL s g (s g)) g (nearI (s g)) = some ((g + 1) % 3, 0) := by
    rw [takeAt_eq (by rw [length_stepL]; omega), length_stepL]
    refine findSome_pre (p := [g]) (x := (g + 1) % 3) (by
      simp [wayT, List.range_succ, Nat.mod_eq_of_lt hg]) (fun y hy => by rw [List.mem_singleton] at hy; subst hy; rw [hc, full_grpI]; rfl) (by rw [hf, hc2, free_grpI (by omega)]; rfl)
  rw [takeG_at key]
  refine ⟨_, rfl, ?_, by simp [length_stepL]⟩
  have hr := hW.ok ((g + 1) % 3) (by rw [length_stepL]; exact hg2)
  refine hW.set (by rw [length_stepL]; exact hg2) (right_use hr (by simp) (by have := hr.bl.1; simp; omega) (by rw [hc2]; show ¬ _ ∈ upI 0; simp [upI])) ?_
  rw [hc2]; rfl
end Go.Proofs.Ytpcindemkkdbbaa
