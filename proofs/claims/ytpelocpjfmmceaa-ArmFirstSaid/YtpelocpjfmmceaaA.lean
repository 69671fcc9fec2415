/- The arm, plain: what each call makes of the requests. No program is imported. -/
import Derived.Laws.Entries
set_option linter.unusedVariables false
set_option linter.unusedSimpArgs false
namespace Go.Proofs.Ytpelocpjfmmceaa

/-- a request: its block, its age -/
structure Rq where
  b : Int
  a : Int
/-- the arm: its policy, its track, where it stands, how far it went, does it go up, the requests -/
structure Ar where
  p : Nat
  n : Nat
  s : Nat
  m : Nat
  u : Bool
  l : List Rq
def rn (l : List Rq) (k : Nat) : Rq := l.getD k ⟨0, 0⟩
theorem rn_lt {l : List Rq} {k : Nat} (h : k < l.length) : rn l k = l[k] := by
  unfold rn; rw [List.getD_eq_getElem?_getD, List.getElem?_eq_getElem h]; rfl
theorem take_rn {l : List Rq} {k : Nat} (h : k < l.length) : l.take (k + 1) = l.take k ++ [rn l k] := by
  rw [List.take_succ_eq_append_getElem h, rn_lt h]
theorem rn_take {l : List Rq} {k j : Nat} (h : j < k) : rn (l.take k) j = rn l j := by
  unfold rn; rw [List.getD_eq_getElem?_getD, List.getD_eq_getElem?_getD, List.getElem?_take_of_lt h]
theorem rn_mem {l : List Rq} {k : Nat} (h : k < l.length) : rn l k ∈ l := by rw [rn_lt h]; exact List.getElem_mem h
theorem mem_rn {l : List Rq} {r : Rq} (h : r ∈ l) : ∃ k, k < l.length ∧ rn l k = r := by
  obtain ⟨k, hk, e⟩ := List.mem_iff_getElem.1 h
  exact ⟨k, hk, by rw [rn_lt hk, e]⟩
theorem rn_drop {l m : List Rq} {j : Nat} (h : m.drop j = l.drop j) (hj : j < l.length) (hm : m.length = l.length) : rn m j = rn l j := by
  rw [rn_lt hj, rn_lt (by omega)]
  have h1 := congrArg (fun z => z[0]?) h
  simp only [List.getElem?_drop, Nat.add_zero] at h1
  rw [List.getElem?_eq_getElem hj, List.getElem?_eq_getElem (by omega)] at h1
  exact Option.some.inj h1
def inn (l : List Int) (k : Nat) : Int := l.getD k 0
theorem inn_lt {l : List Int} {k : Nat} (h : k < l.length) : inn l k = l[k] := by
  unfold inn; rw [List.getD_eq_getElem?_getD, List.getElem?_eq_getElem h]; rfl
theorem take_inn {l : List Int} {k : Nat} (h : k < l.length) : l.take (k + 1) = l.take k ++ [inn l k] := by
  rw [List.take_succ_eq_append_getElem h, inn_lt h]
theorem inn_mem {l : List Int} {k : Nat} (h : k < l.length) : inn l k ∈ l := by rw [inn_lt h]; exact List.getElem_mem h
theorem mem_inn {l : List Int} {r : Int} (h : r ∈ l) : ∃ k, k < l.length ∧ inn l k = r := by
  obtain ⟨k, hk, e⟩ := List.mem_iff_getElem.1 h
  exact ⟨k, hk, by rw [inn_lt hk, e]⟩
theorem inn_drop {l m : List Int} {j : Nat} (h : m.drop j = l.drop j) (hj : j < l.length) (hm : m.length = l.length) : inn m j = inn l j := by
  rw [inn_lt hj, inn_lt (by omega)]
  have h1 := congrArg (fun z => z[0]?) h
  simp only [List.getElem?_drop, Nat.add_zero] at h1
  rw [List.getElem?_eq_getElem hj, List.getElem?_eq_getElem (by omega)] at h1
  exact Option.some.inj h1
theorem inn_take {l : List Int} {k j : Nat} (h : j < k) : inn (l.take k) j = inn l j := by
  unfold inn; rw [List.getD_eq_getElem?_getD, List.getD_eq_getElem?_getD, List.getElem?_take_of_lt h]
/-- the blocks that are asked for -/
def blk (l : List Rq) : List Int := l.map (·.b)
theorem length_blk (l : List Rq) : (blk l).length = l.length := by simp [blk]
theorem blk_at {l : List Rq} {k : Nat} (h : k < l.length) : inn (blk l) k = (rn l k).b := by
  rw [inn_lt (by rw [length_blk]; exact h), rn_lt h]; simp [blk]
theorem blk_take {l : List Rq} {k : Nat} (h : k < l.length) : blk (l.take (k + 1)) = blk (l.take k) ++ [(rn l k).b] := by
  rw [take_rn h]; simp [blk]

/-! ### where the first one stands of which f is true -/
def idxF {α : Type} (f : α → Bool) (l : List α) : Int := if l.any f then (l.findIdx f : Int) else -1
theorem idxF_at {f : Rq → Bool} {l : List Rq} {k : Nat} (hk : k < l.length) (h1 : ∀ j, j < k → f (rn l j) = false) (h2 : f (rn l k) = true) : l.any f = true ∧ l.findIdx f = k := by
  refine ⟨List.any_eq_true.2 ⟨l[k], List.getElem_mem hk, by rw [← rn_lt hk]; exact h2⟩, ?_⟩
  rw [List.findIdx_eq hk]
  refine ⟨by rw [← rn_lt hk]; exact h2, fun j hj => ?_⟩
  have := h1 j hj
  rwa [rn_lt (by omega)] at this
theorem idxF_none {f : Rq → Bool} {l : List Rq} (h1 : ∀ j, j < l.length → f (rn l j) = false) : l.any f = false := by
  rw [List.any_eq_false]
  intro x hx
  obtain ⟨j, hj, rfl⟩ := mem_rn hx
  simp [h1 j hj]
theorem idxG_at {f : Int → Bool} {l : List Int} {k : Nat} (hk : k < l.length) (h1 : ∀ j, j < k → f (inn l j) = false) (h2 : f (inn l k) = true) : l.any f = true ∧ l.findIdx f = k := by
  refine ⟨List.any_eq_true.2 ⟨l[k], List.getElem_mem hk, by rw [← inn_lt hk]; exact h2⟩, ?_⟩
  rw [List.findIdx_eq hk]
  refine ⟨by rw [← inn_lt hk]; exact h2, fun j hj => ?_⟩
  have := h1 j hj
  rwa [inn_lt (by omega)] at this
theorem idxG_none {f : Int → Bool} {l : List Int} (h1 : ∀ j, j < l.length → f (inn l j) = false) : l.any f = false := by
  rw [List.any_eq_false]
  intro x hx
  obtain ⟨j, hj, rfl⟩ := mem_inn hx
  simp [h1 j hj]
theorem find_of_any {α : Type} {f : α → Bool} {l : List α} (h : l.any f = true) : l.findIdx f < l.length := by
  obtain ⟨x, hx, h⟩ := List.any_eq_true.1 h
  exact List.findIdx_lt_length_of_exists ⟨x, hx, h⟩
def isB (x : Int) (r : Rq) : Bool := r.b == x
def hasR (l : List Rq) (x : Int) : Bool := l.any (isB x)
def idxR (l : List Rq) (x : Int) : Int := idxF (isB x) l
theorem hasR_iff {l : List Rq} {x : Int} : hasR l x = true ↔ x ∈ blk l := by
  unfold hasR blk isB
  rw [List.any_eq_true]
  simp
theorem hasR_no {l : List Rq} {x : Int} : hasR l x = false ↔ x ∉ blk l := by
  rw [← hasR_iff]; simp
theorem idxR_ge (l : List Rq) (x : Int) : decide (0 ≤ idxR l x) = hasR l x := by
  unfold idxR idxF hasR
  cases h : l.any (isB x) <;> simp

/-! ### what stays of a row -/
theorem filter_step {α : Type} (f : α → Bool) {l : List α} {k : Nat} (d : α) (hk : k < l.length) : (l.take (k + 1)).filter f = if f (l.getD k d) = true then (l.take k).filter f ++ [l.getD k d] else (l.take k).filter f := by
  have e : l.take (k + 1) = l.take k ++ [l.getD k d] := by
    rw [List.take_succ_eq_append_getElem hk]; congr 2; rw [List.getD_eq_getElem?_getD, List.getElem?_eq_getElem hk]; rfl
  rw [e, List.filter_append]
  by_cases h : f (l.getD k d) = true
  · rw [if_pos h, List.filter_cons, if_pos h]; rfl
  · rw [if_neg h, List.filter_cons, if_neg h]; simp
def dropL (l : List Rq) (x : Int) : List Rq := l.filter fun r => !(isB x r)
def agedL (l : List Rq) : List Rq := l.map fun r => ⟨r.b, r.a + 1⟩

/-! ### the choice, as the program makes it -/
def old (r : Rq) : Bool := decide (12 ≤ r.a)
def oldI (l : List Rq) : Option Int := (l.find? old).map (·.b)
/-- how far two blocks are apart, on tracks of n -/
def far (i j n : Nat) : Nat := (((j / n : Nat) : Int) - ((i / n : Nat) : Int)).natAbs + (((j % n : Nat) : Int) - ((i % n : Nat) : Int)).natAbs
def bestK (f : Int → Int → Bool) (l : List Int) : Nat → Int
  | 0 => 0
  | k + 1 => if k = 0 ∨ f (inn l k) (bestK f l k) = true then inn l k else bestK f l k
def bestL (f : Int → Int → Bool) (l : List Int) : Int := bestK f l l.length
def lessB (x y : Int) : Bool := decide (x < y)
def greatB (x y : Int) : Bool := decide (y < x)
def nearB (s n : Nat) (x y : Int) : Bool := decide (far s x.toNat n < far s y.toNat n) || (decide (far s x.toNat n = far s y.toNat n) && decide (x < y))
def upL (s : Nat) (l : List Int) : List Int := l.filter fun b => decide ((s : Int) ≤ b)
def downL (s : Nat) (l : List Int) : List Int := l.filter fun b => decide (b ≤ (s : Int))
def scanL (s : Nat) (u : Bool) (l : List Int) : Int × Bool :=
  if u = true then (if (upL s l).isEmpty then (bestL greatB (downL s l), false) else (bestL lessB (upL s l), true))
  else (if (downL s l).isEmpty then (bestL lessB (upL s l), true) else (bestL greatB (downL s l), false))
def cycL (s : Nat) (l : List Int) : Int := if (upL s l).isEmpty then bestL lessB l else bestL lessB (upL s l)
namespace Ar
def choose (x : Ar) : Int × Bool :=
  match oldI x.l with
  | some b => (b, decide ((x.s : Int) < b))
  | none => if x.p = 2 then (bestL (nearB x.s x.n) (blk x.l), x.u) else if x.p = 3 then scanL x.s x.u (blk x.l) else if x.p = 4 then (cycL x.s (blk x.l), x.u) else (inn (blk x.l) 0, x.u)
def gone (x : Ar) (b : Int) (u : Bool) : Ar := ⟨x.p, x.n, b.toNat, x.m + far x.s b.toNat x.n, u, agedL (dropL x.l b)⟩
def next (x : Ar) : Ar := x.gone x.choose.1 x.choose.2
def askE (x : Ar) (b : Int) : Int := if b < 0 ∨ 1024 ≤ b then 2 else if hasR x.l b then 6 else if 24 ≤ x.l.length then 11 else 0
def ask (x : Ar) (b : Int) : Ar := if x.askE b = 0 then { x with l := x.l ++ [⟨b, 0⟩] } else x
def cancelE (x : Ar) (b : Int) : Int := if hasR x.l b then 0 else 5
def cancel (x : Ar) (b : Int) : Ar := { x with l := dropL x.l b }
def setE (p : Nat) : Int := if 1 ≤ p ∧ p ≤ 4 then 0 else 2
def setP (x : Ar) (p : Nat) : Ar := if 1 ≤ p ∧ p ≤ 4 then { x with p := p } else x
def age (x : Ar) (b : Int) : Int := if hasR x.l b then (rn x.l (x.l.findIdx (isB b))).a else -1
/-- what is true of an arm behind at most c turns -/
structure Ok (c : Nat) (x : Ar) : Prop where
  p0 : 1 ≤ x.p
  p1 : x.p ≤ 4
  n0 : 1 ≤ x.n
  n1 : x.n ≤ 64
  s1 : x.s < 1024
  m1 : x.m ≤ 1100 * c
  len : x.l.length ≤ 24
  rng : ∀ r ∈ x.l, 0 ≤ r.b ∧ r.b < 1024
  nd : (blk x.l).Nodup
  age0 : ∀ r ∈ x.l, 0 ≤ r.a ∧ r.a ≤ (c : Int) ∧ (0 < r.a → r.b ≠ (x.s : Int))
end Ar
end Go.Proofs.Ytpelocpjfmmceaa
