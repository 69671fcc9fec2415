/- Blocks at hand, plain: what each call makes of the row. No program is imported. -/
import Derived.Laws.Entries
namespace Go.Proofs.Ythibnnllecdpaaa

/-- a block at hand: its number, how often it is held, is it dirty, was it touched -/
structure H where
  b : Int
  p : Int
  d : Bool
  t : Bool
namespace H
def can (h : H) : Bool := h.p == 0 && !h.d
def off (h : H) : H := ⟨h.b, h.p, h.d, false⟩
def on (h : H) : H := ⟨h.b, h.p, h.d, true⟩
def pin (h : H) (k : Int) : H := ⟨h.b, h.p + k, h.d, h.t⟩
def dirt (h : H) (x : Bool) : H := ⟨h.b, h.p, x, h.t⟩
def goes (h : H) : Bool := h.can && !h.t
end H
def fresh (x : Int) : H := ⟨x, 0, false, true⟩
def idx (l : List H) (x : Int) : Nat := l.findIdx fun h => h.b == x
def has (l : List H) (x : Int) : Bool := decide (idx l x < l.length)
def nthH (l : List H) (k : Nat) : H := l.getD k (fresh 0)
theorem nthH_lt {l : List H} {k : Nat} (h : k < l.length) : nthH l k = l[k] := by
  unfold nthH; rw [List.getD_eq_getElem?_getD, List.getElem?_eq_getElem h]; rfl
theorem has_lt {l : List H} {x : Int} (h : has l x = true) : idx l x < l.length := by simpa [has] using h
theorem idx_b {l : List H} {x : Int} (h : idx l x < l.length) : (nthH l (idx l x)).b = x := by
  rw [nthH_lt h]
  have e : (l[List.findIdx (fun h => h.b == x) l]'h).b = x := by have := List.findIdx_getElem (w := h); simpa using this
  exact e
theorem idx_min {l : List H} {x : Int} {j : Nat} (h : j < idx l x) : ((nthH l j).b == x) = false := by
  have hj : j < l.length := Nat.lt_of_lt_of_le h List.findIdx_le_length
  rw [nthH_lt hj]
  have := List.not_of_lt_findIdx h
  simpa using this
theorem idx_at {l : List H} {x : Int} {k : Nat} (hk : k < l.length) (h1 : ∀ j, j < k → ((nthH l j).b == x) = false) (h2 : (nthH l k).b = x) : idx l x = k := by
  unfold idx
  rw [List.findIdx_eq hk]
  refine ⟨by rw [← nthH_lt hk]; simpa using h2, fun j hj => ?_⟩
  have := h1 j hj
  rw [nthH_lt (by omega)] at this
  simpa using this
theorem idx_none {l : List H} {x : Int} (h1 : ∀ j, j < l.length → ((nthH l j).b == x) = false) : idx l x = l.length := by
  unfold idx
  rw [List.findIdx_eq_length]
  intro h hm
  obtain ⟨j, hj, rfl⟩ := List.mem_iff_getElem.1 hm
  rw [← nthH_lt hj]
  simpa using h1 j hj
theorem idx_le (l : List H) (x : Int) : idx l x ≤ l.length := List.findIdx_le_length
theorem has_iff {l : List H} {x : Int} : has l x = true ↔ ∃ h ∈ l, h.b = x := by
  simp only [has, idx, decide_eq_true_eq, List.findIdx_lt_length]
  simp
theorem has_mem {l : List H} {x : Int} : has l x = true ↔ x ∈ l.map (·.b) := by
  rw [has_iff]; simp

/-- the row when the foremost one went to its end -/
def rot : List H → List H
  | [] => []
  | h :: r => r ++ [h.off]
def headGoes (l : List H) : Bool := (l.head?.map H.goes).getD false
theorem length_rot (l : List H) : (rot l).length = l.length := by cases l <;> simp [rot]
/-- within n turns the foremost one goes -/
def stops : Nat → List H → Bool
  | 0, l => headGoes l
  | n + 1, l => headGoes l || stops n (rot l)
def spin : Nat → List H → List H
  | 0, l => l
  | n + 1, l => if headGoes l then l else spin n (rot l)
theorem stops_goes {n : Nat} {l : List H} (h : headGoes l = true) : stops n l = true := by cases n <;> simp [stops, h]
theorem spin_goes {n : Nat} {l : List H} (h : headGoes l = true) : spin n l = l := by cases n <;> simp [spin, h]
theorem stops_next {n : Nat} {l : List H} (h : headGoes l = false) (hs : stops n l = true) : ∃ m, n = m + 1 ∧ stops m (rot l) = true ∧ spin n l = spin m (rot l) := by
  cases n with
  | zero => simp [stops, h] at hs
  | succ m => exact ⟨m, rfl, by simpa [stops, h] using hs, by simp [spin, h]⟩
theorem stops_at : ∀ (n : Nat) (pre : List H) (e : H) (post : List H), e.can = true → (if e.t then pre.length + (pre.length + 1 + post.length) else pre.length) ≤ n → stops n (pre ++ e :: post) = true := by
  intro n
  induction n with
  | zero =>
    intro pre e post hc hn
    cases ht : e.t with
    | true => rw [ht] at hn; simp at hn
    | false =>
      rw [ht] at hn
      have : pre = [] := List.eq_nil_of_length_eq_zero (by simpa using hn)
      subst this
      simp [stops, headGoes, H.goes, hc, ht]
  | succ n ih =>
    intro pre e post hc hn
    cases pre with
    | nil =>
      cases ht : e.t with
      | false => exact stops_goes (by simp [headGoes, H.goes, hc, ht])
      | true =>
        rw [ht] at hn
        simp only [List.nil_append, stops, rot, Bool.or_eq_true]
        right
        refine ih post e.off [] (by simpa [H.can, H.off] using hc) ?_
        simp [H.off] at hn ⊢
        omega
    | cons h pre =>
      simp only [List.cons_append, stops, rot, Bool.or_eq_true]
      right
      rw [List.append_assoc, List.cons_append]
      refine ih pre e (post ++ [h.off]) hc ?_
      cases ht : e.t <;> rw [ht] at hn <;> simp at hn ⊢ <;> omega
theorem any_split {l : List H} (h : l.any H.can = true) : ∃ pre e post, l = pre ++ e :: post ∧ e.can = true := by
  obtain ⟨e, he, hc⟩ := List.any_eq_true.1 h
  obtain ⟨pre, post, rfl⟩ := List.append_of_mem he
  exact ⟨pre, e, post, rfl, hc⟩
/-- going round twice is enough -/
theorem stops_any {l : List H} (h : l.any H.can = true) : stops (2 * l.length - 1) l = true := by
  obtain ⟨pre, e, post, rfl, hc⟩ := any_split h
  refine stops_at _ pre e post hc ?_
  split <;> simp <;> omega
def turned (l : List H) : List H := spin (2 * l.length - 1) l
/-- what a turn keeps: a row of the same blocks, held as they were -/
theorem spin_keeps (Q : List H → Prop) (hrot : ∀ l, headGoes l = false → Q l → Q (rot l)) : ∀ (n : Nat) (l : List H), Q l → Q (spin n l) := by
  intro n
  induction n with
  | zero => exact fun l h => h
  | succ n ih =>
    intro l hl
    unfold spin
    split
    · exact hl
    · rename_i hg
      exact ih _ (hrot l (by simpa using hg) hl)
theorem spin_head : ∀ (n : Nat) (l : List H), stops n l = true → headGoes (spin n l) = true := by
  intro n
  induction n with
  | zero => exact fun l h => h
  | succ n ih =>
    intro l h
    unfold spin
    split
    · assumption
    · rename_i hg
      refine ih _ ?_
      simpa [stops, hg] using h
theorem length_spin (n : Nat) (l : List H) : (spin n l).length = l.length :=
  spin_keeps (fun s => s.length = l.length) (fun s _ h => by rw [length_rot]; exact h) n l rfl
theorem length_turned (l : List H) : (turned l).length = l.length := length_spin _ l

def modH (l : List H) (i : Nat) (f : H → H) : List H := l.set i (f (nthH l i))
theorem length_modH (l : List H) (i : Nat) (f : H → H) : (modH l i f).length = l.length := by simp [modH]
/-- Use: the one that went, the error, the row -/
def useG (m : Nat) (l : List H) (x : Int) : Int :=
  if x < 0 ∨ 96 ≤ x then -1 else if has l x then -1 else if l.length < m then -1 else if l.any H.can then (nthH (turned l) 0).b else -1
def useE (m : Nat) (l : List H) (x : Int) : Int :=
  if x < 0 ∨ 96 ≤ x then 2 else if has l x then 0 else if l.length < m then 0 else if l.any H.can then 0 else 11
def useL (m : Nat) (l : List H) (x : Int) : List H :=
  if x < 0 ∨ 96 ≤ x then l else if has l x then modH l (idx l x) H.on else if l.length < m then l ++ [fresh x] else if l.any H.can then (turned l).drop 1 ++ [fresh x] else l
def pinE (l : List H) (x : Int) (on : Bool) : Int := if has l x then if !on && (nthH l (idx l x)).p == 0 then 13 else 0 else 5
def pinL (l : List H) (x : Int) (on : Bool) : List H := if has l x then if !on && (nthH l (idx l x)).p == 0 then l else modH l (idx l x) (H.pin · (if on then 1 else -1)) else l
def dirtyE (l : List H) (x : Int) : Int := if has l x then 0 else 5
def dirtyL (l : List H) (x : Int) (on : Bool) : List H := if has l x then modH l (idx l x) (H.dirt · on) else l
def dropE (l : List H) (x : Int) : Int := if has l x then if (nthH l (idx l x)).can then 0 else 12 else 5
def dropL (l : List H) (x : Int) : List H := if has l x then if (nthH l (idx l x)).can then l.eraseIdx (idx l x) else l else l
def pinsN (l : List H) (x : Int) : Int := if has l x then (nthH l (idx l x)).p else 0
def blocks (l : List H) : List Int := l.map (·.b)

/-- held no more often than k -/
def Few (k : Int) (l : List H) : Prop := ∀ h ∈ l, 0 ≤ h.p ∧ h.p ≤ k
theorem Few.nth {k : Int} {l : List H} (h : Few k l) (hk : 0 ≤ k) (i : Nat) : 0 ≤ (nthH l i).p ∧ (nthH l i).p ≤ k := by
  rcases Nat.lt_or_ge i l.length with h1 | h1
  · rw [nthH_lt h1]; exact h _ (List.getElem_mem h1)
  · unfold nthH; rw [List.getD_eq_getElem?_getD, List.getElem?_eq_none h1]; simp [fresh, hk]
theorem Few.more {k k' : Int} {l : List H} (h : Few k l) (hk : k ≤ k') : Few k' l := fun x hx => ⟨(h x hx).1, by have := (h x hx).2; omega⟩
theorem Few.set {k : Int} {l : List H} (h : Few k l) {e : H} (he : 0 ≤ e.p ∧ e.p ≤ k) (i : Nat) : Few k (l.set i e) := by
  intro x hx
  rcases List.mem_or_eq_of_mem_set hx with h1 | rfl
  · exact h x h1
  · exact he
theorem Few.rot {k : Int} {l : List H} (h : Few k l) : Few k (rot l) := by
  cases l with
  | nil => exact h
  | cons a r =>
    intro x hx
    rcases List.mem_append.1 hx with h1 | h1
    · exact h x (List.mem_cons_of_mem _ h1)
    · rw [List.mem_singleton] at h1; subst h1; exact h a List.mem_cons_self
theorem Few.turned {k : Int} {l : List H} (h : Few k l) : Few k (turned l) := spin_keeps (Few k) (fun _ _ h => h.rot) _ _ h
theorem few_fresh {k : Int} (hk : 0 ≤ k) (x : Int) : 0 ≤ (fresh x).p ∧ (fresh x).p ≤ k := by simp [fresh, hk]
theorem Few.append {k : Int} {l : List H} (h : Few k l) (hk : 0 ≤ k) (x : Int) : Few k (l ++ [fresh x]) := by
  intro y hy
  rcases List.mem_append.1 hy with h1 | h1
  · exact h y h1
  · rw [List.mem_singleton] at h1; subst h1; exact few_fresh hk x
theorem Few.use {k : Int} {l : List H} (h : Few k l) (hk : 0 ≤ k) (m : Nat) (x : Int) : Few k (useL m l x) := by
  unfold useL
  split
  · exact h
  · split
    · exact h.set (by have := h.nth hk (idx l x); exact this) _
    · split
      · exact h.append hk x
      · split
        · exact Few.append (fun y hy => h.turned y (List.mem_of_mem_drop hy)) hk x
        · exact h
theorem Few.pinned {k : Int} {l : List H} (h : Few k l) (hk : 0 ≤ k) (x : Int) (on : Bool) : Few (k + 1) (pinL l x on) := by
  have h' : Few (k + 1) l := h.more (by omega)
  unfold pinL
  split
  · split
    · exact h'
    · rename_i hx hp
      have := h.nth hk (idx l x)
      refine h'.set ?_ _
      cases on with
      | true => simp [H.pin]; omega
      | false => simp at hp; simp [H.pin]; omega
  · exact h'
theorem Few.dirtied {k : Int} {l : List H} (h : Few k l) (hk : 0 ≤ k) (x : Int) (on : Bool) : Few k (dirtyL l x on) := by
  unfold dirtyL
  split
  · exact h.set (by have := h.nth hk (idx l x); exact this) _
  · exact h
theorem Few.dropped {k : Int} {l : List H} (h : Few k l) (x : Int) : Few k (dropL l x) := by
  unfold dropL
  split
  · split
    · exact fun y hy => h y (List.mem_of_mem_eraseIdx hy)
    · exact h
  · exact h
theorem length_useL {m : Nat} {l : List H} {x : Int} (hl : l.length ≤ m) : (useL m l x).length ≤ m := by
  unfold useL
  split
  · exact hl
  · split
    · rw [length_modH]; exact hl
    · split
      · simp; omega
      · split
        · rename_i h1 h2 h3
          have : 0 < l.length := by cases l <;> simp at h3 ⊢
          simp [length_turned]; omega
        · exact hl
theorem length_pinL (l : List H) (x : Int) (on : Bool) : (pinL l x on).length = l.length := by
  unfold pinL; split <;> (try split) <;> simp [modH]
theorem length_dirtyL (l : List H) (x : Int) (on : Bool) : (dirtyL l x on).length = l.length := by
  unfold dirtyL; split <;> simp [modH]
theorem length_dropL (l : List H) (x : Int) : (dropL l x).length ≤ l.length := by
  unfold dropL; split <;> (try split) <;> simp [List.length_eraseIdx]
  split <;> omega
end Go.Proofs.Ythibnnllecdpaaa
