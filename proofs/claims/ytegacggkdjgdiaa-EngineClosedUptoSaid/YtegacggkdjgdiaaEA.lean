/- An engine as it is meant: what waits, what is ready, what stands of a block; how it lies in memory. -/
import Derived.Test.YtegacggkdjgdiaaH3
set_option linter.unusedVariables false
set_option linter.unusedSimpArgs false
namespace Go.Proofs.Ytegacggkdjgdiaa
open Go.RowKit

/-- one that waits: its number, its patch, what it comes behind (and where these numbers lie), whether it stood in its block's last Write -/
structure Wr where
  num : Int
  p : Pt
  ah : List Int
  A : Option Addr
  c : Nat
  wr : Bool
def Wr.cs (x : Wr) : List Value := [.int .i64 x.num, .int .i64 x.p.b, .int .i64 x.p.o, .string x.p.s, .slice x.A x.ah.length x.c, .bool x.wr]
def Wr.v (x : Wr) : Value := .agg x.cs.toArray
def flatW (l : List Wr) : List Value := l.flatMap Wr.cs
def wn (l : List Wr) (k : Nat) : Wr := l.getD k ⟨0, ⟨0, 0, ByteArray.empty⟩, [], none, 0, false⟩
theorem wn_lt {l : List Wr} {k : Nat} (h : k < l.length) : wn l k = l[k] := by
  unfold wn; rw [List.getD_eq_getElem?_getD, List.getElem?_eq_getElem h]; rfl
theorem wn_mem {l : List Wr} {k : Nat} (h : k < l.length) : wn l k ∈ l := by rw [wn_lt h]; exact List.getElem_mem h
theorem wn_take {l : List Wr} {k j : Nat} (h : j < k) : wn (l.take k) j = wn l j := by
  unfold wn
  rw [List.getD_eq_getElem?_getD, List.getD_eq_getElem?_getD, List.getElem?_take, if_pos h]
theorem take_wn {l : List Wr} {k : Nat} (h : k < l.length) : l.take (k + 1) = l.take k ++ [wn l k] := by
  rw [List.take_succ_eq_append_getElem h, wn_lt h]
theorem flatW_cons (h : Wr) (l : List Wr) : flatW (h :: l) = h.cs ++ flatW l := by simp [flatW]
theorem flatW_append (a b : List Wr) : flatW (a ++ b) = flatW a ++ flatW b := by simp [flatW]
theorem flatW_one (x : Wr) : flatW [x] = x.cs := by simp [flatW]
theorem length_cs (x : Wr) : x.cs.length = 6 := rfl
theorem length_flatW (l : List Wr) : (flatW l).length = l.length * 6 := by
  induction l with
  | nil => rfl
  | cons h r ih => rw [flatW_cons, List.length_append, ih, length_cs, List.length_cons]; omega
theorem flatW_take (l : List Wr) (k : Nat) : (flatW l).take (k * 6) = flatW (l.take k) := by
  induction l generalizing k with
  | nil => simp [flatW]
  | cons h r ih =>
    cases k with
    | zero => simp [flatW]
    | succ k => rw [List.take_succ_cons, flatW_cons, flatW_cons, ← ih, show (k + 1) * 6 = k * 6 + 6 by omega]; simp [Wr.cs]
theorem flatW_drop (l : List Wr) (k : Nat) : (flatW l).drop (k * 6) = flatW (l.drop k) := by
  induction l generalizing k with
  | nil => simp [flatW]
  | cons h r ih =>
    cases k with
    | zero => simp
    | succ k => rw [List.drop_succ_cons, flatW_cons, ← ih, show (k + 1) * 6 = k * 6 + 6 by omega]; simp [Wr.cs]
theorem flatW_get {l : List Wr} {k j : Nat} (hk : k < l.length) (hj : j < 6) : (flatW l)[k * 6 + j]? = (wn l k).cs[j]? := by
  have h := List.getElem?_drop (xs := flatW l) (i := k * 6) (j := j)
  rw [← h, flatW_drop, List.drop_eq_getElem_cons hk, flatW_cons, List.getElem?_append_left (by rw [length_cs]; exact hj), wn_lt hk]
theorem cs_one (x : Wr) : ∀ u ∈ x.cs, u.oneCell' = true := by
  intro u hu
  simp [Wr.cs] at hu
  rcases hu with rfl | rfl | rfl | rfl | rfl | rfl <;> rfl
theorem flatW_cells (l : List Wr) : ∀ u ∈ flatW l, u.oneCell' = true := by
  intro u hu
  obtain ⟨x, _, hx⟩ := List.mem_flatMap.1 hu
  exact cs_one x u hx
/-- the same one, written -/
def Wr.done (x : Wr) : Wr := { x with wr := true }
/-- the row with its k-th one written -/
def setDone (l : List Wr) (k : Nat) : List Wr := l.set k (wn l k).done
theorem length_setDone (l : List Wr) (k : Nat) : (setDone l k).length = l.length := by simp [setDone]
theorem flatW_set {l : List Wr} {k : Nat} (hk : k < l.length) : (flatW l).set (k * 6 + 5) (.bool true) = flatW (setDone l k) := by
  unfold setDone
  induction l generalizing k with
  | nil => simp at hk
  | cons h r ih =>
    cases k with
    | zero =>
      rw [show 0 * 6 + 5 = 5 by omega, flatW_cons, List.set_append_left _ _ (by rw [length_cs]; omega)]
      simp [wn, Wr.cs, flatW_cons, Wr.done]
    | succ k =>
      have hk' : k < r.length := by simpa using hk
      have e : wn (h :: r) (k + 1) = wn r k := by simp [wn]
      rw [flatW_cons, List.set_append_right _ _ (by rw [length_cs]; omega), show (k + 1) * 6 + 5 - h.cs.length = k * 6 + 5 by rw [length_cs]; omega, ih hk', e, List.set_cons_succ, flatW_cons]

def numsL (l : List Wr) : List Int := l.map Wr.num
def hasN (l : List Wr) (n : Int) : Bool := l.any fun x => x.num == n
def onL (l : List Wr) (b : Int) : List Wr := l.filter fun x => x.p.b == b
/-- can x come, when those of kept came? -/
def okIn (l kept : List Wr) (x : Wr) : Bool := x.ah.all fun n => !hasN l n || hasN kept n
def keepL (l kept : List Wr) : List Wr → List Wr
  | [] => kept
  | x :: r => keepL l (if okIn l kept x then kept ++ [x] else kept) r
def readyL (l : List Wr) (b : Int) : List Wr := keepL l [] (onL l b)
theorem hasN_iff {l : List Wr} {n : Int} : hasN l n = true ↔ ∃ x ∈ l, x.num = n := by simp [hasN]
theorem hasN_no {l : List Wr} {n : Int} : hasN l n = false ↔ ∀ x ∈ l, x.num ≠ n := by simp [hasN]
/-- the numbers rise -/
def Asc (l : List Wr) : Prop := l.Pairwise fun a b => a.num < b.num
/-- how many have smaller numbers -/
def posN (l : List Wr) (n : Int) : Nat := l.countP fun x => decide (x.num < n)
theorem posN_le (l : List Wr) (n : Int) : posN l n ≤ l.length := List.countP_le_length
theorem posN_at {l : List Wr} (h : Asc l) {n : Int} {k : Nat} (hk : k ≤ l.length) (h1 : ∀ j, j < k → (wn l j).num < n) (h2 : ∀ j, k ≤ j → j < l.length → ¬ (wn l j).num < n) : posN l n = k := by
  have e : l = l.take k ++ l.drop k := (List.take_append_drop k l).symm
  unfold posN
  rw [e, List.countP_append, List.countP_eq_length.2, List.countP_eq_zero.2]
  · rw [List.length_take]; omega
  · intro x hx
    obtain ⟨j, hj, rfl⟩ := List.mem_iff_getElem.1 hx
    rw [List.length_drop] at hj
    rw [List.getElem_drop]
    have := h2 (k + j) (by omega) (by omega)
    rw [wn_lt (by omega)] at this
    simpa using this
  · intro x hx
    obtain ⟨j, hj, rfl⟩ := List.mem_iff_getElem.1 hx
    rw [List.length_take] at hj
    rw [List.getElem_take]
    have := h1 j (by omega)
    rw [wn_lt (by omega)] at this
    simpa using this
theorem Asc.lt {l : List Wr} (h : Asc l) {i j : Nat} (hij : i < j) (hj : j < l.length) : (wn l i).num < (wn l j).num := by
  rw [wn_lt (by omega), wn_lt hj]
  exact (List.pairwise_iff_getElem.1 h) i j (by omega) hj hij
theorem posN_yes {l : List Wr} (h : Asc l) {k : Nat} (hk : k < l.length) : posN l (wn l k).num = k :=
  posN_at h (by omega) (fun j hj => h.lt hj hk) fun j h1 h2 => by
    rcases Nat.lt_or_ge k j with q | q
    · have := h.lt q h2; omega
    · have : j = k := by omega
      subst this; omega
theorem hasN_at {l : List Wr} (h : Asc l) {n : Int} {k : Nat} (hk : k ≤ l.length) (h1 : ∀ j, j < k → (wn l j).num < n) (h2 : ∀ j, k ≤ j → j < l.length → ¬ (wn l j).num < n) :
    hasN l n = (decide (k < l.length) && decide ((wn l k).num = n)) := by
  cases hb : hasN l n with
  | true =>
    obtain ⟨x, hx, hn⟩ := hasN_iff.1 hb
    obtain ⟨j, hj, rfl⟩ := List.mem_iff_getElem.1 hx
    rw [← wn_lt hj] at hn
    have hjk : k ≤ j := by
      rcases Nat.lt_or_ge j k with q | q
      · have := h1 j q; omega
      · exact q
    have hkl : k < l.length := by omega
    have h3 := h2 k (Nat.le_refl _) hkl
    have h4 : (wn l k).num ≤ (wn l j).num := by
      rcases Nat.lt_or_ge k j with q | q
      · exact Int.le_of_lt (h.lt q hj)
      · have : k = j := by omega
        subst this; exact Int.le_refl _
    have h5 : (wn l k).num = n := by omega
    simp [hkl, h5]
  | false =>
    rw [hasN_no] at hb
    by_cases hkl : k < l.length
    · have := hb _ (wn_mem hkl)
      simp [hkl, this]
    · simp [hkl]
theorem Asc.take {l : List Wr} (h : Asc l) (k : Nat) : Asc (l.take k) := List.Pairwise.sublist (List.take_sublist k l) h
theorem Asc.filter {l : List Wr} (h : Asc l) (p : Wr → Bool) : Asc (l.filter p) := List.Pairwise.filter _ h
theorem Asc.sub {l m : List Wr} (h : Asc l) (hs : m.Sublist l) : Asc m := List.Pairwise.sublist hs h
theorem keepL_sub (l : List Wr) : ∀ (r kept : List Wr), ∃ s, s.Sublist r ∧ keepL l kept r = kept ++ s
  | [], kept => ⟨[], List.Sublist.refl _, by simp [keepL]⟩
  | x :: r, kept => by
    unfold keepL
    split
    · obtain ⟨s, h1, h2⟩ := keepL_sub l r (kept ++ [x])
      exact ⟨x :: s, h1.cons_cons x, by rw [h2]; simp⟩
    · obtain ⟨s, h1, h2⟩ := keepL_sub l r kept
      exact ⟨s, h1.cons x, h2⟩
theorem readyL_sub (l : List Wr) (b : Int) : (readyL l b).Sublist (onL l b) := by
  obtain ⟨s, h1, h2⟩ := keepL_sub l (onL l b) []
  unfold readyL; rw [h2]; simpa using h1
theorem onL_sub (l : List Wr) (b : Int) : (onL l b).Sublist l := List.filter_sublist

/-- where the numbers lie that one comes behind -/
def AhAt (w : World) (x : Wr) : Prop := w.ownsRow 0 3 1 (.slice x.A x.ah.length x.c) x.ah.length (x.ah.map (Value.int .i64))
/-- a row of such as wait, in memory -/
structure RowW (w : World) (B : Nat) (A : Option Addr) (c : Nat) (l : List Wr) : Prop where
  row : w.ownsRow B 90 6 (.slice A l.length c) l.length (flatW l)
  ah : ∀ x ∈ l, AhAt w x
/-- no numbers lie in the blocks F -/
def NI (w : World) (F : Nat → Prop) : Prop := ∀ b, F b → ∀ cs fr, w.heap[b]? ≠ some (.cells cs 3 fr)
theorem NI.none (w : World) : NI w (fun _ => False) := fun _ h => by cases h
theorem NI.or {w : World} {F G : Nat → Prop} (h : NI w F) (k : NI w G) : NI w (fun b => F b ∨ G b) := fun b hb => hb.elim (h b) (k b)
theorem NI.of_type {w : World} {g : Nat} {t : TypeId} {cs : Array Value} {fr : Nat × Nat} (h : w.heap[g]? = some (.cells cs t fr)) (ht : t ≠ 3) : NI w (fun b => b = g) := by
  rintro b rfl cs' fr' e
  rw [h] at e
  simp at e
  exact ht e.2.1
theorem NI.row {w : World} {B : Nat} {e : TypeId} {size : Nat} {v : Value} {n : Nat} {xs : List Value} (h : w.ownsRow B e size v n xs) (ht : e ≠ 3) : NI w (fun b => v.ownBlock = some b) := by
  intro b hb cs fr q
  rcases h.2 with ⟨rfl, _⟩ | ⟨g, cap, cur, rfl, _, hg, _⟩
  · simp [Value.ownBlock] at hb
  · have : g = b := by simpa [Value.ownBlock] using hb
    subst this
    rw [hg] at q
    simp at q
    exact ht q.2.1
theorem AhAt.keep {w w' : World} {x : Wr} {F : Nat → Prop} (h : AhAt w x) (hk : Kept w w' F) (hF : NI w F) : AhAt w' x :=
  hk.row h fun b hb hf => by
    rcases h.2 with ⟨q, _⟩ | ⟨g, cap, cur, q, _, hg, _⟩
    · rw [q] at hb; simp [Value.ownBlock] at hb
    · rw [q] at hb
      have : g = b := by simpa [Value.ownBlock] using hb
      subst this
      exact hF g hf _ _ hg
theorem RowW.keep {w w' : World} {B : Nat} {A : Option Addr} {c : Nat} {l : List Wr} {F : Nat → Prop} (h : RowW w B A c l) (hk : Kept w w' F) (hF : NI w F) (hA : ∀ b, own A = some b → ¬ F b) : RowW w' B A c l :=
  ⟨hk.row h.row (fun b hb => hA b (by rw [← own_eq]; exact hb)), fun x hx => (h.ah x hx).keep hk hF⟩
theorem RowW.fresh {w w' : World} {B : Nat} {A : Option Addr} {c : Nat} {l : List Wr} (h : RowW w B A c l) (hb : Below w.heap.size w w') : RowW w' B A c l :=
  h.keep (F := fun _ => False) (Kept.fresh hb) (NI.none w) (fun _ _ q => q)
theorem RowW.drew {w : World} {B : Nat} {A : Option Addr} {c : Nat} {l : List Wr} (h : RowW w B A c l) : RowW w.drew B A c l := ⟨h.row, h.ah⟩
theorem RowW.nil (w : World) (B : Nat) : RowW w B none 0 [] := ⟨World.ownsRow_nil _ _ _ _, fun x hx => by cases hx⟩
theorem RowW.lt {w : World} {B : Nat} {A : Option Addr} {c : Nat} {l : List Wr} (h : RowW w B A c l) : ∀ b, own A = some b → B ≤ b ∧ b < w.heap.size := fun b hb => h.row.lt b (by rw [own_eq]; exact hb)
/-- the cells of the q-th that waits -/
theorem RowW.at_ {w : World} {B : Nat} {A : Option Addr} {c : Nat} {l : List Wr} (h : RowW w B A c l) {q : Nat} (hq : q < l.length) :
    ∃ ab, A = some ⟨ab, 0, none⟩ ∧ l.length ≤ c ∧ c ≤ maxLen ∧ ab < w.heap.size ∧ (∀ j, j < 6 → w.cell? ⟨ab, q * 6 + j, none⟩ = (wn l q).cs[j]?) ∧ ∀ j, w.frozen? ⟨ab, j, none⟩ = false := by
  obtain ⟨ab, cap, hv, hB, hb⟩ := h.row.form (by omega)
  obtain ⟨rfl, _, rfl⟩ := Value.slice.inj hv
  refine ⟨ab, rfl, ?_, ?_, hb, fun j hj => ?_, fun j => h.row.frozenAt j⟩
  · rcases h.row.2 with ⟨q, _⟩ | ⟨_, _, _, q, _, _, h1, _⟩
    · cases q
    · cases q; exact h1
  · rcases h.row.2 with ⟨q, _⟩ | ⟨_, _, _, q, _, _, _, h1, _⟩
    · cases q
    · cases q; exact h1
  · rw [h.row.cellAt (q * 6 + j) (by omega), flatW_get hq hj]
theorem RowW.cap {w : World} {B : Nat} {A : Option Addr} {c : Nat} {l : List Wr} (h : RowW w B A c l) : l.length ≤ c ∧ c ≤ maxLen := by
  rcases h.row.2 with ⟨q, h0⟩ | ⟨_, _, _, q, _, _, h1, h2, _⟩
  · obtain ⟨_, _, rfl⟩ := Value.slice.inj q
    exact ⟨by omega, Nat.zero_le _⟩
  · cases q; exact ⟨h1, h2⟩
theorem RowW.take {w : World} {B : Nat} {A : Option Addr} {c : Nat} {l : List Wr} (h : RowW w B A c l) (k : Nat) (hk : k ≤ l.length) : RowW w B A c (l.take k) := by
  refine ⟨?_, fun x hx => h.ah x (List.mem_of_mem_take hx)⟩
  rw [List.length_take, Nat.min_eq_left hk, ← flatW_take]
  refine ⟨by rw [List.length_take, length_flatW]; omega, ?_⟩
  rcases h.row.2 with ⟨q, h0⟩ | ⟨g, cap, cur, q, hB, hg, h1, h2, h3, h4⟩
  · obtain ⟨rfl, _, rfl⟩ := Value.slice.inj q
    exact .inl ⟨by rw [show k = 0 by omega], by omega⟩
  · obtain ⟨rfl, _, rfl⟩ := Value.slice.inj q
    refine .inr ⟨g, _, cur, rfl, hB, hg, by omega, h2, h3, ?_⟩
    rw [← h4, List.take_take]
    congr 1; omega
theorem infoW : (Try.prog.info? 90).map (fun i => (i.zero, i.size, i.bytes)) = some (some (.agg #[.int .i64 0, .int .i64 0, .int .i64 0, .string ⟨#[]⟩, .slice none 0 0, .bool false]), 6, 72) := by kernel_rfl
theorem infoI : (Try.prog.info? 3).map (fun i => (i.zero, i.size, i.bytes)) = some (some (.int .i64 0), 1, 8) := by kernel_rfl
end Go.Proofs.Ytegacggkdjgdiaa
