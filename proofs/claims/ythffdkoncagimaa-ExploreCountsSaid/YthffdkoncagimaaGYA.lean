/- Plain words on Close, Closed and Ready; appends of ints. -/
import Derived.Test.YthffdkoncagimaaGX
import Derived.Test.YthffdkoncagimaaGU
import Derived.Laws.AppendOwnNone
namespace Go.Proofs.Ythffdkoncagimaa
set_option linter.unusedVariables false
set_option linter.unusedSimpArgs false
set_option maxRecDepth 100000
open Go.RowKit

theorem run_append_nil_ints {w : World} (base : Nat) (ty : TypeId) (v : Value) (n : Nat) (xs : List Value) (hown : w.ownsRow base 3 1 v n xs) (c : Nat) :
    (Builtin.append_ #[35, 35] ty #[v, .slice none 0 c]).run Try.prog w = .ok v w := by
  obtain ⟨i0, hi, _⟩ := info_parts info3
  rcases hown.2 with ⟨rfl, rfl⟩ | ⟨g, cap, cur, rfl, _, _, hnc, _⟩
  · simp [Builtin.append_, run_underlying Try.underlying35, sizeOf, typeInfo, hi, Builtin.lenOf, Builtin.firstCells]
  · simp [Builtin.append_, run_underlying Try.underlying35, sizeOf, typeInfo, hi, Builtin.lenOf, Builtin.firstCells, hnc, storeCells]

/-- 'append(s, b...)' on a slice of the call's own, whatever ints b are -/
theorem wpList_append_ints {w : World} {ops : Array Oper} {rest : List Oper} {o : Oper} {a : Act} {Q : Exit → Act → World → Prop} (hgd : o.guard = none) (s x : Operand)
    (ho : o.op = .call { callee := .builtin .append, args := #[s, x], argTypes := #[35, 35] })
    (base : Nat) (v : Value) (n : Nat) (xs : List Value) (hs : a.eval s = v) (hown : w.ownsRow base 3 1 v n xs) (B : Nat) (A : Option Addr) (l : List Int) (c m : Nat) (hm : m = l.length) (hx : a.eval x = .slice A m c) (hb : Ints w B A l)
    (hlen : n + m ≤ 100000) (hbase : base ≤ w.heap.size)
    (h : ∀ v' w', w'.ownsRow base 3 1 v' (n + m) (xs ++ intsV l) → w.grownBy w' v.ownBlock → wpList Try.prog ops Q rest (a.put o.dst v') w') : wpList Try.prog ops Q (o :: rest) a w := by
  subst hm
  obtain ⟨i0, hi, hz0, hz1, hz2⟩ := info_parts info3
  rcases A with _ | ad
  · have hl0 : l = [] := by
      rcases Nat.eq_zero_or_pos l.length with h0 | h0
      · exact List.eq_nil_of_length_eq_zero h0
      · obtain ⟨_, _, e, _⟩ := hb h0; cases e
    subst hl0
    refine wpList_plain hgd fun K hK => ?_
    have hrun := run_append_nil_ints (w := w) base o.type v n xs hown c
    have hx' : a.eval x = .slice none 0 c := hx
    unfold Oper.wp
    simp [execOp, ho, resolve, invoke, builtin, hs, hx', hrun, Result.andThen]
    exact hK _ _ (h v w (by simpa [intsV] using hown) (World.grownBy.refl w _))
  · refine wpList_append_own w hgd s x 35 ho base 3 i0 (.int .i64 0) 1 8 Try.underlying35 hi hz0 hz1 hz2 rfl (by decide) v n xs hs hown ad l.length c (intsV l) hx (by simp [intsV]) ?_ ?_ (by unfold maxLen; omega) (by omega) hbase fun v' w' h1 h2 _ => h v' w' h1 h2
    · intro j u hj
      rw [intsV, List.getElem?_map] at hj
      obtain ⟨y, hy, rfl⟩ := Option.map_eq_some_iff.1 hj
      have hj' : j < l.length := by
        rcases Nat.lt_or_ge j l.length with h | h
        · exact h
        · rw [List.getElem?_eq_none h] at hy; cases hy
      obtain ⟨b, off, e, _, hc⟩ := hb.at_ hj'
      injection e with e
      subst e
      have e : (⟨b, off, none⟩ : Addr).add j = ⟨b, off + j, none⟩ := by unfold Addr.add; split <;> simp_all
      rw [e, hc, nth_lt hj']
      rw [List.getElem?_eq_getElem hj'] at hy
      injection hy with hy
      rw [hy]
    · intro u hu; obtain ⟨y, _, rfl⟩ := List.mem_map.1 hu; rfl
theorem below_copy_ints {w w1 : World} (hg : (w.alloc (.cells #[] 3)).grownBy w1 (some w.heap.size)) : Below w.heap.size w w1 :=
  ((Below.refl _ w).alloc (Nat.le_refl _) _).grown hg (by simp) (fun j e => by cases e; exact Nat.le_refl _)
theorem own_empty_ints (w : World) : (w.alloc (.cells #[] 3)).ownsRow w.heap.size 3 1 (.slice (some ⟨w.heap.size, 0, none⟩) 0 0) 0 [] := World.ownsRow_made w #[] 0 (Nat.le_refl _) (by simp) (by simp)


theorem Ahead.lt {D : List (List Nat)} (hD : Right D) {m : Nat → Bool} {K x : Nat} (hm : ∀ x, m x = true → x < K) (h : Ahead D m x) : x < K := by
  rcases h with h | ⟨y, hy, hk⟩
  · exact hm x h
  · have := (hk.lt hD).1; have := hm y hy; omega
theorem mem_closeL {D : List (List Nat)} (hD : Right D) {l : List Int} {x : Nat} : x ∈ closeL D l ↔ Ahead D (markI D.length l) x := by
  have hm : ∀ x, markI D.length l x = true → x < D.length := fun x h => markI_lt h
  unfold closeL
  rw [mem_listM, upM_iff hD.2 hm]
  exact ⟨fun h => h.2, fun h => ⟨h.lt hD hm, h⟩⟩
theorem markI_iff {n : Nat} {l : List Int} {x : Nat} : markI n l x = true ↔ x < n ∧ (x : Int) ∈ l := by simp [markI]
theorem markI_nats {n : Nat} {p : List Nat} {x : Nat} : markI n (natsI p) x = true ↔ x < n ∧ x ∈ p := by rw [markI_iff, mem_natsI]
theorem closeL_lt {D : List (List Nat)} {l : List Int} {x : Nat} (h : x ∈ closeL D l) : x < D.length := (mem_listM.1 h).1
theorem Ahead.down {D : List (List Nat)} {m : Nat → Bool} {x d : Nat} (h : Ahead D m x) (hd : d ∈ rowN D x) : Ahead D m d := by
  rcases h with h | ⟨y, hy, hk⟩
  · exact .inr ⟨x, h, .one hd⟩
  · exact .inr ⟨y, hy, .more hd hk⟩
/-- CLOSE IS CLOSED -/
theorem closed_close {D : List (List Nat)} (hD : Right D) (l : List Int) : ClosedP D (natsI (closeL D l)) := by
  refine ⟨fun x hx => ?_, fun n hn d hd => ?_⟩
  · obtain ⟨i, hi, rfl⟩ := List.mem_map.1 hx
    have := closeL_lt hi
    unfold isN; simp; omega
  · rw [markI_nats] at hn ⊢
    have := (mem_closeL hD).2 (((mem_closeL hD).1 hn.2).down hd)
    exact ⟨closeL_lt this, this⟩
theorem closeL_rising (D : List (List Nat)) (l : List Int) : (closeL D l).Pairwise (· < ·) := listM_rising _ _
theorem Ahead.mono {D : List (List Nat)} {m m' : Nat → Bool} (h : ∀ x, m x = true → m' x = true) {x : Nat} (ha : Ahead D m x) : Ahead D m' x := by
  rcases ha with ha | ⟨y, hy, hk⟩
  · exact .inl (h x ha)
  · exact .inr ⟨y, h y hy, hk⟩
theorem Ahead.idem {D : List (List Nat)} {m : Nat → Bool} {m' : Nat → Bool} (h : ∀ x, m' x = true → Ahead D m x) {x : Nat} (ha : Ahead D m' x) : Ahead D m x := by
  rcases ha with ha | ⟨y, hy, hk⟩
  · exact h x ha
  · rcases h y hy with hz | ⟨z, hz, hk2⟩
    · exact .inr ⟨y, hz, hk⟩
    · exact .inr ⟨z, hz, hk.trans hk2⟩
/-- CLOSE OF CLOSE IS CLOSE -/
theorem close_close {D : List (List Nat)} (hD : Right D) (l : List Int) : closeL D (natsI (closeL D l)) = closeL D l := by
  refine rising_ext _ _ (closeL_rising _ _) (closeL_rising _ _) fun x => ?_
  constructor
  · intro h
    rw [mem_closeL hD] at h ⊢
    exact h.idem fun y hy => (mem_closeL hD).1 (markI_nats.1 hy).2
  · intro h
    rw [mem_closeL hD]
    exact .inl (markI_nats.2 ⟨closeL_lt h, h⟩)
theorem close_sub {D : List (List Nat)} (hD : Right D) {l l' : List Int} (h : ∀ x ∈ l, x ∈ l') {x : Nat} (hx : x ∈ closeL D l) : x ∈ closeL D l' := by
  rw [mem_closeL hD] at hx ⊢
  exact hx.mono fun y hy => by rw [markI_iff] at hy ⊢; exact ⟨hy.1, h _ hy.2⟩
theorem close_has {D : List (List Nat)} (hD : Right D) {l : List Int} {x : Nat} (hx : x < D.length) (h : (x : Int) ∈ l) : x ∈ closeL D l := (mem_closeL hD).2 (.inl (markI_iff.2 ⟨hx, h⟩))
theorem length_closeL (D : List (List Nat)) (hD : OkD D) (l : List Int) : (closeL D l).length ≤ 256 := by
  have := length_listM D.length (upM D (markI D.length l) D.length); have := hD.right.1; unfold closeL; omega
end Go.Proofs.Ythffdkoncagimaa
