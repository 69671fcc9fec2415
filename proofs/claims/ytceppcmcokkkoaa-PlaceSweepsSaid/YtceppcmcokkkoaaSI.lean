/- Words for the law of sweeps: a copy of ints by append; the document's own Sweep for every list. -/
import Derived.Test.YtceppcmcokkkoaaSH
namespace Go.Proofs.Ytceppcmcokkkoaa
open Go.RowKit

theorem run_append_nil_ints {w : World} (base : Nat) (ty : TypeId) (v : Value) (n : Nat) (xs : List Value) (hown : w.ownsRow base 3 1 v n xs) (c : Nat) :
    (Builtin.append_ #[22, 22] ty #[v, .slice none 0 c]).run Try.prog w = .ok v w := by
  obtain ⟨i0, hi, _⟩ := info_parts info3
  rcases hown.2 with ⟨rfl, rfl⟩ | ⟨g, cap, cur, rfl, _, _, hnc, _⟩
  · simp [Builtin.append_, run_underlying Try.underlying22, sizeOf, typeInfo, hi, Builtin.lenOf, Builtin.firstCells]
  · simp [Builtin.append_, run_underlying Try.underlying22, sizeOf, typeInfo, hi, Builtin.lenOf, Builtin.firstCells, hnc, storeCells]

/-- 'append(s, b...)' on a slice of the call's own, whatever ints b are -/
theorem wpList_append_ints {w : World} {ops : Array Oper} {rest : List Oper} {o : Oper} {a : Act} {Q : Exit → Act → World → Prop} (hgd : o.guard = none) (s x : Operand)
    (ho : o.op = .call { callee := .builtin .append, args := #[s, x], argTypes := #[22, 22] })
    (base : Nat) (v : Value) (n : Nat) (xs : List Value) (hs : a.eval s = v) (hown : w.ownsRow base 3 1 v n xs) (B : Nat) (A : Option Addr) (l : List Int) (c m : Nat) (hm : m = l.length) (hx : a.eval x = .slice A m c) (hb : Ints w B A l)
    (hlen : n + m ≤ 1000) (hbase : base ≤ w.heap.size)
    (h : ∀ v' w', w'.ownsRow base 3 1 v' (n + m) (xs ++ intsV l) → w.grownBy w' v.ownBlock → wpList Try.prog ops Q rest (a.put o.dst v') w') : wpList Try.prog ops Q (o :: rest) a w := by
  subst hm
  obtain ⟨i0, hi, hz0, hz1, hz2⟩ := info_parts info3
  rcases A with _ | ad
  · have hl0 : l = [] := by
      rcases Nat.eq_zero_or_pos l.length with h0 | h0
      · exact List.eq_nil_of_length_eq_zero h0
      · obtain ⟨_, _, e, _⟩ := hb h0; cases e
    subst hl0
    refine wpList_plain hgd fun K hK => ?_
    have hrun := run_append_nil_ints (w := w) base o.type v n xs hown c
    have hx' : a.eval x = .slice none 0 c := hx
    unfold Oper.wp
    simp [execOp, ho, resolve, invoke, builtin, hs, hx', hrun, Result.andThen]
    exact hK _ _ (h v w (by simpa [intsV] using hown) (World.grownBy.refl w _))
  · refine wpList_append_own w hgd s x 22 ho base 3 i0 (.int .i64 0) 1 8 Try.underlying22 hi hz0 hz1 hz2 rfl (by decide) v n xs hs hown ad l.length c (intsV l) hx (by simp [intsV]) ?_ ?_ (by unfold maxLen; omega) (by omega) hbase fun v' w' h1 h2 _ => h v' w' h1 h2
    · intro j u hj
      rw [intsV, List.getElem?_map] at hj
      obtain ⟨y, hy, rfl⟩ := Option.map_eq_some_iff.1 hj
      have hj' : j < l.length := by
        rcases Nat.lt_or_ge j l.length with h | h
        · exact h
        · rw [List.getElem?_eq_none h] at hy; cases hy
      obtain ⟨b, off, e, _, hc⟩ := hb.at_ hj'
      injection e with e
      subst e
      have e : (⟨b, off, none⟩ : Addr).add j = ⟨b, off + j, none⟩ := by unfold Addr.add; split <;> simp_all
      rw [e, hc, nth_lt hj']
      rw [List.getElem?_eq_getElem hj'] at hy
      injection hy with hy
      rw [hy]
    · intro u hu; obtain ⟨y, _, rfl⟩ := List.mem_map.1 hu; rfl
theorem below_copy_ints {w w1 : World} (hg : (w.alloc (.cells #[] 3)).grownBy w1 (some w.heap.size)) : Below w.heap.size w w1 :=
  ((Below.refl _ w).alloc (Nat.le_refl _) _).grown hg (by simp) (fun j e => by cases e; exact Nat.le_refl _)
theorem own_empty_ints (w : World) : (w.alloc (.cells #[] 3)).ownsRow w.heap.size 3 1 (.slice (some ⟨w.heap.size, 0, none⟩) 0 0) 0 [] := World.ownsRow_made w #[] 0 (Nat.le_refl _) (by simp) (by simp)

theorem refsweep_no (A : Option Addr) (c : Nat) (f p : Int) (l : List Int) (w : World) (hl : l.length ≤ 1000) (hi : Ints w w.heap.size A l) (hf : fitB f l p = false) :
    Calls Try.prog 25 #[.int .i64 f, .slice A l.length c, .int .i64 p] w fun e w' => e = .returned (.tuple #[.slice none 0 0, .int .i64 2]) ∧ Below w.heap.size w w' := by
  have hfit := fits_any A c f l p w hl hi
  rw [hf] at hfit
  have Hfit := Lib.hid hfit
  clear hfit hf
  go_enter Try.func25, Try.ntmps25
  go_wp2_with fail
  refine Hfit.out.mono ?_
  rintro e w1 ⟨rfl, hB1⟩
  go_wp2
  go_ret2
  exact ⟨rfl, hB1⟩
/-- what the two sweeps say, in whatever case -/
def SwOut (w : World) (S : List Nat) (E : Int) (e : Ending) (w' : World) : Prop :=
  Below w.heap.size w w' ∧ ∃ A c, e = .returned (.tuple #[.slice A S.length c, .int .i64 E]) ∧ Ints w' w'.heap.size A (natsI S)
theorem swout_of {w : World} {n i : Nat} {q : List Nat} {e : Ending} {w' : World} (h : SweepSays w n i q e w') : SwOut w (swR n q.length i q) 0 e w' := by
  obtain ⟨v, rfl, ho, hB⟩ := h
  rw [natsV_intsV] at ho
  obtain ⟨A, c, rfl, _, _, hI⟩ := own_ints ho
  exact ⟨hB, A, c, by rw [length_natsI], hI⟩
theorem swout_no {w : World} {e : Ending} {w' : World} (h : e = .returned (.tuple #[.slice none 0 0, .int .i64 2]) ∧ Below w.heap.size w w') : SwOut w [] 2 e w' := by
  obtain ⟨rfl, hB⟩ := h
  exact ⟨hB, none, 0, rfl, Ints.nil⟩
theorem sweeps_any (f p : Int) (l : List Int) (hl : l.length ≤ 1000) : ∃ S E, S.length ≤ 1000 ∧ (∀ A c W, Ints W W.heap.size A l → Calls Try.prog 24 #[.int .i64 f, .slice A l.length c, .int .i64 p] W (SwOut W S E)) ∧ (∀ A c W, Ints W W.heap.size A l → Calls Try.prog 25 #[.int .i64 f, .slice A l.length c, .int .i64 p] W (SwOut W S E)) := by
  cases hf : fitB f l p with
  | false => exact ⟨[], 2, by simp, fun A c W h => (sweep_no A c f p l W hl h hf).mono fun _ _ => swout_no, fun A c W h => (refsweep_no A c f p l W hl h hf).mono fun _ _ => swout_no⟩
  | true =>
    obtain ⟨i, n, rfl, rfl, hL⟩ := fit_lies hf
    have hlq := lies_nats hL
    obtain ⟨q, hq⟩ : ∃ q, q = l.map Int.toNat := ⟨_, rfl⟩
    rw [← hq] at hlq
    have hql : l.length = q.length := by rw [hq]; simp
    have hqlt : ∀ x ∈ q, x < 1024 := fun x hx => by
      rw [hq] at hx
      obtain ⟨y, hy, rfl⟩ := List.mem_map.1 hx
      obtain ⟨k, hk, rfl⟩ := List.mem_iff_getElem.1 hy
      have := (hL.at_ k hk).2
      unfold nn at this
      rw [nth_lt hk] at this
      exact this
    refine ⟨swR n q.length i q, 0, by rw [length_swR]; omega, fun A c W h => ?_, fun A c W h => ?_⟩
    · rw [hlq] at h
      exact (sweep_yes A c l.length i n q W hql (by omega) hL.from_ hL.lo hL.hi hqlt h).mono fun _ _ => swout_of
    · rw [hlq] at h
      exact (refsweep_yes A c l.length i n q W hql (by omega) hL.from_ hL.lo hL.hi hqlt h).mono fun _ _ => swout_of
end Go.Proofs.Ytceppcmcokkkoaa
