/- Words for the laws over bytes: a slice as a text; a copy by append. -/
import Derived.Test.YtceppcmcokkkoaaI
import Derived.Test.YtceppcmcokkkoaaJ
import Derived.Test.YtceppcmcokkkoaaK
import Derived.Laws.BytesArg
namespace Go.Proofs.Ytceppcmcokkkoaa
open Go.RowKit

theorem convert_empty (w : World) (A : Option Addr) (c : Nat) : (convert 43 9 (.slice A 0 c)).run Try.prog w = .ok (.string (strOfNums [])) w := by
  rw [run_convert_bytes_string w 43 9 5 _ 0 c Try.underlying43 Try.underlying5 Try.underlying9]
  cases A <;> simp [Conv.bytesToString, loadCells]
  all_goals rfl

theorem Bts.text {w : World} {B : Nat} {A : Option Addr} {l : List Int} (h : Bts w B A l) (c : Nat) : (convert 43 9 (.slice A l.length c)).run Try.prog w = .ok (.string (strOfNums l)) w := by
  cases l with
  | nil => exact convert_empty w A c
  | cons x l =>
    obtain ⟨b, off, rfl, _, hc⟩ := h.2 (by simp)
    exact run_convert_bytes_arg w 43 5 Try.underlying43 Try.underlying5 b off _ c (x :: l) rfl hc 9 Try.underlying9

/-- what a slice that owns bytes is -/
theorem OwnB.form {w : World} {B : Nat} {v : Value} {l : List Int} (h : OwnB w B v l) (hl : AllB l) : ∃ A c, v = .slice A l.length c ∧ l.length ≤ c ∧ c ≤ maxLen ∧ Bts w w.heap.size A l := by
  rcases h.2 with ⟨rfl, hn⟩ | ⟨g, cap, cur, rfl, _, hg, hnc, hcm, _⟩
  · obtain rfl : l = [] := List.eq_nil_of_length_eq_zero hn
    exact ⟨none, 0, rfl, Nat.le_refl _, Nat.zero_le _, Bts.nil⟩
  · exact ⟨some ⟨g, 0, none⟩, cap, rfl, hnc, hcm, (info_own h hl).1⟩

theorem run_append_nil_bytes {w : World} (base : Nat) (ty : TypeId) (v : Value) (n : Nat) (xs : List Value) (hown : w.ownsRow base 5 1 v n xs) (c : Nat) :
    (Builtin.append_ #[43, 43] ty #[v, .slice none 0 c]).run Try.prog w = .ok v w := by
  obtain ⟨i0, hi, _⟩ := info_parts info5
  rcases hown.2 with ⟨rfl, rfl⟩ | ⟨g, cap, cur, rfl, _, _, hnc, _⟩
  · simp [Builtin.append_, run_underlying Try.underlying43, sizeOf, typeInfo, hi, Builtin.lenOf, Builtin.firstCells]
  · simp [Builtin.append_, run_underlying Try.underlying43, sizeOf, typeInfo, hi, Builtin.lenOf, Builtin.firstCells, hnc, storeCells]

/-- 'append(s, b...)' on a slice of the call's own, whatever bytes b are -/
theorem wpList_append_bytes {w : World} {ops : Array Oper} {rest : List Oper} {o : Oper} {a : Act} {Q : Exit → Act → World → Prop} (hgd : o.guard = none) (s x : Operand)
    (ho : o.op = .call { callee := .builtin .append, args := #[s, x], argTypes := #[43, 43] })
    (base : Nat) (v : Value) (n : Nat) (xs : List Value) (hs : a.eval s = v) (hown : w.ownsRow base 5 1 v n xs) (B : Nat) (A : Option Addr) (l : List Int) (c m : Nat) (hm : m = l.length) (hx : a.eval x = .slice A m c) (hb : Bts w B A l)
    (hlen : n + m ≤ 1000) (hbase : base ≤ w.heap.size)
    (h : ∀ v' w', w'.ownsRow base 5 1 v' (n + m) (xs ++ bytesV l) → w.grownBy w' v.ownBlock → wpList Try.prog ops Q rest (a.put o.dst v') w') : wpList Try.prog ops Q (o :: rest) a w := by
  subst hm
  obtain ⟨i0, hi, hz0, hz1, hz2⟩ := info_parts info5
  rcases A with _ | ad
  · have hl0 : l = [] := by
      rcases Nat.eq_zero_or_pos l.length with h0 | h0
      · exact List.eq_nil_of_length_eq_zero h0
      · obtain ⟨_, _, e, _⟩ := hb.2 h0; cases e
    subst hl0
    refine wpList_plain hgd fun K hK => ?_
    have hrun := run_append_nil_bytes (w := w) base o.type v n xs hown c
    have hx' : a.eval x = .slice none 0 c := hx
    unfold Oper.wp
    simp [execOp, ho, resolve, invoke, builtin, hs, hx', hrun, Result.andThen]
    exact hK _ _ (h v w (by simpa [bytesV] using hown) (World.grownBy.refl w _))
  · refine wpList_append_own w hgd s x 43 ho base 5 i0 (.int .u8 0) 1 1 Try.underlying43 hi hz0 hz1 hz2 rfl (by decide) v n xs hs hown ad l.length c (bytesV l) hx (by simp [bytesV]) ?_ ?_ (by unfold maxLen; omega) (by omega) hbase fun v' w' h1 h2 _ => h v' w' h1 h2
    · intro j u hj
      rw [bytesV, List.getElem?_map] at hj
      obtain ⟨y, hy, rfl⟩ := Option.map_eq_some_iff.1 hj
      have hj' : j < l.length := by
        rcases Nat.lt_or_ge j l.length with h | h
        · exact h
        · rw [List.getElem?_eq_none h] at hy; cases hy
      obtain ⟨b, off, e, _, hc⟩ := hb.at_ hj'
      injection e with e
      subst e
      have e : (⟨b, off, none⟩ : Addr).add j = ⟨b, off + j, none⟩ := by unfold Addr.add; split <;> simp_all
      rw [e, hc, nth_lt hj']
      rw [List.getElem?_eq_getElem hj'] at hy
      injection hy with hy
      rw [hy]; rfl
    · intro u hu; obtain ⟨y, _, rfl⟩ := List.mem_map.1 hu; rfl

/-- 'append([]byte{}, b...)': a copy -/
theorem below_copy {w w1 : World} (hg : (w.alloc (.cells #[] 5)).grownBy w1 (some w.heap.size)) : Below w.heap.size w w1 :=
  ((Below.refl _ w).alloc (Nat.le_refl _) _).grown hg (by simp) (fun j e => by cases e; exact Nat.le_refl _)
theorem own_empty (w : World) : (w.alloc (.cells #[] 5)).ownsRow w.heap.size 5 1 (.slice (some ⟨w.heap.size, 0, none⟩) 0 0) 0 [] := World.ownsRow_made w #[] 0 (Nat.le_refl _) (by simp) (by simp)
end Go.Proofs.Ytceppcmcokkkoaa
