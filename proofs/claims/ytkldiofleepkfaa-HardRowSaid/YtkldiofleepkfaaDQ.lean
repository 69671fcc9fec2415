/- The document's own Right, Overlap and Apply of patches. -/
import Derived.Test.YtkldiofleepkfaaH4
import Derived.BigRegion
import Derived.Laws.AppendOwnNone
set_option linter.unusedVariables false
set_option linter.unusedSimpArgs false
namespace Go.Proofs.Ytkldiofleepkfaa
open Go.RowKit

/-- bytes in a block of their own, and no error -/
def AnsO (w : World) (m : List Int) (e : Ending) (w' : World) : Prop := Below w.heap.size w w' ∧ ∃ g c, e = .returned (.tuple #[.slice (some ⟨g, 0, none⟩) 32 c, .int .i64 0]) ∧ w.heap.size ≤ g ∧ 32 ≤ c ∧ c ≤ maxLen ∧ Bts w' w'.heap.size (some ⟨g, 0, none⟩) m ∧ m.length = 32
/-- does a patch write the i-th byte? -/
def Pt.has (p : Pt) (i : Nat) : Bool := decide (p.o ≤ (i : Int)) && decide ((i : Int) < p.o + p.s.size)
theorem over_iff {p q : Pt} (hb : p.both q = true) : p.over q = true ↔ ∃ i : Nat, i < 32 ∧ p.has i = true ∧ q.has i = true := by
  obtain ⟨hp, hq, _⟩ := Pt.both_out hb
  obtain ⟨p1, p2, p3, p4, p5, p6⟩ := Pt.right_out hp
  obtain ⟨q1, q2, q3, q4, q5, q6⟩ := Pt.right_out hq
  simp only [Pt.over, hb, Bool.true_and, Bool.and_eq_true, decide_eq_true_eq, Pt.has]
  constructor
  · rintro ⟨h1, h2⟩
    exact ⟨(max p.o q.o).toNat, by omega, by omega, by omega⟩
  · rintro ⟨i, _, h1, h2⟩
    omega

/-- a slice that owns bytes -/
def OwnB (w : World) (B : Nat) (v : Value) (l : List Int) : Prop := w.ownsRow B 5 1 v l.length (bytesV l)
theorem info_own {w : World} {B g cap n : Nat} {l : List Int} (h : w.ownsRow B 5 1 (.slice (some ⟨g, 0, none⟩) n cap) n (bytesV l)) (hl : AllB l) : Bts w w.heap.size (some ⟨g, 0, none⟩) l ∧ l.length = n ∧ B ≤ g := by
  have hn : l.length = n := by have := h.1; simpa [bytesV] using this
  have hlt := h.lt g rfl
  refine ⟨⟨hl, fun hp => ⟨g, 0, rfl, hlt.2, fun j hj => ?_⟩⟩, hn, hlt.1⟩
  rw [Nat.zero_add, h.cellAt j (by omega), bytesV, List.getElem?_map, List.getElem?_eq_getElem hj, nth_lt hj]; rfl
theorem OwnB.form {w : World} {B : Nat} {v : Value} {l : List Int} (h : OwnB w B v l) (hl : AllB l) : ∃ A c, v = .slice A l.length c ∧ l.length ≤ c ∧ c ≤ maxLen ∧ Bts w w.heap.size A l := by
  rcases h.2 with ⟨rfl, hn⟩ | ⟨g, cap, cur, rfl, _, hg, hnc, hcm, _⟩
  · obtain rfl : l = [] := List.eq_nil_of_length_eq_zero hn
    exact ⟨none, 0, rfl, Nat.le_refl _, Nat.zero_le _, Bts.nil⟩
  · exact ⟨some ⟨g, 0, none⟩, cap, rfl, hnc, hcm, (info_own h hl).1⟩
theorem bytesV_set (l : List Int) (i : Nat) (v : Int) : (bytesV l).set i (.int .u8 v) = bytesV (l.set i v) := by
  unfold bytesV
  rw [List.map_set]
  rfl
theorem run_append_nil_bytes {w : World} (base : Nat) (ty : TypeId) (v : Value) (n : Nat) (xs : List Value) (hown : w.ownsRow base 5 1 v n xs) (c : Nat) :
    (Builtin.append_ #[30, 30] ty #[v, .slice none 0 c]).run Try.prog w = .ok v w := by
  obtain ⟨i0, hi, _⟩ := info_parts info5
  rcases hown.2 with ⟨rfl, rfl⟩ | ⟨g, cap, cur, rfl, _, _, hnc, _⟩
  · simp [Builtin.append_, run_underlying Try.underlying30, sizeOf, typeInfo, hi, Builtin.lenOf, Builtin.firstCells]
  · simp [Builtin.append_, run_underlying Try.underlying30, sizeOf, typeInfo, hi, Builtin.lenOf, Builtin.firstCells, hnc, storeCells]

/-- 'append(s, b...)' on a slice of the call's own, whatever bytes b are -/
theorem wpList_append_bytes {w : World} {ops : Array Oper} {rest : List Oper} {o : Oper} {a : Act} {Q : Exit → Act → World → Prop} (hgd : o.guard = none) (s x : Operand)
    (ho : o.op = .call { callee := .builtin .append, args := #[s, x], argTypes := #[30, 30] })
    (base : Nat) (v : Value) (n : Nat) (xs : List Value) (hs : a.eval s = v) (hown : w.ownsRow base 5 1 v n xs) (B : Nat) (A : Option Addr) (l : List Int) (c m : Nat) (hm : m = l.length) (hx : a.eval x = .slice A m c) (hb : Bts w B A l)
    (hlen : n + m ≤ 1000) (hbase : base ≤ w.heap.size)
    (h : ∀ v' w', w'.ownsRow base 5 1 v' (n + m) (xs ++ bytesV l) → w.grownBy w' v.ownBlock → wpList Try.prog ops Q rest (a.put o.dst v') w') : wpList Try.prog ops Q (o :: rest) a w := by
  subst hm
  obtain ⟨i0, hi, hz0, hz1, hz2⟩ := info_parts info5
  rcases A with _ | ad
  · have hl0 : l = [] := by
      rcases Nat.eq_zero_or_pos l.length with h0 | h0
      · exact List.eq_nil_of_length_eq_zero h0
      · obtain ⟨_, _, e, _⟩ := hb.2 h0; cases e
    subst hl0
    refine wpList_plain hgd fun K hK => ?_
    have hrun := run_append_nil_bytes (w := w) base o.type v n xs hown c
    have hx' : a.eval x = .slice none 0 c := hx
    unfold Oper.wp
    simp [execOp, ho, resolve, invoke, builtin, hs, hx', hrun, Result.andThen]
    exact hK _ _ (h v w (by simpa [bytesV] using hown) (World.grownBy.refl w _))
  · refine wpList_append_own w hgd s x 30 ho base 5 i0 (.int .u8 0) 1 1 Try.underlying30 hi hz0 hz1 hz2 rfl (by decide) v n xs hs hown ad l.length c (bytesV l) hx (by simp [bytesV]) ?_ (bytesV_one l) (by unfold maxLen; omega) (by omega) hbase fun v' w' h1 h2 _ => h v' w' h1 h2
    intro j u hj
    have hj' : j < l.length := by
      rcases Nat.lt_or_ge j l.length with h | h
      · exact h
      · rw [bytesV, List.getElem?_map, List.getElem?_eq_none h] at hj; cases hj
    obtain ⟨b, off, e, _, _⟩ := hb.at_ hj'
    obtain rfl := Option.some.inj e
    have e : (⟨b, off, none⟩ : Addr).add j = ⟨b, off + j, none⟩ := by unfold Addr.add; split <;> simp_all
    rw [e]
    exact hb.src j u hj

/-- 'append([]byte{}, b...)': a copy -/
theorem below_copy {w w1 : World} (hg : (w.alloc (.cells #[] 5)).grownBy w1 (some w.heap.size)) : Below w.heap.size w w1 :=
  ((Below.refl _ w).alloc (Nat.le_refl _) _).grown hg (by simp) (fun j e => by cases e; exact Nat.le_refl _)
theorem own_empty (w : World) : (w.alloc (.cells #[] 5)).ownsRow w.heap.size 5 1 (.slice (some ⟨w.heap.size, 0, none⟩) 0 0) 0 [] := World.ownsRow_made w #[] 0 (Nat.le_refl _) (by simp) (by simp)

/-- a block behind the first k bytes of a patch -/
def putK (l : List Int) (p : Pt) (k : Nat) : List Int := splice l p.o.toNat ((sb p.s).take k)
theorem putK_zero (l : List Int) (p : Pt) : putK l p 0 = l := by simp [putK, splice]
theorem putK_all (l : List Int) (p : Pt) : putK l p p.s.size = put l p := by unfold putK put; rw [← length_sb, List.take_length]
theorem putK_bytes {l : List Int} (h : AllB l) (p : Pt) (k : Nat) : AllB (putK l p k) := splice_all h (fun x hx => sb_all p.s x (List.mem_of_mem_take hx)) _
theorem length_putK {l : List Int} {p : Pt} (hp : p.right = true) (hl : l.length = 32) (k : Nat) : (putK l p k).length = 32 := by
  obtain ⟨_, _, h3, h4, h5, h6⟩ := Pt.right_out hp
  unfold putK
  rw [length_splice _ _ _ (by rw [List.length_take, length_sb]; omega), hl]
theorem putK_succ {l : List Int} {p : Pt} (hp : p.right = true) (hl : l.length = 32) (k : Nat) (hk : k < p.s.size) : putK l p (k + 1) = (putK l p k).set (p.o.toNat + k) (nth (sb p.s) k) := by
  obtain ⟨_, _, h3, h4, h5, h6⟩ := Pt.right_out hp
  have h1 := length_putK hp hl k
  have h2 := length_putK hp hl (k + 1)
  have hsb := length_sb p.s
  refine ext_nth (by rw [h2, List.length_set, h1]) fun i hi => ?_
  rw [nth_set, h1]
  unfold putK
  have t1 : ((sb p.s).take (k + 1)).length = k + 1 := by rw [List.length_take]; omega
  have t2 : ((sb p.s).take k).length = k := by rw [List.length_take]; omega
  rw [nth_splice _ _ _ _ (by rw [t1]; omega), nth_splice _ _ _ _ (by rw [t2]; omega), t1, t2, nth_take, nth_take]
  by_cases e : p.o.toNat + k = i
  · subst e
    rw [if_pos (by omega), if_pos (by omega), if_pos (by omega), show p.o.toNat + k - p.o.toNat = k by omega]
  · rw [if_neg (show ¬ (p.o.toNat + k = i ∧ i < 32) by omega)]
    by_cases h : p.o.toNat ≤ i ∧ i < p.o.toNat + k
    · rw [if_pos (by omega), if_pos h, if_pos (by omega), if_pos (by omega)]
    · rw [if_neg (by omega), if_neg h]

theorem nth_sb (s : ByteArray) (k : Nat) (h : k < s.size) : nth (sb s) k = (s[k].toNat : Int) := by
  rw [nth_lt (by rw [length_sb]; exact h)]
  simp [sb]
  rfl
theorem BlkIs.far {W : World} {g k : Nat} {t : TypeId} {l : List Value} (h : BlkIs W k t l) (hk : k ≠ g) (i : Nat) (v : Value) : BlkIs (W.setCell ⟨g, i, none⟩ v) k t l := by
  unfold BlkIs at *
  rw [Below.heap_setCell _ _ _ k (by intro e; exact hk e)]; exact h
theorem St1.set {w W : World} {p : Pt} {g : Nat} (h : St1 w p W) (h1 : w.heap.size ≤ g) (h2 : w.heap.size ≠ g) (i : Nat) (v : Value) : St1 w p (W.setCell ⟨g, i, none⟩ v) :=
  ⟨h.1.setCell (p := ⟨g, i, none⟩) h1 v, BlkIs.far h.2 h2 i v⟩

end Go.Proofs.Ytkldiofleepkfaa
