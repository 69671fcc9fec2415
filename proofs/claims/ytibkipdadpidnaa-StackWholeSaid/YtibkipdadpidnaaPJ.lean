/- The document's own Apply. -/
import Derived.Test.YtibkipdadpidnaaPH
import Derived.Laws.AppendOwnNone
import Derived.BigRegion
namespace Go.Proofs.Ytibkipdadpidnaa.Pat
set_option linter.unusedVariables false
set_option linter.unusedSimpArgs false
set_option maxRecDepth 100000
open Go.RowKit


/-- a slice that owns bytes -/
def OwnB (w : World) (B : Nat) (v : Value) (l : List Int) : Prop := w.ownsRow B 5 1 v l.length (bytesV l)
theorem info_own {w : World} {B g cap n : Nat} {l : List Int} (h : w.ownsRow B 5 1 (.slice (some ⟨g, 0, none⟩) n cap) n (bytesV l)) (hl : AllB l) : Bts w w.heap.size (some ⟨g, 0, none⟩) l ∧ l.length = n ∧ B ≤ g := by
  have hn : l.length = n := by have := h.1; simpa [bytesV] using this
  have hlt := h.lt g rfl
  refine ⟨⟨hl, fun hp => ⟨g, 0, rfl, hlt.2, fun j hj => ?_⟩⟩, hn, hlt.1⟩
  rw [Nat.zero_add, h.cellAt j (by omega), bytesV, List.getElem?_map, List.getElem?_eq_getElem hj, nth_lt hj]; rfl
theorem OwnB.form {w : World} {B : Nat} {v : Value} {l : List Int} (h : OwnB w B v l) (hl : AllB l) : ∃ A c, v = .slice A l.length c ∧ l.length ≤ c ∧ c ≤ maxLen ∧ Bts w w.heap.size A l := by
  rcases h.2 with ⟨rfl, hn⟩ | ⟨g, cap, cur, rfl, _, hg, hnc, hcm, _⟩
  · obtain rfl : l = [] := List.eq_nil_of_length_eq_zero hn
    exact ⟨none, 0, rfl, Nat.le_refl _, Nat.zero_le _, Bts.nil⟩
  · exact ⟨some ⟨g, 0, none⟩, cap, rfl, hnc, hcm, (info_own h hl).1⟩
theorem bytesV_set (l : List Int) (i : Nat) (v : Int) : (bytesV l).set i (.int .u8 v) = bytesV (l.set i v) := by
  unfold bytesV
  rw [List.map_set]
  rfl
theorem run_append_nil_bytes {w : World} (base : Nat) (ty : TypeId) (v : Value) (n : Nat) (xs : List Value) (hown : w.ownsRow base 5 1 v n xs) (c : Nat) :
    (Builtin.append_ #[22, 22] ty #[v, .slice none 0 c]).run Try.prog w = .ok v w := by
  obtain ⟨i0, hi, _⟩ := info_parts info5
  rcases hown.2 with ⟨rfl, rfl⟩ | ⟨g, cap, cur, rfl, _, _, hnc, _⟩
  · simp [Builtin.append_, run_underlying Try.underlying22, sizeOf, typeInfo, hi, Builtin.lenOf, Builtin.firstCells]
  · simp [Builtin.append_, run_underlying Try.underlying22, sizeOf, typeInfo, hi, Builtin.lenOf, Builtin.firstCells, hnc, storeCells]

/-- 'append(s, b...)' on a slice of the call's own, whatever bytes b are -/
theorem wpList_append_bytes {w : World} {ops : Array Oper} {rest : List Oper} {o : Oper} {a : Act} {Q : Exit → Act → World → Prop} (hgd : o.guard = none) (s x : Operand)
    (ho : o.op = .call { callee := .builtin .append, args := #[s, x], argTypes := #[22, 22] })
    (base : Nat) (v : Value) (n : Nat) (xs : List Value) (hs : a.eval s = v) (hown : w.ownsRow base 5 1 v n xs) (B : Nat) (A : Option Addr) (l : List Int) (c m : Nat) (hm : m = l.length) (hx : a.eval x = .slice A m c) (hb : Bts w B A l)
    (hlen : n + m ≤ 1000) (hbase : base ≤ w.heap.size)
    (h : ∀ v' w', w'.ownsRow base 5 1 v' (n + m) (xs ++ bytesV l) → w.grownBy w' v.ownBlock → wpList Try.prog ops Q rest (a.put o.dst v') w') : wpList Try.prog ops Q (o :: rest) a w := by
  subst hm
  obtain ⟨i0, hi, hz0, hz1, hz2⟩ := info_parts info5
  rcases A with _ | ad
  · have hl0 : l = [] := by
      rcases Nat.eq_zero_or_pos l.length with h0 | h0
      · exact List.eq_nil_of_length_eq_zero h0
      · obtain ⟨_, _, e, _⟩ := hb.2 h0; cases e
    subst hl0
    refine wpList_plain hgd fun K hK => ?_
    have hrun := run_append_nil_bytes (w := w) base o.type v n xs hown c
    have hx' : a.eval x = .slice none 0 c := hx
    unfold Oper.wp
    simp [execOp, ho, resolve, invoke, builtin, hs, hx', hrun, Result.andThen]
    exact hK _ _ (h v w (by simpa [bytesV] using hown) (World.grownBy.refl w _))
  · refine wpList_append_own w hgd s x 22 ho base 5 i0 (.int .u8 0) 1 1 Try.underlying22 hi hz0 hz1 hz2 rfl (by decide) v n xs hs hown ad l.length c (bytesV l) hx (by simp [bytesV]) ?_ (bytesV_one l) (by unfold maxLen; omega) (by omega) hbase fun v' w' h1 h2 _ => h v' w' h1 h2
    intro j u hj
    have hj' : j < l.length := by
      rcases Nat.lt_or_ge j l.length with h | h
      · exact h
      · rw [bytesV, List.getElem?_map, List.getElem?_eq_none h] at hj; cases hj
    obtain ⟨b, off, e, _, _⟩ := hb.at_ hj'
    injection e with e
    subst e
    have e : (⟨b, off, none⟩ : Addr).add j = ⟨b, off + j, none⟩ := by unfold Addr.add; split <;> simp_all
    rw [e]
    exact hb.src j u hj

/-- 'append([]byte{}, b...)': a copy -/
theorem below_copy {w w1 : World} (hg : (w.alloc (.cells #[] 5)).grownBy w1 (some w.heap.size)) : Below w.heap.size w w1 :=
  ((Below.refl _ w).alloc (Nat.le_refl _) _).grown hg (by simp) (fun j e => by cases e; exact Nat.le_refl _)
theorem own_empty (w : World) : (w.alloc (.cells #[] 5)).ownsRow w.heap.size 5 1 (.slice (some ⟨w.heap.size, 0, none⟩) 0 0) 0 [] := World.ownsRow_made w #[] 0 (Nat.le_refl _) (by simp) (by simp)

theorem ext_nth {a b : List Int} (hl : a.length = b.length) (h : ∀ i, i < a.length → nth a i = nth b i) : a = b := by
  apply List.ext_getElem hl
  intro i h1 h2
  have := h i h1
  rwa [nth_lt h1, nth_lt h2] at this
theorem nth_set (l : List Int) (i j : Nat) (v : Int) : nth (l.set i v) j = if i = j ∧ j < l.length then v else nth l j := by
  unfold nth
  rw [List.getD_eq_getElem?_getD, List.getD_eq_getElem?_getD, List.getElem?_set]
  by_cases h : i = j
  · subst h
    by_cases hl : i < l.length
    · simp [hl]
    · rw [if_pos rfl, if_neg hl, if_neg (by simp [hl]), List.getElem?_eq_none (by omega)]
  · rw [if_neg h, if_neg (by simp [h])]
theorem nth_take (l : List Int) (k i : Nat) : nth (l.take k) i = if i < k then nth l i else 0 := by
  unfold nth
  rw [List.getD_eq_getElem?_getD, List.getD_eq_getElem?_getD, List.getElem?_take]
  split <;> simp
theorem nth_drop (l : List Int) (k i : Nat) : nth (l.drop k) i = nth l (k + i) := by
  unfold nth
  rw [List.getD_eq_getElem?_getD, List.getD_eq_getElem?_getD, List.getElem?_drop]
theorem nth_append (a b : List Int) (i : Nat) : nth (a ++ b) i = if i < a.length then nth a i else nth b (i - a.length) := by
  unfold nth
  rw [List.getD_eq_getElem?_getD, List.getD_eq_getElem?_getD, List.getD_eq_getElem?_getD, List.getElem?_append]
  split <;> rfl
theorem nth_splice (l m : List Int) (o i : Nat) (h : o + m.length ≤ l.length) : nth (splice l o m) i = if o ≤ i ∧ i < o + m.length then nth m (i - o) else nth l i := by
  unfold splice
  rw [nth_append, nth_append, nth_take, nth_drop, List.length_take]
  have e : min o l.length = o := by omega
  rw [e]
  by_cases h1 : i < o
  · rw [if_pos h1, if_pos h1, if_neg (by omega)]
  · rw [if_neg h1]
    by_cases h2 : i - o < m.length
    · rw [if_pos h2, if_pos (by omega)]
    · rw [if_neg h2, if_neg (by omega), show o + m.length + (i - o - m.length) = i by omega]

/-- a block behind the first k bytes of a patch -/
def putK (l : List Int) (p : Pt) (k : Nat) : List Int := splice l p.o.toNat ((sb p.s).take k)
theorem putK_zero (l : List Int) (p : Pt) : putK l p 0 = l := by simp [putK, splice]
theorem putK_all (l : List Int) (p : Pt) : putK l p p.s.size = put l p := by unfold putK put; rw [← length_sb, List.take_length]
theorem putK_bytes {l : List Int} (h : AllB l) (p : Pt) (k : Nat) : AllB (putK l p k) := splice_all h (fun x hx => sb_all p.s x (List.mem_of_mem_take hx)) _
theorem length_putK {l : List Int} {p : Pt} (hp : p.right = true) (hl : l.length = 32) (k : Nat) : (putK l p k).length = 32 := by
  obtain ⟨_, _, h3, h4, h5, h6⟩ := Pt.right_out hp
  unfold putK
  rw [length_splice _ _ _ (by rw [List.length_take, length_sb]; omega), hl]
theorem putK_succ {l : List Int} {p : Pt} (hp : p.right = true) (hl : l.length = 32) (k : Nat) (hk : k < p.s.size) : putK l p (k + 1) = (putK l p k).set (p.o.toNat + k) (nth (sb p.s) k) := by
  obtain ⟨_, _, h3, h4, h5, h6⟩ := Pt.right_out hp
  have h1 := length_putK hp hl k
  have h2 := length_putK hp hl (k + 1)
  have hsb := length_sb p.s
  refine ext_nth (by rw [h2, List.length_set, h1]) fun i hi => ?_
  rw [nth_set, h1]
  unfold putK
  have t1 : ((sb p.s).take (k + 1)).length = k + 1 := by rw [List.length_take]; omega
  have t2 : ((sb p.s).take k).length = k := by rw [List.length_take]; omega
  rw [nth_splice _ _ _ _ (by rw [t1]; omega), nth_splice _ _ _ _ (by rw [t2]; omega), t1, t2, nth_take, nth_take]
  by_cases e : p.o.toNat + k = i
  · subst e
    rw [if_pos (by omega), if_pos (by omega), if_pos (by omega), show p.o.toNat + k - p.o.toNat = k by omega]
  · rw [if_neg (show ¬ (p.o.toNat + k = i ∧ i < 32) by omega)]
    by_cases h : p.o.toNat ≤ i ∧ i < p.o.toNat + k
    · rw [if_pos (by omega), if_pos h, if_pos (by omega), if_pos (by omega)]
    · rw [if_neg (by omega), if_neg h]

theorem ref_short (A : Option Addr) (n c : Nat) (p : Pt) (w : World) (h : n ≠ 32) :
    Calls Try.prog 69 #[.slice A n c, p.v] w fun e w' => e = .returned (.tuple #[.slice none 0 0, .int .i64 3]) ∧ Below w.heap.size w w' := by
  have h0 : ((n : Int) == 32) = false := by rw [beq_eq_false_iff_ne]; omega
  have h1 : (n == 32) = false := by rw [beq_eq_false_iff_ne]; exact h
  have h2 : ¬ (n : Int) = 32 := by omega
  clear h
  obtain ⟨b, o, s⟩ := p
  unfold Pt.v at *
  go_enter Try.func69, Try.ntmps69
  go_wp2
  go_ret2
  exact ⟨rfl, below_alloc1 w _⟩
theorem ref_no (A : Option Addr) (c : Nat) (p : Pt) (w : World) (hp : p.ok) (hr : p.right = false) :
    Calls Try.prog 69 #[.slice A 32 c, p.v] w fun e w' => e = .returned (.tuple #[.slice none 0 0, .int .i64 3]) ∧ Below w.heap.size w w' := by
  have R := Lib.hid (fun w => refright_any p w hp)
  rw [hr] at R
  have HN := Lib.hid (fun w1 hB => @St1.next w _ w1 p (St1.start w p) hB)
  clear hr hp
  obtain ⟨b, o, s⟩ := p
  unfold Pt.v at *
  simp only [Pt.cs] at *
  go_enter Try.func69, Try.ntmps69
  go_wp2_with fail
  refine (R.out _).mono ?_
  rintro e w1 ⟨rfl, hB1⟩
  go_wp2
  go_ret2
  exact ⟨rfl, (HN.out _ (by simpa using hB1)).1⟩

theorem nth_sb (s : ByteArray) (k : Nat) (h : k < s.size) : nth (sb s) k = (s[k].toNat : Int) := by
  rw [nth_lt (by rw [length_sb]; exact h)]
  simp [sb]
  rfl
theorem BlkIs.far {W : World} {g k : Nat} {t : TypeId} {l : List Value} (h : BlkIs W k t l) (hk : k ≠ g) (i : Nat) (v : Value) : BlkIs (W.setCell ⟨g, i, none⟩ v) k t l := by
  unfold BlkIs at *
  rw [Below.heap_setCell _ _ _ k (by intro e; exact hk e)]; exact h
theorem St1.set {w W : World} {p : Pt} {g : Nat} (h : St1 w p W) (h1 : w.heap.size ≤ g) (h2 : w.heap.size ≠ g) (i : Nat) (v : Value) : St1 w p (W.setCell ⟨g, i, none⟩ v) :=
  ⟨h.1.setCell (p := ⟨g, i, none⟩) h1 v, BlkIs.far h.2 h2 i v⟩

set_option maxRecDepth 100000 in
set_option maxHeartbeats 1000000 in
theorem ref_yes (A : Option Addr) (c : Nat) (l : List Int) (p : Pt) (w : World) (hb : Bts w w.heap.size A l) (hl : l.length = 32) (hr : p.right = true) :
    Calls Try.prog 69 #[.slice A 32 c, p.v] w (Ans w (some (put l p))) := by
  obtain ⟨p1, p2, p3, p4, p5, p6⟩ := Pt.right_out hr
  have hps : p.s.size ≤ 1000 := by omega
  have R := Lib.hid (fun W => refright_any p W ⟨by omega, by omega, by unfold maxLen; omega⟩)
  rw [hr] at R
  have HN := Lib.hid (fun w1 hB => @St1.next w _ w1 p (St1.start w p) hB)
  have HB : Hid (∀ W, St1 w p W → Bts W W.heap.size A l) := fun W h => (hb.below h.1).more h.1.size
  have HZ := Lib.hid (putK_zero l p)
  have HA := Lib.hid (putK_all l p)
  have HK := Lib.hid (fun k => @length_putK l p hr hl k)
  have HS := Lib.hid (fun k => @putK_succ l p hr hl k)
  have HY := Lib.hid (putK_bytes hb.1 p)
  have Hl := Lib.hid hl
  clear hb hl hr
  obtain ⟨b, o, s⟩ := p
  obtain ⟨n, rfl⟩ := Int.eq_ofNat_of_zero_le p3
  simp only [Int.toNat_natCast] at HS
  unfold Pt.v at *
  simp only [Pt.cs] at *
  go_enter Try.func69, Try.ntmps69
  go_wp2_with fail
  refine (R.out _).mono ?_
  rintro e w1 ⟨rfl, hB1⟩
  have t1 := Lib.hid (HN.out _ (by simpa using hB1))
  have hbt := HB.out _ t1.out
  have hbt' : Bts (w1.alloc (.cells #[] 5)) w1.heap.size A l := hbt.below (below_alloc1 w1 _)
  clear hB1 hbt
  go_wp2_with (at_builtin; refine wpList_append_bytes rfl (.tmp 16) (.tmp 17) rfl w1.heap.size _ 0 [] rfl (own_empty w1) w1.heap.size A l c 32 Hl.out.symm rfl hbt' (by omega) (by simp) ?_)
  intro v' w2 hown hgrow
  have hB2 := below_copy hgrow
  have t2 := Lib.hid (t1.out.next hB2)
  obtain ⟨g, cap, rfl, hg1, hg2⟩ := hown.form (by omega)
  have Hown : Hid (w2.ownsRow w1.heap.size 5 1 (.slice (some ⟨g, 0, none⟩) 32 cap) 32 (bytesV (putK l ⟨b, n, s⟩ 0))) := by
    unfold Hid; rw [HZ.out]; simpa using hown
  clear hown hgrow hB2 hbt'
  go_wp2
  go_loopw [7] (fun i wr => ∃ k : Nat, k ≤ s.size ∧ i = .int .i64 k ∧ St1 w ⟨b, n, s⟩ wr ∧ wr.ownsRow w1.heap.size 5 1 (.slice (some ⟨g, 0, none⟩) 32 cap) 32 (bytesV (putK l ⟨b, n, s⟩ k))) (fun i _ => s.size - (intOf i).toNat)
  case atStart => exact ⟨0, Nat.zero_le _, rfl, t2.out, Hown.out⟩
  case round =>
    obtain ⟨k, hk, rfl, hst, hown⟩ := hrel
    rename World => wr
    obtain ⟨c0, c1, c2⟩ := hst.2.cells
    simp only at c0 c1 c2
    have T := Lib.hid hst
    have O := Lib.hid hown
    by_cases hlt : k < s.size
    · have hlti : (k : Int) < (s.size : Int) := by omega
      have hk0 : (0 : Int) ≤ (k : Int) := by omega
      have hc1 : wr.cell? ⟨g, n + k, none⟩ = some (.int .u8 (nth (putK l ⟨b, n, s⟩ k) (n + k))) := by
        rw [hown.cellAt _ (by omega), bytesV, List.getElem?_map, List.getElem?_eq_getElem (by rw [HK.out]; omega), nth_lt (by rw [HK.out]; omega)]; rfl
      have hf1 : wr.frozen? ⟨g, n + k, none⟩ = false := hown.frozenAt _
      have hsum : IntKind.i64.wrap ((n : Int) + (k : Int)) = ((n + k : Nat) : Int) := by rw [IntWalk.i64_in _ (by omega)]; omega
      have hnk : n + k < 32 := by omega
      clear hst hown
      go_wp2_with fail
      go_region
      all_goals go_wp2
      go_roundw
      case rel =>
        refine ⟨k + 1, by omega, by go_num, (T.out.set (by have := t1.out.1.size; omega) (by have := BlkIs.lt t1.out.2; omega) _ _).drew, ?_⟩
        have hs := (O.out.stored (n + k) (.int .u8 (s[k].toNat : Int))).1.drew
        rw [bytesV_set, ← nth_sb s k hlt, ← HS.out k hlt] at hs
        rw [← nth_sb s k hlt]
        exact hs
      case measure => simp [intOf]; omega
    · have hlti : ¬ (k : Int) < (s.size : Int) := by omega
      obtain rfl : k = s.size := by omega
      rw [HA.out] at O
      clear hst hown
      go_wp2
      go_ret2
      have hi := info_own O.out (putK_all l ⟨b, n, s⟩ ▸ HY.out s.size)
      have hcap : 32 ≤ cap ∧ cap ≤ maxLen := by
        rcases O.out.2 with ⟨e, _⟩ | ⟨g', cap', cur, e, _, _, h1, h2, _⟩
        · cases e
        · injection e with e1 e2 e3; subst e3; exact ⟨h1, h2⟩
      exact ⟨T.out.1, _, _, rfl, hcap.1, hcap.2, hi.1, hi.2.1⟩
end Go.Proofs.Ytibkipdadpidnaa.Pat
