/- MergeFew holds whatever comes in. Here: the walk of the law's text. -/
import Derived.Test.YtkfjkhacchbkeaaX
namespace Go.Proofs.Ytkfjkhacchbkeaa
set_option linter.unusedVariables false
set_option linter.unusedSimpArgs false
open Go.RowKit

/-- patches of one block, each behind the one ahead -/
def rowR (ps : List Pat.Pt) : List It := (List.range ps.length).map fun j => ⟨Pat.pn ps j, if j = 0 then [] else [((j - 1 : Nat) : Int)]⟩
def rowD (m : Nat) : List (List Nat) := (List.range m).map fun j => if j = 0 then [] else [j - 1]
theorem length_rowR (ps : List Pat.Pt) : (rowR ps).length = ps.length := by simp [rowR]
theorem itN_rowR {ps : List Pat.Pt} {j : Nat} (h : j < ps.length) : itN (rowR ps) j = ⟨Pat.pn ps j, if j = 0 then [] else [((j - 1 : Nat) : Int)]⟩ := by
  rw [itN_lt (by rw [length_rowR]; exact h)]; simp [rowR]
theorem length_rowD (m : Nat) : (rowD m).length = m := by simp [rowD]
theorem rowN_rowD {m j : Nat} (h : j < m) : rowN (rowD m) j = if j = 0 then [] else [j - 1] := by
  rw [rowN_lt (by rw [length_rowD]; exact h)]; simp [rowD]
theorem depsI_rowR (ps : List Pat.Pt) : depsI (rowR ps) = rowsI (rowD ps.length) := by
  simp only [depsI, rowR, rowsI, rowD, List.map_map]
  apply List.map_congr_left
  intro j _
  simp only [Function.comp]
  split <;> simp [natsI]
theorem depsN_rowR (ps : List Pat.Pt) : depsN (rowR ps) = rowD ps.length := by
  simp only [depsN, rowR, rowD, List.map_map]
  apply List.map_congr_left
  intro j _
  simp only [Function.comp]
  split <;> simp
theorem okD_row {m : Nat} (h : m ≤ 64) : OkD (rowD m) := by
  refine ⟨⟨by rw [length_rowD]; omega, fun n d hd => ?_⟩, fun n => ?_⟩
  · have hn := mem_row_lt hd
    rw [length_rowD] at hn
    rw [rowN_rowD hn] at hd
    split at hd
    · cases hd
    · rw [List.mem_singleton] at hd; omega
  · rcases Nat.lt_or_ge n m with hn | hn
    · rw [rowN_rowD hn]; split <;> simp
    · rw [rowN_nil (by rw [length_rowD]; exact hn)]; simp
theorem right_rowR {ps : List Pat.Pt} (h : ps.length ≤ 64) (hr : ∀ j, j < ps.length → (Pat.pn ps j).right = true) : rightL (rowR ps) = true := by
  have h2 : rightTo (rowR ps) (rowR ps).length = true := List.all_eq_true.2 fun j hj => by
    have hj := List.mem_range.1 hj
    rw [length_rowR] at hj
    rw [itN_rowR hj]; exact hr j hj
  rw [rightL_all (by rw [length_rowR]; exact h) h2, depsI_rowR]
  exact okB_of (okD_row h)
theorem gather_row {bl : Nat → Int} {m : Nat} (hm : m ≤ 64) (hb : ∀ i j, i < m → j < m → bl i = bl j) : ∀ k, k + 1 ≤ m → gatherG bl (rowD m) (k + 1) = ([List.range (k + 1)], List.replicate (k + 1) 0) := by
  intro k
  induction k with
  | zero => intro _; rfl
  | succ k ih =>
    intro hk
    show stepS bl (rowD m) (gatherG bl (rowD m) (k + 1)) (k + 1) = _
    rw [ih (by omega)]
    have hh : homeN bl (k + 1) = some k := by
      unfold homeN
      rw [show homeT bl (k + 1) (k + 1) = if bl k = bl (k + 1) then some k else homeT bl (k + 1) k from rfl, if_pos (hb k (k + 1) (by omega) (by omega))]
    have he : el (List.replicate (k + 1) 0) k = 0 := by rw [el_lt (by simp)]; simp
    have hf : fitsB (rowD m) (k + 1) (List.range (k + 1)) = true := by
      unfold fitsB
      rw [rowN_rowD (by omega), if_neg (by omega)]
      simp only [List.all_cons, List.all_nil, Bool.and_true, decide_eq_true_eq]
      exact close_has (okD_row hm).right (by rw [length_rowD]; omega) (mem_natsI.2 (List.mem_range.2 (by omega)))
    have hg : homeG bl (rowD m) ([List.range (k + 1)], List.replicate (k + 1) 0) (k + 1) = some 0 := by
      unfold homeG
      rw [hh]
      simp only
      rw [he]
      show (if fitsB (rowD m) (k + 1) (List.range (k + 1)) = true then some 0 else none) = some 0
      rw [if_pos hf]
    unfold stepS
    rw [hg]
    simp only [joinS]
    rw [show rowN [List.range (k + 1)] 0 = List.range (k + 1) from rfl, List.range_succ (n := k + 1)]
    congr 1
    rw [List.replicate_succ' (n := k + 1)]
theorem groups_row {ps : List Pat.Pt} (h : ps.length ≤ 64) (h0 : 0 < ps.length) (hr : ∀ j, j < ps.length → (Pat.pn ps j).right = true) (b : Int) (hb : ∀ j, j < ps.length → (Pat.pn ps j).b = b) : groupsL (rowR ps) = [List.range ps.length] := by
  rw [groupsL_eq (right_rowR h hr), depsN_rowR, length_rowR]
  obtain ⟨k, hk⟩ : ∃ k, ps.length = k + 1 := ⟨ps.length - 1, by omega⟩
  have hbl : ∀ i j, i < ps.length → j < ps.length → blkOf (rowR ps) i = blkOf (rowR ps) j := fun i j hi hj => by
    unfold blkOf
    rw [itN_rowR hi, itN_rowR hj]
    show (Pat.pn ps i).b = (Pat.pn ps j).b
    rw [hb i hi, hb j hj]
  have := gather_row h hbl k (by omega)
  rw [← hk] at this
  rw [this]
theorem ok_right {p : Pat.Pt} (h : p.right = true) : p.ok := by
  obtain ⟨h1, h2, h3, h4, h5, h6⟩ := Pat.Pt.right_out h
  exact ⟨by omega, by omega, by unfold maxLen; omega⟩
theorem small_rowR {ps : List Pat.Pt} (hr : ∀ j, j < ps.length → (Pat.pn ps j).right = true) : Small (rowR ps) := fun j hj => by
  rw [length_rowR] at hj
  rw [itN_rowR hj]
  refine ⟨ok_right (hr j hj), ?_⟩
  split <;> simp

/-- the row in memory -/
structure RowSt (base : Nat) (W : World) (ps : List Pat.Pt) (v : Value) (vs : Nat → Value) : Prop where
  own : W.ownsRow base 46 4 v ps.length (itV ps.length fun j => (Pat.pn ps j, vs j))
  first : 0 < ps.length → vs 0 = .slice none 0 0
  rest : ∀ j, 0 < j → j < ps.length → ∃ b, vs j = .slice (some ⟨b, 0, none⟩) 1 1 ∧ BlkIs W b 3 [.int .i64 ((j - 1 : Nat) : Int)]
  size : base ≤ W.heap.size
theorem RowSt.next {base : Nat} {W W' : World} {ps : List Pat.Pt} {v : Value} {vs : Nat → Value} (h : RowSt base W ps v vs) (hb : Below W.heap.size W W') : RowSt base W' ps v vs :=
  ⟨own_lay h.own hb, h.first, fun j h0 hj => by
    obtain ⟨b, e, hbl⟩ := h.rest j h0 hj
    exact ⟨b, e, hbl.below hb hbl.lt⟩, Nat.le_trans h.size hb.size⟩
theorem pn_snoc (ps : List Pat.Pt) (p : Pat.Pt) (j : Nat) : Pat.pn (ps ++ [p]) j = if j = ps.length then p else Pat.pn ps j := by
  unfold Pat.pn
  rw [List.getD_eq_getElem?_getD, List.getD_eq_getElem?_getD, List.getElem?_append]
  by_cases h : j < ps.length
  · rw [if_pos h, if_neg (by omega)]
  · rw [if_neg h]
    by_cases e : j = ps.length
    · subst e; simp
    · rw [if_neg e, List.getElem?_eq_none (by simp; omega), List.getElem?_eq_none (by omega)]
theorem RowSt.push {base : Nat} {W w6 : World} {ps : List Pat.Pt} {v v' x : Value} {vs : Nat → Value} {p : Pat.Pt} {t : Obj} (h : RowSt base W ps v vs)
    (hx : (ps.length = 0 ∧ x = .slice none 0 0) ∨ (0 < ps.length ∧ ∃ b, x = .slice (some ⟨b, 0, none⟩) 1 1 ∧ BlkIs W b 3 [.int .i64 ((ps.length - 1 : Nat) : Int)]))
    (hown : w6.ownsRow base 46 4 v' (ps.length + 1) (itV ps.length (fun j => (Pat.pn ps j, vs j)) ++ [.int .i64 p.b, .int .i64 p.o, .string p.s, x])) (hg : (W.alloc t).grownBy w6 v.ownBlock) :
    RowSt base w6 (ps ++ [p]) v' (fun j => if j = ps.length then x else vs j) ∧ Below base W w6 := by
  have hga := h.own.alloc t
  have hk : ∀ b l, BlkIs W b 3 l → BlkIs w6 b 3 l := fun b l hb => by
    have hb' := hb.alloc t
    refine hb'.kept hg ?_
    rcases hga.2 with ⟨rfl, _⟩ | ⟨g, cap, cur, rfl, _, hgb, _⟩
    · simp [Value.ownBlock]
    · intro e'
      obtain rfl : b = g := by simpa [Value.ownBlock] using e'
      have := (show (W.alloc t).heap[b]? = _ from hb').symm.trans hgb
      simp at this
  have hB : Below base W w6 := ((Below.refl _ W).alloc h.size t).grown hg (by simp; have := h.size; omega) (fun j e => (h.own.lt j e).1)
  refine ⟨⟨?_, fun h0 => ?_, fun j h0 hj => ?_, Nat.le_trans h.size hB.size⟩, hB⟩
  · rw [List.length_append, List.length_singleton, itV_succ]
    have e1 : itV ps.length (fun j => (Pat.pn (ps ++ [p]) j, if j = ps.length then x else vs j)) = itV ps.length (fun j => (Pat.pn ps j, vs j)) := by
      refine itV_ext (length_itV _ _) fun i hi => ?_
      rw [itV_at _ hi]
      congr 1
      unfold itC
      have hik : ¬ i / 4 = ps.length := by omega
      simp only [pn_snoc, if_neg hik]
    rw [e1]
    simp only [pn_snoc, if_true]
    exact hown
  · rcases Nat.eq_zero_or_pos ps.length with e | e
    · rw [if_pos e.symm]
      rcases hx with ⟨_, hx⟩ | ⟨hx, _⟩
      · exact hx
      · omega
    · rw [if_neg (by omega)]; exact h.first e
  · simp only [List.length_append, List.length_singleton] at hj
    by_cases e : j = ps.length
    · subst e
      rw [if_pos rfl]
      rcases hx with ⟨hx, _⟩ | ⟨_, b, e, hb⟩
      · omega
      · exact ⟨b, e, hk _ _ hb⟩
    · rw [if_neg e]
      obtain ⟨b, e, hb⟩ := h.rest j h0 (by omega)
      exact ⟨b, e, hk _ _ hb⟩
theorem RowSt.items {base : Nat} {W : World} {ps : List Pat.Pt} {v : Value} {vs : Nat → Value} (h : RowSt base W ps v vs) : ∃ A c, v = .slice A ps.length c ∧ Items W W.heap.size A (rowR ps) := by
  rcases h.own.2 with ⟨e, e0⟩ | ⟨g, cap, cur, e, hbg, hg, hnc, hcm, _⟩
  · refine ⟨none, 0, by rw [e, e0], fun h0 => by rw [length_rowR] at h0; omega⟩
  · refine ⟨_, cap, e, fun h0 => ?_⟩
    have ho := h.own
    rw [e] at ho
    have hrow : ∀ j, ∃ A c, j < ps.length → vs j = .slice A (itN (rowR ps) j).d.length c ∧ Ints W W.heap.size A (itN (rowR ps) j).d := fun j => by
      by_cases hj : j < ps.length
      · rw [itN_rowR hj]
        rcases Nat.eq_zero_or_pos j with e | e
        · subst e
          exact ⟨none, 0, fun _ => ⟨h.first hj, Ints.nil⟩⟩
        · obtain ⟨b, e2, hb⟩ := h.rest j e hj
          simp only [if_neg (Nat.ne_of_gt e)]
          refine ⟨some ⟨b, 0, none⟩, 1, fun _ => ⟨e2, fun _ => ⟨b, 0, rfl, hb.lt, fun i hi => ?_⟩⟩⟩
          have : i = 0 := by simp at hi; exact hi
          subst this
          exact hb.cell 0
      · exact ⟨none, 0, fun h => absurd h hj⟩
    obtain ⟨Af, hA⟩ := Classical.axiomOfChoice hrow
    obtain ⟨Cf, hC⟩ := Classical.axiomOfChoice hA
    refine ⟨g, 0, Af, Cf, rfl, (ho.lt g rfl).2, fun j hj => ?_⟩
    rw [length_rowR] at hj
    obtain ⟨e3, hI⟩ := hC j hj
    have hc : ∀ i, i < 4 → W.cell? ⟨g, j * 4 + i, none⟩ = some (itC (fun j => (Pat.pn ps j, vs j)) (j * 4 + i)) := fun i hi => by
      rw [ho.cellAt _ (by omega), itV_at _ (by omega)]
    refine ⟨?_, ?_, ?_, ?_, hI⟩
    · have := hc 0 (by omega); rw [Nat.add_zero, itC0] at this; rw [Nat.zero_add, itN_rowR hj]; exact this
    · have := hc 1 (by omega); rw [itC1] at this; rw [Nat.zero_add, itN_rowR hj]; exact this
    · have := hc 2 (by omega); rw [itC2] at this; rw [Nat.zero_add, itN_rowR hj]; exact this
    · have := hc 3 (by omega); rw [itC3] at this; rw [Nat.zero_add, ← e3]; exact this

set_option maxRecDepth 100000 in
set_option maxHeartbeats 600000 in
theorem MergeFew.walk (a0 : Option Addr) (len0 cap0 : Nat) (l0 : List It) (bv : Int) (W : World) (h0 : IsItems W a0 len0 cap0 l0) (hb : (Lit.int .u8 bv).wf = true) :
    Calls Try.prog 9 #[.slice a0 len0 cap0, .int .u8 bv] W fun e W' => e = .returned (.bool true) ∧ Below W.heap.size W W' := by
  have HF := Lib.hid (few_any a0 len0 cap0 l0 W h0)
  have HSm := Lib.hid (small_fewL h0)
  have hl24 := length_fewL l0
  unfold FewSays at HF
  obtain ⟨l, hl⟩ : ∃ l, l = fewL l0 := ⟨_, rfl⟩
  rw [← hl] at HF HSm hl24
  have hln : l.length ≤ 24 := by omega
  obtain ⟨n, hn⟩ : ∃ n, n = l.length := ⟨_, rfl⟩
  rw [← hn] at hln HF
  have Hn := Lib.hid hn
  have hgl := (groupsL_len l).2
  obtain ⟨ng, hng⟩ : ∃ ng, ng = (groupsL l).length := ⟨_, rfl⟩
  have Hng := Lib.hid hng
  rw [← hng, ← hn] at hgl
  obtain ⟨i0, hi, hz0, hz1, hz2⟩ := info_parts info46
  clear hl hl24 hn h0 hng hb
  go_enter Try.func9, Try.ntmps9
  go_wp2_with fail
  refine HF.out.mono ?_
  rintro e w1 ⟨A, c, rfl, hI1, hB1⟩
  have HI1 := Lib.hid hI1
  have HB1 := Lib.hid hB1
  clear hI1 hB1 HF
  go_wp2_with fail
  go_loopw [5, 6] (fun v i wr => ∃ (k : Nat) (ps : List Pat.Pt) (vs : Nat → Value) (b : Int), k ≤ n ∧ i = .int .i64 k ∧ ps.length ≤ k ∧ b = (wrap64 bv).tmod 96 ∧ (∀ j, j < ps.length → (Pat.pn ps j).right = true ∧ (Pat.pn ps j).b = b) ∧ RowSt w1.heap.size wr ps v vs ∧ Below w1.heap.size w1 wr) (fun _ i _ => n - (intOf i).toNat)
  case atStart => exact ⟨0, [], fun _ => undef, _, Nat.zero_le _, rfl, Nat.le_refl _, rfl, (fun j hj => absurd hj (Nat.not_lt_zero _)), ⟨World.ownsRow_nil _ _ _ _, (fun h => absurd h (Nat.not_lt_zero _)), (fun j _ h => absurd h (Nat.not_lt_zero _)), Nat.le_refl _⟩, Below.refl _ _⟩
  case round =>
    obtain ⟨k, ps, vs, b, hk, rfl, hpl, hbe, hps, hR, hB⟩ := hrel
    rename World => wr
    have HR := Lib.hid hR
    have HB := Lib.hid hB
    have Hps := Lib.hid hps
    have Hbe := Lib.hid hbe
    have hbr : -96 < b ∧ b < 96 := by rw [hbe]; exact ⟨Int.lt_tmod_of_pos _ (by omega), Int.tmod_lt_of_pos _ (by omega)⟩
    obtain ⟨A5, c5, rfl, hI5⟩ := hR.items
    have HI5 := Lib.hid hI5
    clear hps hbe hI5
    have hwk0 : (0 : Int) ≤ (k : Int) := by omega
    by_cases hlt : k < n
    · have hlti : (k : Int) < (n : Int) := by omega
      have hkl : k < l.length := by rw [← Hn.out]; exact hlt
      obtain ⟨bb, off, Ak, ck, rfl, hbb, hx⟩ := HI1.out.at_ hkl
      replace hx := hx.keep (w' := wr) hbb (fun p hp => hB.cell hp)
      obtain ⟨c0, c1, c2, c3, _⟩ := hx
      have hp := (HSm.out k hkl).1
      obtain ⟨x, hx⟩ : ∃ x, x = itN l k := ⟨_, rfl⟩
      rw [← hx] at c0 c1 c2 c3 hp
      clear hx hkl hB hR
      obtain ⟨⟨pb, po, pss⟩, d⟩ := x
      simp only at c0 c1 c2 c3 hp
      have hpo : Pat.Pt.ok ⟨b, po, pss⟩ := ⟨by simp only; omega, hp.2.1, hp.2.2⟩
      have HRt := Lib.hid (fun W => Pat.right_any ⟨b, po, pss⟩ W hpo)
      obtain ⟨r, hr⟩ : ∃ r, r = (Pat.Pt.mk b po pss).right := ⟨_, rfl⟩
      rw [← hr] at HRt
      have Hr := Lib.hid hr
      unfold Pat.Pt.v at HRt
      simp only at HRt
      clear hr hp hpo hbr
      cases r with
      | false =>
        go_wp2_with (go_at_call 37; rw [← Hbe.out]; refine (HRt.out _).mono ?_; rintro e w3 ⟨rfl, hB3⟩; have hB3' := ((Below.refl wr.heap.size wr).alloc (Nat.le_refl _) (.cells #[.int .i64 b, .int .i64 po, .string pss, .slice none 0 0] 46)).trans (hB3.mono (by simp)); have HR3 := Lib.hid (HR.out.next hB3'); have HB3 := Lib.hid (HB.out.trans (hB3'.mono HB.out.size)); clear hB3 hB3')
        go_roundw
        case rel => exact ⟨k + 1, ps, vs, b, by omega, by go_num, by omega, Hbe.out, Hps.out, HR3.out, HB3.out⟩
        case measure => simp [intOf]; omega
      | true =>
        have Hps1 : Hid (∀ j, j < (ps ++ [(⟨b, po, pss⟩ : Pat.Pt)]).length → (Pat.pn (ps ++ [⟨b, po, pss⟩]) j).right = true ∧ (Pat.pn (ps ++ [⟨b, po, pss⟩]) j).b = b) := fun j hj => by
          rw [pn_snoc]
          by_cases e : j = ps.length
          · rw [if_pos e]; exact ⟨Hr.out.symm, rfl⟩
          · rw [if_neg e]; exact Hps.out j (by simp at hj; omega)
        have Hpl1 : Hid ((ps ++ [(⟨b, po, pss⟩ : Pat.Pt)]).length ≤ k + 1) := by unfold Hid; simp; exact hpl
        clear hlti
        go_wp2_with fail
        rw [← Hbe.out]
        refine (HRt.out _).mono ?_
        rintro e w3 ⟨rfl, hB3⟩
        have hbx := (BlkIs.new wr 46 #[.int .i64 b, .int .i64 po, .string pss, .slice none 0 0]).below hB3 (by simp)
        have hB3' := ((Below.refl wr.heap.size wr).alloc (Nat.le_refl _) (.cells #[.int .i64 b, .int .i64 po, .string pss, .slice none 0 0] 46)).trans (hB3.mono (by simp))
        have d0 : w3.cell? ⟨wr.heap.size, 0, none⟩ = some (.int .i64 b) := hbx.cell 0
        have d1 : w3.cell? ⟨wr.heap.size, 1, none⟩ = some (.int .i64 po) := hbx.cell 1
        have d2 : w3.cell? ⟨wr.heap.size, 2, none⟩ = some (.string pss) := hbx.cell 2
        have d3 : w3.cell? ⟨wr.heap.size, 3, none⟩ = some (.slice none 0 0) := hbx.cell 3
        have f3 := hbx.frozen 3
        have hl3 := hbx.lt
        have HB3' := Lib.hid hB3'
        clear hB3 hbx hB3' HRt c0 c1 c2 c3
        rcases Nat.eq_zero_or_pos ps.length with h0 | h0
        · have h0i : ¬ (0 : Int) < (ps.length : Int) := by omega
          have HR5 := Lib.hid (HR.out.next HB3'.out)
          have HB5 := Lib.hid (HB.out.trans (HB3'.out.mono HB.out.size))
          have H0 := Lib.hid h0
          clear h0
          go_wp2_with (at_builtin; refine wpList_append_own _ rfl _ _ 22 rfl w1.heap.size 46 i0 (.agg #[.int .i64 0, .int .i64 0, .string ByteArray.empty, .slice none 0 0]) 4 56 Try.underlying22 hi hz0 hz1 hz2 rfl (by decide) _ _ _ rfl (HR5.out.own.alloc _) ⟨w3.heap.size, 0, none⟩ 1 1 [.int .i64 b, .int .i64 po, .string pss, .slice none 0 0] rfl rfl (by have := cells_new w3 #[.int .i64 b, .int .i64 po, .string pss, .slice none 0 0] 46; simpa using this) (by simp [Value.oneCell']) (by unfold maxLen; omega) (by omega) (by have := HR5.out.size; simp at *; omega) ?_; intro v' w6 hown' hgrow _; have hR6 := HR5.out.push (p := ⟨b, po, pss⟩) (.inl ⟨H0.out, rfl⟩) hown' hgrow; have HR6 := Lib.hid hR6; clear hown' hgrow hR6)
          go_roundw
          case rel => exact ⟨k + 1, ps ++ [⟨b, po, pss⟩], _, b, by omega, by go_num, Hpl1.out, Hbe.out, Hps1.out, HR6.out.1, HB5.out.trans HR6.out.2⟩
          case measure => simp [intOf]; omega
        · have h0i : (0 : Int) < (ps.length : Int) := by omega
          have hB5' : Below wr.heap.size wr ((w3.setCell ⟨wr.heap.size, 3, none⟩ (.slice (some ⟨w3.heap.size, 0, none⟩) 1 1)).alloc (.cells #[.int .i64 ((ps.length : Int) - 1)] 3)) := (HB3'.out.setCell (p := ⟨wr.heap.size, 3, none⟩) (Nat.le_refl _) _).alloc (by simpa [World.setCell] using Nat.le_of_lt hl3) _
          have HR5 := Lib.hid (HR.out.next hB5')
          have HB5 := Lib.hid (HB.out.trans (hB5'.mono HB.out.size))
          have hnb : BlkIs ((w3.setCell ⟨wr.heap.size, 3, none⟩ (.slice (some ⟨w3.heap.size, 0, none⟩) 1 1)).alloc (.cells #[.int .i64 ((ps.length : Int) - 1)] 3)) w3.heap.size 3 [.int .i64 ((ps.length - 1 : Nat) : Int)] := by
            have := BlkIs.new (w3.setCell ⟨wr.heap.size, 3, none⟩ (.slice (some ⟨w3.heap.size, 0, none⟩) 1 1)) 3 #[.int .i64 ((ps.length : Int) - 1)]
            have e : (w3.setCell ⟨wr.heap.size, 3, none⟩ (.slice (some ⟨w3.heap.size, 0, none⟩) 1 1)).heap.size = w3.heap.size := by simp [World.setCell]
            rw [e] at this
            have e2 : ((ps.length - 1 : Nat) : Int) = (ps.length : Int) - 1 := by omega
            rw [e2]
            exact this
          have Hnb := Lib.hid hnb
          have H0 := Lib.hid h0
          clear hB5' hnb h0
          go_wp2_with (at_builtin; refine wpList_append_own _ rfl _ _ 22 rfl w1.heap.size 46 i0 (.agg #[.int .i64 0, .int .i64 0, .string ByteArray.empty, .slice none 0 0]) 4 56 Try.underlying22 hi hz0 hz1 hz2 rfl (by decide) _ _ _ rfl (HR5.out.own.alloc _) ⟨w3.heap.size + 1, 0, none⟩ 1 1 [.int .i64 b, .int .i64 po, .string pss, .slice (some ⟨w3.heap.size, 0, none⟩) 1 1] rfl rfl (by have := cells_new ((w3.setCell ⟨wr.heap.size, 3, none⟩ (.slice (some ⟨w3.heap.size, 0, none⟩) 1 1)).alloc (.cells #[.int .i64 ((ps.length : Int) - 1)] 3)) #[.int .i64 b, .int .i64 po, .string pss, .slice (some ⟨w3.heap.size, 0, none⟩) 1 1] 46; simpa using this) (by simp [Value.oneCell']) (by unfold maxLen; omega) (by omega) (by have := HR5.out.size; simp at *; omega) ?_; intro v' w6 hown' hgrow _; have hR6 := HR5.out.push (p := ⟨b, po, pss⟩) (.inr ⟨H0.out, w3.heap.size, rfl, Hnb.out⟩) hown' hgrow; have HR6 := Lib.hid hR6; clear hown' hgrow hR6)
          go_roundw
          case rel => exact ⟨k + 1, ps ++ [⟨b, po, pss⟩], _, b, by omega, by go_num, Hpl1.out, Hbe.out, Hps1.out, HR6.out.1, HB5.out.trans HR6.out.2⟩
          case measure => simp [intOf]; omega
    · have hlti : ¬ (k : Int) < (n : Int) := by omega
      obtain rfl : k = n := by omega
      have hpr : ∀ j, j < ps.length → (Pat.pn ps j).right = true := fun j hj => (Hps.out j hj).1
      have hG := groups_any A5 c5 ps.length (rowR ps) (length_rowR ps).symm wr (by rw [length_rowR]; omega) (small_rowR hpr) HI5.out
      have HG2 := Lib.hid (fun W (h : Items W W.heap.size A l) => groups_any A c k l Hn.out W (by rw [← Hn.out]; omega) HSm.out h)
      have HI6 := Lib.hid (HI1.out.next hB)
      have HB6 := Lib.hid (HB1.out.trans (hB.mono HB1.out.size))
      have hngi : (ng : Int) ≤ (k : Int) := by omega
      rcases Nat.eq_zero_or_pos ps.length with h0 | h0
      · have e0 : groupsL (rowR ps) = [] := List.eq_nil_of_length_eq_zero (by have := (groupsL_len (rowR ps)).2; rw [length_rowR] at this; omega)
        rw [e0] at hG
        have HG := Lib.hid hG
        rw [h0]
        have d0 : decide ((0 : Int) = 0) = true := by decide
        clear hG hB hR hpr
        go_wp2_with fail
        rw [← h0]
        refine HG.out.mono ?_
        rintro e w4 ⟨A4, c4, rfl, _, hB4⟩
        have HI4 := Lib.hid (HI6.out.next hB4)
        have HB4 := Lib.hid (HB6.out.trans (hB4.mono HB6.out.size))
        clear hB4 HG
        rw [h0]
        clear h0
        go_wp2_with (first
          | (go_at_call 14; refine (live_any _).mono ?_; rintro e w7 ⟨rfl, hB7⟩; have HI7 := Lib.hid (HI4.out.next hB7); have HB7 := Lib.hid (HB4.out.trans (hB7.mono HB4.out.size)); clear hB7)
          | (go_at_call 18; refine (HG2.out _ HI7.out).mono ?_; rintro e w8 ⟨A8, c8, rfl, _, hB8⟩; rw [← Hng.out]; have HB8 := Lib.hid (HB7.out.trans (hB8.mono HB7.out.size)); clear hB8))
        go_ret
        exact ⟨rfl, HB8.out⟩
      · have e0 := groups_row (by omega) h0 hpr b (fun j hj => (Hps.out j hj).2)
        rw [e0] at hG
        have HG := Lib.hid hG
        have h0i : (0 : Int) < (ps.length : Int) := by omega
        have hne : ¬ (ps.length : Int) = 0 := by omega
        have d0 : decide ((ps.length : Int) = 0) = false := decide_eq_false hne
        have d1 : ((ps.length : Int) == 0) = false := by rw [beq_eq_false_iff_ne]; exact hne
        have H0 := Lib.hid h0
        clear hG hB hR hpr h0 e0
        go_wp2_with fail
        refine HG.out.mono ?_
        rintro e w4 ⟨A4, c4, rfl, hM4, hB4⟩
        obtain ⟨bg, og, Ax, cx, rfl, hbg, hcg, _⟩ := hM4.rowAt (g := 0) (by simp)
        have hcg2 : w4.cell? ⟨bg, og, none⟩ = some (.slice Ax ps.length cx) := by
          have e : (rowN [List.range ps.length] 0).length = ps.length := by simp [rowN]
          rw [e] at hcg; exact hcg
        have HI4 := Lib.hid (HI6.out.next hB4)
        have HB4 := Lib.hid (HB6.out.trans (hB4.mono HB6.out.size))
        have Hcg := Lib.hid hcg2
        clear hB4 HG hM4 hcg hcg2
        go_wp2_with (first
          | (go_at_call 14; refine (live_any _).mono ?_; rintro e w7 ⟨rfl, hB7⟩; have HI7 := Lib.hid (HI4.out.next hB7); have hc7 := cell_below Hcg.out hB7; have HB7 := Lib.hid (HB4.out.trans (hB7.mono HB4.out.size)); clear hB7)
          | (go_at_call 18; refine (HG2.out _ HI7.out).mono ?_; rintro e w8 ⟨A8, c8, rfl, _, hB8⟩; rw [← Hng.out]; have hc8 := cell_below hc7 hB8; have HB8 := Lib.hid (HB7.out.trans (hB8.mono HB7.out.size)); clear hB8))
        go_ret
        exact ⟨rfl, HB8.out⟩
end Go.Proofs.Ytkfjkhacchbkeaa
