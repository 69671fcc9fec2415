/- The arm, plain: all are gone to, once; none waits too long; Fifo, Near, Cyclic, Scan with nothing asked meanwhile. -/
import Derived.Test.YtpelocpjfmmceaaA4
import Derived.Test.YtpelocpjfmmceaaA5
set_option linter.unusedVariables false
set_option linter.unusedSimpArgs false
namespace Go.Proofs.Ytpelocpjfmmceaa

/-! ### each is gone to once -/
theorem perm_one {l : List Int} (hn : l.Nodup) {b : Int} (hb : b ∈ l) : l.Perm (b :: l.filter fun y => !(y == b)) := by
  have h1 := List.perm_cons_erase hb
  rw [List.Nodup.erase_eq_filter hn] at h1
  exact h1
theorem goL_perm {c : Nat} {x : Ar} (h : x.Ok c) : ∀ k, k ≤ x.l.length → (goL x k ++ blk (stA x k).l).Perm (blk x.l) := by
  intro k
  induction k with
  | zero => intro _; exact List.Perm.refl _
  | succ k ih =>
    intro hk
    obtain ⟨h1, h2⟩ := h.st k (by omega)
    have h0 : 0 < (stA x k).l.length := by omega
    refine List.Perm.trans ?_ (ih (by omega))
    show ((goL x k ++ [(stA x k).choose.1]) ++ blk (agedL (dropL (stA x k).l (stA x k).choose.1))).Perm _
    rw [blk_aged, blk_drop, List.append_assoc]
    exact List.Perm.append_left _ (perm_one h1.nd (Ar.choose_mem h0)).symm
theorem goL_all {c : Nat} {x : Ar} (h : x.Ok c) : (goL x x.l.length).Perm (blk x.l) := by
  have := goL_perm h x.l.length (Nat.le_refl _)
  obtain ⟨_, h2⟩ := h.st x.l.length (Nat.le_refl _)
  have e : (stA x x.l.length).l = [] := List.eq_nil_of_length_eq_zero (by omega)
  rw [e] at this
  simpa [blk] using this
/-- how often a number is among the first k -/
def cntK (l : List Int) (y : Int) : Nat → Nat
  | 0 => 0
  | k + 1 => cntK l y k + (if inn l k = y then 1 else 0)
theorem cntK_is (l : List Int) (y : Int) (k : Nat) (hk : k ≤ l.length) : cntK l y k = (l.take k).count y := by
  induction k with
  | zero => simp [cntK]
  | succ k ih =>
    rw [cntK, ih (by omega), take_inn (by omega), List.count_append]
    by_cases h : inn l k = y
    · rw [if_pos h, h]; simp
    · rw [if_neg h, List.count_singleton]; simp [h]
theorem count_one {l : List Int} (hn : l.Nodup) {y : Int} (hy : y ∈ l) : l.count y = 1 := by
  induction l with
  | nil => cases hy
  | cons a r ih =>
    have hc := List.nodup_cons.1 hn
    by_cases e : a = y
    · subst e
      rw [List.count_cons_self, List.count_eq_zero_of_not_mem hc.1]
    · rw [List.count_cons_of_ne e]
      rcases List.mem_cons.1 hy with h | h
      · exact absurd h.symm e
      · exact ih hc.2 h
theorem goL_once {c : Nat} {x : Ar} (h : x.Ok c) {y : Int} (hy : y ∈ blk x.l) : cntK (goL x x.l.length) y x.l.length = 1 := by
  rw [cntK_is _ _ _ (by rw [length_goL]; exact Nat.le_refl _), List.take_of_length_le (by rw [length_goL]; exact Nat.le_refl _), (goL_all h).count_eq y]
  exact count_one h.nd hy
theorem cntK_le (l : List Int) (y : Int) (k : Nat) : cntK l y k ≤ k := by
  induction k with
  | zero => exact Nat.le_refl _
  | succ k ih => rw [cntK]; split <;> omega
theorem inn_goL (x : Ar) (n k : Nat) (hk : k < n) : inn (goL x n) k = (stA x k).choose.1 := by
  induction n with
  | zero => omega
  | succ n ih =>
    rw [goL]
    unfold inn
    rw [List.getD_eq_getElem?_getD]
    by_cases e : k = n
    · subst e
      rw [List.getElem?_append_right (by rw [length_goL]; exact Nat.le_refl _), length_goL]; simp
    · rw [List.getElem?_append_left (by rw [length_goL]; omega)]
      have := ih (by omega)
      unfold inn at this
      rw [List.getD_eq_getElem?_getD] at this
      exact this

/-! ### none waits too long -/
structure Fr (x : Ar) : Prop where
  srt : ∀ i j, i < j → j < x.l.length → (rn x.l j).a ≤ (rn x.l i).a
  lim : ∀ i, i < x.l.length → (rn x.l i).a + (i : Int) ≤ 35
theorem Fr.nil {x : Ar} (h : x.l = []) : Fr x := by
  refine ⟨fun i j _ hj => ?_, fun i hi => ?_⟩
  · rw [h] at hj; simp at hj
  · rw [h] at hi; simp at hi
theorem rn_erase {l : List Rq} {k i : Nat} (hk : k < l.length) (hi : i < (l.eraseIdx k).length) : rn (l.eraseIdx k) i = if i < k then rn l i else rn l (i + 1) := by
  have hlen : (l.eraseIdx k).length = l.length - 1 := by rw [List.length_eraseIdx, if_pos hk]
  rw [rn_lt hi, List.getElem_eraseIdx]
  by_cases h : i < k
  · rw [dif_pos h, if_pos h, rn_lt (by omega)]
  · rw [dif_neg h, if_neg h, rn_lt (by omega)]
theorem Fr.erase {x : Ar} (h : Fr x) {k : Nat} (hk : k < x.l.length) : Fr { x with l := x.l.eraseIdx k } := by
  have hlen : (x.l.eraseIdx k).length = x.l.length - 1 := by rw [List.length_eraseIdx, if_pos hk]
  refine ⟨fun i j hij hj => ?_, fun i hi => ?_⟩
  · have hj' : j < (x.l.eraseIdx k).length := hj
    show (rn (x.l.eraseIdx k) j).a ≤ (rn (x.l.eraseIdx k) i).a
    rw [rn_erase hk hj', rn_erase hk (by omega)]
    by_cases h1 : j < k
    · rw [if_pos h1, if_pos (by omega)]; exact h.srt i j hij (by omega)
    · rw [if_neg h1]
      by_cases h2 : i < k
      · rw [if_pos h2]; exact h.srt i (j + 1) (by omega) (by omega)
      · rw [if_neg h2]; exact h.srt (i + 1) (j + 1) (by omega) (by omega)
  · have hi' : i < (x.l.eraseIdx k).length := hi
    show (rn (x.l.eraseIdx k) i).a + (i : Int) ≤ 35
    rw [rn_erase hk hi']
    by_cases h1 : i < k
    · rw [if_pos h1]; exact h.lim i (by omega)
    · rw [if_neg h1]; have := h.lim (i + 1) (by omega); omega
theorem Fr.drop {c : Nat} {x : Ar} (hO : x.Ok c) (h : Fr x) (b : Int) : Fr { x with l := dropL x.l b } := by
  by_cases hb : b ∈ blk x.l
  · obtain ⟨r, hr, e⟩ := mem_blk hb
    obtain ⟨k, hk, rfl⟩ := mem_rn hr
    have := erase_is hO.nd hk
    rw [e] at this
    rw [← this]
    exact h.erase hk
  · have e : dropL x.l b = x.l := by
      unfold dropL isB
      rw [List.filter_eq_self]
      intro r hr
      have : r.b ≠ b := fun e => hb (by rw [← e]; exact List.mem_map.2 ⟨r, hr, rfl⟩)
      simpa using this
    rw [e]
    exact h
theorem rn_aged {l : List Rq} {i : Nat} (hi : i < l.length) : rn (agedL l) i = ⟨(rn l i).b, (rn l i).a + 1⟩ := by
  rw [rn_lt (by rw [aged_len]; exact hi), rn_lt hi]
  simp [agedL]
theorem Fr.next {c : Nat} {x : Ar} (hO : x.Ok c) (h : Fr x) (h0 : 0 < x.l.length) : Fr x.next := by
  have hd := h.drop hO x.choose.1
  have hlen := drop_one hO.nd (Ar.choose_mem h0)
  have hl := hO.len
  refine ⟨fun i j hij hj => ?_, fun i hi => ?_⟩
  · have hj' : j < (dropL x.l x.choose.1).length := by have : j < (agedL (dropL x.l x.choose.1)).length := hj; rwa [aged_len] at this
    show (rn (agedL (dropL x.l x.choose.1)) j).a ≤ (rn (agedL (dropL x.l x.choose.1)) i).a
    rw [rn_aged hj', rn_aged (by omega)]
    have := hd.srt i j hij hj'
    show (rn (dropL x.l x.choose.1) j).a + 1 ≤ (rn (dropL x.l x.choose.1) i).a + 1
    have e : (rn (dropL x.l x.choose.1) j).a ≤ (rn (dropL x.l x.choose.1) i).a := this
    omega
  · have hi' : i < (dropL x.l x.choose.1).length := by have : i < (agedL (dropL x.l x.choose.1)).length := hi; rwa [aged_len] at this
    show (rn (agedL (dropL x.l x.choose.1)) i).a + (i : Int) ≤ 35
    rw [rn_aged hi']
    show (rn (dropL x.l x.choose.1) i).a + 1 + (i : Int) ≤ 35
    cases ho : oldI x.l with
    | none =>
      have hy : ∀ r ∈ x.l, r.a < 12 := by
        intro r hr
        unfold oldI at ho
        rw [Option.map_eq_none_iff, List.find?_eq_none] at ho
        have := ho r hr
        unfold old at this
        have h' : ¬ (12 : Int) ≤ r.a := fun q => this (decide_eq_true q)
        omega
      have := hy _ (mem_drop (rn_mem hi')).1
      omega
    | some b =>
      have hc : x.choose.1 = b := by unfold Ar.choose; rw [ho]
      obtain ⟨k, hk, hok, hmin⟩ : ∃ k, k < x.l.length ∧ old (rn x.l k) = true ∧ b = (rn x.l k).b := by
        unfold oldI at ho
        rw [Option.map_eq_some_iff] at ho
        obtain ⟨r, hr, e⟩ := ho
        obtain ⟨k, hk, rfl⟩ := mem_rn (List.mem_of_find?_eq_some hr)
        exact ⟨k, hk, List.find?_some hr, e.symm⟩
      have ho0 : old (rn x.l 0) = true := by
        unfold old at hok ⊢
        have h1 : (12 : Int) ≤ (rn x.l k).a := of_decide_eq_true hok
        rcases Nat.eq_zero_or_pos k with e | e
        · subst e; exact hok
        · have := h.srt 0 k e hk
          exact decide_eq_true (by omega)
      have hb0 : b = (rn x.l 0).b := by
        have := oldI_at h0 (fun j hj => absurd hj (by omega)) ho0
        rw [this] at ho
        exact (Option.some.inj ho).symm
      rw [hc] at hi' ⊢
      have e := erase_is hO.nd h0
      rw [← hb0] at e
      rw [← e] at hi' ⊢
      rw [rn_erase h0 hi', if_neg (by omega)]
      have hl2 : (x.l.eraseIdx 0).length = x.l.length - 1 := by rw [List.length_eraseIdx, if_pos h0]
      have := h.lim (i + 1) (by omega)
      omega
theorem Fr.ask {c : Nat} {x : Ar} (hO : x.Ok c) (h : Fr x) (b : Int) : Fr (x.ask b) := by
  unfold Ar.ask
  by_cases he : x.askE b = 0
  · rw [if_pos he]
    have hlt : x.l.length < 24 := by
      unfold Ar.askE at he
      by_cases h1 : b < 0 ∨ 1024 ≤ b
      · rw [if_pos h1] at he; cases he
      rw [if_neg h1] at he
      cases h2 : hasR x.l b with
      | true => rw [h2] at he; simp at he
      | false =>
        rw [h2] at he
        simp only [Bool.false_eq_true, if_false] at he
        by_cases h3 : 24 ≤ x.l.length
        · rw [if_pos h3] at he; cases he
        · omega
    have hl : (x.l ++ [(⟨b, 0⟩ : Rq)]).length = x.l.length + 1 := by rw [List.length_append]; rfl
    have hr : ∀ i, i < x.l.length → rn (x.l ++ [(⟨b, 0⟩ : Rq)]) i = rn x.l i := fun i hi => by
      unfold rn
      rw [List.getD_eq_getElem?_getD, List.getD_eq_getElem?_getD, List.getElem?_append_left hi]
    have hz : rn (x.l ++ [(⟨b, 0⟩ : Rq)]) x.l.length = ⟨b, 0⟩ := by
      unfold rn
      rw [List.getD_eq_getElem?_getD, List.getElem?_append_right (Nat.le_refl _)]; simp
    refine ⟨fun i j hij hj => ?_, fun i hi => ?_⟩
    · have hj' : j < (x.l ++ [(⟨b, 0⟩ : Rq)]).length := hj
      show (rn (x.l ++ [(⟨b, 0⟩ : Rq)]) j).a ≤ (rn (x.l ++ [(⟨b, 0⟩ : Rq)]) i).a
      rw [hr i (by omega)]
      by_cases e : j = x.l.length
      · subst e
        rw [hz]
        exact (hO.age0 _ (rn_mem hij)).1
      · rw [hr j (by omega)]; exact h.srt i j hij (by omega)
    · have hi' : i < (x.l ++ [(⟨b, 0⟩ : Rq)]).length := hi
      show (rn (x.l ++ [(⟨b, 0⟩ : Rq)]) i).a + (i : Int) ≤ 35
      by_cases e : i = x.l.length
      · subst e
        rw [hz]
        show (0 : Int) + _ ≤ 35
        omega
      · rw [hr i (by omega)]; exact h.lim i (by omega)
  · rw [if_neg he]; exact h
theorem Fr.age {x : Ar} (h : Fr x) (b : Int) : x.age b ≤ 35 := by
  unfold Ar.age
  cases hh : hasR x.l b with
  | false => rw [if_neg (by decide)]; omega
  | true =>
    rw [if_pos rfl]
    have hk : x.l.findIdx (isB b) < x.l.length := find_of_any hh
    have := h.lim _ hk
    omega
theorem Ar.Ok.age_ge {c : Nat} {x : Ar} (h : x.Ok c) {b : Int} (hb : hasR x.l b = true) : 0 ≤ x.age b := by
  unfold Ar.age
  rw [if_pos hb]
  have hk : x.l.findIdx (isB b) < x.l.length := find_of_any hb
  exact (h.age0 _ (rn_mem hk)).1

/-! ### nothing asked meanwhile -/
theorem young {c : Nat} {x : Ar} (h : x.Ok c) (hc : c < 12) : oldI x.l = none := by
  refine oldI_none (fun j hj => ?_)
  have := (h.age0 _ (rn_mem hj)).2.1
  unfold old
  exact decide_eq_false (by omega)
theorem st_keep (x : Ar) (k : Nat) : (stA x k).p = x.p ∧ (stA x k).n = x.n := by
  induction k with
  | zero => exact ⟨rfl, rfl⟩
  | succ k ih => exact ih
theorem st_at {c : Nat} {x : Ar} (h : x.Ok c) {k : Nat} (hk : k < x.l.length) : ((stA x (k + 1)).s : Int) = (stA x k).choose.1 := by
  obtain ⟨h1, h2⟩ := h.st k (by omega)
  have hb := h1.blk_in (Ar.choose_mem (show 0 < (stA x k).l.length by omega))
  show (((stA x k).choose.1).toNat : Int) = _
  omega
theorem st_blk {c : Nat} {x : Ar} (h : x.Ok c) {k : Nat} (hk : k < x.l.length) {b : Int} (hb : b ∈ blk (stA x (k + 1)).l) : b ∈ blk (stA x k).l ∧ b ≠ (stA x k).choose.1 := by
  have e : blk (stA x (k + 1)).l = (blk (stA x k).l).filter fun y => !(y == (stA x k).choose.1) := by
    show blk (agedL (dropL _ _)) = _
    rw [blk_aged, blk_drop]
  rw [e, List.mem_filter] at hb
  exact ⟨hb.1, by simpa using hb.2⟩
theorem fifo_go {x : Ar} (h : x.Ok 0) (hp : x.p = 1) (hl : x.l.length ≤ 12) : ∀ k, k ≤ x.l.length → goL x k = (blk x.l).take k ∧ blk (stA x k).l = (blk x.l).drop k := by
  intro k
  induction k with
  | zero => intro _; exact ⟨rfl, rfl⟩
  | succ k ih =>
    intro hk
    obtain ⟨g1, g2⟩ := ih (by omega)
    obtain ⟨h1, h2⟩ := h.st k (by omega)
    have ho := young h1 (by omega)
    have hkb : k < (blk x.l).length := by rw [length_blk]; omega
    have hc : (stA x k).choose.1 = inn (blk x.l) k := by
      unfold Ar.choose
      rw [ho]
      simp only
      rw [(st_keep x k).1, hp, if_neg (by decide), if_neg (by decide), if_neg (by decide)]
      show inn (blk (stA x k).l) 0 = _
      rw [g2]
      unfold inn
      rw [List.getD_eq_getElem?_getD, List.getD_eq_getElem?_getD, List.getElem?_drop, Nat.add_zero]
    refine ⟨by rw [goL, g1, hc, ← take_inn hkb], ?_⟩
    show blk (agedL (dropL _ _)) = _
    rw [blk_aged, blk_drop, g2, hc, List.drop_eq_getElem_cons hkb, List.filter_cons, if_neg (by rw [inn_lt hkb]; simp)]
    rw [List.filter_eq_self]
    intro y hy
    have hnd : ((blk x.l).drop k).Nodup := h.nd.sublist (List.drop_sublist _ _)
    rw [List.drop_eq_getElem_cons hkb, List.nodup_cons] at hnd
    have : y ≠ inn (blk x.l) k := fun e => hnd.1 (by rw [← inn_lt hkb, ← e]; exact hy)
    simpa using this
theorem near_least (s n : Nat) {l : List Int} {k : Nat} (hk : k ≤ l.length) : ∀ j, j < k → far s (bestK (nearB s n) l k).toNat n ≤ far s (inn l j).toNat n := by
  induction k with
  | zero => intro j hj; omega
  | succ k ih =>
    intro j hj
    unfold bestK
    by_cases h : k = 0 ∨ nearB s n (inn l k) (bestK (nearB s n) l k) = true
    · rw [if_pos h]
      by_cases e : j = k
      · rw [e]; exact Nat.le_refl _
      · rcases h with h | h
        · omega
        · have := ih (by omega) j (by omega)
          rw [near_lt] at h
          simp only [Bool.or_eq_true, Bool.and_eq_true, decide_eq_true_eq] at h
          rcases h with h | ⟨h, _⟩ <;> omega
    · rw [if_neg h]
      by_cases e : j = k
      · subst e
        have h' : ¬ far s (inn l j).toNat n < far s (bestK (nearB s n) l j).toNat n := fun q => h (.inr (by rw [near_lt]; simp [q]))
        omega
      · exact ih (by omega) j (by omega)
/-- how often a row falls, among its first k -/
def fallK (f : Nat → Int) : Nat → Int
  | 0 => 0
  | k + 1 => fallK f k + (if 1 ≤ k ∧ f k < f (k - 1) then 1 else 0)
theorem cyc_falls {x : Ar} (h : x.Ok 0) (hp : x.p = 4) (hl : x.l.length ≤ 12) : ∀ k, 1 ≤ k → k ≤ x.l.length → fallK (fun j => (stA x j).choose.1) k = 0 ∨ (fallK (fun j => (stA x j).choose.1) k = 1 ∧ ∀ b ∈ blk (stA x k).l, ((stA x k).s : Int) < b) := by
  intro k
  induction k with
  | zero => intro h1; omega
  | succ k ih =>
    intro _ hk
    obtain ⟨h1, h2⟩ := h.st k (by omega)
    have ho := young h1 (by omega)
    have h0 : 0 < (stA x k).l.length := by omega
    have hc : (stA x k).choose.1 = cycL (stA x k).s (blk (stA x k).l) := by
      unfold Ar.choose
      rw [ho]
      simp only
      rw [(st_keep x k).1, hp, if_neg (by decide), if_neg (by decide), if_pos rfl]
    have hs := st_at h (show k < x.l.length by omega)
    unfold fallK
    by_cases e : k = 0
    · subst e
      left
      rw [if_neg (by omega)]; rfl
    · have hs2 := st_at h (show k - 1 < x.l.length by omega)
      rw [show k - 1 + 1 = k by omega] at hs2
      have hnot : ∀ b ∈ blk (stA x k).l, b ≠ ((stA x k).s : Int) := fun b hb => by
        have := st_blk h (show k - 1 < x.l.length by omega) (b := b) (by rw [show k - 1 + 1 = k by omega]; exact hb)
        rw [hs2]; exact this.2
      rw [← hs2]
      cases hu : (upL (stA x k).s (blk (stA x k).l)).isEmpty with
      | false =>
        have hcc : (stA x k).choose.1 = bestL lessB (upL (stA x k).s (blk (stA x k).l)) := by rw [hc]; unfold cycL; rw [hu]; rfl
        have hm := upp_in (bestL_mem (f := lessB) (not_empty hu))
        have hne := hnot _ hm.1
        rw [if_neg (by rw [hcc]; omega)]
        rcases ih (by omega) (by omega) with q | ⟨q, q2⟩
        · left; rw [q]; rfl
        · right
          refine ⟨by rw [q]; rfl, fun b hb => ?_⟩
          obtain ⟨b1, b2⟩ := st_blk h (show k < x.l.length by omega) hb
          rw [hs, hcc]
          rw [hcc] at b2
          have := bestL_le (mem_up (s := (stA x k).s) b1 (by have := q2 b b1; omega))
          omega
      | true =>
        have hcc : (stA x k).choose.1 = bestL lessB (blk (stA x k).l) := by rw [hc]; unfold cycL; rw [hu]; rfl
        have hall : ∀ b ∈ blk (stA x k).l, b < ((stA x k).s : Int) := fun b hb => by
          rcases Int.lt_or_le b ((stA x k).s : Int) with q | q
          · exact q
          · exact absurd (mem_up hb q) (empty_no hu b)
        have hlt := hall _ (Ar.choose_mem h0)
        rw [if_pos ⟨by omega, hlt⟩]
        rcases ih (by omega) (by omega) with q | ⟨q, q2⟩
        · right
          refine ⟨by rw [q]; rfl, fun b hb => ?_⟩
          obtain ⟨b1, b2⟩ := st_blk h (show k < x.l.length by omega) hb
          rw [hs]
          rw [hcc] at b2 ⊢
          have := bestL_le b1
          omega
        · have := q2 _ (Ar.choose_mem h0)
          omega
theorem cyc_few {x : Ar} (h : x.Ok 0) (hp : x.p = 4) (hl : x.l.length ≤ 12) (k : Nat) (hk : k ≤ x.l.length) : fallK (fun j => (stA x j).choose.1) k ≤ 1 := by
  rcases Nat.eq_zero_or_pos k with e | e
  · subst e; show (0 : Int) ≤ 1; omega
  · rcases cyc_falls h hp hl k e hk with q | ⟨q, _⟩ <;> omega
/-- how often a row turns round, among its first k; from: where it began -/
def turnK (f : Nat → Int) (s : Int) : Nat → Int
  | 0 => 0
  | k + 1 => turnK f s k + (if (k = 1 ∧ ¬ f (k - 1) < f k ∧ s ≤ f 0) ∨ (1 < k ∧ decide (f (k - 1) < f k) ≠ decide (f (k - 2) < f (k - 1))) then 1 else 0)
theorem scan_turns {x : Ar} (h : x.Ok 0) (hp : x.p = 3) (hu0 : x.u = true) (hl : x.l.length ≤ 12) : ∀ k, 1 ≤ k → k ≤ x.l.length →
    ((stA x k).u = true ∧ turnK (fun j => (stA x j).choose.1) x.s k = 0 ∧ (x.s : Int) ≤ x.choose.1 ∧ (2 ≤ k → (stA x (k - 2)).choose.1 < (stA x (k - 1)).choose.1)) ∨
    ((stA x k).u = false ∧ (∀ b ∈ blk (stA x k).l, b < ((stA x k).s : Int)) ∧ turnK (fun j => (stA x j).choose.1) x.s k ≤ 1 ∧ ((k = 1 ∧ x.choose.1 < (x.s : Int)) ∨ (2 ≤ k ∧ ¬ (stA x (k - 2)).choose.1 < (stA x (k - 1)).choose.1))) := by
  intro k
  induction k with
  | zero => intro h1; omega
  | succ k ih =>
    intro _ hk
    obtain ⟨h1, h2⟩ := h.st k (by omega)
    have ho := young h1 (by omega)
    have h0 : 0 < (stA x k).l.length := by omega
    have hb0 : 0 < (blk (stA x k).l).length := by rw [length_blk]; exact h0
    have hc : (stA x k).choose = scanL (stA x k).s (stA x k).u (blk (stA x k).l) := by
      unfold Ar.choose
      rw [ho]
      simp only
      rw [(st_keep x k).1, hp, if_neg (by decide), if_pos rfl]
    have hu : (stA x (k + 1)).u = (stA x k).choose.2 := rfl
    have hs := st_at h (show k < x.l.length by omega)
    have rest : ∀ b ∈ blk (stA x (k + 1)).l, b ∈ blk (stA x k).l ∧ b ≠ (stA x k).choose.1 := fun b hb => st_blk h (show k < x.l.length by omega) hb
    -- down: the greatest of all that are left, if all are below
    have down : (∀ b ∈ blk (stA x k).l, b ≤ ((stA x k).s : Int)) → (stA x k).choose.1 = bestL greatB (downL (stA x k).s (blk (stA x k).l)) → ∀ b ∈ blk (stA x (k + 1)).l, b < ((stA x (k + 1)).s : Int) := fun hall hcd b hb => by
      obtain ⟨b1, b2⟩ := rest b hb
      have := bestL_ge (mem_down (s := (stA x k).s) b1 (hall b b1))
      rw [hs]
      rw [hcd] at b2 ⊢
      omega
    by_cases e : k = 0
    · subst e
      have hc : x.choose = scanL x.s x.u (blk x.l) := hc
      have hu : (stA x (0 + 1)).u = x.choose.2 := rfl
      have h0 : 0 < x.l.length := h0
      have down : (∀ b ∈ blk x.l, b ≤ (x.s : Int)) → x.choose.1 = bestL greatB (downL x.s (blk x.l)) → ∀ b ∈ blk (stA x (0 + 1)).l, b < ((stA x (0 + 1)).s : Int) := down
      have ht : turnK (fun j => (stA x j).choose.1) x.s (0 + 1) = 0 := by unfold turnK; rw [if_neg (by rintro (⟨q, _⟩ | ⟨q, _⟩) <;> exact absurd q (by decide))]; rfl
      rw [hu0] at hc
      unfold scanL at hc
      rw [if_pos rfl] at hc
      cases hup : (upL x.s (blk x.l)).isEmpty with
      | false =>
        rw [hup, if_neg (by decide)] at hc
        left
        have hm := upp_in (bestL_mem (f := lessB) (not_empty hup))
        refine ⟨by rw [hu, hc], ht, by rw [hc]; exact hm.2, fun q => by omega⟩
      | true =>
        rw [hup, if_pos rfl] at hc
        right
        have hall : ∀ b ∈ blk x.l, b < (x.s : Int) := fun b hb => by
          rcases Int.lt_or_le b (x.s : Int) with q | q
          · exact q
          · exact absurd (mem_up hb q) (empty_no hup b)
        refine ⟨by rw [hu, hc], down (fun b hb => by have := hall b hb; omega) (by rw [hc]), by rw [ht]; omega, .inl ⟨rfl, hall _ (Ar.choose_mem h0)⟩⟩
    · have hs2 := st_at h (show k - 1 < x.l.length by omega)
      rw [show k - 1 + 1 = k by omega] at hs2
      have hnot : ∀ b ∈ blk (stA x k).l, b ≠ ((stA x k).s : Int) := fun b hb => by
        have := st_blk h (show k - 1 < x.l.length by omega) (b := b) (by rw [show k - 1 + 1 = k by omega]; exact hb)
        rw [hs2]; exact this.2
      have hf0 : (stA x 0).choose.1 = x.choose.1 := rfl
      have ht : turnK (fun j => (stA x j).choose.1) x.s (k + 1) = turnK (fun j => (stA x j).choose.1) x.s k + (if (k = 1 ∧ ¬ (stA x (k - 1)).choose.1 < (stA x k).choose.1 ∧ (x.s : Int) ≤ x.choose.1) ∨ (1 < k ∧ decide ((stA x (k - 1)).choose.1 < (stA x k).choose.1) ≠ decide ((stA x (k - 2)).choose.1 < (stA x (k - 1)).choose.1)) then 1 else 0) := rfl
      rw [show k + 1 - 2 = k - 1 by omega, show k + 1 - 1 = k by omega]
      rcases ih (by omega) (by omega) with ⟨u1, u2, u3, u4⟩ | ⟨d1, d2, d3, d4⟩
      · rw [u1] at hc
        unfold scanL at hc
        rw [if_pos rfl] at hc
        cases hup : (upL (stA x k).s (blk (stA x k).l)).isEmpty with
        | false =>
          rw [hup, if_neg (by decide)] at hc
          have hm := upp_in (bestL_mem (f := lessB) (not_empty hup))
          have hne := hnot _ hm.1
          have hgt : (stA x (k - 1)).choose.1 < (stA x k).choose.1 := by rw [← hs2, hc]; show ((stA x k).s : Int) < bestL lessB _; omega
          left
          refine ⟨by rw [hu, hc], ?_, u3, fun _ => hgt⟩
          rw [ht, u2, if_neg]; · rfl
          rintro (⟨_, q, _⟩ | ⟨q1, q2⟩)
          · exact q hgt
          · exact q2 (by rw [decide_eq_true hgt, decide_eq_true (u4 (by omega))])
        | true =>
          rw [hup, if_pos rfl] at hc
          have hall : ∀ b ∈ blk (stA x k).l, b < ((stA x k).s : Int) := fun b hb => by
            rcases Int.lt_or_le b ((stA x k).s : Int) with q | q
            · exact q
            · exact absurd (mem_up hb q) (empty_no hup b)
          have hlt := hall _ (Ar.choose_mem h0)
          right
          refine ⟨by rw [hu, hc], down (fun b hb => by have := hall b hb; omega) (by rw [hc]), ?_, .inr ⟨by omega, by rw [← hs2]; omega⟩⟩
          rw [ht, u2]
          split <;> omega
      · rw [d1] at hc
        unfold scanL at hc
        rw [if_neg (by decide)] at hc
        have hne : (downL (stA x k).s (blk (stA x k).l)).isEmpty = false := by
          cases hq : (downL (stA x k).s (blk (stA x k).l)).isEmpty with
          | false => rfl
          | true =>
            have hm := inn_mem hb0
            exact absurd (mem_down hm (by have := d2 _ hm; omega)) (empty_no hq _)
        rw [hne, if_neg (by decide)] at hc
        have hlt := d2 _ (Ar.choose_mem h0)
        have hng : ¬ (stA x (k - 1)).choose.1 < (stA x k).choose.1 := by rw [← hs2]; omega
        right
        refine ⟨by rw [hu, hc], down (fun b hb => by have := d2 b hb; omega) (by rw [hc]), ?_, .inr ⟨by omega, hng⟩⟩
        rw [ht, if_neg]
        · omega
        rintro (⟨q1, _, q3⟩ | ⟨q1, q2⟩)
        · rcases d4 with ⟨_, z⟩ | ⟨z, _⟩ <;> omega
        · rcases d4 with ⟨z, _⟩ | ⟨_, z⟩
          · omega
          · exact q2 (by rw [decide_eq_false hng, decide_eq_false z])
theorem scan_few {x : Ar} (h : x.Ok 0) (hp : x.p = 3) (hu0 : x.u = true) (hl : x.l.length ≤ 12) (k : Nat) (hk : k ≤ x.l.length) : turnK (fun j => (stA x j).choose.1) x.s k ≤ 1 := by
  rcases Nat.eq_zero_or_pos k with e | e
  · subst e; show (0 : Int) ≤ 1; omega
  · rcases scan_turns h hp hu0 hl k e hk with ⟨_, q, _⟩ | ⟨_, _, q, _⟩ <;> omega
end Go.Proofs.Ytpelocpjfmmceaa
