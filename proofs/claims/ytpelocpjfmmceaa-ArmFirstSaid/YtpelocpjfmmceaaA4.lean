/- The arm, plain: the document's choice is the program's. -/
import Derived.Test.YtpelocpjfmmceaaRY
set_option linter.unusedVariables false
set_option linter.unusedSimpArgs false
namespace Go.Proofs.Ytpelocpjfmmceaa

theorem oldFrom_is (l : List Rq) (j : Nat) (hj : j ≤ l.length) : (oldFrom l j = -1 ∧ ∀ i, l.length - j ≤ i → i < l.length → old (rn l i) = false) ∨
    (∃ k : Nat, oldFrom l j = (k : Int) ∧ l.length - j ≤ k ∧ k < l.length ∧ old (rn l k) = true ∧ ∀ i, l.length - j ≤ i → i < k → old (rn l i) = false) := by
  induction j with
  | zero => exact .inl ⟨rfl, fun i h1 h2 => by omega⟩
  | succ j ih =>
    unfold oldFrom
    cases ho : old (rn l (l.length - (j + 1))) with
    | true =>
      rw [if_pos rfl]
      exact .inr ⟨_, rfl, Nat.le_refl _, by omega, ho, fun i h1 h2 => by omega⟩
    | false =>
      rw [if_neg (by decide)]
      rcases ih (by omega) with ⟨h1, h2⟩ | ⟨k, h1, h2, h3, h4, h5⟩
      · refine .inl ⟨h1, fun i q1 q2 => ?_⟩
        by_cases e : i = l.length - (j + 1)
        · rw [e]; exact ho
        · exact h2 i (by omega) q2
      · refine .inr ⟨k, h1, by omega, h3, h4, fun i q1 q2 => ?_⟩
        by_cases e : i = l.length - (j + 1)
        · rw [e]; exact ho
        · exact h5 i (by omega) q2
theorem leastK_is (l : List Rq) (f : Int) (k : Nat) : (leastK l f k = -1 ∧ ∀ j, j < k → (rn l j).b < f) ∨
    (∃ m : Nat, m < k ∧ leastK l f k = (m : Int) ∧ f ≤ (rn l m).b ∧ ∀ j, j < k → f ≤ (rn l j).b → (rn l m).b ≤ (rn l j).b) := by
  induction k with
  | zero => exact .inl ⟨rfl, fun j hj => absurd hj (by omega)⟩
  | succ k ih =>
    unfold leastK
    rcases ih with ⟨h1, h2⟩ | ⟨m, h1, h2, h3, h4⟩
    · by_cases h : f ≤ (rn l k).b
      · rw [if_pos ⟨h, .inl (by omega)⟩]
        refine .inr ⟨k, by omega, rfl, h, fun j hj hf => ?_⟩
        by_cases e : j = k
        · rw [e]; exact Int.le_refl _
        · have := h2 j (by omega); omega
      · rw [if_neg (fun q => h q.1)]
        refine .inl ⟨h1, fun j hj => ?_⟩
        by_cases e : j = k
        · rw [e]; omega
        · exact h2 j (by omega)
    · have hm : (leastK l f k).toNat = m := by rw [h2]; simp
      rw [hm]
      by_cases h : f ≤ (rn l k).b ∧ (rn l k).b < (rn l m).b
      · rw [if_pos ⟨h.1, .inr h.2⟩]
        refine .inr ⟨k, by omega, rfl, h.1, fun j hj hf => ?_⟩
        by_cases e : j = k
        · rw [e]; exact Int.le_refl _
        · have := h4 j (by omega) hf; omega
      · rw [if_neg (fun q => by rcases q.2 with z | z; omega; exact h ⟨q.1, z⟩)]
        refine .inr ⟨m, by omega, h2, h3, fun j hj hf => ?_⟩
        by_cases e : j = k
        · subst e
          by_cases q : (rn l j).b < (rn l m).b
          · exact absurd ⟨hf, q⟩ h
          · omega
        · exact h4 j (by omega) hf
theorem greatK_is (l : List Rq) (f : Int) (k : Nat) : (greatK l f k = -1 ∧ ∀ j, j < k → f < (rn l j).b) ∨
    (∃ m : Nat, m < k ∧ greatK l f k = (m : Int) ∧ (rn l m).b ≤ f ∧ ∀ j, j < k → (rn l j).b ≤ f → (rn l j).b ≤ (rn l m).b) := by
  induction k with
  | zero => exact .inl ⟨rfl, fun j hj => absurd hj (by omega)⟩
  | succ k ih =>
    unfold greatK
    rcases ih with ⟨h1, h2⟩ | ⟨m, h1, h2, h3, h4⟩
    · by_cases h : (rn l k).b ≤ f
      · rw [if_pos ⟨h, .inl (by omega)⟩]
        refine .inr ⟨k, by omega, rfl, h, fun j hj hf => ?_⟩
        by_cases e : j = k
        · rw [e]; exact Int.le_refl _
        · have := h2 j (by omega); omega
      · rw [if_neg (fun q => h q.1)]
        refine .inl ⟨h1, fun j hj => ?_⟩
        by_cases e : j = k
        · rw [e]; omega
        · exact h2 j (by omega)
    · have hm : (greatK l f k).toNat = m := by rw [h2]; simp
      rw [hm]
      by_cases h : (rn l k).b ≤ f ∧ (rn l m).b < (rn l k).b
      · rw [if_pos ⟨h.1, .inr h.2⟩]
        refine .inr ⟨k, by omega, rfl, h.1, fun j hj hf => ?_⟩
        by_cases e : j = k
        · rw [e]; exact Int.le_refl _
        · have := h4 j (by omega) hf; omega
      · rw [if_neg (fun q => by rcases q.2 with z | z; omega; exact h ⟨q.1, z⟩)]
        refine .inr ⟨m, by omega, h2, h3, fun j hj hf => ?_⟩
        by_cases e : j = k
        · subst e
          by_cases q : (rn l m).b < (rn l j).b
          · exact absurd ⟨hf, q⟩ h
          · omega
        · exact h4 j (by omega) hf
theorem best_less_le {l : List Int} {k : Nat} (hk : k ≤ l.length) : ∀ j, j < k → bestK lessB l k ≤ inn l j := by
  induction k with
  | zero => intro j hj; omega
  | succ k ih =>
    intro j hj
    unfold bestK
    by_cases h : k = 0 ∨ lessB (inn l k) (bestK lessB l k) = true
    · rw [if_pos h]
      by_cases e : j = k
      · rw [e]; exact Int.le_refl _
      · rcases h with h | h
        · omega
        · have := ih (by omega) j (by omega)
          have h' : inn l k < bestK lessB l k := of_decide_eq_true h
          omega
    · rw [if_neg h]
      by_cases e : j = k
      · subst e
        have h' : ¬ inn l j < bestK lessB l j := fun q => h (.inr (decide_eq_true q))
        omega
      · exact ih (by omega) j (by omega)
theorem best_great_ge {l : List Int} {k : Nat} (hk : k ≤ l.length) : ∀ j, j < k → inn l j ≤ bestK greatB l k := by
  induction k with
  | zero => intro j hj; omega
  | succ k ih =>
    intro j hj
    unfold bestK
    by_cases h : k = 0 ∨ greatB (inn l k) (bestK greatB l k) = true
    · rw [if_pos h]
      by_cases e : j = k
      · rw [e]; exact Int.le_refl _
      · rcases h with h | h
        · omega
        · have := ih (by omega) j (by omega)
          have h' : bestK greatB l k < inn l k := of_decide_eq_true h
          omega
    · rw [if_neg h]
      by_cases e : j = k
      · subst e
        have h' : ¬ bestK greatB l j < inn l j := fun q => h (.inr (decide_eq_true q))
        omega
      · exact ih (by omega) j (by omega)
theorem bestL_le {l : List Int} {y : Int} (h : y ∈ l) : bestL lessB l ≤ y := by
  obtain ⟨j, hj, rfl⟩ := mem_inn h
  exact best_less_le (Nat.le_refl _) j hj
theorem bestL_ge {l : List Int} {y : Int} (h : y ∈ l) : y ≤ bestL greatB l := by
  obtain ⟨j, hj, rfl⟩ := mem_inn h
  exact best_great_ge (Nat.le_refl _) j hj
theorem blk_mem {l : List Rq} {k : Nat} (h : k < l.length) : (rn l k).b ∈ blk l := by
  unfold blk; exact List.mem_map.2 ⟨_, rn_mem h, rfl⟩
theorem least_ties {l : List Rq} {s : Nat} : (leastK l s l.length = -1 ∧ (upL s (blk l)).isEmpty = true) ∨
    (∃ m : Nat, m < l.length ∧ leastK l s l.length = (m : Int) ∧ (upL s (blk l)).isEmpty = false ∧ (rn l m).b = bestL lessB (upL s (blk l))) := by
  rcases leastK_is l s l.length with ⟨h1, h2⟩ | ⟨m, h1, h2, h3, h4⟩
  · refine .inl ⟨h1, ?_⟩
    cases he : (upL s (blk l)).isEmpty with
    | true => rfl
    | false =>
      have hm := bestL_mem (f := lessB) (not_empty he)
      obtain ⟨q1, q2⟩ := upp_in hm
      obtain ⟨r, hr, e⟩ := mem_blk q1
      obtain ⟨j, hj, rfl⟩ := mem_rn hr
      have := h2 j hj
      omega
  · have hmem := mem_up (s := s) (blk_mem h1) h3
    have hne : (upL s (blk l)).isEmpty = false := by
      cases he : (upL s (blk l)).isEmpty with
      | false => rfl
      | true => exact absurd hmem (empty_no he _)
    refine .inr ⟨m, h1, h2, hne, ?_⟩
    have a1 := bestL_le hmem
    have hm := bestL_mem (f := lessB) (not_empty hne)
    obtain ⟨q1, q2⟩ := upp_in hm
    obtain ⟨r, hr, e⟩ := mem_blk q1
    obtain ⟨j, hj, rfl⟩ := mem_rn hr
    have := h4 j hj (by omega)
    omega
theorem great_ties {l : List Rq} {s : Nat} : (greatK l s l.length = -1 ∧ (downL s (blk l)).isEmpty = true) ∨
    (∃ m : Nat, m < l.length ∧ greatK l s l.length = (m : Int) ∧ (downL s (blk l)).isEmpty = false ∧ (rn l m).b = bestL greatB (downL s (blk l))) := by
  rcases greatK_is l s l.length with ⟨h1, h2⟩ | ⟨m, h1, h2, h3, h4⟩
  · refine .inl ⟨h1, ?_⟩
    cases he : (downL s (blk l)).isEmpty with
    | true => rfl
    | false =>
      have hm := bestL_mem (f := greatB) (not_empty he)
      obtain ⟨q1, q2⟩ := downn_in hm
      obtain ⟨r, hr, e⟩ := mem_blk q1
      obtain ⟨j, hj, rfl⟩ := mem_rn hr
      have := h2 j hj
      omega
  · have hmem := mem_down (s := s) (blk_mem h1) h3
    have hne : (downL s (blk l)).isEmpty = false := by
      cases he : (downL s (blk l)).isEmpty with
      | false => rfl
      | true => exact absurd hmem (empty_no he _)
    refine .inr ⟨m, h1, h2, hne, ?_⟩
    have a1 := bestL_ge hmem
    have hm := bestL_mem (f := greatB) (not_empty hne)
    obtain ⟨q1, q2⟩ := downn_in hm
    obtain ⟨r, hr, e⟩ := mem_blk q1
    obtain ⟨j, hj, rfl⟩ := mem_rn hr
    have := h4 j hj (by omega)
    omega
theorem near_ties {l : List Rq} {s n k : Nat} (h0 : 0 < k) (hk : k ≤ l.length) : bestK (nearB s n) (blk l) k = (rn l (nearK l s n k)).b := by
  induction k with
  | zero => omega
  | succ k ih =>
    unfold bestK nearK
    by_cases e : k = 0
    · subst e
      rw [if_pos (.inl rfl), if_neg (fun q => q.1 rfl), blk_at (by omega)]
      rfl
    · rw [ih (by omega) (by omega), blk_at (by omega)]
      by_cases h : nearB s n (rn l k).b (rn l (nearK l s n k)).b = true
      · rw [if_pos (.inr h), if_pos ⟨e, h⟩]
      · rw [if_neg (fun q => by rcases q with q | q; exact e q; exact h q), if_neg (fun q => h q.2)]
theorem erase_is {l : List Rq} (hn : (blk l).Nodup) {k : Nat} (hk : k < l.length) : l.eraseIdx k = dropL l (rn l k).b := by
  induction l generalizing k with
  | nil => simp at hk
  | cons r q ih =>
    have hc := List.nodup_cons.1 (show (r.b :: blk q).Nodup from hn)
    cases k with
    | zero =>
      show q = dropL (r :: q) r.b
      unfold dropL isB
      rw [List.filter_cons, if_neg (by simp)]
      symm
      rw [List.filter_eq_self]
      intro y hy
      have : y.b ≠ r.b := fun e => hc.1 (by rw [← e]; exact List.mem_map.2 ⟨y, hy, rfl⟩)
      simpa using this
    | succ k =>
      have hk' : k < q.length := by simpa using hk
      have e1 : rn (r :: q) (k + 1) = rn q k := rfl
      rw [e1]
      show r :: q.eraseIdx k = dropL (r :: q) (rn q k).b
      rw [ih hc.2 hk']
      unfold dropL isB
      rw [List.filter_cons, if_pos]
      have : r.b ≠ (rn q k).b := fun e => hc.1 (by rw [e]; exact blk_mem hk')
      simpa using this
namespace Ar
def rpick (x : Ar) : Int × Bool :=
  if 0 ≤ oldFrom x.l x.l.length then (oldFrom x.l x.l.length, if (rn x.l (oldFrom x.l x.l.length).toNat).b = (x.s : Int) then x.u else !decide ((rn x.l (oldFrom x.l x.l.length).toNat).b < (x.s : Int))) else x.rchoose
theorem rchoose_ties {x : Ar} (h0 : 0 < x.l.length) (hr : ∀ r ∈ x.l, 0 ≤ r.b) (ho : oldI x.l = none) : ∃ k, k < x.l.length ∧ x.rchoose.1 = (k : Int) ∧ (rn x.l k).b = x.choose.1 ∧ x.rchoose.2 = x.choose.2 := by
  unfold rchoose choose
  rw [ho]
  simp only
  by_cases h2 : x.p = 2
  · rw [if_pos h2, if_pos h2]
    obtain ⟨j, hj⟩ : ∃ j, x.l.length = j + 1 := ⟨x.l.length - 1, by omega⟩
    refine ⟨nearK x.l x.s x.n x.l.length, by rw [hj]; exact nearK_lt _ _ _ _, rfl, ?_, rfl⟩
    rw [← near_ties h0 (Nat.le_refl _)]
    unfold bestL
    rw [length_blk]
  rw [if_neg h2, if_neg h2]
  by_cases h3 : x.p = 3
  · rw [if_pos h3, if_pos h3]
    unfold scanL
    cases hu : x.u with
    | true =>
      rw [if_pos rfl, if_pos rfl]
      rcases least_ties (l := x.l) (s := x.s) with ⟨e1, e2⟩ | ⟨m, e0, e1, e2, e3⟩
      · rw [e1, e2, if_neg (by decide), if_pos rfl]
        have hd := one_side (s := x.s) (l := blk x.l) (by rw [length_blk]; exact h0) e2
        rcases great_ties (l := x.l) (s := x.s) with ⟨f1, f2⟩ | ⟨m, f0, f1, f2, f3⟩
        · rw [hd] at f2; cases f2
        · exact ⟨m, f0, f1, f3, rfl⟩
      · rw [e1, e2, if_pos (by omega), if_neg (by decide)]
        exact ⟨m, e0, rfl, e3, rfl⟩
    | false =>
      simp only [Bool.false_eq_true, if_false]
      rcases great_ties (l := x.l) (s := x.s) with ⟨e1, e2⟩ | ⟨m, e0, e1, e2, e3⟩
      · rw [e1, e2, if_neg (by decide), if_pos rfl]
        rcases least_ties (l := x.l) (s := x.s) with ⟨f1, f2⟩ | ⟨m, f0, f1, f2, f3⟩
        · have := one_side (s := x.s) (l := blk x.l) (by rw [length_blk]; exact h0) f2
          rw [this] at e2; cases e2
        · exact ⟨m, f0, f1, f3, rfl⟩
      · rw [e1, e2, if_pos (by omega), if_neg (by decide)]
        exact ⟨m, e0, rfl, e3, rfl⟩
  rw [if_neg h3, if_neg h3]
  by_cases h4 : x.p = 4
  · rw [if_pos h4, if_pos h4]
    unfold cycL
    rcases least_ties (l := x.l) (s := x.s) with ⟨e1, e2⟩ | ⟨m, e0, e1, e2, e3⟩
    · rw [e1, e2, if_neg (by decide), if_pos rfl]
      rcases leastK_is x.l 0 x.l.length with ⟨f1, f2⟩ | ⟨m, f1, f2, f3, f4⟩
      · have a1 := f2 0 h0
        have a2 := hr _ (rn_mem h0)
        omega
      · refine ⟨m, f1, f2, ?_, rfl⟩
        have a1 := bestL_le (blk_mem f1)
        have hm := bestL_mem (f := lessB) (l := blk x.l) (by rw [length_blk]; exact h0)
        obtain ⟨r, hr', e⟩ := mem_blk hm
        obtain ⟨j, hj, rfl⟩ := mem_rn hr'
        have := f4 j hj (hr _ hr')
        show (rn x.l m).b = bestL lessB (blk x.l)
        omega
    · rw [e1, e2, if_pos (by omega), if_neg (by decide)]
      exact ⟨m, e0, rfl, e3, rfl⟩
  · rw [if_neg h4, if_neg h4]
    exact ⟨0, h0, rfl, (blk_at h0).symm, rfl⟩
theorem pick_ties {c : Nat} {x : Ar} (h : Ok c x) (h0 : 0 < x.l.length) : ∃ k, k < x.l.length ∧ x.rpick.1 = (k : Int) ∧ (rn x.l k).b = x.choose.1 ∧ x.rpick.2 = x.choose.2 := by
  unfold rpick
  rcases oldFrom_is x.l x.l.length (Nat.le_refl _) with ⟨h1, h2⟩ | ⟨k, h1, h2, h3, h4, h5⟩
  · rw [h1, if_neg (by decide)]
    exact rchoose_ties h0 (fun r hr => (h.rng r hr).1) (oldI_none (fun j hj => h2 j (by omega) hj))
  · have ho : oldI x.l = some (rn x.l k).b := oldI_at h3 (fun j hj => h5 j (by omega) hj) h4
    have hc : x.choose = ((rn x.l k).b, decide ((x.s : Int) < (rn x.l k).b)) := by unfold choose; rw [ho]
    rw [h1, if_pos (by omega)]
    refine ⟨k, h3, rfl, by rw [hc], ?_⟩
    rw [hc]
    have ha := (h.age0 _ (rn_mem h3)).2.2 (by unfold old at h4; simp at h4; omega)
    simp only [Int.toNat_natCast]
    rw [if_neg ha]
    by_cases q : (x.s : Int) < (rn x.l k).b
    · rw [decide_eq_true q, decide_eq_false (by omega)]; rfl
    · rw [decide_eq_false q, decide_eq_true (by omega)]; rfl
end Ar
end Go.Proofs.Ytpelocpjfmmceaa
