/- What lasts is closed: what came behind others lasts only with them. -/
import Derived.Test.YtegacggkdjgdiaaET
import Derived.Test.YtegacggkdjgdiaaGR
set_option linter.unusedVariables false
set_option linter.unusedSimpArgs false
namespace Go.Proofs.Ytegacggkdjgdiaa
open Go.RowKit

/-- what was written has all written that it comes behind and that waits -/
def JW (l : List Wr) : Prop := ∀ y ∈ l, y.wr = true → ∀ d ∈ y.ah, ∀ z ∈ l, z.num = d → z.wr = true
/-- what waits comes behind all that it was asked to, that waits -/
def KW (D : List (List Nat)) (l : List Wr) : Prop := ∀ y ∈ l, ∀ d ∈ Gr.rowN D y.num.toNat, hasN l (d : Int) = true → (d : Int) ∈ y.ah
/-- what does not wait has nothing that waits ahead of it -/
def CW (D : List (List Nat)) (l : List Wr) : Prop := ∀ n, n < D.length → hasN l (n : Int) = false → ∀ d ∈ Gr.rowN D n, hasN l (d : Int) = false
theorem keepL_spec (l : List Wr) : ∀ (r kept : List Wr), ∀ x ∈ keepL l kept r, x ∈ kept ∨ ∃ k', okIn l k' x = true ∧ ∀ z ∈ k', z ∈ keepL l kept r
  | [], kept, x, h => .inl h
  | y :: r, kept, x, h => by
    obtain ⟨s, _, hs⟩ := keepL_sub l (y :: r) kept
    unfold keepL at h ⊢
    by_cases ho : okIn l kept y = true
    · rw [if_pos ho] at h ⊢
      rcases keepL_spec l r (kept ++ [y]) x h with q | q
      · rcases List.mem_append.1 q with q | q
        · exact .inl q
        · rw [List.mem_singleton] at q
          subst q
          obtain ⟨s2, _, hs2⟩ := keepL_sub l r (kept ++ [x])
          exact .inr ⟨kept, ho, fun z hz => by rw [hs2]; exact List.mem_append_left _ (List.mem_append_left _ hz)⟩
      · exact .inr q
    · rw [if_neg ho] at h ⊢
      exact keepL_spec l r kept x h
theorem ready_ok {l : List Wr} {b : Int} {x : Wr} (h : x ∈ readyL l b) {d : Int} (hd : d ∈ x.ah) (hw : hasN l d = true) : hasN (readyL l b) d = true := by
  unfold readyL at h ⊢
  rcases keepL_spec l (onL l b) [] x h with q | ⟨k', h1, h2⟩
  · cases q
  · have := List.all_eq_true.1 h1 d hd
    rw [hw] at this
    simp at this
    obtain ⟨z, hz, e⟩ := hasN_iff.1 this
    exact hasN_iff.2 ⟨z, h2 z hz, e⟩
theorem asc_uniq {l : List Wr} (h : Asc l) {x y : Wr} (hx : x ∈ l) (hy : y ∈ l) (e : x.num = y.num) : x = y := by
  obtain ⟨i, hi, rfl⟩ := List.mem_iff_getElem.1 hx
  obtain ⟨j, hj, rfl⟩ := List.mem_iff_getElem.1 hy
  rw [← wn_lt hi, ← wn_lt hj] at e ⊢
  rcases Nat.lt_trichotomy i j with q | q | q
  · have := h.lt q hj; omega
  · subst q; rfl
  · have := h.lt q hi; omega
theorem hasN_markL (l s : List Wr) (n : Int) : hasN (markL l s) n = hasN l n := by
  rw [Bool.eq_iff_iff, hasN_iff, hasN_iff]
  constructor
  · rintro ⟨x, hx, e⟩
    obtain ⟨y, hy, h1, _⟩ := mem_markL hx
    exact ⟨y, hy, by rw [← h1]; exact e⟩
  · rintro ⟨y, hy, e⟩
    refine ⟨_, List.mem_map.2 ⟨y, hy, rfl⟩, ?_⟩
    split <;> exact e
theorem JW.mark {l : List Wr} (h : JW l) (ha : Asc l) (b : Int) : JW (markL l (readyL l b)) := by
  intro y' hy' hw d hd z' hz' hz
  obtain ⟨y, hy, rfl⟩ := List.mem_map.1 hy'
  obtain ⟨z, hzl, rfl⟩ := List.mem_map.1 hz'
  have hsub : (readyL l b).Sublist l := (readyL_sub l b).trans (onL_sub l b)
  have hzn : z.num = d := by
    revert hz
    split <;> exact id
  have hdy : d ∈ y.ah := by
    revert hd
    split <;> exact id
  by_cases hy2 : hasN (readyL l b) y.num = true
  · obtain ⟨x, hx, e⟩ := hasN_iff.1 hy2
    have : x = y := asc_uniq ha (hsub.subset hx) hy e
    subst this
    have := ready_ok hx hdy (hasN_iff.2 ⟨z, hzl, hzn⟩)
    rw [if_pos (by rw [hzn]; exact this)]
    rfl
  · rw [if_neg hy2] at hw
    have := h y hy hw d hdy z hzl hzn
    split
    · rfl
    · exact this
theorem JW.write {l : List Wr} (h : JW l) (ha : Asc l) (S : Nat → Bk) (i : Nat) : JW (wrL S l i) := by
  unfold wrL
  split
  · exact h.mark ha _
  · exact h
theorem JW.flush (l : List Wr) : JW (leftL l) := by
  intro y hy hw
  have := (List.mem_filter.1 hy).2
  rw [hw] at this
  cases this
theorem hasN_wrL (S : Nat → Bk) (l : List Wr) (i : Nat) (n : Int) : hasN (wrL S l i) n = hasN l n := by
  unfold wrL
  split
  · exact hasN_markL _ _ _
  · rfl
theorem hasN_leftL {l : List Wr} {n : Int} (h : hasN (leftL l) n = true) : hasN l n = true := by
  obtain ⟨x, hx, e⟩ := hasN_iff.1 h
  exact hasN_iff.2 ⟨x, (List.mem_filter.1 hx).1, e⟩
theorem KW.write {D : List (List Nat)} {l : List Wr} (h : KW D l) (S : Nat → Bk) (i : Nat) : KW D (wrL S l i) := by
  intro y hy d hd hn
  rw [hasN_wrL] at hn
  unfold wrL at hy
  split at hy
  · obtain ⟨x, hx, h1, h2, h3, _⟩ := mem_markL hy
    rw [h3]
    exact h x hx d (by rw [← h1]; exact hd) hn
  · exact h y hy d hd hn
theorem KW.flush {D : List (List Nat)} {l : List Wr} (h : KW D l) : KW D (leftL l) := fun y hy d hd hn => h y (List.mem_filter.1 hy).1 d hd (hasN_leftL hn)
theorem CW.write {D : List (List Nat)} {l : List Wr} (h : CW D l) (S : Nat → Bk) (i : Nat) : CW D (wrL S l i) := fun n hn h1 d hd => by
  rw [hasN_wrL] at h1 ⊢
  exact h n hn h1 d hd
theorem CW.flush {D : List (List Nat)} {l : List Wr} (h : CW D l) (hj : JW l) (hk : KW D l) (ha : Asc l) : CW D (leftL l) := by
  intro n hn h1 d hd
  rw [Bool.eq_false_iff]
  intro hdl
  have hdl2 := hasN_leftL hdl
  cases hnl : hasN l (n : Int) with
  | false =>
    have := h n hn hnl d hd
    rw [this] at hdl2; cases hdl2
  | true =>
    obtain ⟨y, hy, e⟩ := hasN_iff.1 hnl
    have hyw : y.wr = true := by
      cases hw : y.wr with
      | true => rfl
      | false =>
        have : hasN (leftL l) (n : Int) = true := hasN_iff.2 ⟨y, List.mem_filter.2 ⟨hy, by rw [hw]; rfl⟩, e⟩
        rw [h1] at this; cases this
    have hah : (d : Int) ∈ y.ah := hk y hy d (by rw [e]; simpa using hd) hdl2
    obtain ⟨z, hz, ez⟩ := hasN_iff.1 hdl
    obtain ⟨hz1, hz2⟩ := List.mem_filter.1 hz
    have := hj y hy hyw _ hah z hz1 ez
    rw [this] at hz2
    cases hz2
/-- all that is asked of what waits, and of what does not -/
structure BW (D : List (List Nat)) (l : List Wr) : Prop where
  j : JW l
  k : KW D l
  c : CW D l
theorem BW.write {D : List (List Nat)} {l : List Wr} (h : BW D l) (ha : Asc l) (S : Nat → Bk) (i : Nat) : BW D (wrL S l i) := ⟨h.j.write ha S i, h.k.write S i, h.c.write S i⟩
theorem BW.flush {D : List (List Nat)} {l : List Wr} (h : BW D l) (ha : Asc l) : BW D (leftL l) := ⟨JW.flush l, h.k.flush, h.c.flush h.j h.k ha⟩
/-- while nothing is written: who waits, with what it comes behind -/
structure Fill (D : List (List Nat)) (l : List Wr) : Prop where
  ok : Gr.OkD D
  nums : ∀ n, n < D.length → hasN l (n : Int) = true
  lo : ∀ y ∈ l, 0 ≤ y.num ∧ y.num < D.length
  un : ∀ y ∈ l, y.wr = false
  dep : ∀ y ∈ l, ∀ d ∈ Gr.rowN D y.num.toNat, (d : Int) ∈ y.ah
theorem Fill.bw {D : List (List Nat)} {l : List Wr} (h : Fill D l) : BW D l :=
  ⟨(fun y hy hw => by rw [h.un y hy] at hw; cases hw), (fun y hy d hd _ => h.dep y hy d hd), (fun n hn h1 => by rw [h.nums n hn] at h1; cases h1)⟩
theorem Fill.nil : Fill [] [] := ⟨⟨⟨by simp, fun n d hd => by simp [Gr.rowN] at hd⟩, fun n => by simp [Gr.rowN]⟩, (fun n hn => by simp at hn), (fun y hy => by cases hy), (fun y hy => by cases hy), (fun y hy => by cases hy)⟩
theorem rowN_snoc (D : List (List Nat)) (r : List Nat) (n : Nat) : Gr.rowN (D ++ [r]) n = if n < D.length then Gr.rowN D n else if n = D.length then r else [] := by
  unfold Gr.rowN
  rw [List.getD_eq_getElem?_getD, List.getD_eq_getElem?_getD]
  by_cases h : n < D.length
  · rw [if_pos h, List.getElem?_append_left h]
  · rw [if_neg h, List.getElem?_append_right (by omega)]
    by_cases e : n = D.length
    · subst e; simp
    · rw [if_neg e, List.getElem?_eq_none (by simp; omega)]; rfl
theorem Fill.add {D : List (List Nat)} {l : List Wr} {p : Pt} {r : List Nat} {y : Wr} (h : Fill D l) (hN : D.length < 200) (hr : ∀ d ∈ r, d < D.length) (hl : r.length ≤ 256) (hy : OneOf (D.length : Int) l (D.length : Int) ⟨p, r.map fun d : Nat => (d : Int)⟩ y) : Fill (D ++ [r]) (l ++ [y]) := by
  obtain ⟨h1, h2, h3, h4⟩ := hy
  have hlen : (D ++ [r]).length = D.length + 1 := by simp
  refine ⟨⟨⟨by rw [hlen]; omega, fun n d hd => ?_⟩, fun n => ?_⟩, fun n hn => ?_, fun z hz => ?_, fun z hz => ?_, fun z hz d hd => ?_⟩
  · rw [rowN_snoc] at hd
    split at hd
    · exact h.ok.right.2 n d hd
    · split at hd
      · next e => rw [e]; exact hr d hd
      · cases hd
  · rw [rowN_snoc]
    split
    · exact h.ok.len n
    · split
      · exact hl
      · simp
  · rw [hlen] at hn
    by_cases e : n < D.length
    · obtain ⟨x, hx, e2⟩ := hasN_iff.1 (h.nums n e)
      exact hasN_iff.2 ⟨x, List.mem_append_left _ hx, e2⟩
    · exact hasN_iff.2 ⟨y, by simp, by rw [h1]; omega⟩
  · rw [hlen]
    rcases List.mem_append.1 hz with q | q
    · have := h.lo z q; omega
    · rw [List.mem_singleton] at q; subst q; omega
  · rcases List.mem_append.1 hz with q | q
    · exact h.un z q
    · rw [List.mem_singleton] at q; subst q; exact h4
  · rcases List.mem_append.1 hz with q | q
    · have hlo := h.lo z q
      rw [rowN_snoc, if_pos (by omega)] at hd
      exact h.dep z q d hd
    · rw [List.mem_singleton] at q
      subst q
      rw [h1, rowN_snoc, Int.toNat_natCast, if_neg (Nat.lt_irrefl _), if_pos rfl] at hd
      rw [h3]
      unfold ahL numsL
      obtain ⟨x, hx, e⟩ := hasN_iff.1 (h.nums d (hr d hd))
      refine List.mem_map.2 ⟨x, List.mem_filter.2 ⟨hx, ?_⟩, e⟩
      have : hasI (((r.map fun d : Nat => (d : Int))).map (depN (D.length : Int))) x.num = true := by
        unfold hasI
        rw [List.any_eq_true]
        refine ⟨depN (D.length : Int) (d : Int), List.mem_map.2 ⟨(d : Int), List.mem_map.2 ⟨d, hd, rfl⟩, rfl⟩, ?_⟩
        unfold depN
        rw [if_neg (by omega), e]
        simp
      unfold selA
      rw [this]; rfl
/-- those that last -/
def doneN (l : List Wr) (n : Nat) : List Nat := (List.range n).filter fun i => !hasN l (i : Int)
theorem doneN_succ (l : List Wr) (n : Nat) : doneN l (n + 1) = if hasN l (n : Int) then doneN l n else doneN l n ++ [n] := by
  unfold doneN
  rw [List.range_succ, List.filter_append]
  cases h : hasN l (n : Int) <;> simp [h]
theorem BW.closed {D : List (List Nat)} {l : List Wr} (h : BW D l) (hok : Gr.OkD D) : Gr.closedB D ((doneN l D.length).map fun n : Nat => (n : Int)) = true := by
  have hm : ∀ n, Gr.markI D.length ((doneN l D.length).map fun n : Nat => (n : Int)) n = true ↔ n < D.length ∧ hasN l (n : Int) = false := by
    intro n
    unfold Gr.markI doneN
    simp
    intro hn
    constructor
    · rintro ⟨a, ⟨_, h2⟩, e⟩
      rw [← e]; exact h2
    · exact fun h2 => ⟨n, ⟨hn, h2⟩, rfl⟩
  refine Gr.closedB_yes ⟨fun x hx => ?_, fun n hn d hd => ?_⟩
  · obtain ⟨n, hn, rfl⟩ := List.mem_map.1 hx
    have := (List.mem_filter.1 hn).1
    rw [List.mem_range] at this
    unfold Gr.isN
    simp; exact this
  · obtain ⟨h1, h2⟩ := (hm n).1 hn
    have := hok.right.2 n d hd
    exact (hm d).2 ⟨by omega, h.c n h1 h2 d hd⟩
end Go.Proofs.Ytegacggkdjgdiaa
