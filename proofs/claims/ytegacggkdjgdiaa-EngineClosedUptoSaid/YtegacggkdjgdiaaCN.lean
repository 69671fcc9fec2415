/- What a crash leaves is a closed set of patches: what holds of it while deeds go on. -/
import Derived.Test.YtegacggkdjgdiaaCM
import Derived.Test.YtegacggkdjgdiaaEZ
set_option linter.unusedVariables false
set_option linter.unusedSimpArgs false
namespace Go.Proofs.Ytegacggkdjgdiaa
open Go.RowKit

/-- those that wait: they rise, each comes behind smaller ones, one that was written has all written that it comes behind -/
structure Cl (l : List Wr) : Prop where
  asc : Asc l
  dep : ∀ x ∈ l, ∀ d ∈ x.ah, d < x.num
  cl : ∀ x ∈ l, x.wr = true → ∀ z ∈ l, z.num ∈ x.ah → z.wr = true ∧ z.p.b = x.p.b
namespace Cl
variable {l : List Wr}
/-- what was written is ready -/
theorem wr_ready (h : Cl l) {x : Wr} (hx : x ∈ l) (hw : x.wr = true) : x ∈ readyL l x.p.b := by
  obtain ⟨b, hb⟩ : ∃ b, b = x.p.b := ⟨_, rfl⟩
  rw [← hb]
  obtain ⟨m, hm⟩ : ∃ m, m = onL l b := ⟨_, rfl⟩
  have hml : m.Sublist l := by rw [hm]; exact onL_sub l b
  have hma : Asc m := h.asc.sub hml
  have key : ∀ k, k ≤ m.length → ∀ j, j < k → (wn m j).wr = true → wn m j ∈ keepL l [] (m.take k) := by
    intro k
    induction k with
    | zero => intro _ j hj; omega
    | succ k ih =>
      intro hk j hj hjw
      have ih := ih (by omega)
      rw [take_wn (by omega), keepL_append]
      obtain ⟨s, _, hs⟩ := keepL_sub l [wn m k] (keepL l [] (m.take k))
      by_cases e : j < k
      · rw [hs]; exact List.mem_append_left _ (ih j e hjw)
      · obtain rfl : j = k := by omega
        have hok : okIn l (keepL l [] (m.take j)) (wn m j) = true := by
          unfold okIn
          rw [List.all_eq_true]
          intro d hd
          cases hn : hasN l d with
          | false => rfl
          | true =>
            obtain ⟨z, hz, rfl⟩ := hasN_iff.1 hn
            have hmj := wn_mem (show j < m.length by omega)
            obtain ⟨h1, h2⟩ := h.cl _ (hml.subset hmj) hjw z hz hd
            have hlt := h.dep _ (hml.subset hmj) _ hd
            have hon : wn m j ∈ onL l b := by rw [← hm]; exact hmj
            have hzm : z ∈ m := by
              rw [hm]
              refine List.mem_filter.2 ⟨hz, ?_⟩
              rw [h2]; exact (List.mem_filter.1 hon).2
            obtain ⟨q, hq, hqe⟩ := List.mem_iff_getElem.1 hzm
            rw [← wn_lt hq] at hqe
            have hqj : q < j := by
              rcases Nat.lt_or_ge q j with h0 | h0
              · exact h0
              · exfalso
                rcases Nat.lt_or_ge j q with h3 | h3
                · have := hma.lt h3 hq; rw [hqe] at this; omega
                · obtain rfl : q = j := by omega
                  rw [hqe] at hlt; omega
            have := ih q hqj (by rw [hqe]; exact h1)
            rw [hqe] at this
            simp only [Bool.not_true, Bool.false_or]
            exact hasN_iff.2 ⟨z, this, rfl⟩
        unfold keepL
        rw [if_pos hok]
        unfold keepL
        exact List.mem_append_right _ (by simp)
  have hxm : x ∈ m := by rw [hm]; exact List.mem_filter.2 ⟨hx, by simp [hb]⟩
  obtain ⟨q, hq, hqe⟩ := List.mem_iff_getElem.1 hxm
  rw [← wn_lt hq] at hqe
  have := key m.length (Nat.le_refl _) q hq (by rw [hqe]; exact hw)
  rw [hqe, List.take_length] at this
  unfold readyL
  rw [← hm]; exact this
theorem mem_ready (h : Cl l) {b : Int} {x : Wr} (hx : x ∈ l) (hn : hasN (readyL l b) x.num = true) : x ∈ readyL l b := by
  obtain ⟨z, hz, e⟩ := hasN_iff.1 hn
  have := asc_uniq h.asc ((readyL_subL l b).subset hz) hx e
  subst this; exact hz
theorem mark (h : Cl l) (i : Nat) : Cl (markL l (readyL l i)) := by
  refine ⟨asc_markL _ h.asc, ?_, ?_⟩
  · intro x hx d hd
    obtain ⟨y, hy, h1, h2, h3, _⟩ := mem_markL hx
    rw [h1]; rw [h3] at hd; exact h.dep y hy d hd
  · intro x' hx' hw z' hz' hd
    obtain ⟨x, hx, rfl⟩ := List.mem_map.1 hx'
    obtain ⟨z, hz, rfl⟩ := List.mem_map.1 hz'
    have en : ∀ y : Wr, (if hasN (readyL l i) y.num then y.done else y).num = y.num := fun y => by split <;> rfl
    have ep : ∀ y : Wr, (if hasN (readyL l i) y.num then y.done else y).p = y.p := fun y => by split <;> rfl
    have ea : ∀ y : Wr, (if hasN (readyL l i) y.num then y.done else y).ah = y.ah := fun y => by split <;> rfl
    rw [en, ea] at hd
    rw [ep, ep]
    by_cases hr : hasN (readyL l i) x.num = true
    · have hxr := h.mem_ready hx hr
      have hzr := ready_ok hxr hd (hasN_iff.2 ⟨z, hz, rfl⟩)
      rw [if_pos hzr]
      exact ⟨rfl, by rw [readyL_on hxr, readyL_on (h.mem_ready hz hzr)]⟩
    · rw [if_neg hr] at hw
      obtain ⟨h1, h2⟩ := h.cl x hx hw z hz hd
      refine ⟨?_, h2⟩
      split
      · rfl
      · exact h1
theorem left (h : Cl l) : Cl (leftL l) :=
  ⟨h.asc.sub (leftL_sub l), fun x hx => h.dep x ((leftL_sub l).subset hx), fun x hx hw => by
    have := (List.mem_filter.1 hx).2
    rw [hw] at this; cases this⟩
end Cl
/-- number n waits and was written -/
def hasW (l : List Wr) (n : Int) : Bool := l.any fun x => x.num == n && x.wr
theorem hasW_iff {l : List Wr} {n : Int} : hasW l n = true ↔ ∃ x ∈ l, x.num = n ∧ x.wr = true := by simp [hasW]
theorem hasW_hasN {l : List Wr} {n : Int} (h : hasW l n = true) : hasN l n = true := by
  obtain ⟨x, hx, e, _⟩ := hasW_iff.1 h
  exact hasN_iff.2 ⟨x, hx, e⟩
theorem hasN_left {l : List Wr} (ha : Asc l) (n : Int) : hasN (leftL l) n = (hasN l n && !hasW l n) := by
  rw [Bool.eq_iff_iff, Bool.and_eq_true, hasN_iff, hasN_iff]
  constructor
  · rintro ⟨x, hx, e⟩
    obtain ⟨h1, h2⟩ := List.mem_filter.1 hx
    refine ⟨⟨x, h1, e⟩, ?_⟩
    cases hw : hasW l n with
    | false => rfl
    | true =>
      obtain ⟨y, hy, e2, e3⟩ := hasW_iff.1 hw
      have := asc_uniq ha h1 hy (by omega)
      subst this
      rw [e3] at h2; cases h2
  · rintro ⟨⟨x, hx, e⟩, h2⟩
    refine ⟨x, List.mem_filter.2 ⟨hx, ?_⟩, e⟩
    cases hw : x.wr with
    | false => rfl
    | true =>
      have : hasW l n = true := hasW_iff.2 ⟨x, hx, e, hw⟩
      rw [this] at h2; cases h2
theorem hasW_left (l : List Wr) (n : Int) : hasW (leftL l) n = false := by
  cases hw : hasW (leftL l) n with
  | false => rfl
  | true =>
    obtain ⟨x, hx, _, e⟩ := hasW_iff.1 hw
    have := (List.mem_filter.1 hx).2
    rw [e] at this; cases this
theorem hasW_mark (l s : List Wr) (n : Int) : hasW (markL l s) n = (hasW l n || (hasN l n && hasN s n)) := by
  rw [Bool.eq_iff_iff, Bool.or_eq_true, Bool.and_eq_true, hasW_iff, hasW_iff, hasN_iff]
  constructor
  · rintro ⟨x, hx, e, hw⟩
    obtain ⟨y, hy, rfl⟩ := List.mem_map.1 hx
    by_cases hs : hasN s y.num = true
    · rw [if_pos hs] at e
      have e' : y.num = n := e
      exact .inr ⟨⟨y, hy, e'⟩, by rw [← e']; exact hs⟩
    · rw [if_neg hs] at e hw
      exact .inl ⟨y, hy, e, hw⟩
  · rintro (⟨x, hx, e, hw⟩ | ⟨⟨x, hx, e⟩, hs⟩)
    · refine ⟨_, List.mem_map.2 ⟨x, hx, rfl⟩, ?_, ?_⟩ <;> split
      · exact e
      · exact e
      · rfl
      · exact hw
    · refine ⟨_, List.mem_map.2 ⟨x, hx, rfl⟩, ?_, ?_⟩
      · split <;> exact e
      · rw [if_pos (by rw [e]; exact hs)]; rfl
/-- such bytes as block b can have: what lasts, and a set that is closed over it -/
def Vers (P : Nat → Pt) (D : Nat → List Nat) (m : Nat) (l : List Wr) (b : Nat) (V : List Int) : Prop :=
  ∃ R : Nat → Bool, V = mkI P (fun k => !hasN l (k : Int) || R k) m b ∧ ∀ k, R k = true → (P k).b = (b : Int) ∧ ∀ d ∈ D k, hasN l (d : Int) = false ∨ R d = true
structure VS (P : Nat → Pt) (D : Nat → List Nat) (m : Nat) (S : Nat → Bk) (l : List Wr) : Prop where
  mark : Marked P m
  ov : ∀ x y, x < y → y < m → (P x).b = (P y).b → ∀ q, cov (P x) q → cov (P y) q → x ∈ D y
  cl : Cl l
  num : ∀ x ∈ l, ∃ k, k < m ∧ x.num = (k : Int) ∧ x.p = P k
  ah : ∀ x ∈ l, ∀ k : Nat, x.num = (k : Int) → ∀ d ∈ D k, hasN l (d : Int) = true → (d : Int) ∈ x.ah
  cw : ∀ k, k < m → hasN l (k : Int) = false → ∀ d ∈ D k, hasN l (d : Int) = false
  s : ∀ b, (S b).s = mkI P (fun k => !hasN l (k : Int)) m b
  v : ∀ b, ∀ V ∈ (S b).v, Vers P D m l b V
  now : ∀ b, (S b).now = mkI P (fun k => !hasN l (k : Int) || hasW l (k : Int)) m b
namespace VS
variable {P : Nat → Pt} {D : Nat → List Nat} {m : Nat} {S : Nat → Bk} {l : List Wr}
theorem vers_s (h : VS P D m S l) (b : Nat) : Vers P D m l b (S b).s :=
  ⟨fun _ => false, by rw [h.s b]; exact mkI_same fun k _ _ => by simp, fun k hk => by cases hk⟩
/-- what a crash leaves -/
theorem crash (h : VS P D m S l) (n : Nat) (pick : List Int) : ∃ T : Nat → Bool, (∀ b, (crashed n S pick b).s = mkI P T m b) ∧ ClosedT D m T ∧ ∀ k : Nat, hasN l (k : Int) = false → T k = true := by
  have hv : ∀ b, Vers P D m l b (crashed n S pick b).s := fun b => by
    unfold crashed Bk.left
    dsimp only
    cases hp : (pick[(waits n S).idxOf b]?).bind (pickAt (S b).v) with
    | none => exact h.vers_s b
    | some V =>
      obtain ⟨p, _, hq⟩ := Option.bind_eq_some_iff.1 hp
      unfold pickAt at hq
      split at hq
      · exact h.v b V (List.mem_of_getElem? hq)
      · cases hq
  obtain ⟨R, hR⟩ : ∃ R : Nat → Nat → Bool, ∀ b, (crashed n S pick b).s = mkI P (fun k => !hasN l (k : Int) || R b k) m b ∧ ∀ k, R b k = true → (P k).b = (b : Int) ∧ ∀ d ∈ D k, hasN l (d : Int) = false ∨ R b d = true :=
    ⟨fun b => (hv b).choose, fun b => (hv b).choose_spec⟩
  refine ⟨fun k => !hasN l (k : Int) || R (P k).b.toNat k, fun b => ?_, fun y hy ht d hd => ?_, fun k hk => by simp [hk]⟩
  · rw [(hR b).1]
    refine mkI_same fun k _ hk => ?_
    rw [hk, Int.toNat_natCast]
  · dsimp only at ht ⊢
    cases hn : hasN l (d : Int) with
    | false => rfl
    | true =>
      simp only [Bool.not_true, Bool.false_or]
      cases hy2 : hasN l (y : Int) with
      | false =>
        have := h.cw y hy hy2 d hd
        rw [this] at hn; cases hn
      | true =>
        rw [hy2] at ht
        simp only [Bool.not_true, Bool.false_or] at ht
        obtain ⟨h1, h2⟩ := (hR (P y).b.toNat).2 y ht
        rcases h2 d hd with q | q
        · rw [q] at hn; cases hn
        · obtain ⟨h3, _⟩ := (hR (P y).b.toNat).2 d q
          rw [h3, Int.toNat_natCast]; exact q
theorem flush (h : VS P D m S l) : VS P D m (fun j => (S j).flushed) (leftL l) := by
  have hs : ∀ b, ((S b).flushed).s = mkI P (fun k => !hasN (leftL l) (k : Int)) m b := fun b => by
    show (S b).now = _
    rw [h.now b]
    refine mkI_same fun k _ _ => ?_
    rw [hasN_left h.cl.asc]
    cases hasN l (k : Int) <;> cases hasW l (k : Int) <;> rfl
  refine ⟨h.mark, h.ov, h.cl.left, fun x hx => h.num x ((leftL_sub l).subset hx), fun x hx k hk d hd hn => h.ah x ((leftL_sub l).subset hx) k hk d hd (hasN_leftL hn), fun k hk hn d hd => ?_, hs, (fun b V hV => by cases hV), fun b => ?_⟩
  · rw [hasN_left h.cl.asc] at hn ⊢
    cases h1 : hasN l (k : Int) with
    | false => rw [h.cw k hk h1 d hd]; rfl
    | true =>
      rw [h1] at hn
      have hw : hasW l (k : Int) = true := by simpa using hn
      cases h2 : hasN l (d : Int) with
      | false => rfl
      | true =>
        obtain ⟨x, hx, e, hxw⟩ := hasW_iff.1 hw
        have := h.ah x hx k e d hd h2
        obtain ⟨z, hz, ez⟩ := hasN_iff.1 h2
        obtain ⟨h3, _⟩ := h.cl.cl x hx hxw z hz (by rw [ez]; exact this)
        have : hasW l (d : Int) = true := hasW_iff.2 ⟨z, hz, ez, h3⟩
        rw [this]; rfl
  · show (S b).now = _
    have := hs b
    rw [show ((S b).flushed).s = (S b).now from rfl] at this
    rw [this]
    refine mkI_same fun k _ _ => ?_
    rw [hasW_left]; simp
/-- a Write -/
theorem write (h : VS P D m S l) (i : Nat) : VS P D m (wrS S l i) (wrL S l i) := by
  unfold wrS wrL
  cases hg : wgo S l i with
  | false => simpa using h
  | true =>
    rw [if_pos rfl, if_pos rfl]
    have hV : putL (S i).s (readyL l (i : Int)) = mkI P (fun k => !hasN l (k : Int) || hasN (readyL l (i : Int)) (k : Int)) m i := by
      rw [h.s i]
      refine mkI_put h.mark _ _ (h.cl.asc.sub (readyL_subL l i)) fun x hx => ?_
      have hxl := (readyL_subL l (i : Int)).subset hx
      obtain ⟨k, hk, e1, e2⟩ := h.num x hxl
      have hb : (P k).b = (i : Int) := by rw [← e2]; exact readyL_on hx
      refine ⟨k, hk, e1, e2, hb, fun j h1 h2 h3 h4 q h5 h6 => ?_⟩
      have hd := h.ov k j h1 h2 (by rw [hb, h4]) q h5 h6
      have h3' : hasN l (j : Int) = false := by simpa using h3
      have := h.cw j h2 h3' k hd
      rw [hasN_iff.2 ⟨x, hxl, e1⟩] at this; cases this
    have hblk : ∀ k : Nat, hasN (readyL l (i : Int)) (k : Int) = true → (P k).b = (i : Int) := fun k hk => by
      obtain ⟨x, hx, e⟩ := hasN_iff.1 hk
      obtain ⟨k2, _, e1, e2⟩ := h.num x ((readyL_subL l (i : Int)).subset hx)
      have : k2 = k := by omega
      subst this
      rw [← e2]; exact readyL_on hx
    refine ⟨h.mark, h.ov, h.cl.mark i, fun x hx => ?_, fun x hx k hk d hd hn => ?_, fun k hk hn d hd => ?_, fun b => ?_, fun b V hV' => ?_, fun b => ?_⟩
    · obtain ⟨y, hy, h1, h2, _⟩ := mem_markL hx
      rw [h1, h2]; exact h.num y hy
    · obtain ⟨y, hy, h1, h2, h3, _⟩ := mem_markL hx
      rw [h3]
      rw [hasN_markL] at hn
      exact h.ah y hy k (by rw [← h1]; exact hk) d hd hn
    · rw [hasN_markL] at hn ⊢
      exact h.cw k hk hn d hd
    · have e : (upd S i ⟨(S i).s, (S i).v ++ [putL (S i).s (readyL l (i : Int))], (S i).b⟩ b).s = (S b).s := by
        by_cases e : b = i
        · subst e; rw [upd_same]
        · rw [upd_other _ _ e]
      rw [e, h.s b]
      exact mkI_same fun k _ _ => by rw [hasN_markL]
    · have hold : ∀ V, Vers P D m l b V → Vers P D m (markL l (readyL l (i : Int))) b V := fun V hv => by
        obtain ⟨R, h1, h2⟩ := hv
        exact ⟨R, by rw [h1]; exact mkI_same (fun k _ _ => by rw [hasN_markL]), fun k hk => ⟨(h2 k hk).1, fun d hd => by rw [hasN_markL]; exact (h2 k hk).2 d hd⟩⟩
      refine hold V ?_
      by_cases e : b = i
      · subst e
        rw [upd_same] at hV'
        rcases List.mem_append.1 hV' with q | q
        · exact h.v b V q
        · rw [List.mem_singleton] at q
          rw [q, hV]
          refine ⟨_, rfl, fun k hk => ⟨hblk k hk, fun d hd => ?_⟩⟩
          cases hn : hasN l (d : Int) with
          | false => exact .inl rfl
          | true =>
            obtain ⟨x, hx, ex⟩ := hasN_iff.1 hk
            exact .inr (ready_ok hx (h.ah x ((readyL_subL l (b : Int)).subset hx) k ex d hd hn) hn)
      · rw [upd_other _ _ e] at hV'
        exact h.v b V hV'
    · by_cases e : b = i
      · subst e
        have e1 : (upd S b ⟨(S b).s, (S b).v ++ [putL (S b).s (readyL l (b : Int))], (S b).b⟩ b).now = putL (S b).s (readyL l (b : Int)) := by
          rw [upd_same]; unfold Bk.now; simp
        rw [e1, hV]
        refine mkI_same fun k hk hkb => ?_
        rw [hasN_markL, hasW_mark]
        cases hn : hasN l (k : Int) with
        | false => rfl
        | true =>
          simp only [Bool.not_true, Bool.false_or, Bool.true_and]
          cases hw : hasW l (k : Int) with
          | false => rfl
          | true =>
            obtain ⟨x, hx, e2, e3⟩ := hasW_iff.1 hw
            obtain ⟨k2, _, e4, e5⟩ := h.num x hx
            have : k2 = k := by omega
            subst this
            have hr := h.cl.wr_ready hx e3
            rw [e5, hkb] at hr
            rw [hasN_iff.2 ⟨x, hr, e2⟩]; rfl
      · rw [upd_other _ _ e, h.now b]
        refine mkI_same fun k hk hkb => ?_
        rw [hasN_markL, hasW_mark]
        have : hasN (readyL l (i : Int)) (k : Int) = false := by
          cases hr : hasN (readyL l (i : Int)) (k : Int) with
          | false => rfl
          | true => have := hblk k hr; omega
        rw [this, Bool.and_false, Bool.or_false]
end VS
end Go.Proofs.Ytegacggkdjgdiaa
