/- Groups, plain: what each call answers, what holds behind any deeds. No program is imported. -/
import Derived.Test.YtdndchoghhllmaaA
set_option linter.unusedVariables false
set_option linter.unusedSimpArgs false
namespace Go.Proofs.Ytdndchoghhllmaa

theorem isN_iff {n : Int} {g : Gp} : isN n g = true ↔ g.n = n := by unfold isN; simp
theorem ofN_in {l : List Gp} {n : Int} (h : n ∈ nos l) : ofN l n ∈ l ∧ (ofN l n).n = n := by
  unfold ofN
  cases hf : l.find? (isN n) with
  | none =>
    obtain ⟨g, hg, e⟩ := List.mem_map.1 h
    have := List.find?_eq_none.1 hf g hg
    exact absurd (isN_iff.2 e) this
  | some g => exact ⟨List.mem_of_find?_eq_some hf, isN_iff.1 (List.find?_some hf)⟩
theorem ofN_out {l : List Gp} {n : Int} (h : n ∉ nos l) : ofN l n = ⟨0, 0, [], []⟩ := by
  unfold ofN
  rw [List.find?_eq_none.2 fun g hg e => h (List.mem_map.2 ⟨g, hg, isN_iff.1 e⟩)]
  rfl
theorem in_nos {l : List Gp} {g : Gp} (h : g ∈ l) : g.n ∈ nos l := List.mem_map.2 ⟨g, h, rfl⟩
/-- numbers told apart: a group is that of its number -/
theorem ofN_self {l : List Gp} (hn : (nos l).Nodup) {g : Gp} (h : g ∈ l) : ofN l g.n = g := by
  induction l with
  | nil => cases h
  | cons b r ih =>
    obtain ⟨n1, n2⟩ := List.nodup_cons.1 (show (b.n :: nos r).Nodup from hn)
    rcases List.mem_cons.1 h with e | e
    · subst e
      unfold ofN
      rw [List.find?_cons_of_pos (isN_iff.2 rfl)]
      rfl
    · have hne : b.n ≠ g.n := fun q => n1 (by rw [q]; exact in_nos e)
      have := ih n2 e
      unfold ofN at this ⊢
      rw [List.find?_cons_of_neg (fun q => hne (isN_iff.1 q))]
      exact this
theorem nos_put {l : List Gp} {n : Int} {f : Gp → Gp} (hf : ∀ g, (f g).n = g.n) : nos (putN l n f) = nos l := by
  unfold nos putN
  rw [List.map_map]
  congr 1
  funext g
  show (if g.n = n then f g else g).n = g.n
  split
  · exact hf g
  · rfl
theorem mem_put {l : List Gp} {n : Int} {f : Gp → Gp} {g : Gp} (h : g ∈ putN l n f) : ∃ b ∈ l, g = if b.n = n then f b else b := by
  obtain ⟨b, hb, e⟩ := List.mem_map.1 h
  exact ⟨b, hb, e.symm⟩
theorem put_of {l : List Gp} (hn : (nos l).Nodup) {n : Int} {f : Gp → Gp} (hf : ∀ g, (f g).n = g.n) {m : Int} (hm : m ∈ nos l) : ofN (putN l n f) m = if m = n then f (ofN l m) else ofN l m := by
  obtain ⟨h1, h2⟩ := ofN_in hm
  have h3 : (if (ofN l m).n = n then f (ofN l m) else ofN l m) ∈ putN l n f := List.mem_map.2 ⟨_, h1, rfl⟩
  have h4 : (if (ofN l m).n = n then f (ofN l m) else ofN l m).n = m := by
    split
    · rw [hf, h2]
    · exact h2
  have := ofN_self (by rw [nos_put hf]; exact hn) h3
  rw [h4] at this
  rw [this, h2]

namespace Gs
def makeE (x : Gs) : Int := if 8 ≤ x.l.length then 11 else 0
def make (x : Gs) : Gs := ⟨x.l ++ [⟨x.k, 1, [], []⟩], x.k + 1⟩
def dependE (x : Gs) (n m : Int) : Int := if ¬ (n ∈ nos x.l ∧ m ∈ nos x.l) then 5 else if (ofN x.l n).s ≠ 1 ∨ (ofN x.l m).s ≠ 4 then 13 else 0
def depend (x : Gs) (n m : Int) : Gs := { x with l := putN x.l n fun g => { g with a := g.a ++ [m] } }
def turnE (x : Gs) (n : Int) (a b : Nat) : Int := if n ∉ nos x.l then 5 else if (ofN x.l n).s ≠ a ∧ (ofN x.l n).s ≠ b then 13 else 0
def turn (x : Gs) (n : Int) (t : Nat) : Gs := { x with l := putN x.l n fun g => { g with s := t } }
def abandonE (x : Gs) (n : Int) : Int := if n ∉ nos x.l then 5 else if (ofN x.l n).s = 2 then 13 else if x.l.any (fun g => decide (n ∈ g.a)) = true then 12 else 0
theorem any_ahead {x : Gs} {n : Int} : x.l.any (fun g => decide (n ∈ g.a)) = true ↔ ∃ g ∈ x.l, n ∈ g.a := by simp [List.any_eq_true]
def abandon (x : Gs) (n : Int) : Gs := { x with l := x.l.filter fun g => !(isN n g) }
def took (x : Gs) (y : Int) : Gs := { x with l := x.l.map fun g => if g.s = 2 then { g with p := withI g.p y } else g }
def engaged (x : Gs) : List Int := nos (x.l.filter fun g => decide (g.s = 2))
/-- what the document's Behind answers -/
def behind (x : Gs) : List Int := (x.engaged.flatMap fun n => aheadR x.l n).foldl (fun r m => withL r (ofN x.l m).p) []
/-- what holds behind at most c deeds -/
structure Ok (c : Nat) (x : Gs) : Prop where
  len : x.l.length ≤ 8
  k0 : 1 ≤ x.k
  k1 : x.k ≤ 1 + (c : Int)
  rise : Rises (nos x.l)
  rng : ∀ g ∈ x.l, 1 ≤ g.n ∧ g.n < x.k
  st : ∀ g ∈ x.l, 1 ≤ g.s ∧ g.s ≤ 4
  pr : ∀ g ∈ x.l, Rises g.p ∧ g.p.length ≤ c ∧ ∀ y ∈ g.p, 0 ≤ y
  al : ∀ g ∈ x.l, g.a.length ≤ c ∧ ∀ y ∈ g.a, y ∈ nos x.l ∧ (ofN x.l y).s = 4
  rk : ∃ r : Int → Nat, ∀ g ∈ x.l, ∀ y ∈ g.a, r y < r g.n
theorem Ok.nd {c : Nat} {x : Gs} (h : Ok c x) : (nos x.l).Nodup := rises_nodup h.rise
theorem Ok.more {c d : Nat} {x : Gs} (h : Ok c x) (hd : c ≤ d) : Ok d x :=
  ⟨h.len, h.k0, by have := h.k1; omega, h.rise, h.rng, h.st, fun g hg => by obtain ⟨a, b, e⟩ := h.pr g hg; exact ⟨a, by omega, e⟩, fun g hg => by obtain ⟨a, b⟩ := h.al g hg; exact ⟨by omega, b⟩, h.rk⟩
theorem ok_none : Ok 0 ⟨[], 1⟩ := by
  refine ⟨Nat.zero_le _, by decide, by decide, List.Pairwise.nil, ?_, ?_, ?_, ?_, fun _ => 0, ?_⟩ <;> (intro g hg; cases hg)
theorem Ok.hin {c : Nat} {x : Gs} (h : Ok c x) : ∀ n, ∀ y ∈ (ofN x.l n).a, y ∈ nos x.l := by
  intro n y hy
  by_cases hn : n ∈ nos x.l
  · exact ((h.al _ (ofN_in hn).1).2 y hy).1
  · rw [ofN_out hn] at hy; cases hy
/-- no group comes behind itself -/
theorem Ok.far {c : Nat} {x : Gs} (h : Ok c x) : ∃ r : Int → Nat, ∀ n m, Far x.l n m → r m < r n := by
  obtain ⟨r, hr⟩ := h.rk
  have one : ∀ n m, m ∈ (ofN x.l n).a → r m < r n := fun n m hm => by
    by_cases hn : n ∈ nos x.l
    · obtain ⟨h1, h2⟩ := ofN_in hn
      have := hr _ h1 m hm
      rwa [h2] at this
    · rw [ofN_out hn] at hm; cases hm
  refine ⟨r, fun n m hf => ?_⟩
  induction hf with
  | one h => exact one _ _ h
  | step h _ ih => exact Nat.lt_trans ih (one _ _ h)
theorem Ok.not_self {c : Nat} {x : Gs} (h : Ok c x) {n : Int} : ¬ Far x.l n n := fun q => by
  obtain ⟨r, hr⟩ := h.far
  exact Nat.lt_irrefl _ (hr n n q)
theorem Ok.not_both {c : Nat} {x : Gs} (h : Ok c x) {n m : Int} (h1 : Far x.l n m) : ¬ Far x.l m n := fun q => h.not_self (h1.trans q)
theorem Ok.make {c : Nat} {x : Gs} (h : Ok c x) (he : x.makeE = 0) : Ok (c + 1) x.make := by
  have hl : x.l.length < 8 := by unfold makeE at he; by_cases q : 8 ≤ x.l.length; rw [if_pos q] at he; cases he; omega
  have hno : x.k ∉ nos x.l := fun q => by
    obtain ⟨g, hg, e⟩ := List.mem_map.1 q
    have := (h.rng g hg).2
    omega
  have hnos : nos x.make.l = nos x.l ++ [x.k] := by simp [Gs.make, nos]
  have hof : ∀ y ∈ nos x.l, ofN x.make.l y = ofN x.l y := fun y hy => by
    obtain ⟨h1, h2⟩ := ofN_in hy
    have hnd : (nos x.make.l).Nodup := by
      rw [hnos]
      exact List.nodup_append.2 ⟨h.nd, by simp, fun a ha b hb e => hno (by rw [List.mem_singleton] at hb; rw [← hb, ← e]; exact ha)⟩
    have := ofN_self hnd (List.mem_append_left _ h1 : ofN x.l y ∈ x.make.l)
    rwa [h2] at this
  have hcase : ∀ g ∈ x.make.l, g ∈ x.l ∨ g = ⟨x.k, 1, [], []⟩ := fun g hg => by
    rcases List.mem_append.1 hg with q | q
    · exact .inl q
    · exact .inr (List.mem_singleton.1 q)
  obtain ⟨r, hr⟩ := h.rk
  refine ⟨by show (x.l ++ [_]).length ≤ 8; rw [List.length_append]; simp; omega, by have := h.k0; show 1 ≤ x.k + 1; omega, by have := h.k1; show x.k + 1 ≤ _; omega, ?_, fun g hg => ?_, fun g hg => ?_, fun g hg => ?_, fun g hg => ?_, r, fun g hg => ?_⟩
  · rw [hnos]
    refine List.pairwise_append.2 ⟨h.rise, List.pairwise_singleton _ _, fun a ha b hb => ?_⟩
    rw [List.mem_singleton] at hb
    obtain ⟨g, hg, e⟩ := List.mem_map.1 ha
    have := (h.rng g hg).2
    omega
  · show 1 ≤ g.n ∧ g.n < x.k + 1
    rcases hcase g hg with q | q
    · have := h.rng g q; omega
    · have := h.k0; rw [q]; show 1 ≤ x.k ∧ x.k < x.k + 1; omega
  · rcases hcase g hg with q | q
    · exact h.st g q
    · rw [q]; show 1 ≤ 1 ∧ 1 ≤ 4; omega
  · rcases hcase g hg with q | q
    · obtain ⟨a, b, e⟩ := h.pr g q; exact ⟨a, by omega, e⟩
    · rw [q]; exact ⟨List.Pairwise.nil, Nat.zero_le _, fun y hy => by cases hy⟩
  · rcases hcase g hg with q | q
    · obtain ⟨a, b⟩ := h.al g q
      refine ⟨by omega, fun y hy => ?_⟩
      obtain ⟨b1, b2⟩ := b y hy
      exact ⟨by rw [hnos]; exact List.mem_append_left _ b1, by rw [hof y b1]; exact b2⟩
    · rw [q]; exact ⟨Nat.zero_le _, fun y hy => by cases hy⟩
  · rcases hcase g hg with q | q
    · exact hr g q
    · rw [q]; intro y hy; cases hy
theorem Ok.turn {c : Nat} {x : Gs} (h : Ok c x) {n : Int} {t : Nat} (h0 : 1 ≤ t) (h1 : t ≤ 4) (hs : n ∈ nos x.l → (ofN x.l n).s ≠ 4) : Ok c (x.turn n t) := by
  have hf : ∀ g : Gp, ({ g with s := t } : Gp).n = g.n := fun _ => rfl
  have hnos : nos (x.turn n t).l = nos x.l := nos_put hf
  refine ⟨by show (putN _ _ _).length ≤ 8; unfold putN; rw [List.length_map]; exact h.len, h.k0, h.k1, by rw [hnos]; exact h.rise, fun g hg => ?_, fun g hg => ?_, fun g hg => ?_, fun g hg => ?_, ?_⟩
  · obtain ⟨b, hb, e⟩ := mem_put hg
    have := h.rng b hb
    rw [e]; split <;> exact this
  · obtain ⟨b, hb, e⟩ := mem_put hg
    have := h.st b hb
    rw [e]; split
    · exact ⟨h0, h1⟩
    · exact this
  · obtain ⟨b, hb, e⟩ := mem_put hg
    have := h.pr b hb
    rw [e]; split <;> exact this
  · obtain ⟨b, hb, e⟩ := mem_put hg
    have ha : g.a = b.a := by rw [e]; split <;> rfl
    rw [ha]
    obtain ⟨a1, a2⟩ := h.al b hb
    refine ⟨a1, fun y hy => ?_⟩
    obtain ⟨b1, b2⟩ := a2 y hy
    refine ⟨by rw [hnos]; exact b1, ?_⟩
    show (ofN (putN x.l n _) y).s = 4
    rw [put_of h.nd hf b1, if_neg (fun q => hs (by rw [← q]; exact b1) (by rw [← q]; exact b2))]
    exact b2
  · obtain ⟨r, hr⟩ := h.rk
    refine ⟨r, fun g hg => ?_⟩
    obtain ⟨b, hb, e⟩ := mem_put hg
    have ha : g.a = b.a := by rw [e]; split <;> rfl
    have hn : g.n = b.n := by rw [e]; split <;> rfl
    rw [ha, hn]
    exact hr b hb
theorem Ok.depend {c : Nat} {x : Gs} (h : Ok c x) {n m : Int} (he : x.dependE n m = 0) : Ok (c + 1) (x.depend n m) := by
  have hc : (n ∈ nos x.l ∧ m ∈ nos x.l) ∧ (ofN x.l n).s = 1 ∧ (ofN x.l m).s = 4 := by
    unfold dependE at he
    by_cases q : n ∈ nos x.l ∧ m ∈ nos x.l
    · rw [if_neg (fun z => z q)] at he
      by_cases q2 : (ofN x.l n).s ≠ 1 ∨ (ofN x.l m).s ≠ 4
      · rw [if_pos q2] at he; cases he
      · exact ⟨q, by omega, by omega⟩
    · rw [if_pos q] at he; cases he
  obtain ⟨⟨hn, hm⟩, s1, s4⟩ := hc
  have hf : ∀ g : Gp, ({ g with a := g.a ++ [m] } : Gp).n = g.n := fun _ => rfl
  have hnos : nos (x.depend n m).l = nos x.l := nos_put hf
  have hst : ∀ y ∈ nos x.l, (ofN (x.depend n m).l y).s = (ofN x.l y).s := fun y hy => by
    show (ofN (putN x.l n _) y).s = _
    rw [put_of h.nd hf hy]
    split <;> rfl
  refine ⟨by show (putN _ _ _).length ≤ 8; unfold putN; rw [List.length_map]; exact h.len, h.k0, by have := h.k1; show x.k ≤ _; omega, by rw [hnos]; exact h.rise, fun g hg => ?_, fun g hg => ?_, fun g hg => ?_, fun g hg => ?_, ?_⟩
  · obtain ⟨b, hb, e⟩ := mem_put hg
    have := h.rng b hb
    rw [e]; split <;> exact this
  · obtain ⟨b, hb, e⟩ := mem_put hg
    have := h.st b hb
    rw [e]; split <;> exact this
  · obtain ⟨b, hb, e⟩ := mem_put hg
    obtain ⟨p1, p2, p3⟩ := h.pr b hb
    have hp : g.p = b.p := by rw [e]; split <;> rfl
    rw [hp]
    exact ⟨p1, by omega, p3⟩
  · obtain ⟨b, hb, e⟩ := mem_put hg
    obtain ⟨a1, a2⟩ := h.al b hb
    have hal : g.a.length ≤ c + 1 ∧ ∀ y ∈ g.a, y ∈ b.a ∨ y = m := by
      rw [e]; split
      · refine ⟨by show (b.a ++ [m]).length ≤ _; rw [List.length_append]; simp; omega, fun y hy => ?_⟩
        rcases List.mem_append.1 hy with q | q
        · exact .inl q
        · exact .inr (List.mem_singleton.1 q)
      · exact ⟨by omega, fun y hy => .inl hy⟩
    refine ⟨hal.1, fun y hy => ?_⟩
    have hy2 : y ∈ nos x.l ∧ (ofN x.l y).s = 4 := by
      rcases hal.2 y hy with q | q
      · exact a2 y q
      · rw [q]; exact ⟨hm, s4⟩
    exact ⟨by rw [hnos]; exact hy2.1, by rw [hst y hy2.1]; exact hy2.2⟩
  · obtain ⟨r, hr⟩ := h.rk
    have hnot : ∀ g ∈ x.l, n ∉ g.a := fun g hg q => by
      have := ((h.al g hg).2 n q).2
      omega
    refine ⟨fun y => if y = n then r m + r n + 1 else r y, fun g hg y hy => ?_⟩
    obtain ⟨b, hb, e⟩ := mem_put hg
    have hgn : g.n = b.n := by rw [e]; split <;> rfl
    by_cases hbn : b.n = n
    · rw [if_pos hbn] at e
      have hya : y ∈ b.a ∨ y = m := by
        rw [e] at hy
        rcases List.mem_append.1 hy with q | q
        · exact .inl q
        · exact .inr (List.mem_singleton.1 q)
      have hyn : y ≠ n := fun q => by
        rcases hya with z | z
        · exact hnot b hb (by rw [← q]; exact z)
        · rw [← q, z] at s1; omega
      simp only [if_neg hyn, hgn, if_pos hbn]
      rcases hya with z | z
      · have := hr b hb y z
        rw [hbn] at this
        omega
      · rw [z]; omega
    · rw [if_neg hbn] at e
      rw [e] at hy
      have hyn : y ≠ n := fun q => hnot b hb (by rw [← q]; exact hy)
      simp only [if_neg hyn, hgn, if_neg hbn]
      exact hr b hb y hy
theorem Ok.abandon {c : Nat} {x : Gs} (h : Ok c x) {n : Int} (hno : ¬ ∃ g ∈ x.l, n ∈ g.a) : Ok c (x.abandon n) := by
  have hsub : ∀ g ∈ (x.abandon n).l, g ∈ x.l ∧ g.n ≠ n := fun g hg => by
    obtain ⟨h1, h2⟩ := List.mem_filter.1 hg
    exact ⟨h1, fun q => by rw [isN_iff.2 q] at h2; cases h2⟩
  have hsl : List.Sublist (nos (x.abandon n).l) (nos x.l) := (List.filter_sublist).map _
  have hkeep : ∀ y ∈ nos x.l, y ≠ n → y ∈ nos (x.abandon n).l ∧ ofN (x.abandon n).l y = ofN x.l y := fun y hy hne => by
    obtain ⟨h1, h2⟩ := ofN_in hy
    have hin : ofN x.l y ∈ (x.abandon n).l := List.mem_filter.2 ⟨h1, by
      cases q : isN n (ofN x.l y) with
      | false => rfl
      | true => exact absurd (by rw [← h2]; exact isN_iff.1 q) hne⟩
    have := ofN_self (h.nd.sublist hsl) hin
    rw [h2] at this
    exact ⟨by rw [← h2]; exact in_nos hin, this⟩
  obtain ⟨r, hr⟩ := h.rk
  refine ⟨Nat.le_trans (List.length_filter_le _ _) h.len, h.k0, h.k1, List.Pairwise.sublist hsl h.rise, fun g hg => h.rng g (hsub g hg).1, fun g hg => h.st g (hsub g hg).1, fun g hg => h.pr g (hsub g hg).1, fun g hg => ?_, r, fun g hg => hr g (hsub g hg).1⟩
  obtain ⟨a1, a2⟩ := h.al g (hsub g hg).1
  refine ⟨a1, fun y hy => ?_⟩
  obtain ⟨b1, b2⟩ := a2 y hy
  obtain ⟨k1, k2⟩ := hkeep y b1 (fun q => hno ⟨g, (hsub g hg).1, by rw [← q]; exact hy⟩)
  exact ⟨k1, by rw [k2]; exact b2⟩
theorem with_len (l : List Int) (n : Int) : (withI l n).length ≤ l.length + 1 := by
  induction l with
  | nil => exact Nat.le_refl _
  | cons b r ih =>
    unfold withI
    split
    · exact Nat.le_refl _
    · split
      · simp
      · simp only [List.length_cons]; omega
theorem Ok.took {c : Nat} {x : Gs} (h : Ok c x) {y : Int} (hy : 0 ≤ y) : Ok (c + 1) (x.took y) := by
  have hmem : ∀ g ∈ (x.took y).l, ∃ b ∈ x.l, g.n = b.n ∧ g.s = b.s ∧ g.a = b.a ∧ (g.p = b.p ∨ g.p = withI b.p y) := fun g hg => by
    obtain ⟨b, hb, e⟩ := List.mem_map.1 hg
    refine ⟨b, hb, ?_⟩
    rw [← e]
    split
    · exact ⟨rfl, rfl, rfl, .inr rfl⟩
    · exact ⟨rfl, rfl, rfl, .inl rfl⟩
  have hnos : nos (x.took y).l = nos x.l := by
    show (List.map _ _).map _ = _
    rw [List.map_map]
    congr 1
    funext g
    show (if g.s = 2 then _ else g : Gp).n = g.n
    split <;> rfl
  have hof : ∀ m ∈ nos x.l, (ofN (x.took y).l m).s = (ofN x.l m).s := fun m hm => by
    obtain ⟨h1, h2⟩ := ofN_in (by rw [hnos]; exact hm : m ∈ nos (x.took y).l)
    obtain ⟨b, hb, e1, e2, _, _⟩ := hmem _ h1
    have := ofN_self h.nd hb
    rw [e2, ← this, ← e1, h2]
  obtain ⟨r, hr⟩ := h.rk
  refine ⟨by show (List.map _ _).length ≤ 8; rw [List.length_map]; exact h.len, h.k0, by have := h.k1; show x.k ≤ _; omega, by rw [hnos]; exact h.rise, fun g hg => ?_, fun g hg => ?_, fun g hg => ?_, fun g hg => ?_, r, fun g hg => ?_⟩
  · obtain ⟨b, hb, e1, e2, e3, e4⟩ := hmem g hg
    rw [e1]; exact h.rng b hb
  · obtain ⟨b, hb, e1, e2, e3, e4⟩ := hmem g hg
    rw [e2]; exact h.st b hb
  · obtain ⟨b, hb, e1, e2, e3, e4⟩ := hmem g hg
    obtain ⟨p1, p2, p3⟩ := h.pr b hb
    rcases e4 with e4 | e4
    · rw [e4]; exact ⟨p1, by omega, p3⟩
    · rw [e4]
      refine ⟨with_rises p1 y, by have := with_len b.p y; omega, fun z hz => ?_⟩
      rcases mem_with.1 hz with q | q
      · rw [q]; exact hy
      · exact p3 z q
  · obtain ⟨b, hb, e1, e2, e3, e4⟩ := hmem g hg
    obtain ⟨a1, a2⟩ := h.al b hb
    rw [e3]
    refine ⟨by omega, fun z hz => ?_⟩
    obtain ⟨b1, b2⟩ := a2 z hz
    exact ⟨by rw [hnos]; exact b1, by rw [hof z b1]; exact b2⟩
  · obtain ⟨b, hb, e1, e2, e3, e4⟩ := hmem g hg
    rw [e3, e1]
    exact hr b hb
theorem Ok.engaged_rises {c : Nat} {x : Gs} (h : Ok c x) : Rises x.engaged := List.Pairwise.sublist ((List.filter_sublist).map _) h.rise
theorem mem_engaged {x : Gs} {n : Int} : n ∈ x.engaged ↔ ∃ g ∈ x.l, g.n = n ∧ g.s = 2 := by
  unfold engaged nos
  rw [List.mem_map]
  constructor
  · rintro ⟨g, hg, e⟩
    obtain ⟨h1, h2⟩ := List.mem_filter.1 hg
    exact ⟨g, h1, e, of_decide_eq_true h2⟩
  · rintro ⟨g, hg, e, h2⟩
    exact ⟨g, List.mem_filter.2 ⟨hg, decide_eq_true h2⟩, e⟩
end Gs
end Go.Proofs.Ytdndchoghhllmaa
