/- What stays of a group that is released, whatever is done. -/
import Derived.Test.YtdndchoghhllmaaSG
set_option linter.unusedVariables false
set_option linter.unusedSimpArgs false
namespace Go.Proofs.Ytdndchoghhllmaa
open Go.RowKit
theorem far_to {l l0 : List Gp} {n y : Int} (h : Far l0 n y) : (∀ z, (z = n ∨ Far l0 n z) → ofN l z = ofN l0 z) → Far l n y := by
  induction h with
  | one h => intro hs; exact .one (by rw [hs _ (.inl rfl)]; exact h)
  | step h _ ih => intro hs; exact .step (by rw [hs _ (.inl rfl)]; exact h) (ih fun z hz => hs z (.inr (by rcases hz with e | e; rw [e]; exact .one h; exact .step h e)))
theorem far_from {l l0 : List Gp} {n y : Int} (h : Far l n y) : (∀ z, (z = n ∨ Far l0 n z) → ofN l z = ofN l0 z) → Far l0 n y := by
  induction h with
  | one h => intro hs; exact .one (by rw [← hs _ (.inl rfl)]; exact h)
  | step h _ ih =>
    intro hs
    have h' := h
    rw [hs _ (.inl rfl)] at h'
    exact .step h' (ih fun z hz => hs z (.inr (by rcases hz with e | e; rw [e]; exact .one h'; exact .step h' e)))
/-- n and all that it comes behind are as they were -/
def Kp (l0 l : List Gp) (n : Int) : Prop := n ∈ nos l ∧ ∀ z, (z = n ∨ Far l0 n z) → z ∈ nos l ∧ ofN l z = ofN l0 z
theorem Kp.far {l0 l : List Gp} {n y : Int} (h : Kp l0 l n) : Far l n y ↔ Far l0 n y :=
  ⟨fun q => far_from q fun z hz => (h.2 z hz).2, fun q => far_to q fun z hz => (h.2 z hz).2⟩
theorem Kp.ahead {c : Nat} {x : Gs} {l0 : List Gp} {n : Int} (h : Kp l0 x.l n) (hO : x.Ok c) (hin : ∀ n, ∀ y ∈ (ofN l0 n).a, y ∈ nos l0) : aheadR x.l n = aheadR l0 n :=
  rises_same (aheadR_rises _ _) (aheadR_rises _ _) fun y => by rw [mem_aheadR hO.hin, mem_aheadR hin, h.far]
theorem ofN_append {l : List Gp} {g : Gp} {z : Int} (h : z ∈ nos l) : ofN (l ++ [g]) z = ofN l z := by
  unfold ofN
  rw [List.find?_append]
  obtain ⟨q, hq, e⟩ := List.mem_map.1 h
  cases hf : l.find? (isN z) with
  | none => exact absurd (isN_iff.2 e) (by have := List.find?_eq_none.1 hf q hq; simpa using this)
  | some a => rfl
theorem ofN_filter {l : List Gp} {a z : Int} (h : z ≠ a) : ofN (l.filter fun g => !(isN a g)) z = ofN l z := by
  unfold ofN
  rw [List.find?_filter]
  congr 2
  funext g
  cases q : isN z g with
  | false => simp
  | true =>
    have : isN a g = false := by
      cases p : isN a g with
      | false => rfl
      | true => exact absurd ((isN_iff.1 q).symm.trans (isN_iff.1 p)) h
    simp [this]
theorem Kp.deed {c : Nat} {x : Gs} {l0 : List Gp} {n : Int} (h : Kp l0 x.l n) (hO : x.Ok c) (h4 : ∀ z, (z = n ∨ Far l0 n z) → (ofN l0 z).s = 4) (d : Dd) : Kp l0 (x.deed d).l n ∨ n ∉ nos (x.deed d).l := by
  have hs : ∀ z, (z = n ∨ Far l0 n z) → (ofN x.l z).s = 4 := fun z hz => by rw [(h.2 z hz).2]; exact h4 z hz
  have put : ∀ (a : Int) (f : Gp → Gp), (∀ g, (f g).n = g.n) → (a ∈ nos x.l → (ofN x.l a).s ≠ 4) → Kp l0 (putN x.l a f) n := fun a f hf ha => by
    refine ⟨by rw [nos_put hf]; exact h.1, fun z hz => ⟨by rw [nos_put hf]; exact (h.2 z hz).1, ?_⟩⟩
    have hzi := (h.2 z hz).1
    rw [put_of hO.nd hf hzi, if_neg, (h.2 z hz).2]
    intro e
    exact ha (by rw [← e]; exact hzi) (by rw [← e]; exact hs z hz)
  have tn : ∀ a (s1 s2 t : Nat), s1 ≠ 4 → s2 ≠ 4 → Kp l0 (x.tn0 a s1 s2 t).l n := fun a s1 s2 t h1 h2 => by
    unfold Gs.tn0
    split
    · rename_i e
      refine put a _ (fun _ => rfl) (fun ha q => ?_)
      unfold Gs.turnE at e
      rw [if_neg (fun z => z ha), if_pos ⟨by rw [q]; exact fun z => h1 z.symm, by rw [q]; exact fun z => h2 z.symm⟩] at e
      cases e
    · exact h
  unfold Gs.deed
  by_cases d0 : d.k = 0
  · rw [if_pos d0]
    left
    unfold Gs.mk0
    split
    · have hn : ∀ z, z ∈ nos x.l → z ∈ nos x.make.l := fun z hz => by unfold Gs.make nos; rw [List.map_append]; exact List.mem_append_left _ hz
      exact ⟨hn _ h.1, fun z hz => ⟨hn _ (h.2 z hz).1, (ofN_append (h.2 z hz).1).trans (h.2 z hz).2⟩⟩
    · exact h
  rw [if_neg d0]
  by_cases d1 : d.k = 1
  · rw [if_pos d1]
    left
    unfold Gs.dp0
    split
    · rename_i e
      refine put d.n _ (fun _ => rfl) (fun ha q => ?_)
      unfold Gs.dependE at e
      split at e
      · cases e
      · rw [if_pos (.inl (by rw [q]; decide))] at e; cases e
    · exact h
  rw [if_neg d1]
  by_cases d2 : d.k = 2
  · rw [if_pos d2]; exact .inl (tn _ _ _ _ (by decide) (by decide))
  rw [if_neg d2]
  by_cases d3 : d.k = 3
  · rw [if_pos d3]; exact .inl (tn _ _ _ _ (by decide) (by decide))
  rw [if_neg d3]
  by_cases d4 : d.k = 4
  · rw [if_pos d4]; exact .inl (tn _ _ _ _ (by decide) (by decide))
  rw [if_neg d4]
  by_cases d5 : d.k = 5
  · rw [if_pos d5]
    unfold Gs.ab0
    split
    · rename_i e
      by_cases en : d.n = n
      · right
        intro q
        obtain ⟨g, hg, e2⟩ := List.mem_map.1 q
        have := (List.mem_filter.1 hg).2
        rw [show isN d.n g = true from isN_iff.2 (by rw [e2, en])] at this
        cases this
      · left
        have hno : ∀ z, (z = n ∨ Far l0 n z) → z ≠ d.n := fun z hz => by
          rcases hz with e2 | e2
          · rw [e2]; exact fun q => en q.symm
          · intro q
            have hf := h.far.2 e2
            have last : ∀ {a b : Int}, Far x.l a b → ∃ m, b ∈ (ofN x.l m).a := fun hf => by
              induction hf with
              | one h => exact ⟨_, h⟩
              | step _ _ ih => exact ih
            obtain ⟨m, hm⟩ := last hf
            have hmi : m ∈ nos x.l := by
              by_cases hmi : m ∈ nos x.l
              · exact hmi
              · rw [ofN_out hmi] at hm; cases hm
            unfold Gs.abandonE at e
            split at e
            · cases e
            · split at e
              · cases e
              · rw [if_pos (Gs.any_ahead.2 ⟨_, (ofN_in hmi).1, by rw [← q]; exact hm⟩)] at e; cases e
        have keep : ∀ z, z ∈ nos x.l → z ≠ d.n → z ∈ nos (x.abandon d.n).l := fun z hz hne => by
          obtain ⟨g, hg, e2⟩ := List.mem_map.1 hz
          refine List.mem_map.2 ⟨g, List.mem_filter.2 ⟨hg, ?_⟩, e2⟩
          cases q : isN d.n g with
          | false => rfl
          | true => exact absurd (e2.symm.trans (isN_iff.1 q)) hne
        exact ⟨keep _ h.1 (hno _ (.inl rfl)), fun z hz => ⟨keep _ (h.2 z hz).1 (hno z hz), (ofN_filter (hno z hz)).trans (h.2 z hz).2⟩⟩
    · exact .inl h
  rw [if_neg d5]
  by_cases d6 : d.k = 6
  · rw [if_pos d6]
    left
    unfold Gs.tk0
    split
    · exact h
    · have hnos : nos (x.took d.m).l = nos x.l := by
        rw [took_eq]; unfold nos; rw [List.map_map]
        exact List.map_congr_left fun g _ => tookG_n _ g
      refine ⟨by rw [hnos]; exact h.1, fun z hz => ⟨by rw [hnos]; exact (h.2 z hz).1, ?_⟩⟩
      rw [took_of, ← (h.2 z hz).2]
      unfold tookG
      rw [if_neg (by rw [hs z hz]; decide)]
  · rw [if_neg d6]; exact .inl h
end Go.Proofs.Ytdndchoghhllmaa
