/- Blocks at hand, plain: what stays whatever is used; the order in which blocks go. No program is imported. -/
import Derived.Test.YthibnnllecdpaaaA
namespace Go.Proofs.Ythibnnllecdpaaa

theorem blocks_modH {l : List H} {i : Nat} {f : H → H} (hf : ∀ h, (f h).b = h.b) : blocks (modH l i f) = blocks l := by
  unfold blocks modH
  rw [List.map_set, hf]
  rcases Nat.lt_or_ge i l.length with h | h
  · rw [nthH_lt h]
    apply List.ext_getElem (by simp)
    intro n h1 h2
    rw [List.getElem_set]
    split
    · rename_i e; subst e; simp
    · rfl
  · exact List.set_eq_of_length_le (by simpa using h)
theorem on_b (h : H) : h.on.b = h.b := rfl
theorem pin_b (k : Int) (h : H) : (h.pin k).b = h.b := rfl
theorem dirt_b (x : Bool) (h : H) : (h.dirt x).b = h.b := rfl
theorem has_blocks {l l' : List H} (h : blocks l = blocks l') (x : Int) : has l x = has l' x := by
  rw [Bool.eq_iff_iff, has_mem, has_mem]; exact (congrArg (x ∈ ·) h).to_iff
theorem perm_rot (l : List H) : (blocks (rot l)).Perm (blocks l) := by
  cases l with
  | nil => exact .refl _
  | cons a r =>
    simp only [rot, blocks, List.map_append, List.map_cons, List.map_nil]
    exact (List.perm_append_comm (l₁ := r.map (·.b)) (l₂ := [a.b])).trans (.refl _)
theorem perm_turned (l : List H) : (blocks (turned l)).Perm (blocks l) :=
  spin_keeps (fun s => (blocks s).Perm (blocks l)) (fun s _ h => (perm_rot s).trans h) _ _ (.refl _)
theorem any_pos {l : List H} (h : l.any H.can = true) : 0 < l.length := by cases l <;> simp at h ⊢
theorem turned_cons {l : List H} (h : l.any H.can = true) : ∃ e r, turned l = e :: r ∧ e.goes = true := by
  have hl : 0 < (turned l).length := by rw [length_turned]; exact any_pos h
  have hg := spin_head _ l (stops_any h)
  cases ht : turned l with
  | nil => rw [ht] at hl; simp at hl
  | cons e r =>
    have : headGoes (e :: r) = true := by rw [← ht]; exact hg
    exact ⟨e, r, rfl, by simpa [headGoes] using this⟩
/-- the cases of Use -/
theorem use_cases (m : Nat) (l : List H) (x : Int) :
    ((x < 0 ∨ 96 ≤ x) ∧ useG m l x = -1 ∧ useE m l x = 2 ∧ useL m l x = l) ∨
    (¬ (x < 0 ∨ 96 ≤ x) ∧ has l x = true ∧ useG m l x = -1 ∧ useE m l x = 0 ∧ useL m l x = modH l (idx l x) H.on) ∨
    (¬ (x < 0 ∨ 96 ≤ x) ∧ has l x = false ∧ l.length < m ∧ useG m l x = -1 ∧ useE m l x = 0 ∧ useL m l x = l ++ [fresh x]) ∨
    (¬ (x < 0 ∨ 96 ≤ x) ∧ has l x = false ∧ ¬ l.length < m ∧ l.any H.can = true ∧ (∃ e r, turned l = e :: r ∧ e.goes = true ∧ useG m l x = e.b ∧ useL m l x = r ++ [fresh x]) ∧ useE m l x = 0) ∨
    (¬ (x < 0 ∨ 96 ≤ x) ∧ has l x = false ∧ ¬ l.length < m ∧ l.any H.can = false ∧ useG m l x = -1 ∧ useE m l x = 11 ∧ useL m l x = l) := by
  by_cases h1 : x < 0 ∨ 96 ≤ x
  · left; simp [h1, useG, useE, useL]
  · cases h2 : has l x with
    | true => right; left; simp [h1, h2, useG, useE, useL]
    | false =>
      by_cases h3 : l.length < m
      · right; right; left; simp [h1, h2, h3, useG, useE, useL]
      · cases h4 : l.any H.can with
        | true =>
          right; right; right; left
          obtain ⟨e, r, he, hg⟩ := turned_cons h4
          refine ⟨h1, rfl, h3, rfl, ⟨e, r, he, hg, ?_, ?_⟩, ?_⟩
          · simp [h1, h2, h3, h4, useG, he, nthH]
          · simp [h1, h2, h3, h4, useL, he]
          · simp [h1, h2, h3, h4, useE]
        | false => right; right; right; right; simp [h1, h2, h3, h4, useG, useE, useL]

theorem nodup_use {m : Nat} {l : List H} {x : Int} (h : (blocks l).Nodup) : (blocks (useL m l x)).Nodup := by
  rcases use_cases m l x with ⟨_, _, _, e⟩ | ⟨_, _, _, _, e⟩ | ⟨_, hx, _, _, _, e⟩ | ⟨_, hx, _, hc, ⟨a, r, ht, _, _, e⟩, _⟩ | ⟨_, _, _, _, _, _, e⟩
  · rw [e]; exact h
  · rw [e, blocks_modH on_b]; exact h
  · rw [e]
    have hx' : x ∉ blocks l := fun hm => by rw [has_mem.2 hm] at hx; cases hx
    unfold blocks at *
    rw [List.map_append, List.nodup_append]
    refine ⟨h, by simp, fun a ha b hb => ?_⟩
    simp [fresh] at hb; subst hb
    exact fun e => hx' (e ▸ ha)
  · rw [e]
    have hp := perm_turned l
    rw [ht] at hp
    have hn : (blocks (a :: r)).Nodup := hp.symm.nodup h
    have hx' : x ∉ blocks (a :: r) := fun hm => by rw [has_mem.2 (hp.mem_iff.1 hm)] at hx; cases hx
    simp only [blocks, List.map_cons, List.nodup_cons, List.mem_cons, not_or, List.map_append, List.nodup_append] at hn hx' ⊢
    refine ⟨hn.2, by simp, fun b hb c hc => ?_⟩
    simp [fresh] at hc; subst hc
    exact fun e => hx'.2 (e ▸ hb)
  · rw [e]; exact h
theorem nodup_pin {l : List H} {x : Int} {on : Bool} (h : (blocks l).Nodup) : (blocks (pinL l x on)).Nodup := by
  unfold pinL; split
  · split
    · exact h
    · rw [blocks_modH (pin_b _)]; exact h
  · exact h
theorem nodup_dirty {l : List H} {x : Int} {on : Bool} (h : (blocks l).Nodup) : (blocks (dirtyL l x on)).Nodup := by
  unfold dirtyL; split
  · rw [blocks_modH (dirt_b _)]; exact h
  · exact h
theorem nodup_drop {l : List H} {x : Int} (h : (blocks l).Nodup) : (blocks (dropL l x)).Nodup := by
  unfold dropL; split
  · split
    · exact (List.Sublist.map _ (List.eraseIdx_sublist l _)).nodup h
    · exact h
  · exact h

/-! ### CacheFew -/
theorem few_use {m : Nat} {l : List H} {x : Int} (hn : (blocks l).Nodup) (he : useE m l x = 0) :
    has (useL m l x) x = true ∧ (useG m l x = -1 ∨ has (useL m l x) (useG m l x) = false ∧ (useL m l x).length = l.length ∧ has l x = false) ∧ (has l x = true → blocks (useL m l x) = blocks l) := by
  rcases use_cases m l x with ⟨_, _, e0, e⟩ | ⟨_, hx, hg, _, e⟩ | ⟨_, hx, _, hg, _, e⟩ | ⟨_, hx, _, hc, ⟨a, r, ht, _, hg, e⟩, _⟩ | ⟨_, _, _, _, _, e0, e⟩
  · rw [e0] at he; cases he
  · rw [e, has_blocks (blocks_modH on_b), blocks_modH on_b]
    exact ⟨hx, .inl hg, fun _ => rfl⟩
  · rw [e]
    exact ⟨has_iff.2 ⟨fresh x, by simp, rfl⟩, .inl hg, fun h => by rw [hx] at h; cases h⟩
  · rw [e, hg]
    have hp := perm_turned l
    rw [ht] at hp
    have hn' : (blocks (a :: r)).Nodup := hp.symm.nodup hn
    have hx' : x ∉ blocks (a :: r) := fun hm => by rw [has_mem.2 (hp.mem_iff.1 hm)] at hx; cases hx
    refine ⟨has_iff.2 ⟨fresh x, by simp, rfl⟩, .inr ⟨?_, ?_, hx⟩, fun h => by rw [hx] at h; cases h⟩
    · rw [Bool.eq_false_iff]
      intro hh
      rw [has_mem] at hh
      simp only [blocks, List.map_cons, List.nodup_cons, List.mem_cons, not_or] at hn' hx'
      rw [List.map_append, List.mem_append] at hh
      rcases hh with h1 | h1
      · exact hn'.1 h1
      · simp [fresh] at h1; exact hx'.1 h1.symm
    · have := length_turned l
      rw [ht] at this
      simp at this ⊢; omega
  · rw [e0] at he; cases he
theorem few_err {m : Nat} {l : List H} {x : Int} (he : useE m l x ≠ 0) : useG m l x = -1 ∧ useL m l x = l ∧ ((useE m l x = 2) ↔ (x < 0 ∨ 96 ≤ x)) := by
  rcases use_cases m l x with ⟨h, hg, e0, e⟩ | ⟨_, _, _, e0, e⟩ | ⟨_, hx, _, hg, e0, e⟩ | ⟨_, hx, _, hc, _, e0⟩ | ⟨h, _, _, _, hg, e0, e⟩
  · exact ⟨hg, e, by rw [e0]; simp [h]⟩
  · exact absurd e0 he
  · exact absurd e0 he
  · exact absurd e0 he
  · exact ⟨hg, e, by rw [e0]; simp [h]⟩

/-! ### CacheHeld -/
/-- block y is at hand, and can't go -/
def Stuck (l : List H) (y : Int) : Prop := has l y = true ∧ ∀ h ∈ l, h.b = y → h.can = false
theorem Stuck.rot {l : List H} {y : Int} (h : Stuck l y) : Stuck (rot l) y := by
  refine ⟨has_mem.2 ((perm_rot l).mem_iff.2 (has_mem.1 h.1)), fun e he hb => ?_⟩
  cases l with
  | nil => cases he
  | cons a r =>
    rcases List.mem_append.1 he with h1 | h1
    · exact h.2 e (List.mem_cons_of_mem _ h1) hb
    · rw [List.mem_singleton] at h1; subst h1
      exact h.2 a List.mem_cons_self hb
theorem Stuck.turned {l : List H} {y : Int} (h : Stuck l y) : Stuck (turned l) y := spin_keeps (Stuck · y) (fun _ _ h => h.rot) _ _ h
theorem mem_set_nth {l : List H} {i : Nat} {f : H → H} (hi : i < l.length) {e : H} (h : e ∈ modH l i f) : e = f l[i] ∨ e ∈ l := by
  unfold modH at h
  rcases List.mem_or_eq_of_mem_set h with h1 | h1
  · exact .inr h1
  · left; rw [h1, nthH_lt hi]
theorem Stuck.use {m : Nat} {l : List H} {x y : Int} (h : Stuck l y) (hx : ¬ (x < 0 ∨ 96 ≤ x)) (hy : y ≠ -1) : Stuck (useL m l x) y ∧ useG m l x ≠ y ∧ (useE m l x = 0 ∨ useE m l x = 11) := by
  rcases use_cases m l x with ⟨h1, _⟩ | ⟨_, hx, hg, e0, e⟩ | ⟨_, hx, _, hg, e0, e⟩ | ⟨_, hx, _, hc, ⟨a, r, ht, hgo, hg, e⟩, e0⟩ | ⟨_, _, _, _, hg, e0, e⟩
  · exact absurd h1 hx
  · rw [e, hg]
    refine ⟨⟨by rw [has_blocks (blocks_modH on_b)]; exact h.1, fun z hz hb => ?_⟩, fun q => hy q.symm, .inl e0⟩
    rcases mem_set_nth (has_lt hx) hz with rfl | h1
    · exact (h.2 (l[idx l x]'(has_lt hx)) (List.getElem_mem (has_lt hx)) hb : (l[idx l x]'(has_lt hx)).can = false)
    · exact h.2 z h1 hb
  · rw [e, hg]
    refine ⟨⟨has_iff.2 ?_, fun z hz hb => ?_⟩, fun q => hy q.symm, .inl e0⟩
    · obtain ⟨z, hz, hb⟩ := has_iff.1 h.1
      exact ⟨z, List.mem_append_left _ hz, hb⟩
    · rcases List.mem_append.1 hz with h1 | h1
      · exact h.2 z h1 hb
      · rw [List.mem_singleton] at h1; subst h1
        have : x = y := hb
        subst this
        rw [h.1] at hx; cases hx
  · have ht' := h.turned
    rw [ht] at ht'
    have hay : a.b ≠ y := fun q => by
      have := ht'.2 a List.mem_cons_self q
      simp [H.goes, this] at hgo
    rw [e, hg]
    refine ⟨⟨has_iff.2 ?_, fun z hz hb => ?_⟩, hay, .inl e0⟩
    · obtain ⟨z, hz, hb⟩ := has_iff.1 ht'.1
      rcases List.mem_cons.1 hz with rfl | hz
      · exact absurd hb hay
      · exact ⟨z, List.mem_append_left _ hz, hb⟩
    · rcases List.mem_append.1 hz with h1 | h1
      · exact ht'.2 z (List.mem_cons_of_mem _ h1) hb
      · rw [List.mem_singleton] at h1; subst h1
        have : x = y := hb
        subst this
        rw [h.1] at hx; cases hx
  · rw [e, hg]; exact ⟨h, fun q => hy q.symm, .inr e0⟩
theorem nodup_unique {l : List H} {x : Int} (hn : (blocks l).Nodup) {i j : Nat} (hi : i < l.length) (hj : j < l.length) (h1 : l[i].b = x) (h2 : l[j].b = x) : i = j := by
  have := (List.getElem_inj (i := i) (j := j) (h₀ := by simpa [blocks] using hi) (h₁ := by simpa [blocks] using hj) hn).1 (by simp [blocks, h1, h2])
  exact this
theorem stuck_mod {l : List H} {x : Int} {f : H → H} (hn : (blocks l).Nodup) (hx : has l x = true) (hf : ∀ h, (f h).b = h.b) (hc : (f (nthH l (idx l x))).can = false) : Stuck (modH l (idx l x) f) x := by
  refine ⟨by rw [has_blocks (blocks_modH hf)]; exact hx, fun z hz hb => ?_⟩
  obtain ⟨k, hk, rfl⟩ := List.mem_iff_getElem.1 hz
  have hk' : k < l.length := by simpa [modH] using hk
  have hi := has_lt hx
  by_cases e : k = idx l x
  · subst e
    simp only [modH, List.getElem_set_self]
    exact hc
  · exfalso
    have h1 : (modH l (idx l x) f)[k] = l[k] := by simp only [modH]; rw [List.getElem_set_ne (fun q => e q.symm)]
    rw [h1] at hb
    have h2 := idx_b hi
    rw [nthH_lt hi] at h2
    exact e (nodup_unique hn hk' hi hb h2)
theorem stuck_drop {l : List H} {y : Int} (h : Stuck l y) : dropE l y = 12 := by
  have hi := has_lt h.1
  have := h.2 (nthH l (idx l y)) (by rw [nthH_lt hi]; exact List.getElem_mem hi) (idx_b hi)
  simp [dropE, h.1, this]

/-! ### CachePins -/
theorem idx_mod {l : List H} {x : Int} {f : H → H} (hf : ∀ h, (f h).b = h.b) (i : Nat) : idx (modH l i f) x = idx l x := by
  have e : ∀ s : List H, idx s x = (blocks s).findIdx (· == x) := fun s => by simp [idx, blocks, List.findIdx_map]; rfl
  rw [e, e, blocks_modH hf]
theorem pins_mod {l : List H} {x : Int} {f : H → H} (hf : ∀ h, (f h).b = h.b) (hx : has l x = true) : has (modH l (idx l x) f) x = true ∧ nthH (modH l (idx l x) f) (idx (modH l (idx l x) f) x) = f (nthH l (idx l x)) := by
  refine ⟨by rw [has_blocks (blocks_modH hf)]; exact hx, ?_⟩
  rw [idx_mod hf]
  have hi := has_lt hx
  rw [nthH_lt (by simpa [modH] using hi)]
  simp [modH]
theorem pin_up {l : List H} {x : Int} (hx : has l x = true) : pinE l x true = 0 ∧ has (pinL l x true) x = true ∧ pinsN (pinL l x true) x = pinsN l x + 1 := by
  have h := pins_mod (f := (H.pin · 1)) (pin_b 1) hx
  have e : pinL l x true = modH l (idx l x) (H.pin · 1) := by simp [pinL, hx]
  refine ⟨by simp [pinE, hx], by rw [e]; exact h.1, ?_⟩
  rw [e]
  have e1 : ∀ s : List H, has s x = true → pinsN s x = (nthH s (idx s x)).p := fun s hs => by simp [pinsN, hs]
  rw [e1 _ h.1, e1 _ hx, h.2]; rfl
theorem pin_down {l : List H} {x : Int} (hx : has l x = true) (hp : pinsN l x ≠ 0) : pinE l x false = 0 ∧ has (pinL l x false) x = true ∧ pinsN (pinL l x false) x = pinsN l x - 1 := by
  have h := pins_mod (f := (H.pin · (-1))) (pin_b (-1)) hx
  have hp' : (nthH l (idx l x)).p ≠ 0 := by simpa [pinsN, hx] using hp
  have e : pinL l x false = modH l (idx l x) (H.pin · (-1)) := by simp [pinL, hx, hp']
  refine ⟨by simp [pinE, hx, hp'], by rw [e]; exact h.1, ?_⟩
  rw [e]
  have e1 : ∀ s : List H, has s x = true → pinsN s x = (nthH s (idx s x)).p := fun s hs => by simp [pinsN, hs]
  rw [e1 _ h.1, e1 _ hx, h.2]; show _ + -1 = _; omega
theorem pin_zero {l : List H} {x : Int} (hx : has l x = true) (hp : pinsN l x = 0) : pinE l x false = 13 := by
  have hp' : (nthH l (idx l x)).p = 0 := by simpa [pinsN, hx] using hp
  simp [pinE, hx, hp']
theorem pinsN_few {k : Int} {l : List H} (h : Few k l) (hk : 0 ≤ k) (x : Int) : 0 ≤ pinsN l x ∧ pinsN l x ≤ k := by
  unfold pinsN; split
  · exact h.nth hk _
  · omega

/-! ### CacheOrder -/
/-- blocks that can all go, touched behind a place alone -/
def Line (l : List H) : Prop := (∀ h ∈ l, h.can = true) ∧ ∃ a b : List H, l = a ++ b ∧ (∀ h ∈ a, h.t = false) ∧ ∀ h ∈ b, h.t = true
theorem spin_all (n : Nat) (a b : List H) (ha : ∀ h ∈ a, h.t = false ∧ h.can = true) (hb : ∀ h ∈ b, h.t = true ∧ h.can = true) (hne : b ++ a ≠ []) (hn : b.length ≤ n) : spin n (b ++ a) = a ++ b.map H.off := by
  induction b generalizing a n with
  | nil =>
    simp only [List.nil_append, List.map_nil, List.append_nil] at hne ⊢
    cases a with
    | nil => exact absurd rfl hne
    | cons h r =>
      have := ha h List.mem_cons_self
      exact spin_goes (by simp [headGoes, H.goes, this])
  | cons h r ih =>
    cases n with
    | zero => simp at hn
    | succ n =>
      have h1 := hb h List.mem_cons_self
      have hg : headGoes (h :: r ++ a) = false := by simp [headGoes, H.goes, h1]
      show (if headGoes (h :: r ++ a) then _ else spin n (rot (h :: r ++ a))) = _
      rw [hg]
      simp only [Bool.false_eq_true, if_false, List.cons_append, rot]
      rw [List.append_assoc, ih n (a ++ [h.off])]
      · simp
      · intro e he
        rcases List.mem_append.1 he with h2 | h2
        · exact ha e h2
        · rw [List.mem_singleton] at h2; subst h2; exact ⟨rfl, h1.2⟩
      · exact fun e he => hb e (List.mem_cons_of_mem _ he)
      · simp
      · simp at hn; omega
theorem map_off_b (l : List H) : blocks (l.map H.off) = blocks l := by simp [blocks]; intro a _; rfl
theorem Line.step {m : Nat} {l : List H} {x : Int} (h : Line l) (hx : ¬ (x < 0 ∨ 96 ≤ x)) (hn : has l x = false) (hm : 0 < m) (hlm : l.length ≤ m) :
    Line (useL m l x) ∧ useE m l x = 0 ∧
    (if l.length < m then useG m l x = -1 ∧ blocks (useL m l x) = blocks l ++ [x] else useG m l x = (blocks l).headD 0 ∧ blocks (useL m l x) = (blocks l).tail ++ [x]) := by
  obtain ⟨hc, a, b, rfl, ha, hb⟩ := h
  rcases use_cases m (a ++ b) x with ⟨h1, _⟩ | ⟨_, h1, _⟩ | ⟨_, _, hl, hg, e0, e⟩ | ⟨_, _, hl, hcc, ⟨z, r, ht, hgo, hg, e⟩, e0⟩ | ⟨_, _, hl, hcc, _⟩
  · exact absurd h1 hx
  · rw [hn] at h1; cases h1
  · rw [e, if_pos hl, hg]
    refine ⟨⟨?_, a, b ++ [fresh x], by simp, ha, ?_⟩, e0, rfl, by simp [blocks, fresh]⟩
    · intro y hy
      rcases List.mem_append.1 hy with h1 | h1
      · exact hc y h1
      · rw [List.mem_singleton] at h1; subst h1; rfl
    · intro y hy
      rcases List.mem_append.1 hy with h1 | h1
      · exact hb y h1
      · rw [List.mem_singleton] at h1; subst h1; rfl
  · rw [e, if_neg hl, hg]
    cases a with
    | cons y a =>
      have ht' : turned (y :: a ++ b) = y :: (a ++ b) := spin_goes (by have h1 := hc y (by simp); have h2 := ha y (by simp); simp [headGoes, H.goes, h1, h2])
      rw [ht'] at ht
      obtain ⟨rfl, rfl⟩ := List.cons.inj ht
      refine ⟨⟨?_, a, b ++ [fresh x], by simp, fun q hq => ha q (List.mem_cons_of_mem _ hq), ?_⟩, e0, by simp [blocks], by simp [blocks, fresh]⟩
      · intro q hq
        rcases List.mem_append.1 hq with h1 | h1
        · exact hc q (List.mem_cons_of_mem _ h1)
        · rw [List.mem_singleton] at h1; subst h1; rfl
      · intro q hq
        rcases List.mem_append.1 hq with h1 | h1
        · exact hb q h1
        · rw [List.mem_singleton] at h1; subst h1; rfl
    | nil =>
      have hne : b ≠ [] := fun q => by subst q; simp at hl; omega
      have ht' : turned ([] ++ b) = b.map H.off := by
        have := spin_all (2 * ([] ++ b).length - 1) [] b (fun _ h => by cases h) (fun q hq => ⟨hb q hq, hc q (by simpa using hq)⟩) (by simpa using hne) (by have := List.length_pos_iff.2 hne; simp; omega)
        simpa [turned] using this
      rw [ht'] at ht
      cases b with
      | nil => exact absurd rfl hne
      | cons y b =>
        simp only [List.map_cons] at ht
        obtain ⟨rfl, rfl⟩ := List.cons.inj ht
        refine ⟨⟨?_, b.map H.off, [fresh x], rfl, fun q hq => ?_, fun q hq => ?_⟩, e0, by simp [blocks, H.off], by simp [blocks, fresh]; intro q _; rfl⟩
        · intro q hq
          rcases List.mem_append.1 hq with h1 | h1
          · obtain ⟨z, hz, rfl⟩ := List.mem_map.1 h1
            exact hc z (by simp [hz])
          · rw [List.mem_singleton] at h1; subst h1; rfl
        · obtain ⟨z, hz, rfl⟩ := List.mem_map.1 hq; rfl
        · rw [List.mem_singleton] at hq; subst hq; rfl
  · exfalso
    have hpos : 0 < (a ++ b).length := by omega
    have h1 := List.any_eq_false.1 hcc ((a ++ b)[0]) (List.getElem_mem hpos)
    exact h1 (hc _ (List.getElem_mem hpos))
/-- the blocks of a row that k came to, each once -/
def lastOf (from' : Nat) (m k : Nat) : List Int := (List.range (min k m)).map fun j => (((from' + (k - min k m) + j) % 96 : Nat) : Int)
theorem last_none {f m k : Nat} (hm : m ≤ 8) : (((f + k) % 96 : Nat) : Int) ∉ lastOf f m k := by
  intro h
  obtain ⟨j, hj, e⟩ := List.mem_map.1 h
  rw [List.mem_range] at hj
  omega
theorem last_grow {f m k : Nat} (h : k < m) : lastOf f m (k + 1) = lastOf f m k ++ [(((f + k) % 96 : Nat) : Int)] := by
  unfold lastOf
  rw [Nat.min_eq_left (by omega), Nat.min_eq_left (by omega), List.range_succ]
  simp
theorem last_turn {f m k : Nat} (h : m ≤ k) (hm : 0 < m) : lastOf f m (k + 1) = (lastOf f m k).tail ++ [(((f + k) % 96 : Nat) : Int)] ∧ (lastOf f m k).headD 0 = (((f + k - m) % 96 : Nat) : Int) ∧ (lastOf f m k).length = m := by
  obtain ⟨q, rfl⟩ : ∃ q, m = q + 1 := ⟨m - 1, by omega⟩
  unfold lastOf
  rw [Nat.min_eq_right (by omega), Nat.min_eq_right (by omega)]
  refine ⟨?_, ?_, by simp⟩
  · apply List.ext_getElem (by simp)
    intro n h1 h2
    simp at h1
    rcases Nat.lt_or_ge n q with h3 | h3
    · rw [List.getElem_append_left (by simpa using h3)]
      simp only [List.getElem_map, List.getElem_range, List.getElem_tail]
      congr 2
      omega
    · obtain rfl : n = q := by omega
      rw [List.getElem_append_right (by simp)]
      simp only [List.getElem_map, List.getElem_range, List.getElem_singleton]
      congr 2
      omega
  · rw [List.range_succ_eq_map]
    simp
    omega
end Go.Proofs.Ythibnnllecdpaaa
