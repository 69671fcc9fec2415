/- Blocks at hand of which some can't go, plain: no block that is used finds no room. -/
import Derived.Test.YthibnnllecdpaaaB
namespace Go.Proofs.Ythibnnllecdpaaa

theorem pigeon {a b : List Int} (hn : a.Nodup) (hs : ∀ x ∈ a, x ∈ b) : a.length ≤ b.length := by
  induction a generalizing b with
  | nil => simp
  | cons x r ih =>
    obtain ⟨h1, h2⟩ := List.nodup_cons.1 hn
    have hx := hs x List.mem_cons_self
    have h3 := ih (b := b.erase x) h2 (fun y hy => (List.mem_erase_of_ne (fun e => (by subst e; exact h1 hy))).2 (hs y (List.mem_cons_of_mem _ hy)))
    rw [List.length_erase_of_mem hx] at h3
    have := List.length_pos_of_mem hx
    rw [List.length_cons]
    omega
/-- what is at hand: of ten places at most; D can't go, and all else can -/
structure Hand (l : List H) (D : List Int) : Prop where
  nd : (blocks l).Nodup
  len : l.length ≤ 10
  few : ∀ h ∈ l, h.can = false → h.b ∈ D
  stuck : ∀ y ∈ D, Stuck l y
theorem Hand.use {l : List H} {D : List Int} {x : Int} (h : Hand l D) (hD : D.length ≤ 9) (hD0 : ∀ y ∈ D, 0 ≤ y) (hx : ¬ (x < 0 ∨ 96 ≤ x)) : useE 10 l x = 0 ∧ Hand (useL 10 l x) D ∧ has (useL 10 l x) x = true := by
  have e0 : useE 10 l x = 0 := by
    rcases use_cases 10 l x with ⟨h1, _⟩ | ⟨_, _, _, e, _⟩ | ⟨_, _, _, _, e, _⟩ | ⟨_, _, _, _, _, e⟩ | ⟨_, _, hm, hc, _⟩
    · exact absurd h1 hx
    · exact e
    · exact e
    · exact e
    · exfalso
      have hall : ∀ y ∈ blocks l, y ∈ D := fun y hy => by
        obtain ⟨z, hz, rfl⟩ := List.mem_map.1 hy
        exact h.few z hz (by simpa using List.any_eq_false.1 hc z hz)
      have := pigeon h.nd hall
      simp [blocks] at this
      omega
  have hf : ∀ z ∈ useL 10 l x, z.can = false → z.b ∈ D := by
    rcases use_cases 10 l x with ⟨h1, _⟩ | ⟨_, hh, _, _, e⟩ | ⟨_, _, _, _, _, e⟩ | ⟨_, _, _, _, ⟨a, r, ht, _, _, e⟩, _⟩ | ⟨_, _, _, _, _, _, e⟩
    · exact absurd h1 hx
    · rw [e]
      intro z hz hc
      rcases mem_set_nth (has_lt hh) hz with rfl | h1
      · exact h.few (l[idx l x]'(has_lt hh)) (List.getElem_mem _) hc
      · exact h.few z h1 hc
    · rw [e]
      intro z hz hc
      rcases List.mem_append.1 hz with h1 | h1
      · exact h.few z h1 hc
      · rw [List.mem_singleton] at h1; subst h1
        simp [fresh, H.can] at hc
    · rw [e]
      have ht2 : ∀ z ∈ turned l, z.can = false → z.b ∈ D := spin_keeps (fun s => ∀ z ∈ s, z.can = false → z.b ∈ D) (fun s _ hs z hz hc => by
        cases s with
        | nil => cases hz
        | cons b q =>
          rcases List.mem_append.1 hz with h1 | h1
          · exact hs z (List.mem_cons_of_mem _ h1) hc
          · rw [List.mem_singleton] at h1; subst h1
            exact hs b List.mem_cons_self hc) _ _ h.few
      rw [ht] at ht2
      intro z hz hc
      rcases List.mem_append.1 hz with h1 | h1
      · exact ht2 z (List.mem_cons_of_mem _ h1) hc
      · rw [List.mem_singleton] at h1; subst h1
        simp [fresh, H.can] at hc
    · rw [e]; exact h.few
  exact ⟨e0, ⟨nodup_use h.nd, length_useL h.len, hf, fun y hy => ((h.stuck y hy).use hx (by have := hD0 y hy; omega)).1⟩, (few_use h.nd e0).1⟩
theorem Hand.use' {M : Nat} (hM : M = 10) {l : List H} {D : List Int} {x : Int} (h : Hand l D) (hD : D.length ≤ 9) (hD0 : ∀ y ∈ D, 0 ≤ y) (hx : ¬ (x < 0 ∨ 96 ≤ x)) : useE M l x = 0 ∧ Hand (useL M l x) D ∧ has (useL M l x) x = true := by
  subst hM; exact h.use hD hD0 hx
theorem Hand.dirty {l : List H} {D : List Int} {x : Int} (h : Hand l D) (hx : has l x = true) : Hand (dirtyL l x true) (D ++ [x]) := by
  have e : dirtyL l x true = modH l (idx l x) (H.dirt · true) := by simp [dirtyL, hx]
  refine ⟨nodup_dirty h.nd, by rw [length_dirtyL]; exact h.len, ?_, ?_⟩
  · rw [e]
    intro z hz hc
    rcases mem_set_nth (has_lt hx) hz with rfl | h1
    · have hb := idx_b (has_lt hx)
      rw [nthH_lt (has_lt hx)] at hb
      exact List.mem_append_right _ (List.mem_singleton.2 hb)
    · exact List.mem_append_left _ (h.few z h1 hc)
  · rw [e]
    intro y hy
    rcases List.mem_append.1 hy with h1 | h1
    · have hs := h.stuck y h1
      refine ⟨by rw [has_blocks (blocks_modH (dirt_b true))]; exact hs.1, fun z hz hb => ?_⟩
      rcases mem_set_nth (has_lt hx) hz with rfl | h2
      · simp [H.can, H.dirt]
      · exact hs.2 z h2 hb
    · rw [List.mem_singleton] at h1; subst h1
      exact stuck_mod h.nd hx (dirt_b true) (by simp [H.can, H.dirt])
theorem stuck_dropL {l : List H} {y : Int} (h : Stuck l y) : dropL l y = l := by
  have hi := has_lt h.1
  have := h.2 (nthH l (idx l y)) (by rw [nthH_lt hi]; exact List.getElem_mem hi) (idx_b hi)
  simp [dropL, this]
theorem hand_nil : Hand [] [] := ⟨by simp [blocks], by simp, by simp, by simp⟩
end Go.Proofs.Ythibnnllecdpaaa
