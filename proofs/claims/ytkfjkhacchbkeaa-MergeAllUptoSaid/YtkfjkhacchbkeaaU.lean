/- Plain words on groups: what is closed among groups is closed among items; all groups have all items. -/
import Derived.Test.YtkfjkhacchbkeaaT
import Derived.Test.YtkfjkhacchbkeaaF
namespace Go.Proofs.Ytkfjkhacchbkeaa
set_option linter.unusedVariables false
set_option linter.unusedSimpArgs false
open Go.RowKit

variable {l : List It}
theorem rowN_mdeps {g : Nat} (hg : g < (groupsL l).length) : rowN (mdepsL l) g = depG l g := by
  rw [rowN_lt (by rw [length_mdepsL]; exact hg)]; simp [mdepsL]
theorem mem_others {D : List (List Nat)} {of : List Nat} {g x : Nat} {row : List Nat} : x ∈ othersL D of g row ↔ x ≠ g ∧ ∃ i ∈ row, ∃ d ∈ rowN D i, el of d = x := by
  unfold othersL othersOf
  rw [List.mem_flatMap]
  constructor
  · rintro ⟨i, hi, hx⟩
    rw [List.mem_filter, List.mem_map] at hx
    obtain ⟨⟨d, hd, e⟩, h⟩ := hx
    exact ⟨by simpa using h, i, hi, d, hd, e⟩
  · rintro ⟨h, i, hi, d, hd, e⟩
    exact ⟨i, hi, List.mem_filter.2 ⟨List.mem_map.2 ⟨d, hd, e⟩, by simpa using h⟩⟩
theorem mem_mdeps {g x : Nat} (hg : g < (groupsL l).length) : x ∈ rowN (mdepsL l) g ↔ x < (groupsL l).length ∧ x ≠ g ∧ ∃ i ∈ rowN (groupsL l) g, ∃ d ∈ rowN (depsN l) i, el (ofL l) d = x := by
  rw [rowN_mdeps hg]
  unfold depG
  rw [mem_among, mem_natsI, mem_others]
theorem okD_mdeps (hr : rightL l = true) : OkD (mdepsL l) := by
  have hl := (groupsL_len l).1
  refine ⟨⟨by rw [length_mdepsL]; omega, fun g x hx => ?_⟩, fun g => ?_⟩
  · have hg := mem_row_lt hx
    rw [length_mdepsL] at hg
    obtain ⟨_, h2, i, hi, d, hd, e⟩ := (mem_mdeps hg).1 hx
    obtain ⟨hil, hio⟩ := (groups_mem hg).1 hi
    have := (groups_inv hr).dep i hil d hd
    show x < g
    have h3 : el (ofL l) d ≤ el (ofL l) i := this
    omega
  · rcases Nat.lt_or_ge g (groupsL l).length with hg | hg
    · rw [rowN_mdeps hg]
      have := among_len (groupsL l).length (natsI (othersL (depsN l) (ofL l) g (rowN (groupsL l) g)))
      unfold depG; omega
    · rw [rowN_nil (by rw [length_mdepsL]; exact hg)]; simp
theorem mem_group (hr : rightL l = true) {i : Nat} (hi : i < l.length) : i ∈ rowN (groupsL l) (el (ofL l) i) := (groups_mem (of_lt hr hi)).2 ⟨hi, rfl⟩
/-- WHAT IS CLOSED AMONG GROUPS IS CLOSED AMONG ITEMS -/
theorem expand_closed (hr : rightL l = true) (some : List Int) : ClosedP (depsN l) (natsI (expandL l (natsI (closeL (mdepsL l) some)))) := by
  have hD := (right_out hr).2.1.right
  have hM := (okD_mdeps hr).right
  refine ⟨fun x hx => ?_, fun i hi d hd => ?_⟩
  · obtain ⟨i, hi, rfl⟩ := List.mem_map.1 hx
    obtain ⟨g, _, h2⟩ := mem_expand.1 hi
    have := (groupsL_row h2).1
    unfold isN; rw [length_depsN]; simp; omega
  · rw [markI_nats, length_depsN] at hi ⊢
    have hdl := dep_lt hr hd
    refine ⟨hdl.1, ?_⟩
    obtain ⟨g, h1, h2⟩ := mem_expand.1 hi.2
    have hg := mem_row_lt h2
    have hio := ((groups_mem hg).1 h2).2
    rw [mem_natsI] at h1
    refine mem_expand.2 ⟨el (ofL l) d, ?_, mem_group hr hdl.1⟩
    rw [mem_natsI]
    by_cases e : el (ofL l) d = g
    · rw [e]; exact h1
    · rw [mem_closeL hM] at h1 ⊢
      exact h1.down ((mem_mdeps hg).2 ⟨of_lt hr hdl.1, e, i, h2, d, hd, rfl⟩)
theorem expand_all (hr : rightL l = true) : expandL l (natsI (List.range (groupsL l).length)) = List.range l.length := by
  refine rising_ext _ _ (expand_rising _ _) List.pairwise_lt_range (fun i => ?_)
  rw [mem_expand, List.mem_range]
  constructor
  · rintro ⟨g, _, h⟩; exact (groupsL_row h).1
  · intro hi
    exact ⟨_, by rw [mem_natsI, List.mem_range]; exact of_lt hr hi, mem_group hr hi⟩
theorem sub_len : ∀ (a b : List Nat), a.Nodup → (∀ x ∈ a, x ∈ b) → a.length ≤ b.length := by
  intro a
  induction a with
  | nil => intro b _ _; simp
  | cons x a ih =>
    intro b ha hb
    have hx := hb x (by simp)
    obtain ⟨hxa, ha'⟩ := List.nodup_cons.1 ha
    have := ih (b.erase x) ha' (fun y hy => by
      have hyb := hb y (List.mem_cons_of_mem _ hy)
      exact (List.mem_erase_of_ne (show y ≠ x from fun e => hxa (by rw [← e]; exact hy))).2 hyb)
    rw [List.length_erase_of_mem hx] at this
    have := List.length_pos_of_mem hx
    simp only [List.length_cons]; omega
theorem expand_more (hr : rightL l = true) {q : List Nat} (hq : q.Pairwise (· < ·)) (hlt : ∀ g ∈ q, g < (groupsL l).length) : q.length ≤ (expandL l (natsI q)).length := by
  have hI := groups_inv hr
  have hgs := groupsL_eq hr
  have h1 : (q.map fun g => el (rowN (groupsL l) g) 0).length ≤ (expandL l (natsI q)).length := by
    refine sub_len _ _ ?_ fun x hx => ?_
    · rw [List.Nodup, List.pairwise_map]
      refine hq.imp_of_mem fun {a b} ha hb hab => ?_
      rw [hgs]
      exact Nat.ne_of_lt (hI.heads a b hab (by rw [← hgs]; exact hlt b hb))
    · obtain ⟨g, hg, rfl⟩ := List.mem_map.1 hx
      have hne : 0 < (rowN (groupsL l) g).length := by rw [hgs]; exact hI.ne g (by rw [← hgs]; exact hlt g hg)
      exact mem_expand.2 ⟨g, mem_natsI.2 hg, by rw [el_lt hne]; exact List.getElem_mem _⟩
  rwa [List.length_map] at h1
end Go.Proofs.Ytkfjkhacchbkeaa
