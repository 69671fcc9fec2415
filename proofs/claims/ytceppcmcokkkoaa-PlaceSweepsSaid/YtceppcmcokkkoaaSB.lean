/- Plain words: going to all blocks with repeats is going to them without, each as often as it is there. -/
import Derived.Test.YtceppcmcokkkoaaSA
namespace Go.Proofs.Ytceppcmcokkkoaa

theorem val_dd (n s : Nat) (l : List Nat) : val n s (dd l) = val n s l := by
  induction l using snocInd with
  | h0 => rfl
  | h1 l x ih =>
    rw [dd_snoc, val_snoc]
    by_cases h0 : l = []
    · subst h0
      rw [if_pos rfl]
      have : dd ([] : List Nat) = [] := rfl
      rw [this, if_neg (by simp)]
      simp [val, idx, bestOf, el]
    · rw [if_neg h0]
      by_cases h : x ∈ dd l
      · rw [if_pos h, ih]
        have := val_le n s ((dd_mem l x).1 h)
        rw [if_neg (by omega)]
      · rw [if_neg h, val_snoc, ih]
        have : dd l ≠ [] := fun e => by
          obtain ⟨y, hy⟩ := List.exists_mem_of_ne_nil l h0
          have := (dd_mem l y).2 hy
          rw [e] at this
          cases this
        rw [if_neg this]

/-- all that is left, the nearest one first each time -/
def swR (n : Nat) : Nat → Nat → List Nat → List Nat
  | 0, _, _ => []
  | f + 1, s, l => val n s l :: swR n f (val n s l) (l.eraseIdx (idx n s l))
/-- likewise, each as often as it is said -/
def swD (n : Nat) (cnt : Nat → Nat) : Nat → Nat → List Nat → List Nat
  | 0, _, _ => []
  | f + 1, s, l => List.replicate (cnt (val n s l)) (val n s l) ++ swD n cnt f (val n s l) (l.eraseIdx (idx n s l))

theorem cut_at (n s : Nat) {l : List Nat} (h : l ≠ []) : ∃ a b, l = a ++ val n s l :: b ∧ l.eraseIdx (idx n s l) = a ++ b ∧ val n s l ∉ a := by
  have hi := idx_lt n s h
  refine ⟨l.take (idx n s l), l.drop (idx n s l + 1), ?_, List.eraseIdx_eq_take_drop_succ _ _, ?_⟩
  · unfold val
    rw [el_lt hi, List.getElem_cons_drop, List.take_append_drop]
  · intro hm
    obtain ⟨j, hj, e⟩ := List.mem_iff_getElem.1 hm
    rw [List.length_take] at hj
    have := val_first n s h (j := j) (by omega)
    rw [el_lt (by omega)] at this
    rw [List.getElem_take] at e
    rw [e] at this
    omega
theorem val_near (n s : Nat) {l : List Nat} (h : s ∈ l) : val n s l = s := by
  have := val_le n s h
  rw [far_self] at this
  exact (far_zero (n := n) (by omega)).symm

theorem swR_rep (n : Nat) (c : Nat) : ∀ (l : List Nat) (s v : Nat), l ≠ [] → val n s l = v → l.count v = c + 1 →
    swR n l.length s l = List.replicate (c + 1) v ++ swR n (l.filter (· != v)).length v (l.filter (· != v)) := by
  induction c with
  | zero =>
    intro l s v hl hv hc
    obtain ⟨a, b, e1, e2, h3⟩ := cut_at n s hl
    rw [hv] at e1 h3
    have hlen : l.length = (a ++ b).length + 1 := by rw [e1]; simp; omega
    have hb : v ∉ b := by
      intro h
      have h1 := List.count_pos_iff.2 h
      rw [e1, List.count_append, List.count_cons_self] at hc
      omega
    have hf : l.filter (· != v) = a ++ b := by
      rw [e1, List.filter_append]
      rw [List.filter_cons_of_neg (by simp)]
      rw [List.filter_eq_self.2 (fun y hy => by simp; rintro rfl; exact h3 hy), List.filter_eq_self.2 (fun y hy => by simp; rintro rfl; exact hb hy)]
    rw [hlen]
    show val n s l :: swR n (a ++ b).length (val n s l) (l.eraseIdx (idx n s l)) = _
    rw [e2, hv, hf]
    rfl
  | succ c ih =>
    intro l s v hl hv hc
    obtain ⟨a, b, e1, e2, h3⟩ := cut_at n s hl
    rw [hv] at e1 h3
    have hlen : l.length = (a ++ b).length + 1 := by rw [e1]; simp; omega
    have hcab : (a ++ b).count v = c + 1 := by
      rw [e1, List.count_append, List.count_cons_self] at hc
      rw [List.count_append]
      omega
    have hm : v ∈ a ++ b := List.count_pos_iff.1 (by omega)
    have hne : a ++ b ≠ [] := List.ne_nil_of_mem hm
    have hf : l.filter (· != v) = (a ++ b).filter (· != v) := by
      rw [e1, List.filter_append, List.filter_append, List.filter_cons_of_neg (by simp)]
    have h := ih (a ++ b) v v hne (val_near n v hm) hcab
    rw [hlen]
    show val n s l :: swR n (a ++ b).length (val n s l) (l.eraseIdx (idx n s l)) = _
    rw [e2, hv, h, hf]
    rfl

theorem swD_congr (n : Nat) {c1 c2 : Nat → Nat} (f : Nat) : ∀ (s : Nat) (l : List Nat), l.length = f → (∀ y ∈ l, c1 y = c2 y) → swD n c1 f s l = swD n c2 f s l := by
  induction f with
  | zero => intros; rfl
  | succ f ih =>
    intro s l hl h
    have hne : l ≠ [] := by rintro rfl; simp at hl
    have hi := idx_lt n s hne
    show List.replicate (c1 (val n s l)) (val n s l) ++ swD n c1 f (val n s l) (l.eraseIdx (idx n s l)) = List.replicate (c2 (val n s l)) (val n s l) ++ swD n c2 f (val n s l) (l.eraseIdx (idx n s l))
    rw [h _ (val_mem n s hne), ih _ _ (by rw [List.length_eraseIdx_of_lt hi]; omega) (fun y hy => h y (List.mem_of_mem_eraseIdx hy))]

theorem swR_swD (n : Nat) (m : Nat) : ∀ (l : List Nat) (s : Nat), l.length ≤ m → swR n l.length s l = swD n (fun y => l.count y) (dd l).length s (dd l) := by
  induction m with
  | zero =>
    intro l s h
    have : l = [] := List.eq_nil_of_length_eq_zero (by omega)
    subst this
    rfl
  | succ m ih =>
    intro l s h
    by_cases hl : l = []
    · subst hl; rfl
    obtain ⟨v, hv⟩ : ∃ v, v = val n s l := ⟨_, rfl⟩
    have hm := val_mem n s hl
    rw [← hv] at hm
    obtain ⟨c, hc⟩ : ∃ c, l.count v = c + 1 := ⟨l.count v - 1, by have := List.count_pos_iff.2 hm; omega⟩
    rw [swR_rep n c l s v hl hv.symm hc]
    have hdl : dd l ≠ [] := List.ne_nil_of_mem ((dd_mem l v).2 hm)
    obtain ⟨a, b, e1, e2, h3⟩ := cut_at n s hdl
    rw [val_dd, ← hv] at e1 h3
    have hnd := dd_nodup l
    have hb : v ∉ b := by
      rw [e1] at hnd
      have := (List.nodup_append.1 hnd).2.1
      exact (List.nodup_cons.1 this).1
    have hf : (dd l).filter (· != v) = a ++ b := by
      rw [e1, List.filter_append]
      rw [List.filter_cons_of_neg (by simp)]
      rw [List.filter_eq_self.2 (fun y hy => by simp; rintro rfl; exact h3 hy), List.filter_eq_self.2 (fun y hy => by simp; rintro rfl; exact hb hy)]
    have hlen : (dd l).length = (a ++ b).length + 1 := by rw [e1]; simp; omega
    have hlf : (l.filter (· != v)).length ≤ m := by
      have h1 : (l.filter (· != v)).length < l.length := by
        rw [List.length_filter_lt_length_iff_exists]
        exact ⟨v, hm, by simp⟩
      omega
    rw [ih (l.filter (· != v)) v hlf, dd_filter, hf, hlen]
    show _ = List.replicate (l.count (val n s (dd l))) (val n s (dd l)) ++ swD n (fun y => l.count y) (a ++ b).length (val n s (dd l)) ((dd l).eraseIdx (idx n s (dd l)))
    rw [e2, val_dd, ← hv, hc]
    congr 1
    refine swD_congr n _ _ _ rfl (fun y hy => ?_)
    rw [List.count_filter]
    have : y ≠ v := by
      rintro rfl
      rcases List.mem_append.1 hy with h | h
      · exact h3 h
      · exact hb h
    simp [this]
end Go.Proofs.Ytceppcmcokkkoaa
