/- Plain words: a sweep has the same blocks, as often; make of it is the bytes. -/
import Derived.Test.YtceppcmcokkkoaaSE
namespace Go.Proofs.Ytceppcmcokkkoaa
open Go.RowKit

theorem swR_count (n f : Nat) : ∀ (l : List Nat) (s y : Nat), l.length = f → (swR n f s l).count y = l.count y := by
  induction f with
  | zero =>
    intro l s y h
    rw [List.eq_nil_of_length_eq_zero h]
    rfl
  | succ f ih =>
    intro l s y h
    have hne : l ≠ [] := by rintro rfl; simp at h
    obtain ⟨a, b, e1, e2, _⟩ := cut_at n s hne
    have hi := idx_lt n s hne
    show (val n s l :: swR n f (val n s l) (l.eraseIdx (idx n s l))).count y = l.count y
    rw [List.count_cons, ih _ _ _ (by rw [List.length_eraseIdx_of_lt hi]; omega), e2]
    have : l.count y = (a ++ val n s l :: b).count y := by rw [← e1]
    rw [this, List.count_append, List.count_append, List.count_cons]
    omega
theorem swR_mem (n s : Nat) (l : List Nat) (y : Nat) : y ∈ swR n l.length s l ↔ y ∈ l := by
  rw [← List.count_pos_iff, ← List.count_pos_iff, swR_count n _ l s y rfl]
theorem swR_head (n s : Nat) {l : List Nat} (h : l ≠ []) : el (swR n l.length s l) 0 = val n s l := by
  obtain ⟨f, hf⟩ : ∃ f, l.length = f + 1 := ⟨l.length - 1, by have := List.length_pos_iff.2 h; omega⟩
  rw [hf]
  rfl
theorem make_of (l : List Int) (hl : AllB l) (S : List Nat) (hS : ∀ j, j ∈ S ↔ j ∈ ones l) : accB l.length (natsI S) = l := by
  have hhas : ∀ x ∈ natsI S, hasB l.length x = true := fun x hx => by
    obtain ⟨i, hi, rfl⟩ := List.mem_map.1 hx
    exact ones_has l _ (List.mem_map.2 ⟨i, (hS i).1 hi, rfl⟩)
  refine bytes_eq _ _ (accB_all _ _) hl (length_accB _ _) fun j hj => ?_
  rw [length_accB] at hj
  rw [bitN_accB _ _ hhas]
  cases hb : bitN l j with
  | true =>
    simp only [decide_eq_true_eq]
    exact mem_natsI.2 ((hS j).2 (ones_mem hb hj))
  | false =>
    simp only [decide_eq_false_iff_not]
    intro h
    have := (mem_ones ((hS j).1 (mem_natsI.1 h))).1
    rw [hb] at this
    cases this
theorem farFrom_idx (n i : Nat) (q : List Nat) : bestOf (farFrom i (natsI q) n) q.length = idx n i q := by
  refine bestOf_congr _ (fun j hj => ?_)
  unfold farFrom nn
  rw [nth_nats q j hj, Int.toNat_natCast]
theorem sweep_of (A : Option Addr) (c m i n : Nat) (p : Int) (hp : p = (n : Int)) (q : List Nat) (w : World) (hm : m = q.length) (hl : q.length ≤ 1000) (hi : i < 1024) (h1n : 1 ≤ n) (hn : n ≤ 64) (hq : ∀ x ∈ q, x < 1024) (hI : Ints w w.heap.size A (natsI q)) :
    Calls Try.prog 24 #[.int .i64 (i : Int), .slice A m c, .int .i64 p] w fun e w' => ∃ A' c', e = .returned (.tuple #[.slice A' q.length c', .int .i64 0]) ∧ Ints w' w'.heap.size A' (natsI (swR n q.length i q)) ∧ Below w.heap.size w w' := by
  subst hp
  refine (sweep_yes A c m i n q w hm hl hi h1n hn hq hI).mono ?_
  rintro e w' ⟨v, rfl, ho, hB⟩
  rw [natsV_intsV] at ho
  obtain ⟨A', c', rfl, _, _, hI'⟩ := own_ints ho
  exact ⟨A', c', by rw [length_natsI, length_swR], hI', hB⟩
theorem next_of (A : Option Addr) (c m i n : Nat) (p : Int) (hp : p = (n : Int)) (q : List Nat) (w : World) (hm : m = q.length) (hl : q.length ≤ 1000) (hi : i < 1024) (h1n : 1 ≤ n) (hn : n ≤ 64) (hq : ∀ x ∈ q, x < 1024) (hI : Ints w w.heap.size A (natsI q)) :
    Calls Try.prog 21 #[.int .i64 (i : Int), .slice A m c, .int .i64 p] w fun e w' => (e = .returned (.tuple #[.int .i64 (if q = [] then 0 else ((idx n i q : Nat) : Int)), .bool (decide (q ≠ []))])) ∧ Below w.heap.size w w' := by
  subst hp hm
  have h := next_any A c (i : Int) (n : Int) (natsI q) w (by rw [length_natsI]; exact hl) hI
  rw [length_natsI] at h
  refine h.mono ?_
  rintro e w' hs
  have hf := lies_fit (lies_of hi h1n hn hq)
  refine ⟨?_, hs.1⟩
  rw [hs.val]
  rw [length_natsI, Int.toNat_natCast, Int.toNat_natCast, farFrom_idx]
  by_cases e : q = []
  · subst e
    simp
  · have hl0 : q.length ≠ 0 := fun h => e (List.eq_nil_of_length_eq_zero h)
    rw [if_pos ⟨hf, hl0⟩, decide_eq_true (show fitB (i : Int) (natsI q) (n : Int) = true ∧ q.length ≠ 0 from ⟨hf, hl0⟩), if_neg e, decide_eq_true e]
end Go.Proofs.Ytceppcmcokkkoaa
