/- Deps that are right; contract of Close. -/
import Derived.Test.YthffdkoncagimaaGG
namespace Go.Proofs.Ythffdkoncagimaa
set_option linter.unusedVariables false
set_option linter.unusedSimpArgs false
set_option maxRecDepth 100000
open Go.RowKit Go.Shelf

theorem own_mono {w : World} {base base' : Nat} {e : TypeId} {size : Nat} {v : Value} {n : Nat} {xs : List Value} (h : w.ownsRow base e size v n xs) (hb : base' ≤ base) : w.ownsRow base' e size v n xs := by
  refine ⟨h.1, ?_⟩
  rcases h.2 with h | ⟨g, cap, cur, h1, h2, h3⟩
  · exact .inl h
  · exact .inr ⟨g, cap, cur, h1, Nat.le_trans hb h2, h3⟩
structure OkD (D : List (List Nat)) : Prop where
  right : Right D
  len : ∀ n, (rowN D n).length ≤ 256
theorem okRow_of {n : Nat} {l : List Int} (h : ∀ x ∈ l, 0 ≤ x ∧ x < (n : Int)) : okRow n l l.length = true := by
  refine List.all_eq_true.2 fun k hk => ?_
  have hk := List.mem_range.1 hk
  have := h (nth l k) (by rw [nth_lt hk]; exact List.getElem_mem _)
  simp only [Bool.and_eq_true, decide_eq_true_eq]; exact this
theorem okRow_out {n : Nat} {l : List Int} (h : okRow n l l.length = true) : ∀ x ∈ l, 0 ≤ x ∧ x < (n : Int) := by
  intro x hx
  obtain ⟨k, hk, rfl⟩ := List.getElem_of_mem hx
  have := List.all_eq_true.1 h k (List.mem_range.2 hk)
  simp only [Bool.and_eq_true, decide_eq_true_eq] at this
  rwa [nth_lt hk] at this
theorem okB_of {D : List (List Nat)} (h : OkD D) : okB (rowsI D) = true := by
  refine okB_all (by rw [length_rowsI]; exact h.right.1) (List.all_eq_true.2 fun n _ => ?_)
  rw [rowI_rowsI, length_natsI]
  simp only [Bool.and_eq_true, decide_eq_true_eq]
  refine ⟨h.len n, ?_⟩
  have := okRow_of (n := n) (l := natsI (rowN D n)) (fun x hx => by
    obtain ⟨d, hd, rfl⟩ := List.mem_map.1 hx
    have := h.right.2 n d hd
    omega)
  rwa [length_natsI] at this
theorem okB_out {R : List (List Int)} (h : okB R = true) : ∃ D, R = rowsI D ∧ OkD D := by
  unfold okB at h
  simp only [Bool.and_eq_true, decide_eq_true_eq] at h
  have hrow : ∀ n, n < R.length → (rowI R n).length ≤ 256 ∧ ∀ x ∈ rowI R n, 0 ≤ x ∧ x < (n : Int) := fun n hn => by
    have := List.all_eq_true.1 h.2 n (List.mem_range.2 hn)
    simp only [Bool.and_eq_true, decide_eq_true_eq] at this
    exact ⟨this.1, okRow_out this.2⟩
  have hD : R = rowsI (R.map fun l => l.map Int.toNat) := by
    unfold rowsI natsI
    rw [List.map_map]
    apply List.ext_getElem
    · simp
    · intro n h1 h2
      rw [List.getElem_map]
      show R[n] = ((R[n]).map Int.toNat).map _
      rw [List.map_map]
      apply List.ext_getElem
      · simp
      · intro k k1 k2
        have := (hrow n h1).2 (R[n][k]) (by rw [rowI_lt h1]; exact List.getElem_mem _)
        simp; omega
  refine ⟨_, hD, ?_⟩
  have hl : (R.map fun l => l.map Int.toNat).length = R.length := by simp
  have hr : ∀ n, n < R.length → rowN (R.map fun l => l.map Int.toNat) n = (rowI R n).map Int.toNat := fun n hn => by
    rw [rowN_lt (by rw [hl]; exact hn), rowI_lt hn]; simp
  refine ⟨⟨by rw [hl]; exact h.1, fun n d hd => ?_⟩, fun n => ?_⟩
  · have hn := mem_row_lt hd
    rw [hl] at hn
    rw [hr n hn] at hd
    obtain ⟨x, hx, rfl⟩ := List.mem_map.1 hd
    have := (hrow n hn).2 x hx
    omega
  · rcases Nat.lt_or_ge n R.length with hn | hn
    · rw [hr n hn, List.length_map]; exact (hrow n hn).1
    · rw [rowN_nil (by rw [hl]; exact hn)]; simp

theorem right_yes (A : Option Addr) (c kD : Nat) (D : List (List Nat)) (hk : kD = D.length) (hD : OkD D) (w : World) (hM : Mat w w.heap.size A (rowsI D)) :
    Calls Try.prog 34 #[.slice A kD c] w fun e w' => e = .returned (.bool true) ∧ w = w' := by
  subst hk
  have h := right_any A c (rowsI D) w (by rw [length_rowsI]; have := hD.right.1; omega) (fun k _ => by rw [rowI_rowsI, length_natsI]; have := hD.len k; omega) hM
  rwa [okB_of hD, length_rowsI] at h
theorem right_no (A : Option Addr) (c k : Nat) (R : List (List Int)) (hk : k = R.length) (hok : okB R = false) (w : World) (hl : R.length ≤ 1000) (hr : ∀ k, k < R.length → (rowI R k).length ≤ 1000) (hM : Mat w w.heap.size A R) :
    Calls Try.prog 34 #[.slice A k c] w fun e w' => e = .returned (.bool false) ∧ w = w' := by
  subst hk
  have h := right_any A c R w hl hr hM
  rwa [hok] at h
theorem OkD.lenBig {D : List (List Nat)} (h : OkD D) (n : Nat) : (rowN D n).length ≤ 100000 := Nat.le_trans (h.len n) (by omega)

theorem closeL_256 {D : List (List Nat)} (hD : Right D) (l : List Int) : listM 256 (upM D (markI D.length l) 256) = closeL D l := by
  have hm : ∀ x, markI D.length l x = true → x < D.length := fun x h => markI_lt h
  have h1 := upM_bound (D := D) hD.2 (B := 256) (fun x h => Nat.lt_of_lt_of_le (hm x h) hD.1) hm
  rw [h1]
  unfold closeL
  exact listM_more hD.1 (fun x h => by
    have := (upM_iff (D := D) hD.2 hm x).1 h
    rcases this with h | ⟨y, hy, hk⟩
    · exact hm x h
    · have := hk.lt hD; omega)

end Go.Proofs.Ythffdkoncagimaa
