/- Thin says the same: plain facts. -/
import Derived.Test.YtmekffcpbjmffaaWGraphThins
import Derived.Test.YtmekffcpbjmffaaWGraphOrder
namespace Go.Proofs.Ytmekffcpbjmffaa
open Go.RowKit

theorem rowN_ge {D : List (List Nat)} {n : Nat} (h : D.length ≤ n) : rowN D n = [] := by
  unfold rowN; rw [List.getD_eq_getElem?_getD, List.getElem?_eq_none h]; rfl
theorem mem_rowThin {D : List (List Nat)} (hD : Right D) {n x : Nat} : x ∈ rowN (thinL D) n ↔ x ∈ rowN D n ∧ ¬ ∃ d ∈ rowN D n, Must D x d := by
  rcases Nat.lt_or_ge n D.length with h | h
  · rw [rowN_thinL h, mem_thinRow hD]
  · rw [rowN_ge (D := thinL D) (by rw [length_thinL]; exact h), rowN_ge h]; simp
theorem thin_right {D : List (List Nat)} (hD : Right D) : Right (thinL D) :=
  ⟨by rw [length_thinL]; exact hD.1, fun n d hd => hD.2 n d ((mem_rowThin hD).1 hd).1⟩
theorem thin_ok {D : List (List Nat)} (hD : Right D) : OkD (thinL D) :=
  ⟨thin_right hD, fun n => by
    rcases Nat.lt_or_ge n D.length with h | h
    · rw [rowN_thinL h]; exact thinRow_len n
    · rw [rowN_ge (D := thinL D) (by rw [length_thinL]; exact h)]; simp⟩
theorem must_to {D : List (List Nat)} (hD : Right D) : ∀ m x y, y - x ≤ m → Must D x y → Must (thinL D) x y := by
  intro m
  induction m with
  | zero => intro x y h hm; have := (hm.lt hD).1; omega
  | succ m ih =>
    intro x y h hm
    have split : ∀ d, Must D x d → Must D d y → Must (thinL D) x y := fun d h1 h2 => by
      have e1 := (h1.lt hD).1
      have e2 := (h2.lt hD).1
      exact (ih x d (by omega) h1).trans (ih d y (by omega) h2)
    cases hm with
    | one h =>
      by_cases hex : ∃ d ∈ rowN D y, Must D x d
      · obtain ⟨d, hd, hm⟩ := hex; exact split d hm (.one hd)
      · exact .one ((mem_rowThin hD).2 ⟨h, hex⟩)
    | more h hk => exact split _ (.one h) hk
theorem must_from {D : List (List Nat)} (hD : Right D) {x y : Nat} (h : Must (thinL D) x y) : Must D x y := by
  induction h with
  | one h => exact .one ((mem_rowThin hD).1 h).1
  | more h _ ih => exact .more ((mem_rowThin hD).1 h).1 ih
theorem must_thin {D : List (List Nat)} (hD : Right D) {x y : Nat} : Must (thinL D) x y ↔ Must D x y := ⟨must_from hD, must_to hD _ x y (Nat.le_refl _)⟩
theorem befB_thin {D : List (List Nat)} (hD : Right D) (a b : Int) : befB (thinL D) a b = befB D a b := by
  rw [Bool.eq_iff_iff, befB_iff (thin_right hD), befB_iff hD]
  simp only [must_thin hD]
theorem dep_le_thin {D : List (List Nat)} (hD : Right D) (y : Nat) : ∀ m d, y - d ≤ m → d ∈ rowN D y → depN D d ≤ maxL (depN D) (rowN (thinL D) y) := by
  intro m
  induction m with
  | zero => intro d h hd; have := hD.2 y d hd; omega
  | succ m ih =>
    intro d h hd
    by_cases hex : ∃ d' ∈ rowN D y, Must D d d'
    · obtain ⟨d', hd', hm⟩ := hex
      have h1 := depN_lt hD hm
      have h2 := (hm.lt hD).1
      have h3 := ih d' (by omega) hd'
      omega
    · exact maxL_mem _ _ d ((mem_rowThin hD).2 ⟨hd, hex⟩)
theorem depN_thin {D : List (List Nat)} (hD : Right D) (n : Nat) : depN (thinL D) n = depN D n := by
  induction n using Nat.strongRecOn with
  | ind n ih =>
    rw [depN_eq (thin_right hD).2 n, depN_eq hD.2 n, maxL_congr (c' := depN D) (fun d hd => ih d ((thin_right hD).2 n d hd))]
    congr 1
    exact Nat.le_antisymm (maxL_le _ _ _ fun d hd => maxL_mem _ _ _ ((mem_rowThin hD).1 hd).1) (maxL_le _ _ _ fun d hd => dep_le_thin hD n _ d (Nat.le_refl _) hd)
theorem isN_thin (D : List (List Nat)) (a : Int) : isN (thinL D) a = isN D a := by unfold isN; rw [length_thinL]
theorem depthI_thin {D : List (List Nat)} (hD : Right D) (a : Int) : depthI (thinL D) a = depthI D a := by unfold depthI; rw [isN_thin, depN_thin hD]
theorem thin_thin {D : List (List Nat)} (hD : Right D) : thinL (thinL D) = thinL D := by
  have h : ∀ k, thinRow (thinL D) k = thinRow D k := fun k => by
    refine rising_ext _ _ (listM_rising _ _) (listM_rising _ _) fun x => ?_
    rw [mem_thinRow (thin_right hD), mem_rowThin hD, mem_thinRow hD]
    constructor
    · exact fun h => h.1
    · refine fun h => ⟨h, ?_⟩
      rintro ⟨d, hd, hm⟩
      exact h.2 ⟨d, ((mem_rowThin hD).1 hd).1, must_from hD hm⟩
  show (List.range (thinL D).length).map (thinRow (thinL D)) = (List.range D.length).map (thinRow D)
  rw [length_thinL]
  exact List.map_congr_left fun k _ => h k
theorem thinRow_up (D : List (List Nat)) (k j : Nat) (h : j + 1 < (thinRow D k).length) : el (thinRow D k) j < el (thinRow D k) (j + 1) := by
  rw [el_lt (by omega), el_lt h]
  have hp : (thinRow D k).Pairwise (· < ·) := listM_rising _ _
  exact List.pairwise_iff_getElem.1 hp j (j + 1) (by omega) h (by omega)
end Go.Proofs.Ytmekffcpbjmffaa
