/- Contract of made: some groups, with blocks taken near some. -/
import Derived.Test.YtpcindemkkdbbaaFP
import Derived.Test.YtpcindemkkdbbaaRE
import Derived.Test.YtpcindemkkdbbaaRI
import Derived.Deep.RegionHeld3
import Derived.Deep.Cut
import Derived.Deep.CutRange
namespace Go.Proofs.Ytpcindemkkdbbaa
set_option linter.unusedVariables false
set_option linter.unusedSimpArgs false
open Go.RowKit

/-- under A, below block B, the cells are the bytes l -/
def Bts (w : World) (B : Nat) (A : Option Addr) (l : List Int) : Prop :=
  (∀ x ∈ l, 0 ≤ x ∧ x ≤ 255) ∧ (0 < l.length → ∃ b off, A = some ⟨b, off, none⟩ ∧ b < B ∧ ∀ j, j < l.length → w.cell? ⟨b, off + j, none⟩ = some (.int .u8 (nth l j)))
theorem Bts.keep {w w' : World} {B : Nat} {A : Option Addr} {l : List Int} (h : Bts w B A l) (hk : ∀ p : Addr, p.block < B → w'.cell? p = w.cell? p) : Bts w' B A l := ⟨h.1, fun hn => by
  obtain ⟨b, off, e, hb, hc⟩ := h.2 hn
  exact ⟨b, off, e, hb, fun j hj => (hk _ hb).trans (hc j hj)⟩⟩
theorem Bts.next {w w' : World} {A : Option Addr} {l : List Int} (h : Bts w w.heap.size A l) (hb : Below w.heap.size w w') : Bts w' w'.heap.size A l := by
  have h2 := h.keep (fun _ hp => hb.cell hp)
  exact ⟨h2.1, fun hn => by obtain ⟨b, off, e, hb2, hc⟩ := h2.2 hn; exact ⟨b, off, e, Nat.lt_of_lt_of_le hb2 hb.size, hc⟩⟩
theorem cyls_of_bare {w : World} {B n : Nat} {v : Value} {L : List Cy} {R : Nat → Option Addr} {C : Nat → Nat} (h : w.ownsRow B 24 7 v n (flat7 n (cellsC L R C))) (hn : n = L.length) (hL : ∀ j, j < n → (cyN L j).us = [] ∧ (cyN L j).is = []) : ∃ A c, v = .slice A L.length c ∧ Cyls w w.heap.size A L := by
  subst hn
  rcases h.2 with ⟨rfl, h0⟩ | ⟨g, cap, cur, rfl, hb, hg, hnc, hcm, hs, ht⟩
  · exact ⟨none, 0, by rw [h0], fun h1 => by omega⟩
  · refine ⟨_, cap, rfl, fun _ => ⟨g, 0, fun j => R (2 * j), fun j => C (2 * j), fun j => R (2 * j + 1), fun j => C (2 * j + 1), rfl, lt_heap hg, fun j hj => ?_⟩⟩
    have e : ∀ i, i < 7 → w.cell? ⟨g, 0 + j * 7 + i, none⟩ = (cellsC L R C j)[i]? := fun i hi => by
      rw [Nat.zero_add, h.cellAt (j * 7 + i) (by omega), at_flat7 (length_cellsC L R C) hj hi]
    obtain ⟨hu, hi⟩ := hL j hj
    exact ⟨e 0 (by omega), e 1 (by omega), e 2 (by omega), e 3 (by omega), e 4 (by omega), e 5 (by omega), e 6 (by omega), by rw [hu]; exact Ints.nil, by rw [hi]; exact Ints.nil⟩
/-- empty groups of these sizes -/
def emptyL (l : List Int) (m : Nat) : List Cy := (List.range m).map fun j : Nat => bare (j : Int) (nth l j % 64 + 1)
theorem length_emptyL (l : List Int) (m : Nat) : (emptyL l m).length = m := by simp [emptyL]
theorem emptyL_at (l : List Int) {m j : Nat} (h : j < m) : cyN (emptyL l m) j = bare (j : Int) (nth l j % 64 + 1) := by
  rw [cyN_lt (by rw [length_emptyL]; exact h)]; simp [emptyL]
theorem right_bare {j : Nat} {x : Int} (hj : j < 16) (h0 : 0 ≤ x) : RightC (bare (j : Int) (x % 64 + 1)) := by
  have := right_grpI (g := j) (n := (x % 64 + 1).toNat) (i := 0) hj (by omega) (by omega) (by omega)
  rw [grpI_zero, Int.toNat_of_nonneg (by omega)] at this
  exact this
theorem whole_emptyL {l : List Int} {m : Nat} (h1 : 1 ≤ m) (h2 : m ≤ 16) (hm : m ≤ l.length) (hl : ∀ x ∈ l, 0 ≤ x ∧ x ≤ 255) : Whole (emptyL l m) := by
  refine ⟨by rw [length_emptyL]; exact h1, by rw [length_emptyL]; exact h2, fun i hi => ?_, fun i hi => ?_⟩ <;> rw [length_emptyL] at hi <;> rw [emptyL_at l hi]
  · rfl
  · exact right_bare (by omega) (hl _ (nth_mem (by omega))).1
theorem whole_small {l : List Cy} (h : Whole l) : SmallL l := by
  refine ⟨by have := h.n2; omega, fun j hj => ?_⟩
  have hR := h.ok j hj
  have h1 := rise_len hR.us (by have := hR.bl.1; omega)
  have h2 := rise_len hR.is (by omega)
  have h3 := hR.bl.2
  exact ⟨by omega, by omega⟩
theorem nil_small0 : SmallL [] := ⟨by simp, fun j hj => by simp at hj⟩
def WholeO (L : List Cy) : Prop := L = [] ∨ Whole L
theorem WholeO.small {l : List Cy} (h : WholeO l) : SmallL l := by
  rcases h with rfl | h
  · exact nil_small0
  · exact whole_small h
theorem WholeO.len {l : List Cy} (h : WholeO l) : l.length ≤ 16 := by
  rcases h with rfl | h
  · simp
  · exact h.n2
theorem emptyL_zero (l : List Int) : emptyL l 0 = [] := rfl
def MadeSays (w : World) (l1 : List Int) (e : Ending) (w' : World) : Prop := ∃ A c L, e = .returned (.slice A L.length c) ∧ WholeO L ∧ L.length = min l1.length 16 ∧ Cyls w' w'.heap.size A L ∧ Below w.heap.size w w'
theorem new_whole {k : Nat} {x : Int} (hk : k < 16) (h0 : 0 ≤ x) (W : World) :
    Calls Try.prog 20 #[.int .i64 k, .int .i64 (x % 64 + 1)] W fun e w' => ∃ A c A2 d, e = .returned (.tuple #[.agg #[.int .i64 k, .int .i64 (x % 64 + 1), .int .i64 (x % 64 + 1), .int .i64 16, .int .i64 0, .slice A 0 c, .slice A2 0 d], .int .i64 0]) ∧ Below W.heap.size W w' := by
  refine (refnew_any k (x % 64 + 1) W).mono ?_
  rw [if_pos ((rightC_iff _).2 (right_bare hk h0)), if_pos ((rightC_iff _).2 (right_bare hk h0))]
  rintro e w' ⟨A, c, A2, d, rfl, _, _, _, hB⟩
  exact ⟨A, c, A2, d, rfl, hB⟩
end Go.Proofs.Ytpcindemkkdbbaa
