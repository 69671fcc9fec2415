/- Is there a unit in a row that was not written: ContainsFunc. -/
import Derived.Test.YtkldiofleepkfaaHN
set_option linter.unusedVariables false
set_option linter.unusedSimpArgs false
namespace Go.Proofs.Ytkldiofleepkfaa.Hd
open Go.RowKit
def idxF (f : Int → Bool) (l : List Int) : Int := if l.any f then (l.findIdx f : Int) else -1
theorem idxF_at {f : Int → Bool} {l : List Int} {k : Nat} (hk : k < l.length) (h1 : ∀ j, j < k → f (un l j) = false) (h2 : f (un l k) = true) : l.any f = true ∧ l.findIdx f = k := by
  refine ⟨List.any_eq_true.2 ⟨l[k], List.getElem_mem hk, by rw [← un_lt hk]; exact h2⟩, ?_⟩
  rw [List.findIdx_eq hk]
  refine ⟨by rw [← un_lt hk]; exact h2, fun j hj => ?_⟩
  have := h1 j hj
  rwa [un_lt (by omega)] at this
theorem idxF_none {f : Int → Bool} {l : List Int} (h1 : ∀ j, j < l.length → f (un l j) = false) : l.any f = false := by
  rw [List.any_eq_false]
  intro x hx
  obtain ⟨j, hj, rfl⟩ := List.mem_iff_getElem.1 hx
  have := h1 j hj
  rw [un_lt hj] at this
  simp [this]
theorem idxF_ge (f : Int → Bool) (l : List Int) : decide (0 ≤ idxF f l) = l.any f := by
  unfold idxF
  cases h : l.any f <;> simp
set_option maxRecDepth 100000 in
set_option maxHeartbeats 1000000 in
theorem index_un (g : Int → Nat) (s : Int → Bool) (B : Nat) (A : Option Addr) (c : Nat) (l : List Int) (w : World) (hR : w.ownsRow B 59 1 (.slice A l.length c) l.length (ptrsU g l)) (hc : ∀ u ∈ l, g u < w.heap.size ∧ w.cell? ⟨g u, 3, none⟩ = some (.bool (s u))) (hl : l.length ≤ 1000) :
    Calls Try.prog 32 #[.slice A l.length c, .func (.func 16) #[] #[]] w fun e w' => e = .returned (.int .i64 (idxF (fun u => !s u) l)) ∧ Below w.heap.size w w' := by
  have HR := Lib.hid hR
  have HCl := Lib.hid hc
  obtain ⟨f, hf⟩ : ∃ f : Int → Bool, f = (fun u => !s u) := ⟨_, rfl⟩
  have HF : Hid (∀ u ∈ l, ∀ W, Below w.heap.size w W → Calls Try.prog 16 #[.pointer (some ⟨g u, 0, none⟩)] W fun e w' => e = .returned (.bool (f u)) ∧ Below W.heap.size W w') := fun u hu W hW => by
    rw [hf]
    obtain ⟨a1, a2⟩ := HCl.out u hu
    exact unwritten_any _ _ _ (Nat.lt_of_lt_of_le a1 hW.size) ((hW.cell (p := ⟨g u, 3, none⟩) a1).trans a2)
  rw [← hf]
  clear hR hf hc
  go_enter Try.func32, Try.ntmps32
  go_wp2
  go_loopw [8] (fun q wr => ∃ k : Nat, k ≤ l.length ∧ q = .int .i64 k ∧ Below w.heap.size w wr ∧ Hid (∀ j, j < k → f (un l j) = false)) (fun q _ => l.length - (intOf q).toNat)
  case atStart => exact ⟨0, Nat.zero_le _, rfl, Below.refl _ _, fun j hj => absurd hj (by omega)⟩
  case round =>
    obtain ⟨k, hk, rfl, hB, hno⟩ := hrel
    rename World => wr
    have HB := Lib.hid hB
    clear hB
    by_cases hlt : k < l.length
    · have hlti : (k : Int) < (l.length : Int) := by omega
      have hk0 : (0 : Int) ≤ (k : Int) := by omega
      obtain ⟨ab, hA, h3, h4, hb, hcs, _⟩ := ptr_at ((Kept.fresh (S := fun _ => False) HB.out).row HR.out (fun _ _ q => q)) hlt
      rw [ptrsU_at g hlt] at hcs
      subst hA
      unfold maxLen at h4
      have HE := Lib.hid (HF.out _ (un_mem hlt) wr HB.out)
      cases ht : f (un l k) with
      | true =>
        have Hf : Hid (idxF f l = (k : Int)) := by
          obtain ⟨h1, h2⟩ := idxF_at hlt hno.out ht
          unfold Hid idxF; rw [h1, h2]; rfl
        rw [ht] at HE
        clear ht
        generalize g (un l k) = xb at *
        go_wp2_with (refine HE.out.mono ?_; rintro e w1 ⟨rfl, hb1⟩; have HB1 := Lib.hid hb1; clear hb1)
        go_ret
        rw [Hf.out]
        exact ⟨rfl, HB.out.trans (HB1.out.mono HB.out.size)⟩
      | false =>
        have Hn : Hid (∀ j, j < k + 1 → f (un l j) = false) := fun j hj => by
          rcases Nat.lt_or_ge j k with h | h
          · exact hno.out j h
          · obtain rfl : j = k := by omega
            exact ht
        rw [ht] at HE
        clear ht
        generalize g (un l k) = xb at *
        go_wp2_with (refine HE.out.mono ?_; rintro e w1 ⟨rfl, hb1⟩; have HB1 := Lib.hid hb1; clear hb1)
        go_roundw
        case rel => exact ⟨k + 1, by omega, by go_num, HB.out.trans (HB1.out.mono HB.out.size), Hn.out⟩
        case measure => simp [intOf]; omega
    · obtain rfl : k = l.length := by omega
      have Hf : Hid (idxF f l = -1) := by
        unfold Hid idxF; rw [idxF_none hno.out]; rfl
      go_wp2
      go_ret
      rw [Hf.out]
      exact ⟨rfl, HB.out⟩
theorem contains_any (g : Int → Nat) (s : Int → Bool) (B : Nat) (A : Option Addr) (c : Nat) (l : List Int) (w : World) (hR : w.ownsRow B 59 1 (.slice A l.length c) l.length (ptrsU g l)) (hc : ∀ u ∈ l, g u < w.heap.size ∧ w.cell? ⟨g u, 3, none⟩ = some (.bool (s u))) (hl : l.length ≤ 1000) :
    Calls Try.prog 15 #[.slice A l.length c, .func (.func 16) #[] #[]] w fun e w' => e = .returned (.bool (l.any fun u => !s u)) ∧ Below w.heap.size w w' := by
  have HI := Lib.hid (index_un g s B A c l w hR hc hl)
  have Hc := Lib.hid (idxF_ge (fun u => !s u) l)
  generalize l.length = m at *
  clear hR hc
  obtain ⟨r, hr⟩ : ∃ r, r = idxF (fun u => !s u) l := ⟨_, rfl⟩
  rw [← hr] at HI Hc
  clear hr
  go_enter Try.func15, Try.ntmps15
  go_wp2_with (refine HI.out.mono ?_; rintro e w1 ⟨rfl, hb1⟩; have HB1 := Lib.hid hb1; clear hb1)
  go_ret
  rw [← Hc.out]
  exact ⟨rfl, HB1.out⟩
end Go.Proofs.Ytkldiofleepkfaa.Hd
