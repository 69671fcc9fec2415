/- New, Crash, Spoil; a unit's numbers, Of. -/
import Derived.Test.YtkldiofleepkfaaHE
set_option linter.unusedVariables false
set_option linter.unusedSimpArgs false
namespace Go.Proofs.Ytkldiofleepkfaa.Hd
open Go.RowKit
open Go.Maps (Keyed)
theorem lawI : Keyed Try.prog 3 := Go.Maps.int_keyed Try.underlying3
def lay0 (gw gu : Nat) : Lay := ⟨gw, gu, fun _ => 0, fun _ => none, fun _ => 0, fun _ => 0, fun _ => none, fun _ => 0⟩
theorem PMap.made (w : World) (f : Int → Nat) : PMap (w.alloc (.map #[] 0)) w.heap.size 0 [] f :=
  ⟨.map [], World.ownsMap_made w Try.prog 3 RV, fun x => by constructor <;> (intro h; cases h), fun x hx => by cases hx⟩
theorem PMap.fresh {w w' : World} {b c : Nat} {ks : List Int} {f : Int → Nat} (h : PMap w b c ks f) (hb : Below w.heap.size w w') : PMap w' b c ks f := h.keep (S := fun _ => False) (Kept.fresh hb) (fun q => q)
set_option maxRecDepth 100000 in
set_option maxHeartbeats 1000000 in
theorem hnew {w : World} {gd n cc : Nat} {S : Nat → Bk} {Fd : Nat → Prop} (h : Code w gd n S cc Fd) (hc : cc < 100000) :
    Calls Try.prog 4 #[.pointer (some ⟨gd, 0, none⟩)] w fun e w' => ∃ g F, e = .returned (.pointer (some ⟨g, 0, none⟩)) ∧ Eng w' g n (fun j => (S j).flushed) cc 0 0 0 [] [] F ∧ (∀ b, F b → w.heap.size ≤ b) ∧ Below w.heap.size w w' := by
  have HF := Lib.hid (cfork h hc)
  have hmm := @run_makeMap Try.prog
  clear h
  go_enter Try.func4, Try.ntmps4
  go_wp2_with (first
    | (go_at_call 11; refine HF.out.mono ?_; rintro e w1 ⟨g1, F1, rfl, hd1, hf1, hb1⟩; have HD1 := Lib.hid hd1; have HF1 := Lib.hid hf1; have HB1 := Lib.hid hb1; clear hd1 hf1 hb1)
    | (go_at_call 12; refine (cflush HD1.out hc).mono ?_; rintro e w2 ⟨rfl, hw2⟩; have HW2 := Lib.hid hw2; clear hw2))
  go_ret
  obtain ⟨F2, hd2, hk2, hf2⟩ := HW2.out
  have hB2 : Below w.heap.size w w2 := HB1.out.trans (hk2.below HF1.out HB1.out.size)
  have hs := HB1.out.size
  have hs2 := hB2.size
  have hF2 : ∀ b, F2 b → w.heap.size ≤ b := fun b q => by
    rcases hf2 b q with q | q
    · exact HF1.out b q
    · omega
  obtain ⟨W3, hW3⟩ : ∃ W3, W3 = (w2.alloc (.map #[] 0)).alloc (.map #[] 0) := ⟨_, rfl⟩
  have hB3 : Below w2.heap.size w2 W3 := by rw [hW3]; exact below_alloc2 w2 _ _
  have hs3 : W3.heap.size = w2.heap.size + 2 := by rw [hW3, size_alloc1, size_alloc1]
  have m1 : PMap W3 w2.heap.size 0 [] (fun _ => 0) := by rw [hW3]; exact (PMap.made w2 _).fresh (below_alloc1 _ _)
  have m2 : PMap W3 (w2.heap.size + 1) 0 [] (fun _ => 0) := by
    rw [hW3]
    have := PMap.made (w2.alloc (.map #[] 0)) (fun _ => 0)
    rwa [size_alloc1] at this
  have hlt2 : ∀ b, F2 b → b < w2.heap.size := hd2.lt
  refine ⟨_, footH _ [] (lay0 w2.heap.size (w2.heap.size + 1)) F2, rfl, ⟨g1, lay0 w2.heap.size (w2.heap.size + 1), F2, ?_, rfl⟩, ?_, ?_⟩
  · have hB4 : Below W3.heap.size W3 (W3.alloc (.cells (hcs g1 0 0 0 (lay0 w2.heap.size (w2.heap.size + 1))) 45)) := below_alloc1 W3 _
    exact {
      head := by have := heap_alloc_new W3 (.cells (hcs g1 0 0 0 (lay0 w2.heap.size (w2.heap.size + 1))) 45); rw [hs3] at this; subst hW3; simpa [hcs, ptr, lay0] using this
      disk := by
        have := (hd2.fresh hB3).fresh hB4
        subst hW3; simpa [hcs, ptr, lay0] using this
      wmap := by
        have := (m1.fresh hB4).more (Nat.zero_le cc)
        subst hW3; simpa [hcs, ptr, lay0, nums_nil] using this
      umap := by
        have := (m2.fresh hB4).more (Nat.zero_le cc)
        subst hW3; simpa [hcs, ptr, lay0, units_nil] using this
      ws := fun x hx => by cases hx
      ahs := fun x hx => by cases hx
      us := fun u hu => by cases hu
      ups := fun u hu => by cases hu
      ok := Ok.nil
      sok := SentOk.nil _
      right := fun x hx => by cases hx
      blk := fun x hx => by cases hx
      lo := fun x hx => by cases hx
      ah0 := fun x hx => by cases hx
      k0 := Int.le_refl _
      few := Nat.zero_le _
      maps := by simp [lay0]
      gwd := fun q => by have := hlt2 _ q; simp only [lay0] at this; omega
      gud := fun q => by have := hlt2 _ q; simp only [lay0] at this; omega }
  · rintro b (q | q | q | ⟨u, hu, _⟩ | q)
    · omega
    · simp [lay0] at q; omega
    · simp [lay0] at q; omega
    · cases hu
    · exact hF2 b q
  · exact hB2.trans (((below_alloc2 w2 _ _).alloc (by rw [size_alloc1, size_alloc1]; omega) _).mono hs2)
end Go.Proofs.Ytkldiofleepkfaa.Hd
