/- New, Crash, Spoil; a unit's numbers, Of. -/
import Derived.Test.YtkldiofleepkfaaGreatHE
set_option linter.unusedVariables false
set_option linter.unusedSimpArgs false
namespace Go.Proofs.YtkldiofleepkfaaGreat.Hd
open Go.RowKit
open Go.Maps (Keyed)
theorem lawI : Keyed Tryz.prog 3 := Go.Maps.int_keyed Tryz.underlying3
def lay0 (gw gu : Nat) : Lay := ⟨gw, gu, fun _ => 0, fun _ => none, fun _ => 0, fun _ => 0, fun _ => none, fun _ => 0⟩
theorem PMap.made (w : World) (f : Int → Nat) : PMap (w.alloc (.map #[] 0)) w.heap.size 0 [] f :=
  ⟨.map [], World.ownsMap_made w Tryz.prog 3 RV, fun x => by constructor <;> (intro h; cases h), fun x hx => by cases hx⟩
theorem PMap.fresh {w w' : World} {b c : Nat} {ks : List Int} {f : Int → Nat} (h : PMap w b c ks f) (hb : Below w.heap.size w w') : PMap w' b c ks f := h.keep (S := fun _ => False) (Kept.fresh hb) (fun q => q)
set_option maxRecDepth 100000 in
set_option maxHeartbeats 1000000 in
theorem hnew {w : World} {gd n cc : Nat} {S : Nat → Bk} {Fd : Nat → Prop} (h : Code w gd n S cc Fd) (hc : cc < 100000) :
    Calls Tryz.prog 13 #[.pointer (some ⟨gd, 0, none⟩)] w fun e w' => ∃ g F, e = .returned (.pointer (some ⟨g, 0, none⟩)) ∧ Eng w' g n (fun j => (S j).flushed) cc 0 0 0 [] [] F ∧ (∀ b, F b → w.heap.size ≤ b) ∧ Below w.heap.size w w' := by
  have HF := Lib.hid (cfork h hc)
  have hmm := @run_makeMap Tryz.prog
  clear h
  go_enter Tryz.func13, Tryz.ntmps13
  go_wp2_with (first
    | (go_at_call 57; refine HF.out.mono ?_; rintro e w1 ⟨g1, F1, rfl, hd1, hf1, hb1⟩; have HD1 := Lib.hid hd1; have HF1 := Lib.hid hf1; have HB1 := Lib.hid hb1; clear hd1 hf1 hb1)
    | (go_at_call 58; refine (cflush HD1.out hc).mono ?_; rintro e w2 ⟨rfl, hw2⟩; have HW2 := Lib.hid hw2; clear hw2))
  go_ret
  obtain ⟨F2, hd2, hk2, hf2⟩ := HW2.out
  have hB2 : Below w.heap.size w w2 := HB1.out.trans (hk2.below HF1.out HB1.out.size)
  have hs := HB1.out.size
  have hs2 := hB2.size
  have hF2 : ∀ b, F2 b → w.heap.size ≤ b := fun b q => by
    rcases hf2 b q with q | q
    · exact HF1.out b q
    · omega
  obtain ⟨W3, hW3⟩ : ∃ W3, W3 = (w2.alloc (.map #[] 0)).alloc (.map #[] 0) := ⟨_, rfl⟩
  have hB3 : Below w2.heap.size w2 W3 := by rw [hW3]; exact below_alloc2 w2 _ _
  have hs3 : W3.heap.size = w2.heap.size + 2 := by rw [hW3, size_alloc1, size_alloc1]
  have m1 : PMap W3 w2.heap.size 0 [] (fun _ => 0) := by rw [hW3]; exact (PMap.made w2 _).fresh (below_alloc1 _ _)
  have m2 : PMap W3 (w2.heap.size + 1) 0 [] (fun _ => 0) := by
    rw [hW3]
    have := PMap.made (w2.alloc (.map #[] 0)) (fun _ => 0)
    rwa [size_alloc1] at this
  have hlt2 : ∀ b, F2 b → b < w2.heap.size := hd2.lt
  refine ⟨_, footH _ [] (lay0 w2.heap.size (w2.heap.size + 1)) F2, rfl, ⟨g1, lay0 w2.heap.size (w2.heap.size + 1), F2, ?_, rfl⟩, ?_, ?_⟩
  · have hB4 : Below W3.heap.size W3 (W3.alloc (.cells (hcs g1 0 0 0 (lay0 w2.heap.size (w2.heap.size + 1))) 89)) := below_alloc1 W3 _
    exact {
      head := by have := heap_alloc_new W3 (.cells (hcs g1 0 0 0 (lay0 w2.heap.size (w2.heap.size + 1))) 89); rw [hs3] at this; subst hW3; simpa [hcs, ptr, lay0] using this
      disk := by
        have := (hd2.fresh hB3).fresh hB4
        subst hW3; simpa [hcs, ptr, lay0] using this
      wmap := by
        have := (m1.fresh hB4).more (Nat.zero_le cc)
        subst hW3; simpa [hcs, ptr, lay0, nums_nil] using this
      umap := by
        have := (m2.fresh hB4).more (Nat.zero_le cc)
        subst hW3; simpa [hcs, ptr, lay0, units_nil] using this
      ws := fun x hx => by cases hx
      ahs := fun x hx => by cases hx
      us := fun u hu => by cases hu
      ups := fun u hu => by cases hu
      ok := Ok.nil
      sok := SentOk.nil _
      right := fun x hx => by cases hx
      blk := fun x hx => by cases hx
      lo := fun x hx => by cases hx
      ah0 := fun x hx => by cases hx
      k0 := Int.le_refl _
      few := Nat.zero_le _
      maps := by simp [lay0]
      gwd := fun q => by have := hlt2 _ q; simp only [lay0] at this; omega
      gud := fun q => by have := hlt2 _ q; simp only [lay0] at this; omega }
  · rintro b (q | q | q | ⟨u, hu, _⟩ | q)
    · omega
    · simp [lay0] at q; omega
    · simp [lay0] at q; omega
    · cases hu
    · exact hF2 b q
  · exact hB2.trans (((below_alloc2 w2 _ _).alloc (by rw [size_alloc1, size_alloc1]; omega) _).mono hs2)
set_option maxRecDepth 100000 in
theorem hcrash {w : World} {g n cc : Nat} {S : Nat → Bk} {k jo id : Int} {l : List Hw} {sent : List Int} {F : Nat → Prop} (h : Eng w g n S cc k jo id l sent F) (hc : cc < 100000) (pick : List Int) (hpw : ∀ x ∈ pick, -9223372036854775808 ≤ x ∧ x ≤ 9223372036854775807) (P : Option Addr) (pc : Nat) (hP : PickAt w (fun b => w.heap.size ≤ b) P pick) :
    Calls Tryz.prog 31 #[.pointer (some ⟨g, 0, none⟩), .slice P pick.length pc] w fun e w' => ∃ d F', e = .returned (.pointer (some ⟨d, 0, none⟩)) ∧ Code w' d n (crashed n S pick) cc F' ∧ (∀ b, F' b → w.heap.size ≤ b) ∧ Below w.heap.size w w' := by
  obtain ⟨gd, m, Fd, h, rfl⟩ := h
  have e0 := h.c0
  have hge := h.glt
  have HF := Lib.hid (cfork h.disk hc)
  have HPw := Lib.hid hpw
  have HP : Hid (∀ W G, Below w.heap.size w W → (∀ b, G b → w.heap.size ≤ b) → PickAt W G P pick) := fun W G hW hG => by
    rcases hP with q | ⟨b, o, h1, h2, h3, h4⟩
    · exact .inl q
    · exact .inr ⟨b, o, h1, Nat.lt_of_lt_of_le h2 hW.size, fun q => h3 (hG b q), fun j u hj => (hW.cell (p := ⟨b, o + j, none⟩) h2).trans (h4 j u hj)⟩
  clear h hpw hP
  go_enter Tryz.func31, Tryz.ntmps31
  go_wp2_with (first
    | (go_at_call 57; refine HF.out.mono ?_; rintro e w1 ⟨g1, F1, rfl, hd1, hf1, hb1⟩; have HD1 := Lib.hid hd1; have HF1 := Lib.hid hf1; have HB1 := Lib.hid hb1; clear hd1 hf1 hb1)
    | (go_at_call 86; refine (ccrash HD1.out hc pick HPw.out P pc (HP.out _ _ HB1.out HF1.out)).mono ?_; rintro e w2 ⟨rfl, hw2⟩; have HW2 := Lib.hid hw2; clear hw2))
  go_ret
  obtain ⟨F2, hd2, hk2, hf2⟩ := HW2.out
  refine ⟨_, F2, rfl, hd2, fun b q => ?_, HB1.out.trans (hk2.below HF1.out HB1.out.size)⟩
  rcases hf2 b q with q | q
  · exact HF1.out b q
  · have := HB1.out.size; omega
theorem hspoil {w : World} {g n cc : Nat} {S : Nat → Bk} {k jo id : Int} {l : List Hw} {sent : List Int} {F : Nat → Prop} (h : Eng w g n S cc k jo id l sent F) {i : Nat} (hi : i < n) (b : Bool) :
    Calls Tryz.prog 38 #[.pointer (some ⟨g, 0, none⟩), .int .i64 (i : Int), .bool b] w fun e w' => e = .returned (.int .i64 0) ∧ Went w w' F (Eng w' g n (upd S i ⟨(S i).s, (S i).v, b⟩) cc k jo id l sent) := by
  obtain ⟨gd, m, Fd, h, rfl⟩ := h
  have e0 := h.c0
  have hge := h.glt
  have HS := Lib.hid (cspoil h.disk hi b)
  have HH := Lib.hid h
  clear h
  go_enter Tryz.func38, Tryz.ntmps38
  go_wp2_with (refine HS.out.mono ?_; rintro e w' ⟨rfl, hw⟩; have HW := Lib.hid hw; clear hw)
  go_ret
  exact ⟨rfl, HH.out.of_disk (Nat.le_refl _) HW.out⟩
theorem hspoil_no {w : World} {g n cc : Nat} {S : Nat → Bk} {k jo id : Int} {l : List Hw} {sent : List Int} {F : Nat → Prop} (h : Eng w g n S cc k jo id l sent F) (i : Int) (hi : ¬ (0 ≤ i ∧ i < n)) (b : Bool) :
    Calls Tryz.prog 38 #[.pointer (some ⟨g, 0, none⟩), .int .i64 i, .bool b] w fun e w' => e = .returned (.int .i64 2) ∧ w = w' := by
  obtain ⟨gd, m, Fd, h, rfl⟩ := h
  have e0 := h.c0
  have hge := h.glt
  have HS := Lib.hid (cspoil_no h.disk i hi b)
  clear h
  go_enter Tryz.func38, Tryz.ntmps38
  go_wp2_with (refine HS.out.mono ?_; rintro e w' ⟨rfl, rfl⟩)
  go_ret
  exact ⟨rfl, rfl⟩
end Go.Proofs.YtkldiofleepkfaaGreat.Hd
