/- Contract of Take. -/
import Derived.Test.YtpcindemkkdbbaaBC
namespace Go.Proofs.Ytpcindemkkdbbaa
set_option linter.unusedVariables false
set_option linter.unusedSimpArgs false
open Go.RowKit

theorem box5_new (w : World) (A : Option Addr) (n c : Nat) (g b : Int) : Box5 w A n c g b (((((w.alloc (.cells #[.slice A n c] 39)).alloc (.cells #[.int .i64 g, .int .i64 b] 41)).alloc (.cells #[.slice none 0 0] 39)).alloc (.cells #[.int .i64 0, .int .i64 0] 41)).alloc (.cells #[.int .i64 0] 28)) := by
  have al : ∀ (W : World) (o : Obj) (b : Nat) (t : TypeId) (cs : Array Value), Blk W b t cs → Blk (W.alloc o) b t cs := fun W o b t cs h => (Below.heap_alloc W o b (Array.getElem?_eq_some_iff.1 h).1).trans h
  have nw : ∀ (W : World) (t : TypeId) (cs : Array Value) (k : Nat), W.heap.size = k → Blk (W.alloc (.cells cs t)) k t cs := fun W t cs k e => by rw [← e]; exact Go.heap_alloc_new W _
  exact ⟨al _ _ _ _ _ (al _ _ _ _ _ (al _ _ _ _ _ (al _ _ _ _ _ (nw _ _ _ _ rfl)))), al _ _ _ _ _ (al _ _ _ _ _ (al _ _ _ _ _ (nw _ _ _ _ (by simp)))), al _ _ _ _ _ (al _ _ _ _ _ (nw _ _ _ _ (by simp))), al _ _ _ _ _ (nw _ _ _ _ (by simp)), nw _ _ _ _ (by simp)⟩

set_option maxRecDepth 100000 in
set_option maxHeartbeats 2000000 in
theorem take_form (A : Option Addr) (c m : Nat) (l : List Cy) (ng nb : Int) (hm : m = l.length) (w : World) (hs : SmallL l) (hI : Cyls w w.heap.size A l) (hW : wholeL l = false) :
    Calls Try.prog 26 #[.slice A m c, .agg #[.int .i64 ng, .int .i64 nb]] w (AnSays w ⟨[], 0, 0, 3⟩) := by
  have HWh : Hid (∀ W, Below w.heap.size w W → Calls Try.prog 31 #[.slice A m c] W fun e w' => e = .returned (.bool false) ∧ Below W.heap.size W w') := fun W hB => by
    have := whole_any A c m l hm W hs (hI.next hB)
    rw [hW] at this; exact this
  clear hI hs hW hm
  obtain ⟨Q, hQ⟩ : ∃ Q, Q = AnSays w ⟨[], 0, 0, 3⟩ := ⟨_, rfl⟩
  have HQ : Hid (∀ e w', AnSays w ⟨[], 0, 0, 3⟩ e w' → Q e w') := by unfold Hid; rw [hQ]; exact fun _ _ h => h
  rw [← hQ]
  clear hQ
  go_enter Try.func26, Try.ntmps26
  go_wp2_with fail
  have hB0 : Below w.heap.size w (((((w.alloc (.cells #[.slice A m c] 39)).alloc (.cells #[.int .i64 ng, .int .i64 nb] 41)).alloc (.cells #[.slice none 0 0] 39)).alloc (.cells #[.int .i64 0, .int .i64 0] 41)).alloc (.cells #[.int .i64 0] 28)) :=
    (((((Below.refl _ w).alloc (Nat.le_refl _) _).alloc (by simp) _).alloc (by simp; omega) _).alloc (by simp; omega) _).alloc (by simp; omega) _
  have hX0 := box5_new w A m c ng nb
  have hs0 : (((((w.alloc (.cells #[.slice A m c] 39)).alloc (.cells #[.int .i64 ng, .int .i64 nb] 41)).alloc (.cells #[.slice none 0 0] 39)).alloc (.cells #[.int .i64 0, .int .i64 0] 41)).alloc (.cells #[.int .i64 0] 28)).heap.size = w.heap.size + 5 := by simp
  generalize (((((w.alloc (.cells #[.slice A m c] 39)).alloc (.cells #[.int .i64 ng, .int .i64 nb] 41)).alloc (.cells #[.slice none 0 0] 39)).alloc (.cells #[.int .i64 0, .int .i64 0] 41)).alloc (.cells #[.int .i64 0] 28)) = Wa at hB0 hX0 hs0 ⊢
  refine (HWh.out _ hB0).mono ?_
  rintro e Wb ⟨rfl, hBb⟩
  have hX := hX0.keep hBb
  have hB : Below w.heap.size w Wb := hB0.trans (hBb.mono (by omega))
  have hsb : w.heap.size + 5 ≤ Wb.heap.size := by have := hBb.size; omega
  clear hBb hB0 hs0 hX0
  have d2 := cellAt_of hX.b2 0
  have d30 := cellAt_of hX.b3 0
  have d31 := cellAt_of hX.b3 1
  have d4 := cellAt_of hX.b4 0
  simp only [List.getElem?_toArray, List.getElem?_cons_zero, List.getElem?_cons_succ] at d2 d30 d31 d4
  have f2 := frozen_of_row Wb _ 0 _ 39 hX.b2
  have f30 := frozen_of_row Wb _ 0 _ 41 hX.b3
  have f31 := frozen_of_row Wb _ 1 _ 41 hX.b3
  have f4 := frozen_of_row Wb _ 0 _ 28 hX.b4
  have HX := Lib.hid hX
  have HB := Lib.hid hB
  clear hX hB
  go_wp2_with fail
  have hbf : Below w.heap.size w ((((Wb.setCell ⟨w.heap.size + 1 + 1, 0, none⟩ (.slice none 0 0)).setCell ⟨w.heap.size + 1 + 1 + 1, 0, none⟩ (.int .i64 0)).setCell ⟨w.heap.size + 1 + 1 + 1, 1, none⟩ (.int .i64 0)).setCell ⟨w.heap.size + 1 + 1 + 1 + 1, 0, none⟩ (.int .i64 3)) :=
    (((HB.out.setCell (p := ⟨w.heap.size + 1 + 1, 0, none⟩) (by dsimp only; omega) _).setCell (p := ⟨w.heap.size + 1 + 1 + 1, 0, none⟩) (by dsimp only; omega) _).setCell (p := ⟨w.heap.size + 1 + 1 + 1, 1, none⟩) (by dsimp only; omega) _).setCell (p := ⟨w.heap.size + 1 + 1 + 1 + 1, 0, none⟩) (by dsimp only; omega) _
  exact bodyPost_ret (v := .tuple #[.slice none 0 0, .agg #[.int .i64 0, .int .i64 0], .int .i64 3]) (by simp [results, Try.results26, go_sem, d2, d30, d31, d4]) rfl (HQ.out _ _ ⟨none, 0, rfl, .inl ⟨rfl, rfl, rfl⟩, hbf⟩)

set_option maxRecDepth 100000 in
set_option maxHeartbeats 2000000 in
theorem take_range (A : Option Addr) (c m : Nat) (l : List Cy) (ng nb : Int) (hm : m = l.length) (w : World) (hs : SmallL l) (hI : Cyls w w.heap.size A l) (hW : wholeL l = true) (hb : isBlk l ng nb = false) :
    Calls Try.prog 26 #[.slice A m c, .agg #[.int .i64 ng, .int .i64 nb]] w (AnSays w ⟨[], 0, 0, 2⟩) := by
  have HWh : Hid (∀ W, Below w.heap.size w W → Calls Try.prog 31 #[.slice A m c] W fun e w' => e = .returned (.bool true) ∧ Below W.heap.size W w') := fun W hB => by
    have := whole_any A c m l hm W hs (hI.next hB)
    rw [hW] at this; exact this
  have HBl : Hid (∀ W, Below w.heap.size w W → Calls Try.prog 53 #[.slice A m c, .agg #[.int .i64 ng, .int .i64 nb]] W fun e w' => e = .returned (.bool false) ∧ Below W.heap.size W w') := fun W hB => by
    have := isBlock_any A c m l ng nb hm W hs.1 (hI.next hB)
    rw [hb] at this; exact this
  clear hI hs hW hm hb
  obtain ⟨Q, hQ⟩ : ∃ Q, Q = AnSays w ⟨[], 0, 0, 2⟩ := ⟨_, rfl⟩
  have HQ : Hid (∀ e w', AnSays w ⟨[], 0, 0, 2⟩ e w' → Q e w') := by unfold Hid; rw [hQ]; exact fun _ _ h => h
  rw [← hQ]
  clear hQ
  go_enter Try.func26, Try.ntmps26
  go_wp2_with fail
  have hB0 : Below w.heap.size w (((((w.alloc (.cells #[.slice A m c] 39)).alloc (.cells #[.int .i64 ng, .int .i64 nb] 41)).alloc (.cells #[.slice none 0 0] 39)).alloc (.cells #[.int .i64 0, .int .i64 0] 41)).alloc (.cells #[.int .i64 0] 28)) :=
    (((((Below.refl _ w).alloc (Nat.le_refl _) _).alloc (by simp) _).alloc (by simp; omega) _).alloc (by simp; omega) _).alloc (by simp; omega) _
  have hX0 := box5_new w A m c ng nb
  have hs0 : (((((w.alloc (.cells #[.slice A m c] 39)).alloc (.cells #[.int .i64 ng, .int .i64 nb] 41)).alloc (.cells #[.slice none 0 0] 39)).alloc (.cells #[.int .i64 0, .int .i64 0] 41)).alloc (.cells #[.int .i64 0] 28)).heap.size = w.heap.size + 5 := by simp
  generalize (((((w.alloc (.cells #[.slice A m c] 39)).alloc (.cells #[.int .i64 ng, .int .i64 nb] 41)).alloc (.cells #[.slice none 0 0] 39)).alloc (.cells #[.int .i64 0, .int .i64 0] 41)).alloc (.cells #[.int .i64 0] 28)) = Wa at hB0 hX0 hs0 ⊢
  refine (HWh.out _ hB0).mono ?_
  rintro e Wb ⟨rfl, hBb⟩
  have hX := hX0.keep hBb
  have hB : Below w.heap.size w Wb := hB0.trans (hBb.mono (by omega))
  have hsb : w.heap.size + 5 ≤ Wb.heap.size := by have := hBb.size; omega
  clear hBb hB0 hs0 hX0
  have c0 := cellAt_of hX.b0 0
  have c10 := cellAt_of hX.b1 0
  have c11 := cellAt_of hX.b1 1
  simp only [List.getElem?_toArray, List.getElem?_cons_zero, List.getElem?_cons_succ] at c0 c10 c11
  have HX := Lib.hid hX
  have HB := Lib.hid hB
  clear hX hB
  go_wp2_with fail
  refine (HBl.out _ HB.out).mono ?_
  rintro e Wc ⟨rfl, hBc⟩
  have hX := HX.out.keep hBc
  have hB : Below w.heap.size w Wc := HB.out.trans (hBc.mono (by omega))
  have hsc : w.heap.size + 5 ≤ Wc.heap.size := by have := hBc.size; omega
  clear hBc HX HB c0 c10 c11
  have d2 := cellAt_of hX.b2 0
  have d30 := cellAt_of hX.b3 0
  have d31 := cellAt_of hX.b3 1
  have d4 := cellAt_of hX.b4 0
  simp only [List.getElem?_toArray, List.getElem?_cons_zero, List.getElem?_cons_succ] at d2 d30 d31 d4
  have f2 := frozen_of_row Wc _ 0 _ 39 hX.b2
  have f30 := frozen_of_row Wc _ 0 _ 41 hX.b3
  have f31 := frozen_of_row Wc _ 1 _ 41 hX.b3
  have f4 := frozen_of_row Wc _ 0 _ 28 hX.b4
  have HX := Lib.hid hX
  have HB := Lib.hid hB
  clear hX hB
  go_wp2_with fail
  have hbf : Below w.heap.size w ((((Wc.setCell ⟨w.heap.size + 1 + 1, 0, none⟩ (.slice none 0 0)).setCell ⟨w.heap.size + 1 + 1 + 1, 0, none⟩ (.int .i64 0)).setCell ⟨w.heap.size + 1 + 1 + 1, 1, none⟩ (.int .i64 0)).setCell ⟨w.heap.size + 1 + 1 + 1 + 1, 0, none⟩ (.int .i64 2)) :=
    (((HB.out.setCell (p := ⟨w.heap.size + 1 + 1, 0, none⟩) (by dsimp only; omega) _).setCell (p := ⟨w.heap.size + 1 + 1 + 1, 0, none⟩) (by dsimp only; omega) _).setCell (p := ⟨w.heap.size + 1 + 1 + 1, 1, none⟩) (by dsimp only; omega) _).setCell (p := ⟨w.heap.size + 1 + 1 + 1 + 1, 0, none⟩) (by dsimp only; omega) _
  exact bodyPost_ret (v := .tuple #[.slice none 0 0, .agg #[.int .i64 0, .int .i64 0], .int .i64 2]) (by simp [results, Try.results26, go_sem, d2, d30, d31, d4]) rfl (HQ.out _ _ ⟨none, 0, rfl, .inl ⟨rfl, rfl, rfl⟩, hbf⟩)

theorem isBlk_iff {l : List Cy} {g b : Int} : isBlk l g b = true ↔ (0 ≤ g ∧ g < l.length) ∧ 0 ≤ b ∧ b < (cyN l g.toNat).bl := by
  unfold isBlk; rw [Bool.and_eq_true, amongB_iff, amongB_iff]
theorem take_any (A : Option Addr) (c m : Nat) (l : List Cy) (ng nb : Int) (hm : m = l.length) (w : World) (hs : SmallL l) (hI : Cyls w w.heap.size A l) :
    Calls Try.prog 26 #[.slice A m c, .agg #[.int .i64 ng, .int .i64 nb]] w (AnSays w (takeL l ng nb)) := by
  unfold takeL
  by_cases hW : wholeL l = true
  · rw [if_pos hW]
    by_cases hb : isBlk l ng nb = true
    · rw [if_pos hb]
      obtain ⟨⟨h1, h2⟩, h3, h4⟩ := isBlk_iff.1 hb
      obtain ⟨g, rfl⟩ : ∃ g : Nat, ng = g := ⟨ng.toNat, by omega⟩
      obtain ⟨b, rfl⟩ : ∃ b : Nat, nb = b := ⟨nb.toNat, by omega⟩
      rw [Int.toNat_natCast] at h4 ⊢
      rw [Int.toNat_natCast]
      exact (callsIn_wide (n := 8)).1 (take_in 8 (Nat.le_refl _) A c m l g b hm w hs hI ((wholeL_iff l).1 hW) (by omega) h4)
    · rw [if_neg hb]
      exact take_range A c m l ng nb hm w hs hI hW (by simpa using hb)
  · rw [if_neg hW]
    exact take_form A c m l ng nb hm w hs hI (by simpa using hW)
end Go.Proofs.Ytpcindemkkdbbaa
