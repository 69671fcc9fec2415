/- The document's Take, whole. -/
import Derived.Test.YtpcindemkkdbbaaRF
import Derived.Test.YtpcindemkkdbbaaBG
namespace Go.Proofs.Ytpcindemkkdbbaa
set_option linter.unusedVariables false
set_option linter.unusedSimpArgs false
open Go.RowKit


set_option maxRecDepth 100000 in
set_option maxHeartbeats 2000000 in
theorem reftake_form (A : Option Addr) (c m : Nat) (l : List Cy) (ng nb : Int) (hm : m = l.length) (w : World) (hs : SmallL l) (hI : Cyls w w.heap.size A l) (hW : wholeL l = false) :
    Calls Try.prog 27 #[.slice A m c, .agg #[.int .i64 ng, .int .i64 nb]] w (RefSays w ⟨[], 0, 0, 3⟩) := by
  have HWh : Hid (∀ W, Below w.heap.size w W → Calls Try.prog 32 #[.slice A m c] W fun e w' => e = .returned (.bool false) ∧ Below W.heap.size W w') := fun W hB => by
    have := refwhole_any A c m l hm W hs (hI.next hB)
    rw [hW] at this; exact this
  clear hI hs hW hm
  obtain ⟨Q, hQ⟩ : ∃ Q, Q = RefSays w ⟨[], 0, 0, 3⟩ := ⟨_, rfl⟩
  have HQ : Hid (∀ e w', RefSays w ⟨[], 0, 0, 3⟩ e w' → Q e w') := by unfold Hid; rw [hQ]; exact fun _ _ h => h
  rw [← hQ]
  clear hQ
  go_enter Try.func27, Try.ntmps27
  go_wp2_with fail
  have hB0 : Below w.heap.size w ((w.alloc (.cells #[.int .i64 ng, .int .i64 nb] 41)).alloc (.cells #[.int .i64 0, .int .i64 0] 41)) := ((Below.refl _ w).alloc (Nat.le_refl _) _).alloc (by simp) _
  have hX0 := box2_new w ng nb
  generalize (w.alloc (.cells #[.int .i64 ng, .int .i64 nb] 41)).alloc (.cells #[.int .i64 0, .int .i64 0] 41) = W0 at hB0 hX0 ⊢
  refine (HWh.out _ hB0).mono ?_
  rintro e W1 ⟨rfl, hB1⟩
  have hX1 := hX0.keep hB1
  have hBw := hB0.trans (hB1.mono hB0.size)
  have c10 := cellAt_of hX1.b1 0
  have c11 := cellAt_of hX1.b1 1
  have d30 := cellAt_of hX1.b3 0
  have d31 := cellAt_of hX1.b3 1
  simp only [List.getElem?_toArray, List.getElem?_cons_zero, List.getElem?_cons_succ] at c10 c11 d30 d31
  have f30 := frozen_of_row W1 _ 0 _ 41 hX1.b3
  have f31 := frozen_of_row W1 _ 1 _ 41 hX1.b3
  have hsz3 : w.heap.size + 1 < W1.heap.size := lt_heap hX1.b3
  have HX := Lib.hid hX1
  have HB := Lib.hid hBw
  have HBd : Hid (∀ n, Below w.heap.size w (W1.drewN n)) := fun n => bdn HB.out n
  clear hB0 hX0 hB1 hX1 hBw
  go_wp2_with fail
  refine bodyPost_ret (v := .tuple #[.slice none 0 0, .agg #[.int .i64 0, .int .i64 0], .int .i64 3]) (by simp [results, Try.results27, go_sem, d30, d31]) rfl (HQ.out _ _ ⟨none, 0, rfl, (fun _ _ => Cyls.nil), ?_⟩)
  exact (HB.out.setCell (p := ⟨w.heap.size + 1, 0, none⟩) (by dsimp only; omega) _).setCell (p := ⟨w.heap.size + 1, 1, none⟩) (by dsimp only; omega) _

set_option maxRecDepth 100000 in
set_option maxHeartbeats 2000000 in
theorem reftake_range (A : Option Addr) (c m : Nat) (l : List Cy) (ng nb : Int) (hm : m = l.length) (w : World) (hs : SmallL l) (hI : Cyls w w.heap.size A l) (hW : wholeL l = true) (hb : isBlk l ng nb = false) :
    Calls Try.prog 27 #[.slice A m c, .agg #[.int .i64 ng, .int .i64 nb]] w (RefSays w ⟨[], 0, 0, 2⟩) := by
  have HWh : Hid (∀ W, Below w.heap.size w W → Calls Try.prog 32 #[.slice A m c] W fun e w' => e = .returned (.bool true) ∧ Below W.heap.size W w') := fun W hB => by
    have := refwhole_any A c m l hm W hs (hI.next hB)
    rw [hW] at this; exact this
  have hno : ¬ ((0 ≤ ng ∧ ng < m) ∧ 0 ≤ nb ∧ nb < (cyN l ng.toNat).bl) := fun h => by
    rw [← Bool.not_eq_true, isBlk_iff, ← hm] at hb; exact hb h
  have hm1000 : m ≤ 1000 := by have := hs.1; omega
  clear hb
  obtain ⟨Q, hQ⟩ : ∃ Q, Q = RefSays w ⟨[], 0, 0, 2⟩ := ⟨_, rfl⟩
  have HQ : Hid (∀ e w', RefSays w ⟨[], 0, 0, 2⟩ e w' → Q e w') := by unfold Hid; rw [hQ]; exact fun _ _ h => h
  rw [← hQ]
  clear hQ
  by_cases h1 : ng < 0
  · have t1 : decide (ng < 0) = true := decide_eq_true h1
    clear hI hs hW hm hno h1
    go_enter Try.func27, Try.ntmps27
    go_wp2_with fail
    have hB0 : Below w.heap.size w ((w.alloc (.cells #[.int .i64 ng, .int .i64 nb] 41)).alloc (.cells #[.int .i64 0, .int .i64 0] 41)) := ((Below.refl _ w).alloc (Nat.le_refl _) _).alloc (by simp) _
    have hX0 := box2_new w ng nb
    generalize (w.alloc (.cells #[.int .i64 ng, .int .i64 nb] 41)).alloc (.cells #[.int .i64 0, .int .i64 0] 41) = W0 at hB0 hX0 ⊢
    refine (HWh.out _ hB0).mono ?_
    rintro e W1 ⟨rfl, hB1⟩
    have hX1 := hX0.keep hB1
    have hBw := hB0.trans (hB1.mono hB0.size)
    have c10 := cellAt_of hX1.b1 0
    have c11 := cellAt_of hX1.b1 1
    have d30 := cellAt_of hX1.b3 0
    have d31 := cellAt_of hX1.b3 1
    simp only [List.getElem?_toArray, List.getElem?_cons_zero, List.getElem?_cons_succ] at c10 c11 d30 d31
    have f30 := frozen_of_row W1 _ 0 _ 41 hX1.b3
    have f31 := frozen_of_row W1 _ 1 _ 41 hX1.b3
    have hsz3 : w.heap.size + 1 < W1.heap.size := lt_heap hX1.b3
    have HX := Lib.hid hX1
    have HB := Lib.hid hBw
    have HBd : Hid (∀ n, Below w.heap.size w (W1.drewN n)) := fun n => bdn HB.out n
    clear hB0 hX0 hB1 hX1 hBw
    go_wp2_with fail
    go_quiet (fail)
    go_wp2_with fail
    refine bodyPost_ret (v := .tuple #[.slice none 0 0, .agg #[.int .i64 0, .int .i64 0], .int .i64 2]) (by simp [results, Try.results27, go_sem, d30, d31]) rfl (HQ.out _ _ ⟨none, 0, rfl, (fun _ _ => Cyls.nil), ?_⟩)
    exact ((HBd.out _).setCell (p := ⟨w.heap.size + 1, 0, none⟩) (by dsimp only; omega) _).setCell (p := ⟨w.heap.size + 1, 1, none⟩) (by dsimp only; omega) _
  have t1 : decide (ng < 0) = false := decide_eq_false h1
  by_cases h2 : (m : Int) ≤ ng
  · have t2 : decide ((m : Int) ≤ ng) = true := decide_eq_true h2
    clear hI hs hW hm hno h1 h2
    go_enter Try.func27, Try.ntmps27
    go_wp2_with fail
    have hB0 : Below w.heap.size w ((w.alloc (.cells #[.int .i64 ng, .int .i64 nb] 41)).alloc (.cells #[.int .i64 0, .int .i64 0] 41)) := ((Below.refl _ w).alloc (Nat.le_refl _) _).alloc (by simp) _
    have hX0 := box2_new w ng nb
    generalize (w.alloc (.cells #[.int .i64 ng, .int .i64 nb] 41)).alloc (.cells #[.int .i64 0, .int .i64 0] 41) = W0 at hB0 hX0 ⊢
    refine (HWh.out _ hB0).mono ?_
    rintro e W1 ⟨rfl, hB1⟩
    have hX1 := hX0.keep hB1
    have hBw := hB0.trans (hB1.mono hB0.size)
    have c10 := cellAt_of hX1.b1 0
    have c11 := cellAt_of hX1.b1 1
    have d30 := cellAt_of hX1.b3 0
    have d31 := cellAt_of hX1.b3 1
    simp only [List.getElem?_toArray, List.getElem?_cons_zero, List.getElem?_cons_succ] at c10 c11 d30 d31
    have f30 := frozen_of_row W1 _ 0 _ 41 hX1.b3
    have f31 := frozen_of_row W1 _ 1 _ 41 hX1.b3
    have hsz3 : w.heap.size + 1 < W1.heap.size := lt_heap hX1.b3
    have HX := Lib.hid hX1
    have HB := Lib.hid hBw
    have HBd : Hid (∀ n, Below w.heap.size w (W1.drewN n)) := fun n => bdn HB.out n
    clear hB0 hX0 hB1 hX1 hBw
    go_wp2_with fail
    go_quiet (fail)
    go_wp2_with fail
    refine bodyPost_ret (v := .tuple #[.slice none 0 0, .agg #[.int .i64 0, .int .i64 0], .int .i64 2]) (by simp [results, Try.results27, go_sem, d30, d31]) rfl (HQ.out _ _ ⟨none, 0, rfl, (fun _ _ => Cyls.nil), ?_⟩)
    exact ((HBd.out _).setCell (p := ⟨w.heap.size + 1, 0, none⟩) (by dsimp only; omega) _).setCell (p := ⟨w.heap.size + 1, 1, none⟩) (by dsimp only; omega) _
  have t2 : decide ((m : Int) ≤ ng) = false := decide_eq_false h2
  by_cases h3 : nb < 0
  · have t3 : decide (nb < 0) = true := decide_eq_true h3
    clear hI hs hW hm hno h1 h2 h3
    go_enter Try.func27, Try.ntmps27
    go_wp2_with fail
    have hB0 : Below w.heap.size w ((w.alloc (.cells #[.int .i64 ng, .int .i64 nb] 41)).alloc (.cells #[.int .i64 0, .int .i64 0] 41)) := ((Below.refl _ w).alloc (Nat.le_refl _) _).alloc (by simp) _
    have hX0 := box2_new w ng nb
    generalize (w.alloc (.cells #[.int .i64 ng, .int .i64 nb] 41)).alloc (.cells #[.int .i64 0, .int .i64 0] 41) = W0 at hB0 hX0 ⊢
    refine (HWh.out _ hB0).mono ?_
    rintro e W1 ⟨rfl, hB1⟩
    have hX1 := hX0.keep hB1
    have hBw := hB0.trans (hB1.mono hB0.size)
    have c10 := cellAt_of hX1.b1 0
    have c11 := cellAt_of hX1.b1 1
    have d30 := cellAt_of hX1.b3 0
    have d31 := cellAt_of hX1.b3 1
    simp only [List.getElem?_toArray, List.getElem?_cons_zero, List.getElem?_cons_succ] at c10 c11 d30 d31
    have f30 := frozen_of_row W1 _ 0 _ 41 hX1.b3
    have f31 := frozen_of_row W1 _ 1 _ 41 hX1.b3
    have hsz3 : w.heap.size + 1 < W1.heap.size := lt_heap hX1.b3
    have HX := Lib.hid hX1
    have HB := Lib.hid hBw
    have HBd : Hid (∀ n, Below w.heap.size w (W1.drewN n)) := fun n => bdn HB.out n
    clear hB0 hX0 hB1 hX1 hBw
    go_wp2_with fail
    go_quiet (fail)
    go_wp2_with fail
    refine bodyPost_ret (v := .tuple #[.slice none 0 0, .agg #[.int .i64 0, .int .i64 0], .int .i64 2]) (by simp [results, Try.results27, go_sem, d30, d31]) rfl (HQ.out _ _ ⟨none, 0, rfl, (fun _ _ => Cyls.nil), ?_⟩)
    exact ((HBd.out _).setCell (p := ⟨w.heap.size + 1, 0, none⟩) (by dsimp only; omega) _).setCell (p := ⟨w.heap.size + 1, 1, none⟩) (by dsimp only; omega) _
  have t3 : decide (nb < 0) = false := decide_eq_false h3
  obtain ⟨g, rfl⟩ : ∃ g : Nat, ng = g := ⟨ng.toNat, by omega⟩
  rw [Int.toNat_natCast] at hno
  have hgm : (g : Int) < (m : Int) := by omega
  have hg0 : (0 : Int) ≤ (g : Int) := by omega
  obtain ⟨gb, off, Ag, cg, A2g, c2g, hA, hgb, hx⟩ := hI.at_ (k := g) (by omega)
  have HG1 : Hid (∀ W, Below w.heap.size w W → W.cell? ⟨gb, off + g * 7 + 1, none⟩ = some (.int .i64 (cyN l g).bl)) := fun W hB => (hB.cell (p := ⟨gb, off + g * 7 + 1, none⟩) hgb).trans hx.c1
  obtain ⟨bl, hbl⟩ : ∃ b, b = (cyN l g).bl := ⟨_, rfl⟩
  rw [← hbl] at HG1 hno
  have t4 : decide (bl ≤ nb) = true := decide_eq_true (by omega)
  have t2' : decide (m ≤ g) = false := decide_eq_false (by omega)
  clear hI hs hW hm hno h1 h2 h3 hbl hx
  subst hA
  go_enter Try.func27, Try.ntmps27
  go_wp2_with fail
  have hB0 : Below w.heap.size w ((w.alloc (.cells #[.int .i64 (g : Int), .int .i64 nb] 41)).alloc (.cells #[.int .i64 0, .int .i64 0] 41)) := ((Below.refl _ w).alloc (Nat.le_refl _) _).alloc (by simp) _
  have hX0 := box2_new w (g : Int) nb
  generalize (w.alloc (.cells #[.int .i64 (g : Int), .int .i64 nb] 41)).alloc (.cells #[.int .i64 0, .int .i64 0] 41) = W0 at hB0 hX0 ⊢
  refine (HWh.out _ hB0).mono ?_
  rintro e W1 ⟨rfl, hB1⟩
  have hX1 := hX0.keep hB1
  have hBw := hB0.trans (hB1.mono hB0.size)
  have c10 := cellAt_of hX1.b1 0
  have c11 := cellAt_of hX1.b1 1
  have d30 := cellAt_of hX1.b3 0
  have d31 := cellAt_of hX1.b3 1
  simp only [List.getElem?_toArray, List.getElem?_cons_zero, List.getElem?_cons_succ] at c10 c11 d30 d31
  have f30 := frozen_of_row W1 _ 0 _ 41 hX1.b3
  have f31 := frozen_of_row W1 _ 1 _ 41 hX1.b3
  have hsz3 : w.heap.size + 1 < W1.heap.size := lt_heap hX1.b3
  have HX := Lib.hid hX1
  have HB := Lib.hid hBw
  have HBd : Hid (∀ n, Below w.heap.size w (W1.drewN n)) := fun n => bdn HB.out n
  clear hB0 hX0 hB1 hX1 hBw
  have cg1 := HG1.out W1 HB.out
  have hblt : gb < W1.heap.size := by have := HB.out.size; omega
  go_wp2_with fail
  go_quiet (fail)
  go_wp2_with fail
  refine bodyPost_ret (v := .tuple #[.slice none 0 0, .agg #[.int .i64 0, .int .i64 0], .int .i64 2]) (by simp [results, Try.results27, go_sem, d30, d31]) rfl (HQ.out _ _ ⟨none, 0, rfl, (fun _ _ => Cyls.nil), ?_⟩)
  exact ((HBd.out _).setCell (p := ⟨w.heap.size + 1, 0, none⟩) (by dsimp only; omega) _).setCell (p := ⟨w.heap.size + 1, 1, none⟩) (by dsimp only; omega) _

theorem reftake_any (A : Option Addr) (c m : Nat) (l : List Cy) (ng nb : Int) (hm : m = l.length) (w : World) (hs : SmallL l) (hI : Cyls w w.heap.size A l) :
    Calls Try.prog 27 #[.slice A m c, .agg #[.int .i64 ng, .int .i64 nb]] w (RefSays w (takeL l ng nb)) := by
  unfold takeL
  by_cases hW : wholeL l = true
  · rw [if_pos hW]
    by_cases hb : isBlk l ng nb = true
    · rw [if_pos hb]
      obtain ⟨⟨h1, h2⟩, h3, h4⟩ := isBlk_iff.1 hb
      obtain ⟨g, rfl⟩ : ∃ g : Nat, ng = g := ⟨ng.toNat, by omega⟩
      obtain ⟨b, rfl⟩ : ∃ b : Nat, nb = b := ⟨nb.toNat, by omega⟩
      rw [Int.toNat_natCast] at h4 ⊢
      rw [Int.toNat_natCast]
      exact reftake_go A c m l g b hm w hs hI ((wholeL_iff l).1 hW) (by omega) h4
    · rw [if_neg hb]
      exact reftake_range A c m l ng nb hm w hs hI hW (by simpa using hb)
  · rw [if_neg hW]
    exact reftake_form A c m l ng nb hm w hs hI (by simpa using hW)
end Go.Proofs.Ytpcindemkkdbbaa
