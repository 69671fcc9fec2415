/- Contract of Leave. -/
import Derived.Test.YtpcindemkkdbbaaIP
import Derived.Test.YtpcindemkkdbbaaMA
import Derived.Deep.RegionWith
import Derived.Test.YtpcindemkkdbbaaGW
namespace Go.Proofs.Ytpcindemkkdbbaa
set_option linter.unusedVariables false
set_option linter.unusedSimpArgs false
open Go.RowKit

set_option maxRecDepth 100000 in
set_option maxHeartbeats 2000000 in
theorem leave_form (A : Option Addr) (c m : Nat) (l : List Cy) (ng nb : Int) (hm : m = l.length) (w : World) (hs : SmallL l) (hI : Cyls w w.heap.size A l) (hW : wholeL l = false) :
    Calls Try.prog 37 #[.slice A m c, .agg #[.int .i64 ng, .int .i64 nb]] w (AnSays2 w ⟨[], 0, 0, 3⟩) := by
  have HWh : Hid (∀ W, Below w.heap.size w W → Calls Try.prog 31 #[.slice A m c] W fun e w' => e = .returned (.bool false) ∧ Below W.heap.size W w') := fun W hB => by
    have := whole_any A c m l hm W hs (hI.next hB)
    rw [hW] at this; exact this
  clear hI hs hW hm
  obtain ⟨Q, hQ⟩ : ∃ Q, Q = AnSays2 w ⟨[], 0, 0, 3⟩ := ⟨_, rfl⟩
  have HQ : Hid (∀ w', Below w.heap.size w w' → Q (.returned (.tuple #[.slice none 0 0, .int .i64 3])) w') := by unfold Hid; rw [hQ]; exact fun w' h => ⟨none, 0, rfl, .inl ⟨rfl, rfl, rfl⟩, h⟩
  rw [← hQ]
  clear hQ
  go_enter Try.func37, Try.ntmps37
  go_wp2_with fail
  have hB0 : Below w.heap.size w (w.alloc (.cells #[.int .i64 ng, .int .i64 nb] 41)) := (Below.refl _ w).alloc (Nat.le_refl _) _
  have hX0 : Blk (w.alloc (.cells #[.int .i64 ng, .int .i64 nb] 41)) w.heap.size 41 #[.int .i64 ng, .int .i64 nb] := Go.heap_alloc_new w _
  generalize w.alloc (.cells #[.int .i64 ng, .int .i64 nb] 41) = Wa at hB0 hX0 ⊢
  refine (HWh.out _ hB0).mono ?_
  rintro e Wb ⟨rfl, hBb⟩
  have hX := hX0.keep (S := fun _ => False) (Kept.fresh hBb) (fun q => q)
  have hB : Below w.heap.size w Wb := hB0.trans (hBb.mono hB0.size)
  clear hBb hB0 hX0
  have c10 := cellAt_of hX 0
  have c11 := cellAt_of hX 1
  simp only [List.getElem?_toArray, List.getElem?_cons_zero, List.getElem?_cons_succ] at c10 c11
  have HX := Lib.hid hX
  have HB := Lib.hid hB
  clear hX hB
  go_wp2_with fail
  exact HQ.out _ HB.out


set_option maxRecDepth 100000 in
set_option maxHeartbeats 2000000 in
theorem leave_range1 (A : Option Addr) (c m : Nat) (l : List Cy) (ng nb : Int) (hm : m = l.length) (w : World) (hs : SmallL l) (hI : Cyls w w.heap.size A l) (hW : wholeL l = true) (hb1 : amongB ng m = false) :
    Calls Try.prog 37 #[.slice A m c, .agg #[.int .i64 ng, .int .i64 nb]] w (AnSays2 w ⟨[], 0, 0, 2⟩) := by
  have HWh : Hid (∀ W, Below w.heap.size w W → Calls Try.prog 31 #[.slice A m c] W fun e w' => e = .returned (.bool true) ∧ Below W.heap.size W w') := fun W hB => by
    have := whole_any A c m l hm W hs (hI.next hB)
    rw [hW] at this; exact this
  have HA1 : Hid (∀ W, Calls Try.prog 50 #[.int .i64 ng, .int .i64 m] W fun e w' => e = .returned (.bool false) ∧ W = w') := fun W => by
    have := among_any ng m W
    rw [hb1] at this; exact this
  clear hI hs hW hm hb1
  obtain ⟨Q, hQ⟩ : ∃ Q, Q = AnSays2 w ⟨[], 0, 0, 2⟩ := ⟨_, rfl⟩
  have HQ : Hid (∀ w', Below w.heap.size w w' → Q (.returned (.tuple #[.slice none 0 0, .int .i64 2])) w') := by unfold Hid; rw [hQ]; exact fun w' h => ⟨none, 0, rfl, .inl ⟨rfl, rfl, rfl⟩, h⟩
  rw [← hQ]
  clear hQ
  go_enter Try.func37, Try.ntmps37
  go_wp2_with fail
  have hB0 : Below w.heap.size w (w.alloc (.cells #[.int .i64 ng, .int .i64 nb] 41)) := (Below.refl _ w).alloc (Nat.le_refl _) _
  have hX0 : Blk (w.alloc (.cells #[.int .i64 ng, .int .i64 nb] 41)) w.heap.size 41 #[.int .i64 ng, .int .i64 nb] := Go.heap_alloc_new w _
  generalize w.alloc (.cells #[.int .i64 ng, .int .i64 nb] 41) = Wa at hB0 hX0 ⊢
  refine (HWh.out _ hB0).mono ?_
  rintro e Wb ⟨rfl, hBb⟩
  have hX := hX0.keep (S := fun _ => False) (Kept.fresh hBb) (fun q => q)
  have hB : Below w.heap.size w Wb := hB0.trans (hBb.mono hB0.size)
  clear hBb hB0 hX0
  have c10 := cellAt_of hX 0
  have c11 := cellAt_of hX 1
  simp only [List.getElem?_toArray, List.getElem?_cons_zero, List.getElem?_cons_succ] at c10 c11
  have HX := Lib.hid hX
  have HB := Lib.hid hB
  clear hX hB
  go_wp2_with fail
  refine (HA1.out _).mono ?_
  rintro e w' ⟨rfl, rfl⟩
  go_wp2_with fail
  exact HQ.out _ HB.out

set_option maxRecDepth 100000 in
set_option maxHeartbeats 2000000 in
theorem leave_range2 (A : Option Addr) (c m : Nat) (l : List Cy) (ng nb : Int) (hm : m = l.length) (w : World) (hs : SmallL l) (hI : Cyls w w.heap.size A l) (hW : wholeL l = true) (hb1 : amongB ng m = true) (hb2 : amongB nb 16 = false) :
    Calls Try.prog 37 #[.slice A m c, .agg #[.int .i64 ng, .int .i64 nb]] w (AnSays2 w ⟨[], 0, 0, 2⟩) := by
  have HWh : Hid (∀ W, Below w.heap.size w W → Calls Try.prog 31 #[.slice A m c] W fun e w' => e = .returned (.bool true) ∧ Below W.heap.size W w') := fun W hB => by
    have := whole_any A c m l hm W hs (hI.next hB)
    rw [hW] at this; exact this
  have HA1 : Hid (∀ W, Calls Try.prog 50 #[.int .i64 ng, .int .i64 m] W fun e w' => e = .returned (.bool true) ∧ W = w') := fun W => by
    have := among_any ng m W
    rw [hb1] at this; exact this
  have HA2 : Hid (∀ W, Calls Try.prog 50 #[.int .i64 nb, .int .i64 16] W fun e w' => e = .returned (.bool false) ∧ W = w') := fun W => by
    have := among_any nb 16 W
    rw [hb2] at this; exact this
  clear hI hs hW hm hb1 hb2
  obtain ⟨Q, hQ⟩ : ∃ Q, Q = AnSays2 w ⟨[], 0, 0, 2⟩ := ⟨_, rfl⟩
  have HQ : Hid (∀ w', Below w.heap.size w w' → Q (.returned (.tuple #[.slice none 0 0, .int .i64 2])) w') := by unfold Hid; rw [hQ]; exact fun w' h => ⟨none, 0, rfl, .inl ⟨rfl, rfl, rfl⟩, h⟩
  rw [← hQ]
  clear hQ
  go_enter Try.func37, Try.ntmps37
  go_wp2_with fail
  have hB0 : Below w.heap.size w (w.alloc (.cells #[.int .i64 ng, .int .i64 nb] 41)) := (Below.refl _ w).alloc (Nat.le_refl _) _
  have hX0 : Blk (w.alloc (.cells #[.int .i64 ng, .int .i64 nb] 41)) w.heap.size 41 #[.int .i64 ng, .int .i64 nb] := Go.heap_alloc_new w _
  generalize w.alloc (.cells #[.int .i64 ng, .int .i64 nb] 41) = Wa at hB0 hX0 ⊢
  refine (HWh.out _ hB0).mono ?_
  rintro e Wb ⟨rfl, hBb⟩
  have hX := hX0.keep (S := fun _ => False) (Kept.fresh hBb) (fun q => q)
  have hB : Below w.heap.size w Wb := hB0.trans (hBb.mono hB0.size)
  clear hBb hB0 hX0
  have c10 := cellAt_of hX 0
  have c11 := cellAt_of hX 1
  simp only [List.getElem?_toArray, List.getElem?_cons_zero, List.getElem?_cons_succ] at c10 c11
  have HX := Lib.hid hX
  have HB := Lib.hid hB
  clear hX hB
  go_wp2_with fail
  refine (HA1.out _).mono ?_
  rintro e w' ⟨rfl, rfl⟩
  go_wp2_with fail
  refine (HA2.out _).mono ?_
  rintro e w' ⟨rfl, rfl⟩
  go_wp2_with fail
  exact HQ.out _ HB.out

set_option maxRecDepth 100000 in
set_option maxHeartbeats 2000000 in
theorem leave_noent (A : Option Addr) (c m : Nat) (l : List Cy) (ng nb : Int) (hm : m = l.length) (w : World) (hs : SmallL l) (hI : Cyls w w.heap.size A l) (g : Nat) (hg : ng = g) (hW : wholeL l = true) (hb1 : amongB ng m = true) (hb2 : amongB nb 16 = true) (hh : (cyN l g).is.contains nb = false) :
    Calls Try.prog 37 #[.slice A m c, .agg #[.int .i64 ng, .int .i64 nb]] w (AnSays2 w ⟨[], 0, 0, 5⟩) := by
  have HWh : Hid (∀ W, Below w.heap.size w W → Calls Try.prog 31 #[.slice A m c] W fun e w' => e = .returned (.bool true) ∧ Below W.heap.size W w') := fun W hB => by
    have := whole_any A c m l hm W hs (hI.next hB)
    rw [hW] at this; exact this
  have HA1 : Hid (∀ W, Calls Try.prog 50 #[.int .i64 ng, .int .i64 m] W fun e w' => e = .returned (.bool true) ∧ W = w') := fun W => by
    have := among_any ng m W
    rw [hb1] at this; exact this
  have HA2 : Hid (∀ W, Calls Try.prog 50 #[.int .i64 nb, .int .i64 16] W fun e w' => e = .returned (.bool true) ∧ W = w') := fun W => by
    have := among_any nb 16 W
    rw [hb2] at this; exact this
  subst hg
  have Hm := Lib.hid hm
  have hgm : g < l.length := by have := (amongB_iff.1 hb1).2; omega
  have hgmi : (g : Int) < (m : Int) := by omega
  have hg0 : (0 : Int) ≤ (g : Int) := by omega
  obtain ⟨gb, off, Ak, ck, A2k, c2k, hA, hgb, hx⟩ := hI.at_ hgm
  have HC5 : Hid (∀ W, Below w.heap.size w W → W.cell? ⟨gb, off + g * 7 + 6, none⟩ = some (.slice A2k (cyN l g).is.length c2k)) := fun W hB => (hB.cell (p := ⟨gb, off + g * 7 + 6, none⟩) hgb).trans hx.c6
  have hU := hx.is
  have hWo := (wholeL_iff l).1 hW
  have hR := hWo.ok g hgm
  have hsm := hs.2 g hgm
  have HHas : Hid (∀ W, Below w.heap.size w W → Calls Try.prog 55 #[.slice A2k (cyN l g).is.length c2k, .int .i64 nb] W fun e w' => e = .returned (.bool false) ∧ ∃ q, w' = W.drewN q) := fun W hB => by
    have := has_any A2k c2k (cyN l g).is nb W hsm.2 (hU.next hB) hR.is.2
    rw [hh] at this; exact this
  clear hI hs hW hm hb1 hb2 hh hsm hR hWo hU hx
  subst hA
  generalize (cyN l g).is.length = n1 at HC5 HHas
  obtain ⟨Q, hQ⟩ : ∃ Q, Q = AnSays2 w ⟨[], 0, 0, 5⟩ := ⟨_, rfl⟩
  have HQ : Hid (∀ w', Below w.heap.size w w' → Q (.returned (.tuple #[.slice none 0 0, .int .i64 5])) w') := by unfold Hid; rw [hQ]; exact fun w' h => ⟨none, 0, rfl, .inl ⟨rfl, rfl, rfl⟩, h⟩
  rw [← hQ]
  clear hQ
  go_enter Try.func37, Try.ntmps37
  go_wp2_with fail
  have hB0 : Below w.heap.size w (w.alloc (.cells #[.int .i64 (g : Int), .int .i64 nb] 41)) := (Below.refl _ w).alloc (Nat.le_refl _) _
  have hX0 : Blk (w.alloc (.cells #[.int .i64 (g : Int), .int .i64 nb] 41)) w.heap.size 41 #[.int .i64 (g : Int), .int .i64 nb] := Go.heap_alloc_new w _
  generalize w.alloc (.cells #[.int .i64 (g : Int), .int .i64 nb] 41) = Wa at hB0 hX0 ⊢
  refine (HWh.out _ hB0).mono ?_
  rintro e Wb ⟨rfl, hBb⟩
  have hX := hX0.keep (S := fun _ => False) (Kept.fresh hBb) (fun q => q)
  have hB : Below w.heap.size w Wb := hB0.trans (hBb.mono hB0.size)
  clear hBb hB0 hX0
  have c10 := cellAt_of hX 0
  have c11 := cellAt_of hX 1
  simp only [List.getElem?_toArray, List.getElem?_cons_zero, List.getElem?_cons_succ] at c10 c11
  have HX := Lib.hid hX
  have HB := Lib.hid hB
  clear hX hB
  go_wp2_with fail
  refine (HA1.out _).mono ?_
  rintro e w' ⟨rfl, rfl⟩
  go_wp2_with fail
  refine (HA2.out _).mono ?_
  rintro e w' ⟨rfl, rfl⟩
  have hsc : w.heap.size < Wb.heap.size := lt_heap HX.out
  have k5 := HC5.out _ HB.out
  have hblt : gb < Wb.heap.size := by have := HB.out.size; omega
  have HHc : Hid (∀ n, Calls Try.prog 55 #[.slice A2k n1 c2k, .int .i64 nb] (Wb.drewN n) fun e w' => e = .returned (.bool false) ∧ ∃ m, w' = (Wb.drewN n).drewN m) := fun n => HHas.out _ (bdn HB.out n)
  go_wp2_with fail
  go_quiet ((go_at_call 55; with_reducible exact Calls.quiet_of (HHc.out _)))
  go_wp2_with fail
  exact HQ.out _ (bdn HB.out _)


set_option maxRecDepth 100000 in
set_option maxHeartbeats 2000000 in
theorem leave_ok (A : Option Addr) (c m : Nat) (l : List Cy) (ng nb : Int) (hm : m = l.length) (w : World) (hs : SmallL l) (hI : Cyls w w.heap.size A l) (g : Nat) (hg : ng = g) (hW : wholeL l = true) (hb1 : amongB ng m = true) (hb2 : amongB nb 16 = true) (hh : (cyN l g).is.contains nb = true) :
    Calls Try.prog 37 #[.slice A m c, .agg #[.int .i64 ng, .int .i64 nb]] w (AnSays2 w ⟨l.set g (leaveC (cyN l g) nb), 0, 0, 0⟩) := by
  have HWh : Hid (∀ W, Below w.heap.size w W → Calls Try.prog 31 #[.slice A m c] W fun e w' => e = .returned (.bool true) ∧ Below W.heap.size W w') := fun W hB => by
    have := whole_any A c m l hm W hs (hI.next hB)
    rw [hW] at this; exact this
  have HA1 : Hid (∀ W, Calls Try.prog 50 #[.int .i64 ng, .int .i64 m] W fun e w' => e = .returned (.bool true) ∧ W = w') := fun W => by
    have := among_any ng m W
    rw [hb1] at this; exact this
  have HA2 : Hid (∀ W, Calls Try.prog 50 #[.int .i64 nb, .int .i64 16] W fun e w' => e = .returned (.bool true) ∧ W = w') := fun W => by
    have := among_any nb 16 W
    rw [hb2] at this; exact this
  subst hg
  have Hm := Lib.hid hm
  have hgm : g < l.length := by have := (amongB_iff.1 hb1).2; omega
  have hgmi : (g : Int) < (m : Int) := by omega
  have hg0 : (0 : Int) ≤ (g : Int) := by omega
  obtain ⟨gb, off, Ak, ck, A2k, c2k, hA, hgb, hx⟩ := hI.at_ hgm
  have HC5 : Hid (∀ W, Below w.heap.size w W → W.cell? ⟨gb, off + g * 7 + 6, none⟩ = some (.slice A2k (cyN l g).is.length c2k)) := fun W hB => (hB.cell (p := ⟨gb, off + g * 7 + 6, none⟩) hgb).trans hx.c6
  have hU := hx.is
  have hWo := (wholeL_iff l).1 hW
  have hR := hWo.ok g hgm
  have hsm := hs.2 g hgm
  have HHas : Hid (∀ W, Below w.heap.size w W → Calls Try.prog 55 #[.slice A2k (cyN l g).is.length c2k, .int .i64 nb] W fun e w' => e = .returned (.bool true) ∧ ∃ q, w' = W.drewN q) := fun W hB => by
    have := has_any A2k c2k (cyN l g).is nb W hsm.2 (hU.next hB) hR.is.2
    rw [hh] at this; exact this
  have HF : Hid (∀ W, Below w.heap.size w W → ∀ n, Calls Try.prog 60 #[.slice A m c] (W.drewN n) fun e w' => ∃ R C, e = .returned (.slice (some ⟨W.heap.size, 0, none⟩) m m) ∧ Grp w' W.heap.size W.heap.size l R C ∧ Below W.heap.size W w') := fun W hW n => by
    refine (forks_any A c m l hm (W.drewN n) hs (hI.next (bdn hW n))).mono ?_
    rintro e w' ⟨R, C, rfl, hG, hB⟩
    exact ⟨R, C, by rw [hm]; rfl, hG, ⟨hB.os, hB.tape, hB.output, hB.size, hB.block⟩⟩
  have HR := Lib.hid hR
  have Hsm := Lib.hid hsm
  have Hmem : Hid (nb ∈ (cyN l g).is) := List.contains_iff_mem.1 hh
  have Hgl := Lib.hid hgm
  have hf1 : (cyN l g).fi ≤ 16 := hR.fi_in.2
  have hf2 : 0 ≤ (cyN l g).fi := hR.fi_in.1
  clear hI hs hW hm hb1 hb2 hh hsm hR hWo hU hx hgm
  subst hA
  obtain ⟨n1, hn1⟩ : ∃ n1, n1 = (cyN l g).is.length := ⟨_, rfl⟩
  have Hn1 := Lib.hid hn1
  rw [← hn1] at HC5 HHas
  clear hn1
  obtain ⟨Q, hQ⟩ : ∃ Q, Q = AnSays2 w ⟨l.set g (leaveC (cyN l g) nb), 0, 0, 0⟩ := ⟨_, rfl⟩
  have HQ : Hid (∀ e w', AnSays2 w ⟨l.set g (leaveC (cyN l g) nb), 0, 0, 0⟩ e w' → Q e w') := by unfold Hid; rw [hQ]; exact fun _ _ h => h
  rw [← hQ]
  clear hQ
  go_enter Try.func37, Try.ntmps37
  go_wp2_with fail
  have hB0 : Below w.heap.size w (w.alloc (.cells #[.int .i64 (g : Int), .int .i64 nb] 41)) := (Below.refl _ w).alloc (Nat.le_refl _) _
  have hX0 : Blk (w.alloc (.cells #[.int .i64 (g : Int), .int .i64 nb] 41)) w.heap.size 41 #[.int .i64 (g : Int), .int .i64 nb] := Go.heap_alloc_new w _
  generalize w.alloc (.cells #[.int .i64 (g : Int), .int .i64 nb] 41) = Wa at hB0 hX0 ⊢
  refine (HWh.out _ hB0).mono ?_
  rintro e Wb ⟨rfl, hBb⟩
  have hX := hX0.keep (S := fun _ => False) (Kept.fresh hBb) (fun q => q)
  have hB : Below w.heap.size w Wb := hB0.trans (hBb.mono hB0.size)
  clear hBb hB0 hX0
  have c10 := cellAt_of hX 0
  have c11 := cellAt_of hX 1
  simp only [List.getElem?_toArray, List.getElem?_cons_zero, List.getElem?_cons_succ] at c10 c11
  have HX := Lib.hid hX
  have HB := Lib.hid hB
  clear hX hB
  go_wp2_with fail
  refine (HA1.out _).mono ?_
  rintro e w' ⟨rfl, rfl⟩
  go_wp2_with fail
  refine (HA2.out _).mono ?_
  rintro e w' ⟨rfl, rfl⟩
  have hsc : w.heap.size < Wb.heap.size := lt_heap HX.out
  have k5 := HC5.out _ HB.out
  have hblt : gb < Wb.heap.size := by have := HB.out.size; omega
  have HHc : Hid (∀ n, Calls Try.prog 55 #[.slice A2k n1 c2k, .int .i64 nb] (Wb.drewN n) fun e w' => e = .returned (.bool true) ∧ ∃ m, w' = (Wb.drewN n).drewN m) := fun n => HHas.out _ (bdn HB.out n)
  have HFc := Lib.hid (HF.out Wb HB.out)
  go_wp2_with fail
  go_quiet ((go_at_call 55; with_reducible exact Calls.quiet_of (HHc.out _)))
  go_wp2_with fail
  refine (HFc.out _).mono ?_
  rintro e w1 ⟨R, C, rfl, hG, hB1⟩
  have h10 := (hB1.block _ hsc).trans HX.out
  have hB1' : Below w.heap.size w w1 := HB.out.trans (hB1.mono HB.out.size)
  have hc : ∀ i, i < 7 → w1.cell? ⟨Wb.heap.size, g * 7 + i, none⟩ = (cellsC l R C g)[i]? := fun i hi => hG.cell Hgl.out hi
  have z5 : w1.cell? ⟨Wb.heap.size, g * 7 + 6, none⟩ = some (.slice (R (2 * g + 1)) n1 (C (2 * g + 1))) := by rw [hc 6 (by omega), Hn1.out]; rfl
  have hus := hG.rows.row (2 * g + 1) (by have := Hgl.out; omega)
  rw [rowC_is] at hus
  have husd : RowI w1.drew Wb.heap.size (R (2 * g + 1)) (C (2 * g + 1)) (cyN l g).is := hus.next (Below.refl _ w1).drew
  have HW : Hid (Calls Try.prog 61 #[.slice (R (2 * g + 1)) n1 (C (2 * g + 1)), .int .i64 nb] w1.drew (Turned w1.drew Wb.heap.size (R (2 * g + 1)) (withoutI (cyN l g).is nb))) := by
    have := without_any _ _ _ nb _ w1.drew Hsm.out.2 husd HR.out.is.2 Hmem.out
    rw [← Hn1.out] at this; exact this
  have HG := Lib.hid hG
  have H10 := Lib.hid h10
  have HB1 := Lib.hid hB1'
  have hz1 : Wb.heap.size < w1.heap.size := hG.lt
  have e10 := cellAt_of h10 0
  have e11 := cellAt_of h10 1
  simp only [List.getElem?_toArray, List.getElem?_cons_zero, List.getElem?_cons_succ] at e10 e11
  clear hG h10 hB1 hB1' hus husd hc k5 c10 c11
  go_wp2_with fail
  go_region_with (go_at_call 61; (with_reducible refine HW.out.mono ?_); rintro e w2 ⟨A', c', rfl, hr, hk, ho⟩; have hAg : own (R (2 * g + 1)) ≠ some Wb.heap.size := (HG.out.rows.row (2 * g + 1) (by have := Hgl.out; omega)).typed HG.out.blk (by decide); have h2g : w2.heap[Wb.heap.size]? = some (.cells (flat7 l.length (cellsC l R C)).toArray 24 (0, 0)) := (hk.block _ HG.out.lt (fun q => hAg q)).trans HG.out.blk; have hc : ∀ i, i < 7 → w2.cell? ⟨Wb.heap.size, g * 7 + i, none⟩ = (cellsC l R C g)[i]? := fun i hi => (by rw [cellAt_of h2g, List.getElem?_toArray, at_flat7 (length_cellsC l R C) Hgl.out hi]); have z2 := hc 3 (by omega); have z5 := hc 6 (by omega); simp only [cellsC, cy7, List.getElem?_cons_zero, List.getElem?_cons_succ] at z2 z5; have g2 := frozen_of_row w2 _ (g * 7 + 3) _ 24 h2g; have g5 := frozen_of_row w2 _ (g * 7 + 6) _ 24 h2g; have H2g := Lib.hid h2g; have Hr := Lib.hid hr; have Hk := Lib.hid hk; have Ho := Lib.hid ho; clear hr hk ho h2g hc hAg)
  all_goals
    have hfl1 : (cyN l g).fi + 1 ≤ 17 := by omega
    go_wp2_with fail
    have p1 := piece_set H2g.out (length_cellsC l R C) Hgl.out (show 6 < 7 by omega) (.slice A' (withoutI (cyN l g).is nb).length c')
    have p2 := piece_set p1.1 p1.2 Hgl.out (show 3 < 7 by omega) (.int .i64 ((cyN l g).fi + 1))
    have hk2 : Kept w2 ((w2.setCell ⟨Wb.heap.size, g * 7 + 6, none⟩ (.slice A' (withoutI (cyN l g).is nb).length c')).setCell ⟨Wb.heap.size, g * 7 + 3, none⟩ (.int .i64 ((cyN l g).fi + 1))) (fun k => k = Wb.heap.size) := ((Kept.refl w2 (fun k => k = Wb.heap.size)).set (.inl rfl)).set (.inl rfl)
    have hk1 : Kept w1 w2 (fun b => own (R (2 * g + 1)) = some b) := ⟨Hk.out.os, Hk.out.tape, Hk.out.output, Hk.out.size, Hk.out.block⟩
    have hG2 := HG.out.put Hgl.out (show 1 < 2 by omega) (leaveC (cyN l g) nb) (A := A') (c := c') rfl Hr.out hk1 Ho.out hk2 (by
      rw [p2.1]
      congr 3
      refine flat7_congr fun i hi => ?_
      by_cases e : i = g
      · simp [e, cellsC, cy7, leaveC]
      · simp [e])
    refine HQ.out _ _ ⟨some ⟨Wb.heap.size, 0, none⟩, m, by simp [Hm.out], .inr ⟨Wb.heap.size, _, _, rfl, by simp [Hm.out], hG2.more HB.out.size⟩, ?_⟩
    have hlow : ∀ b, own (R (2 * g + 1)) = some b → w.heap.size ≤ b := fun b q => by
      have := ((HG.out.rows.row (2 * g + 1) (by have := Hgl.out; omega)).lt q).1; have := HB.out.size; omega
    exact (HB1.out.trans (hk1.below (fun b q => hlow b q) (by have := HB1.out.size; omega))).trans (hk2.below (fun b q => by have := HB.out.size; omega) (by have := HB1.out.size; have := hk1.size; omega))


theorem leave_any (A : Option Addr) (c m : Nat) (l : List Cy) (ng nb : Int) (hm : m = l.length) (w : World) (hs : SmallL l) (hI : Cyls w w.heap.size A l) :
    Calls Try.prog 37 #[.slice A m c, .agg #[.int .i64 ng, .int .i64 nb]] w (AnSays2 w (leaveL l ng nb)) := by
  unfold leaveL
  rw [← hm]
  by_cases hW : wholeL l = true
  · rw [if_pos hW]
    by_cases h1 : amongB ng m = true
    · by_cases h2 : amongB nb 16 = true
      · rw [if_pos (by rw [h1, h2]; rfl)]
        have h0 := (amongB_iff.1 h1).1
        obtain ⟨g, rfl⟩ : ∃ g : Nat, ng = g := ⟨ng.toNat, by omega⟩
        rw [Int.toNat_natCast]
        by_cases hh : (cyN l g).is.contains nb = true
        · rw [if_pos hh]; exact leave_ok A c m l g nb hm w hs hI g rfl hW h1 h2 hh
        · rw [if_neg hh]; exact leave_noent A c m l g nb hm w hs hI g rfl hW h1 h2 (by simpa using hh)
      · have h2' : amongB nb 16 = false := by simpa using h2
        rw [if_neg (by rw [h1, h2']; decide)]
        exact leave_range2 A c m l ng nb hm w hs hI hW h1 h2'
    · have h1' : amongB ng m = false := by simpa using h1
      rw [if_neg (by rw [h1']; simp)]
      exact leave_range1 A c m l ng nb hm w hs hI hW h1'
  · rw [if_neg hW]; exact leave_form A c m l ng nb hm w hs hI (by simpa using hW)
end Go.Proofs.Ytpcindemkkdbbaa

/- The document's Leave. -/
namespace Go.Proofs.Ytpcindemkkdbbaa
set_option linter.unusedVariables false
set_option linter.unusedSimpArgs false
open Go.RowKit

theorem rec_leave {x : Cy} {b : Int} (h : RightC x) (hb : b ∈ x.is) : recount { x with is := withoutI x.is b } = leaveC x b := by
  unfold recount leaveC
  have h1 := h.fb
  have h2 := h.fi
  have h3 := length_withoutI h.is hb
  congr 1
  · show x.bl - (x.us.length : Int) = x.fb
    omega
  · show 16 - ((withoutI x.is b).length : Int) = x.fi + 1
    omega

set_option maxRecDepth 100000 in
set_option maxHeartbeats 2000000 in
theorem refleave_form (A : Option Addr) (c m : Nat) (l : List Cy) (ng nb : Int) (hm : m = l.length) (w : World) (hs : SmallL l) (hI : Cyls w w.heap.size A l) (hW : wholeL l = false) :
    Calls Try.prog 38 #[.slice A m c, .agg #[.int .i64 ng, .int .i64 nb]] w (RefSays2 w ⟨[], 0, 0, 3⟩) := by
  have HWh : Hid (∀ W, Below w.heap.size w W → Calls Try.prog 32 #[.slice A m c] W fun e w' => e = .returned (.bool false) ∧ Below W.heap.size W w') := fun W hB => by
    have := refwhole_any A c m l hm W hs (hI.next hB)
    rw [hW] at this; exact this
  clear hI hs hW hm
  obtain ⟨Q, hQ⟩ : ∃ Q, Q = RefSays2 w ⟨[], 0, 0, 3⟩ := ⟨_, rfl⟩
  have HQ : Hid (∀ w', Below w.heap.size w w' → Q (.returned (.tuple #[.slice none 0 0, .int .i64 3])) w') := by unfold Hid; rw [hQ]; exact fun w' h => ⟨none, 0, rfl, Cyls.nil, h⟩
  rw [← hQ]
  clear hQ
  go_enter Try.func38, Try.ntmps38
  go_wp2_with fail
  have hB0 : Below w.heap.size w (w.alloc (.cells #[.int .i64 ng, .int .i64 nb] 41)) := (Below.refl _ w).alloc (Nat.le_refl _) _
  have hX0 : Blk (w.alloc (.cells #[.int .i64 ng, .int .i64 nb] 41)) w.heap.size 41 #[.int .i64 ng, .int .i64 nb] := Go.heap_alloc_new w _
  generalize w.alloc (.cells #[.int .i64 ng, .int .i64 nb] 41) = W0 at hB0 hX0 ⊢
  refine (HWh.out _ hB0).mono ?_
  rintro e W1 ⟨rfl, hB1⟩
  have hX1 := hX0.keep (S := fun _ => False) (Kept.fresh hB1) (fun q => q)
  have hBw := hB0.trans (hB1.mono hB0.size)
  have c10 := cellAt_of hX1 0
  have c11 := cellAt_of hX1 1
  simp only [List.getElem?_toArray, List.getElem?_cons_zero, List.getElem?_cons_succ] at c10 c11
  have hsz3 : w.heap.size < W1.heap.size := lt_heap hX1
  have HX := Lib.hid hX1
  have HB := Lib.hid hBw
  have HBd : Hid (∀ n, Below w.heap.size w (W1.drewN n)) := fun n => bdn HB.out n
  clear hB0 hX0 hB1 hX1 hBw
  go_wp2_with fail
  exact HQ.out _ HB.out


set_option maxRecDepth 100000 in
set_option maxHeartbeats 2000000 in
theorem refleave_range (A : Option Addr) (c m : Nat) (l : List Cy) (ng nb : Int) (hm : m = l.length) (w : World) (hs : SmallL l) (hI : Cyls w w.heap.size A l) (hW : wholeL l = true) (hb : (amongB ng m && amongB nb 16) = false) :
    Calls Try.prog 38 #[.slice A m c, .agg #[.int .i64 ng, .int .i64 nb]] w (RefSays2 w ⟨[], 0, 0, 2⟩) := by
  have HWh : Hid (∀ W, Below w.heap.size w W → Calls Try.prog 32 #[.slice A m c] W fun e w' => e = .returned (.bool true) ∧ Below W.heap.size W w') := fun W hB => by
    have := refwhole_any A c m l hm W hs (hI.next hB)
    rw [hW] at this; exact this
  have hno : ¬ ((0 ≤ ng ∧ ng < m) ∧ 0 ≤ nb ∧ nb < 16) := fun h => by
    rw [amongB_iff.2 h.1, amongB_iff.2 h.2] at hb; cases hb
  have hm1000 : m ≤ 1000 := by have := hs.1; omega
  clear hb
  obtain ⟨Q, hQ⟩ : ∃ Q, Q = RefSays2 w ⟨[], 0, 0, 2⟩ := ⟨_, rfl⟩
  have HQ : Hid (∀ w', Below w.heap.size w w' → Q (.returned (.tuple #[.slice none 0 0, .int .i64 2])) w') := by unfold Hid; rw [hQ]; exact fun w' h => ⟨none, 0, rfl, Cyls.nil, h⟩
  rw [← hQ]
  clear hQ
  by_cases h1 : ng < 0
  · clear hI hs hW hm hno
    go_enter Try.func38, Try.ntmps38
    go_wp2_with fail
    have hB0 : Below w.heap.size w (w.alloc (.cells #[.int .i64 ng, .int .i64 nb] 41)) := (Below.refl _ w).alloc (Nat.le_refl _) _
    have hX0 : Blk (w.alloc (.cells #[.int .i64 ng, .int .i64 nb] 41)) w.heap.size 41 #[.int .i64 ng, .int .i64 nb] := Go.heap_alloc_new w _
    generalize w.alloc (.cells #[.int .i64 ng, .int .i64 nb] 41) = W0 at hB0 hX0 ⊢
    refine (HWh.out _ hB0).mono ?_
    rintro e W1 ⟨rfl, hB1⟩
    have hX1 := hX0.keep (S := fun _ => False) (Kept.fresh hB1) (fun q => q)
    have hBw := hB0.trans (hB1.mono hB0.size)
    have c10 := cellAt_of hX1 0
    have c11 := cellAt_of hX1 1
    simp only [List.getElem?_toArray, List.getElem?_cons_zero, List.getElem?_cons_succ] at c10 c11
    have hsz3 : w.heap.size < W1.heap.size := lt_heap hX1
    have HX := Lib.hid hX1
    have HB := Lib.hid hBw
    have HBd : Hid (∀ n, Below w.heap.size w (W1.drewN n)) := fun n => bdn HB.out n
    clear hB0 hX0 hB1 hX1 hBw
    go_wp2_with fail
    exact HQ.out _ HB.out
  by_cases h2 : (m : Int) ≤ ng
  · clear hI hs hW hm hno
    go_enter Try.func38, Try.ntmps38
    go_wp2_with fail
    have hB0 : Below w.heap.size w (w.alloc (.cells #[.int .i64 ng, .int .i64 nb] 41)) := (Below.refl _ w).alloc (Nat.le_refl _) _
    have hX0 : Blk (w.alloc (.cells #[.int .i64 ng, .int .i64 nb] 41)) w.heap.size 41 #[.int .i64 ng, .int .i64 nb] := Go.heap_alloc_new w _
    generalize w.alloc (.cells #[.int .i64 ng, .int .i64 nb] 41) = W0 at hB0 hX0 ⊢
    refine (HWh.out _ hB0).mono ?_
    rintro e W1 ⟨rfl, hB1⟩
    have hX1 := hX0.keep (S := fun _ => False) (Kept.fresh hB1) (fun q => q)
    have hBw := hB0.trans (hB1.mono hB0.size)
    have c10 := cellAt_of hX1 0
    have c11 := cellAt_of hX1 1
    simp only [List.getElem?_toArray, List.getElem?_cons_zero, List.getElem?_cons_succ] at c10 c11
    have hsz3 : w.heap.size < W1.heap.size := lt_heap hX1
    have HX := Lib.hid hX1
    have HB := Lib.hid hBw
    have HBd : Hid (∀ n, Below w.heap.size w (W1.drewN n)) := fun n => bdn HB.out n
    clear hB0 hX0 hB1 hX1 hBw
    go_wp2_with fail
    exact HQ.out _ HB.out
  by_cases h3 : nb < 0
  · clear hI hs hW hm hno
    go_enter Try.func38, Try.ntmps38
    go_wp2_with fail
    have hB0 : Below w.heap.size w (w.alloc (.cells #[.int .i64 ng, .int .i64 nb] 41)) := (Below.refl _ w).alloc (Nat.le_refl _) _
    have hX0 : Blk (w.alloc (.cells #[.int .i64 ng, .int .i64 nb] 41)) w.heap.size 41 #[.int .i64 ng, .int .i64 nb] := Go.heap_alloc_new w _
    generalize w.alloc (.cells #[.int .i64 ng, .int .i64 nb] 41) = W0 at hB0 hX0 ⊢
    refine (HWh.out _ hB0).mono ?_
    rintro e W1 ⟨rfl, hB1⟩
    have hX1 := hX0.keep (S := fun _ => False) (Kept.fresh hB1) (fun q => q)
    have hBw := hB0.trans (hB1.mono hB0.size)
    have c10 := cellAt_of hX1 0
    have c11 := cellAt_of hX1 1
    simp only [List.getElem?_toArray, List.getElem?_cons_zero, List.getElem?_cons_succ] at c10 c11
    have hsz3 : w.heap.size < W1.heap.size := lt_heap hX1
    have HX := Lib.hid hX1
    have HB := Lib.hid hBw
    have HBd : Hid (∀ n, Below w.heap.size w (W1.drewN n)) := fun n => bdn HB.out n
    clear hB0 hX0 hB1 hX1 hBw
    go_wp2_with fail
    exact HQ.out _ HB.out
  have h4 : 16 ≤ nb := by omega
  clear hI hs hW hm hno
  go_enter Try.func38, Try.ntmps38
  go_wp2_with fail
  have hB0 : Below w.heap.size w (w.alloc (.cells #[.int .i64 ng, .int .i64 nb] 41)) := (Below.refl _ w).alloc (Nat.le_refl _) _
  have hX0 : Blk (w.alloc (.cells #[.int .i64 ng, .int .i64 nb] 41)) w.heap.size 41 #[.int .i64 ng, .int .i64 nb] := Go.heap_alloc_new w _
  generalize w.alloc (.cells #[.int .i64 ng, .int .i64 nb] 41) = W0 at hB0 hX0 ⊢
  refine (HWh.out _ hB0).mono ?_
  rintro e W1 ⟨rfl, hB1⟩
  have hX1 := hX0.keep (S := fun _ => False) (Kept.fresh hB1) (fun q => q)
  have hBw := hB0.trans (hB1.mono hB0.size)
  have c10 := cellAt_of hX1 0
  have c11 := cellAt_of hX1 1
  simp only [List.getElem?_toArray, List.getElem?_cons_zero, List.getElem?_cons_succ] at c10 c11
  have hsz3 : w.heap.size < W1.heap.size := lt_heap hX1
  have HX := Lib.hid hX1
  have HB := Lib.hid hBw
  have HBd : Hid (∀ n, Below w.heap.size w (W1.drewN n)) := fun n => bdn HB.out n
  clear hB0 hX0 hB1 hX1 hBw
  go_wp2_with fail
  exact HQ.out _ HB.out

set_option maxRecDepth 100000 in
set_option maxHeartbeats 2000000 in
theorem refleave_noent (A : Option Addr) (c m : Nat) (l : List Cy) (ng nb : Int) (hm : m = l.length) (w : World) (hs : SmallL l) (hI : Cyls w w.heap.size A l) (g : Nat) (hg : ng = g) (hW : wholeL l = true) (hb1 : amongB ng m = true) (hb2 : amongB nb 16 = true) (hh : (cyN l g).is.contains nb = false) :
    Calls Try.prog 38 #[.slice A m c, .agg #[.int .i64 ng, .int .i64 nb]] w (RefSays2 w ⟨[], 0, 0, 5⟩) := by
  have HWh : Hid (∀ W, Below w.heap.size w W → Calls Try.prog 32 #[.slice A m c] W fun e w' => e = .returned (.bool true) ∧ Below W.heap.size W w') := fun W hB => by
    have := refwhole_any A c m l hm W hs (hI.next hB)
    rw [hW] at this; exact this
  subst hg
  obtain ⟨h1, h2⟩ := amongB_iff.1 hb1
  obtain ⟨h3, h4⟩ := amongB_iff.1 hb2
  have hm1000 : m ≤ 1000 := by have := hs.1; omega
  have hgm : (g : Int) < (m : Int) := by omega
  have hg0 : (0 : Int) ≤ (g : Int) := by omega
  have hgl : g < l.length := by omega
  obtain ⟨gb, off, Ag, cg, A2g, c2g, hA, hgb, hx⟩ := hI.at_ hgl
  have hR := (((wholeL_iff l).1 hW).ok g hgl)
  have hix := (((wholeL_iff l).1 hW).ix g hgl)
  have hsm := hs.2 g hgl
  have HC : Hid (∀ W, Below w.heap.size w W → CyAt W W.heap.size gb (off + g * 7) (cyN l g) Ag cg A2g c2g) := fun W hB => (hx.keep hgb (fun p hp => hB.cell hp)).more hB.size
  have HHas : Hid (∀ W, Below w.heap.size w W → Calls Try.prog 57 #[.slice A2g (cyN l g).is.length c2g, .int .i64 nb] W fun e w' => e = .returned (.bool ((cyN l g).is.contains nb)) ∧ W = w') := fun W hW => refhas_any A2g c2g _ (cyN l g).is nb rfl W (by have := hsm.2; omega) (hx.is.next hW)
  have Hm := Lib.hid hm
  have Hs := Lib.hid hs
  have HI := Lib.hid hI
  have t1 : decide ((g : Int) < 0) = false := decide_eq_false (by omega)
  have t2 : decide ((m : Int) ≤ (g : Int)) = false := decide_eq_false (by omega)
  have t2' : decide (m ≤ g) = false := decide_eq_false (by omega)
  have t3 : decide (nb < 0) = false := decide_eq_false (by omega)
  have t4 : ¬ 16 ≤ nb := by omega
  have t5 : ¬ nb < 0 := by omega
  rw [hh] at HHas
  clear hI hs hW hm hb1 hb2 hh hsm hR hix hx hgl h1 h2 h3 h4
  subst hA
  obtain ⟨Q, hQ⟩ : ∃ Q, Q = RefSays2 w ⟨[], 0, 0, 5⟩ := ⟨_, rfl⟩
  have HQ : Hid (∀ w', Below w.heap.size w w' → Q (.returned (.tuple #[.slice none 0 0, .int .i64 5])) w') := by unfold Hid; rw [hQ]; exact fun w' h => ⟨none, 0, rfl, Cyls.nil, h⟩
  rw [← hQ]
  clear hQ
  go_enter Try.func38, Try.ntmps38
  go_wp2_with fail
  have hB0 : Below w.heap.size w (w.alloc (.cells #[.int .i64 (g : Int), .int .i64 nb] 41)) := (Below.refl _ w).alloc (Nat.le_refl _) _
  have hX0 : Blk (w.alloc (.cells #[.int .i64 (g : Int), .int .i64 nb] 41)) w.heap.size 41 #[.int .i64 (g : Int), .int .i64 nb] := Go.heap_alloc_new w _
  generalize w.alloc (.cells #[.int .i64 (g : Int), .int .i64 nb] 41) = W0 at hB0 hX0 ⊢
  refine (HWh.out _ hB0).mono ?_
  rintro e W1 ⟨rfl, hB1⟩
  have hX1 := hX0.keep (S := fun _ => False) (Kept.fresh hB1) (fun q => q)
  have hBw := hB0.trans (hB1.mono hB0.size)
  have c10 := cellAt_of hX1 0
  have c11 := cellAt_of hX1 1
  simp only [List.getElem?_toArray, List.getElem?_cons_zero, List.getElem?_cons_succ] at c10 c11
  have hsz3 : w.heap.size < W1.heap.size := lt_heap hX1
  have HX := Lib.hid hX1
  have HB := Lib.hid hBw
  have HBd : Hid (∀ n, Below w.heap.size w (W1.drewN n)) := fun n => bdn HB.out n
  clear hB0 hX0 hB1 hX1 hBw
  have hblt : gb < W1.heap.size := by have := HB.out.size; omega
  have hcy := HC.out W1 HB.out
  have q0 := hcy.c0
  have q1 := hcy.c1
  have q2 := hcy.c2
  have q3 := hcy.c3
  have q4 := hcy.c4
  have q5 := hcy.c5
  have q6 := hcy.c6
  clear hcy
  obtain ⟨x, hxx⟩ : ∃ x, x = cyN l g := ⟨_, rfl⟩
  rw [← hxx] at q0 q1 q2 q3 q4 q5 q6 HHas
  clear hxx HC
  obtain ⟨ix, bl', fb, fi, ro, us, is⟩ := x
  simp only at q0 q1 q2 q3 q4 q5 q6 HHas
  obtain ⟨n1, hn1⟩ : ∃ n1, n1 = is.length := ⟨_, rfl⟩
  generalize us.length = n2 at q5
  rw [← hn1] at q6 HHas
  clear hn1
  have HBa : Hid (∀ o, Below w.heap.size w (W1.alloc o)) := fun o => HB.out.alloc (Nat.le_of_lt hsz3) o
  go_wp2_with fail
  refine (HHas.out _ (HBa.out _)).mono ?_
  rintro e w' ⟨rfl, rfl⟩
  go_wp2_with fail
  exact HQ.out _ (HBa.out _)


set_option maxRecDepth 100000 in
set_option maxHeartbeats 2000000 in
theorem refleave_ok (A : Option Addr) (c m : Nat) (l : List Cy) (ng nb : Int) (hm : m = l.length) (w : World) (hs : SmallL l) (hI : Cyls w w.heap.size A l) (g : Nat) (hg : ng = g) (hW : wholeL l = true) (hb1 : amongB ng m = true) (hb2 : amongB nb 16 = true) (hh : (cyN l g).is.contains nb = true) :
    Calls Try.prog 38 #[.slice A m c, .agg #[.int .i64 ng, .int .i64 nb]] w (RefSays2 w ⟨l.set g (leaveC (cyN l g) nb), 0, 0, 0⟩) := by
  have HWh : Hid (∀ W, Below w.heap.size w W → Calls Try.prog 32 #[.slice A m c] W fun e w' => e = .returned (.bool true) ∧ Below W.heap.size W w') := fun W hB => by
    have := refwhole_any A c m l hm W hs (hI.next hB)
    rw [hW] at this; exact this
  subst hg
  obtain ⟨h1, h2⟩ := amongB_iff.1 hb1
  obtain ⟨h3, h4⟩ := amongB_iff.1 hb2
  have hm1000 : m ≤ 1000 := by have := hs.1; omega
  have hgm : (g : Int) < (m : Int) := by omega
  have hg0 : (0 : Int) ≤ (g : Int) := by omega
  have hgl : g < l.length := by omega
  obtain ⟨gb, off, Ag, cg, A2g, c2g, hA, hgb, hx⟩ := hI.at_ hgl
  have hR := (((wholeL_iff l).1 hW).ok g hgl)
  have hix := (((wholeL_iff l).1 hW).ix g hgl)
  have hsm := hs.2 g hgl
  have HC : Hid (∀ W, Below w.heap.size w W → CyAt W W.heap.size gb (off + g * 7) (cyN l g) Ag cg A2g c2g) := fun W hB => (hx.keep hgb (fun p hp => hB.cell hp)).more hB.size
  have HHas : Hid (∀ W, Below w.heap.size w W → Calls Try.prog 57 #[.slice A2g (cyN l g).is.length c2g, .int .i64 nb] W fun e w' => e = .returned (.bool ((cyN l g).is.contains nb)) ∧ W = w') := fun W hW => refhas_any A2g c2g _ (cyN l g).is nb rfl W (by have := hsm.2; omega) (hx.is.next hW)
  have Hm := Lib.hid hm
  have Hs := Lib.hid hs
  have HI := Lib.hid hI
  have t1 : decide ((g : Int) < 0) = false := decide_eq_false (by omega)
  have t2 : decide ((m : Int) ≤ (g : Int)) = false := decide_eq_false (by omega)
  have t2' : decide (m ≤ g) = false := decide_eq_false (by omega)
  have t3 : decide (nb < 0) = false := decide_eq_false (by omega)
  have t4 : ¬ 16 ≤ nb := by omega
  have t5 : ¬ nb < 0 := by omega
  have Hw : Hid (∀ W, Below w.heap.size w W → Calls Try.prog 62 #[.slice A2g (cyN l g).is.length c2g, .int .i64 nb] W (IntsSays W (withoutI (cyN l g).is nb))) := fun W hW => refwithout_any A2g c2g _ (cyN l g).is nb rfl W (by have := hsm.2; omega) (hx.is.next hW)
  have HSet : Hid (∀ W A' c', Below w.heap.size w W → Ints W W.heap.size A' (withoutI (cyN l g).is nb) → Calls Try.prog 59 #[.slice A m c, ({ (cyN l g) with is := withoutI (cyN l g).is nb } : Cy).v Ag cg A' c'] W (SetSays W (l.set g (leaveC (cyN l g) nb)))) := fun W A' c' hW hA' => by
    have := refset_any A c m l { (cyN l g) with is := withoutI (cyN l g).is nb } Ag cg A' c' g hm W hs (hI.next hW) ⟨hsm.1, by have := withoutI_len (cyN l g).is nb; have := hsm.2; show (withoutI (cyN l g).is nb).length ≤ 1000; omega⟩ hix hgl hR.bl (hx.us.next hW) hA'
    rw [rec_leave hR (List.contains_iff_mem.1 hh)] at this; exact this
  rw [hh] at HHas
  obtain ⟨Q, hQ⟩ : ∃ Q, Q = RefSays2 w ⟨l.set g (leaveC (cyN l g) nb), 0, 0, 0⟩ := ⟨_, rfl⟩
  obtain ⟨L, hL⟩ : ∃ L, L = l.set g (leaveC (cyN l g) nb) := ⟨_, rfl⟩
  have HQ : Hid (∀ w' A c, Cyls w' w'.heap.size A L → Below w.heap.size w w' → Q (.returned (.tuple #[.slice A L.length c, .int .i64 0])) w') := by unfold Hid; rw [hQ, hL]; exact fun w' A c hC h => ⟨A, c, rfl, hC, h⟩
  rw [← hQ]
  rw [← hL] at HSet
  clear hQ hL
  clear hI hs hW hm hb1 hb2 hh hsm hR hix hx hgl h1 h2 h3 h4
  subst hA
  go_enter Try.func38, Try.ntmps38
  go_wp2_with fail
  have hB0 : Below w.heap.size w (w.alloc (.cells #[.int .i64 (g : Int), .int .i64 nb] 41)) := (Below.refl _ w).alloc (Nat.le_refl _) _
  have hX0 : Blk (w.alloc (.cells #[.int .i64 (g : Int), .int .i64 nb] 41)) w.heap.size 41 #[.int .i64 (g : Int), .int .i64 nb] := Go.heap_alloc_new w _
  generalize w.alloc (.cells #[.int .i64 (g : Int), .int .i64 nb] 41) = W0 at hB0 hX0 ⊢
  refine (HWh.out _ hB0).mono ?_
  rintro e W1 ⟨rfl, hB1⟩
  have hX1 := hX0.keep (S := fun _ => False) (Kept.fresh hB1) (fun q => q)
  have hBw := hB0.trans (hB1.mono hB0.size)
  have c10 := cellAt_of hX1 0
  have c11 := cellAt_of hX1 1
  simp only [List.getElem?_toArray, List.getElem?_cons_zero, List.getElem?_cons_succ] at c10 c11
  have hsz3 : w.heap.size < W1.heap.size := lt_heap hX1
  have HX := Lib.hid hX1
  have HB := Lib.hid hBw
  have HBd : Hid (∀ n, Below w.heap.size w (W1.drewN n)) := fun n => bdn HB.out n
  clear hB0 hX0 hB1 hX1 hBw
  have hblt : gb < W1.heap.size := by have := HB.out.size; omega
  have hcy := HC.out W1 HB.out
  have q0 := hcy.c0
  have q1 := hcy.c1
  have q2 := hcy.c2
  have q3 := hcy.c3
  have q4 := hcy.c4
  have q5 := hcy.c5
  have q6 := hcy.c6
  clear hcy
  obtain ⟨x, hxx⟩ : ∃ x, x = cyN l g := ⟨_, rfl⟩
  rw [← hxx] at q0 q1 q2 q3 q4 q5 q6 HHas HSet Hw
  clear hxx HC
  obtain ⟨ix, bl', fb, fi, ro, us, is⟩ := x
  simp only at q0 q1 q2 q3 q4 q5 q6 HHas HSet Hw
  obtain ⟨n1, hn1⟩ : ∃ n1, n1 = is.length := ⟨_, rfl⟩
  unfold Cy.v at HSet
  simp only at HSet
  generalize us.length = n2 at q5 HSet
  rw [← hn1] at q6 HHas Hw
  clear hn1
  generalize withoutI is nb = us2 at HSet Hw
  obtain ⟨n9, hn9⟩ : ∃ n9, n9 = us2.length := ⟨_, rfl⟩
  have Hn9 := Lib.hid hn9
  rw [← hn9] at HSet
  clear hn9
  have HBa : Hid (∀ o, Below w.heap.size w (W1.alloc o)) := fun o => HB.out.alloc (Nat.le_of_lt hsz3) o
  go_wp2_with fail
  refine (HHas.out _ (HBa.out _)).mono ?_
  rintro e w' ⟨rfl, rfl⟩
  go_wp2_with fail
  refine (Hw.out _ (HBa.out _)).mono ?_
  rintro e w4 ⟨A', c', rfl, hr, hB4⟩
  rw [← Hn9.out]
  have h4 : w4.heap[W1.heap.size]? = some (.cells #[.int .i64 ix, .int .i64 bl', .int .i64 fb, .int .i64 fi, .int .i64 ro, .slice Ag n2 cg, .slice A2g n1 c2g] 24 (0, 0)) := (hB4.block _ (by simp)).trans (Go.heap_alloc_new W1 _)
  obtain ⟨v0, v1, v2, v3, v4, v5, v6⟩ := seven h4
  have g5 := frozen_of_row w4 _ 6 _ 24 h4
  have hz4 : W1.heap.size + 1 ≤ w4.heap.size := by have := hB4.size; simpa using this
  have hB4w : Below w.heap.size w w4 := (HBa.out _).trans (hB4.mono (by simp; omega))
  have hk5 : Kept w4 (w4.setCell ⟨W1.heap.size, 6, none⟩ (.slice A' n9 c')) (fun b => b = W1.heap.size) := (Kept.refl w4 (fun b => b = W1.heap.size)).set (.inl rfl)
  have hI5 : Ints (w4.setCell ⟨W1.heap.size, 6, none⟩ (.slice A' n9 c')) (w4.setCell ⟨W1.heap.size, 6, none⟩ (.slice A' n9 c')).heap.size A' us2 := (hr.keep hk5 (fun b q r => by have h := (hr.lt q).1; rw [World.size_alloc] at h; have r' : b = W1.heap.size := r; omega)).ints
  have hB5 : Below w.heap.size w (w4.setCell ⟨W1.heap.size, 6, none⟩ (.slice A' n9 c')) := hB4w.trans (hk5.below (fun b q => by omega) hB4w.size)
  have HS5 := Lib.hid (HSet.out _ A' c' hB5 hI5)
  have HB5 := Lib.hid hB5
  clear hr hB4 hB4w hk5 hI5 hB5 h4
  go_wp2_with fail
  refine HS5.out.mono ?_
  rintro e w6 ⟨A6, c6, rfl, hC6, hB6⟩
  have HC6 := Lib.hid hC6
  have HB6 := Lib.hid (HB5.out.trans (hB6.mono HB5.out.size))
  clear hC6 hB6
  go_wp2_with fail
  exact HQ.out _ _ _ HC6.out HB6.out


theorem refleave_any (A : Option Addr) (c m : Nat) (l : List Cy) (ng nb : Int) (hm : m = l.length) (w : World) (hs : SmallL l) (hI : Cyls w w.heap.size A l) :
    Calls Try.prog 38 #[.slice A m c, .agg #[.int .i64 ng, .int .i64 nb]] w (RefSays2 w (leaveL l ng nb)) := by
  unfold leaveL
  rw [← hm]
  by_cases hW : wholeL l = true
  · rw [if_pos hW]
    by_cases hb : (amongB ng m && amongB nb 16) = true
    · rw [if_pos hb]
      rw [Bool.and_eq_true] at hb
      have h0 := (amongB_iff.1 hb.1).1
      obtain ⟨g, rfl⟩ : ∃ g : Nat, ng = g := ⟨ng.toNat, by omega⟩
      rw [Int.toNat_natCast]
      by_cases hh : (cyN l g).is.contains nb = true
      · rw [if_pos hh]; exact refleave_ok A c m l g nb hm w hs hI g rfl hW hb.1 hb.2 hh
      · rw [if_neg hh]; exact refleave_noent A c m l g nb hm w hs hI g rfl hW hb.1 hb.2 (by simpa using hh)
    · rw [if_neg hb]
      exact refleave_range A c m l ng nb hm w hs hI hW (by simpa using hb)
  · rw [if_neg hW]; exact refleave_form A c m l ng nb hm w hs hI (by simpa using hW)
end Go.Proofs.Ytpcindemkkdbbaa
