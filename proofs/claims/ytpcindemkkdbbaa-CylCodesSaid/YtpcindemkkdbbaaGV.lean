/- Contract of Give. -/
import Derived.Test.YtpcindemkkdbbaaBD
import Derived.Test.YtpcindemkkdbbaaAA
import Derived.Test.YtpcindemkkdbbaaBB
import Derived.Test.YtpcindemkkdbbaaCA
import Derived.Deep.RegionWith
namespace Go.Proofs.Ytpcindemkkdbbaa
set_option linter.unusedVariables false
set_option linter.unusedSimpArgs false
open Go.RowKit

def giveL (l : List Cy) (g b : Int) : An := if wholeL l then (if isBlk l g b then (if (cyN l g.toNat).us.contains b then ⟨l.set g.toNat (giveC (cyN l g.toNat) b), 0, 0, 0⟩ else ⟨[], 0, 0, 5⟩) else ⟨[], 0, 0, 2⟩) else ⟨[], 0, 0, 3⟩

set_option maxRecDepth 100000 in
set_option maxHeartbeats 2000000 in
theorem give_form (A : Option Addr) (c m : Nat) (l : List Cy) (ng nb : Int) (hm : m = l.length) (w : World) (hs : SmallL l) (hI : Cyls w w.heap.size A l) (hW : wholeL l = false) :
    Calls Try.prog 28 #[.slice A m c, .agg #[.int .i64 ng, .int .i64 nb]] w (AnSays2 w ⟨[], 0, 0, 3⟩) := by
  have HWh : Hid (∀ W, Below w.heap.size w W → Calls Try.prog 31 #[.slice A m c] W fun e w' => e = .returned (.bool false) ∧ Below W.heap.size W w') := fun W hB => by
    have := whole_any A c m l hm W hs (hI.next hB)
    rw [hW] at this; exact this
  clear hI hs hW hm
  obtain ⟨Q, hQ⟩ : ∃ Q, Q = AnSays2 w ⟨[], 0, 0, 3⟩ := ⟨_, rfl⟩
  have HQ : Hid (∀ w', Below w.heap.size w w' → Q (.returned (.tuple #[.slice none 0 0, .int .i64 3])) w') := by unfold Hid; rw [hQ]; exact fun w' h => ⟨none, 0, rfl, .inl ⟨rfl, rfl, rfl⟩, h⟩
  rw [← hQ]
  clear hQ
  go_enter Try.func28, Try.ntmps28
  go_wp2_with fail
  have hB0 : Below w.heap.size w (w.alloc (.cells #[.int .i64 ng, .int .i64 nb] 41)) := (Below.refl _ w).alloc (Nat.le_refl _) _
  have hX0 : Blk (w.alloc (.cells #[.int .i64 ng, .int .i64 nb] 41)) w.heap.size 41 #[.int .i64 ng, .int .i64 nb] := Go.heap_alloc_new w _
  generalize w.alloc (.cells #[.int .i64 ng, .int .i64 nb] 41) = Wa at hB0 hX0 ⊢
  refine (HWh.out _ hB0).mono ?_
  rintro e Wb ⟨rfl, hBb⟩
  have hX := hX0.keep (S := fun _ => False) (Kept.fresh hBb) (fun q => q)
  have hB : Below w.heap.size w Wb := hB0.trans (hBb.mono hB0.size)
  clear hBb hB0 hX0
  have c10 := cellAt_of hX 0
  have c11 := cellAt_of hX 1
  simp only [List.getElem?_toArray, List.getElem?_cons_zero, List.getElem?_cons_succ] at c10 c11
  have HX := Lib.hid hX
  have HB := Lib.hid hB
  clear hX hB
  go_wp2_with fail
  exact HQ.out _ HB.out

set_option maxRecDepth 100000 in
set_option maxHeartbeats 2000000 in
theorem give_range (A : Option Addr) (c m : Nat) (l : List Cy) (ng nb : Int) (hm : m = l.length) (w : World) (hs : SmallL l) (hI : Cyls w w.heap.size A l) (hW : wholeL l = true) (hb : isBlk l ng nb = false) :
    Calls Try.prog 28 #[.slice A m c, .agg #[.int .i64 ng, .int .i64 nb]] w (AnSays2 w ⟨[], 0, 0, 2⟩) := by
  have HWh : Hid (∀ W, Below w.heap.size w W → Calls Try.prog 31 #[.slice A m c] W fun e w' => e = .returned (.bool true) ∧ Below W.heap.size W w') := fun W hB => by
    have := whole_any A c m l hm W hs (hI.next hB)
    rw [hW] at this; exact this
  have HBl : Hid (∀ W, Below w.heap.size w W → Calls Try.prog 53 #[.slice A m c, .agg #[.int .i64 ng, .int .i64 nb]] W fun e w' => e = .returned (.bool false) ∧ Below W.heap.size W w') := fun W hB => by
    have := isBlock_any A c m l ng nb hm W hs.1 (hI.next hB)
    rw [hb] at this; exact this
  clear hI hs hW hm hb
  obtain ⟨Q, hQ⟩ : ∃ Q, Q = AnSays2 w ⟨[], 0, 0, 2⟩ := ⟨_, rfl⟩
  have HQ : Hid (∀ w', Below w.heap.size w w' → Q (.returned (.tuple #[.slice none 0 0, .int .i64 2])) w') := by unfold Hid; rw [hQ]; exact fun w' h => ⟨none, 0, rfl, .inl ⟨rfl, rfl, rfl⟩, h⟩
  rw [← hQ]
  clear hQ
  go_enter Try.func28, Try.ntmps28
  go_wp2_with fail
  have hB0 : Below w.heap.size w (w.alloc (.cells #[.int .i64 ng, .int .i64 nb] 41)) := (Below.refl _ w).alloc (Nat.le_refl _) _
  have hX0 : Blk (w.alloc (.cells #[.int .i64 ng, .int .i64 nb] 41)) w.heap.size 41 #[.int .i64 ng, .int .i64 nb] := Go.heap_alloc_new w _
  generalize w.alloc (.cells #[.int .i64 ng, .int .i64 nb] 41) = Wa at hB0 hX0 ⊢
  refine (HWh.out _ hB0).mono ?_
  rintro e Wb ⟨rfl, hBb⟩
  have hX := hX0.keep (S := fun _ => False) (Kept.fresh hBb) (fun q => q)
  have hB : Below w.heap.size w Wb := hB0.trans (hBb.mono hB0.size)
  clear hBb hB0 hX0
  have c10 := cellAt_of hX 0
  have c11 := cellAt_of hX 1
  simp only [List.getElem?_toArray, List.getElem?_cons_zero, List.getElem?_cons_succ] at c10 c11
  have HX := Lib.hid hX
  have HB := Lib.hid hB
  clear hX hB
  go_wp2_with fail
  refine (HBl.out _ HB.out).mono ?_
  rintro e Wc ⟨rfl, hBc⟩
  have hX := HX.out.keep (S := fun _ => False) (Kept.fresh hBc) (fun q => q)
  have hB : Below w.heap.size w Wc := HB.out.trans (hBc.mono HB.out.size)
  clear hBc HX HB c10 c11
  have c10 := cellAt_of hX 0
  have c11 := cellAt_of hX 1
  simp only [List.getElem?_toArray, List.getElem?_cons_zero, List.getElem?_cons_succ] at c10 c11
  have hsc : w.heap.size < Wc.heap.size := lt_heap hX
  have HX := Lib.hid hX
  have HB := Lib.hid hB
  clear hX hB
  go_wp2_with fail
  exact HQ.out _ HB.out

set_option maxRecDepth 100000 in
set_option maxHeartbeats 2000000 in
theorem give_noent (A : Option Addr) (c m : Nat) (l : List Cy) (ng nb : Int) (hm : m = l.length) (w : World) (hs : SmallL l) (hI : Cyls w w.heap.size A l) (g : Nat) (hg : ng = g) (hW : wholeL l = true) (hb : isBlk l ng nb = true) (hh : (cyN l g).us.contains nb = false) :
    Calls Try.prog 28 #[.slice A m c, .agg #[.int .i64 ng, .int .i64 nb]] w (AnSays2 w ⟨[], 0, 0, 5⟩) := by
  have HWh : Hid (∀ W, Below w.heap.size w W → Calls Try.prog 31 #[.slice A m c] W fun e w' => e = .returned (.bool true) ∧ Below W.heap.size W w') := fun W hB => by
    have := whole_any A c m l hm W hs (hI.next hB)
    rw [hW] at this; exact this
  have HBl : Hid (∀ W, Below w.heap.size w W → Calls Try.prog 53 #[.slice A m c, .agg #[.int .i64 ng, .int .i64 nb]] W fun e w' => e = .returned (.bool true) ∧ Below W.heap.size W w') := fun W hB => by
    have := isBlock_any A c m l ng nb hm W hs.1 (hI.next hB)
    rw [hb] at this; exact this
  subst hg
  have Hm := Lib.hid hm
  have hgm : g < l.length := by have := (amongB_iff.1 (by unfold isBlk at hb; rw [Bool.and_eq_true] at hb; exact hb.1)).2; omega
  have hgmi : (g : Int) < (m : Int) := by omega
  have hg0 : (0 : Int) ≤ (g : Int) := by omega
  obtain ⟨gb, off, Ak, ck, A2k, c2k, hA, hgb, hx⟩ := hI.at_ hgm
  have HC5 : Hid (∀ W, Below w.heap.size w W → W.cell? ⟨gb, off + g * 7 + 5, none⟩ = some (.slice Ak (cyN l g).us.length ck)) := fun W hB => (hB.cell (p := ⟨gb, off + g * 7 + 5, none⟩) hgb).trans hx.c5
  have hU := hx.us
  have hWo := (wholeL_iff l).1 hW
  have hR := hWo.ok g hgm
  have hsm := hs.2 g hgm
  have HHas : Hid (∀ W, Below w.heap.size w W → Calls Try.prog 55 #[.slice Ak (cyN l g).us.length ck, .int .i64 nb] W fun e w' => e = .returned (.bool false) ∧ ∃ q, w' = W.drewN q) := fun W hB => by
    have := has_any Ak ck (cyN l g).us nb W hsm.1 (hU.next hB) hR.us.2
    rw [hh] at this; exact this
  clear hI hs hW hm hb hh hsm hR hWo hU hx
  subst hA
  generalize (cyN l g).us.length = n1 at HC5 HHas
  obtain ⟨Q, hQ⟩ : ∃ Q, Q = AnSays2 w ⟨[], 0, 0, 5⟩ := ⟨_, rfl⟩
  have HQ : Hid (∀ w', Below w.heap.size w w' → Q (.returned (.tuple #[.slice none 0 0, .int .i64 5])) w') := by unfold Hid; rw [hQ]; exact fun w' h => ⟨none, 0, rfl, .inl ⟨rfl, rfl, rfl⟩, h⟩
  rw [← hQ]
  clear hQ
  go_enter Try.func28, Try.ntmps28
  go_wp2_with fail
  have hB0 : Below w.heap.size w (w.alloc (.cells #[.int .i64 (g : Int), .int .i64 nb] 41)) := (Below.refl _ w).alloc (Nat.le_refl _) _
  have hX0 : Blk (w.alloc (.cells #[.int .i64 (g : Int), .int .i64 nb] 41)) w.heap.size 41 #[.int .i64 (g : Int), .int .i64 nb] := Go.heap_alloc_new w _
  generalize w.alloc (.cells #[.int .i64 (g : Int), .int .i64 nb] 41) = Wa at hB0 hX0 ⊢
  refine (HWh.out _ hB0).mono ?_
  rintro e Wb ⟨rfl, hBb⟩
  have hX := hX0.keep (S := fun _ => False) (Kept.fresh hBb) (fun q => q)
  have hB : Below w.heap.size w Wb := hB0.trans (hBb.mono hB0.size)
  clear hBb hB0 hX0
  have c10 := cellAt_of hX 0
  have c11 := cellAt_of hX 1
  simp only [List.getElem?_toArray, List.getElem?_cons_zero, List.getElem?_cons_succ] at c10 c11
  have HX := Lib.hid hX
  have HB := Lib.hid hB
  clear hX hB
  go_wp2_with fail
  refine (HBl.out _ HB.out).mono ?_
  rintro e Wc ⟨rfl, hBc⟩
  have hX := HX.out.keep (S := fun _ => False) (Kept.fresh hBc) (fun q => q)
  have hB : Below w.heap.size w Wc := HB.out.trans (hBc.mono HB.out.size)
  clear hBc HX HB c10 c11
  have c10 := cellAt_of hX 0
  have c11 := cellAt_of hX 1
  simp only [List.getElem?_toArray, List.getElem?_cons_zero, List.getElem?_cons_succ] at c10 c11
  have hsc : w.heap.size < Wc.heap.size := lt_heap hX
  have HX := Lib.hid hX
  have HB := Lib.hid hB
  clear hX hB
  have k5 := HC5.out _ HB.out
  have hblt : gb < Wc.heap.size := by have := HB.out.size; omega
  have HHc : Hid (∀ n, Calls Try.prog 55 #[.slice Ak n1 ck, .int .i64 nb] (Wc.drewN n) fun e w' => e = .returned (.bool false) ∧ ∃ m, w' = (Wc.drewN n).drewN m) := fun n => HHas.out _ (bdn HB.out n)
  go_wp2_with fail
  go_quiet ((go_at_call 55; with_reducible exact Calls.quiet_of (HHc.out _)))
  go_wp2_with fail
  exact HQ.out _ (bdn HB.out _)

set_option maxRecDepth 100000 in
set_option maxHeartbeats 2000000 in
theorem give_ok (A : Option Addr) (c m : Nat) (l : List Cy) (ng nb : Int) (hm : m = l.length) (w : World) (hs : SmallL l) (hI : Cyls w w.heap.size A l) (g : Nat) (hg : ng = g) (hW : wholeL l = true) (hb : isBlk l ng nb = true) (hh : (cyN l g).us.contains nb = true) :
    Calls Try.prog 28 #[.slice A m c, .agg #[.int .i64 ng, .int .i64 nb]] w (AnSays2 w ⟨l.set g (giveC (cyN l g) nb), 0, 0, 0⟩) := by
  have HWh : Hid (∀ W, Below w.heap.size w W → Calls Try.prog 31 #[.slice A m c] W fun e w' => e = .returned (.bool true) ∧ Below W.heap.size W w') := fun W hB => by
    have := whole_any A c m l hm W hs (hI.next hB)
    rw [hW] at this; exact this
  have HBl : Hid (∀ W, Below w.heap.size w W → Calls Try.prog 53 #[.slice A m c, .agg #[.int .i64 ng, .int .i64 nb]] W fun e w' => e = .returned (.bool true) ∧ Below W.heap.size W w') := fun W hB => by
    have := isBlock_any A c m l ng nb hm W hs.1 (hI.next hB)
    rw [hb] at this; exact this
  subst hg
  have Hm := Lib.hid hm
  have hgm : g < l.length := by have := (amongB_iff.1 (by unfold isBlk at hb; rw [Bool.and_eq_true] at hb; exact hb.1)).2; omega
  have hgmi : (g : Int) < (m : Int) := by omega
  have hg0 : (0 : Int) ≤ (g : Int) := by omega
  obtain ⟨gb, off, Ak, ck, A2k, c2k, hA, hgb, hx⟩ := hI.at_ hgm
  have HC5 : Hid (∀ W, Below w.heap.size w W → W.cell? ⟨gb, off + g * 7 + 5, none⟩ = some (.slice Ak (cyN l g).us.length ck)) := fun W hB => (hB.cell (p := ⟨gb, off + g * 7 + 5, none⟩) hgb).trans hx.c5
  have hU := hx.us
  have hWo := (wholeL_iff l).1 hW
  have hR := hWo.ok g hgm
  have hsm := hs.2 g hgm
  have HHas : Hid (∀ W, Below w.heap.size w W → Calls Try.prog 55 #[.slice Ak (cyN l g).us.length ck, .int .i64 nb] W fun e w' => e = .returned (.bool true) ∧ ∃ q, w' = W.drewN q) := fun W hB => by
    have := has_any Ak ck (cyN l g).us nb W hsm.1 (hU.next hB) hR.us.2
    rw [hh] at this; exact this
  have HF : Hid (∀ W, Below w.heap.size w W → ∀ n, Calls Try.prog 60 #[.slice A m c] (W.drewN n) fun e w' => ∃ R C, e = .returned (.slice (some ⟨W.heap.size, 0, none⟩) m m) ∧ Grp w' W.heap.size W.heap.size l R C ∧ Below W.heap.size W w') := fun W hW n => by
    refine (forks_any A c m l hm (W.drewN n) hs (hI.next (bdn hW n))).mono ?_
    rintro e w' ⟨R, C, rfl, hG, hB⟩
    exact ⟨R, C, by rw [hm]; rfl, hG, ⟨hB.os, hB.tape, hB.output, hB.size, hB.block⟩⟩
  have HR := Lib.hid hR
  have Hsm := Lib.hid hsm
  have Hmem : Hid (nb ∈ (cyN l g).us) := List.contains_iff_mem.1 hh
  have Hgl := Lib.hid hgm
  have hf1 : (cyN l g).fb ≤ 64 := hR.fb_in.2
  have hf2 : 0 ≤ (cyN l g).fb := hR.fb_in.1
  clear hI hs hW hm hb hh hsm hR hWo hU hx hgm
  subst hA
  obtain ⟨n1, hn1⟩ : ∃ n1, n1 = (cyN l g).us.length := ⟨_, rfl⟩
  have Hn1 := Lib.hid hn1
  rw [← hn1] at HC5 HHas
  clear hn1
  obtain ⟨Q, hQ⟩ : ∃ Q, Q = AnSays2 w ⟨l.set g (giveC (cyN l g) nb), 0, 0, 0⟩ := ⟨_, rfl⟩
  have HQ : Hid (∀ e w', AnSays2 w ⟨l.set g (giveC (cyN l g) nb), 0, 0, 0⟩ e w' → Q e w') := by unfold Hid; rw [hQ]; exact fun _ _ h => h
  rw [← hQ]
  clear hQ
  go_enter Try.func28, Try.ntmps28
  go_wp2_with fail
  have hB0 : Below w.heap.size w (w.alloc (.cells #[.int .i64 (g : Int), .int .i64 nb] 41)) := (Below.refl _ w).alloc (Nat.le_refl _) _
  have hX0 : Blk (w.alloc (.cells #[.int .i64 (g : Int), .int .i64 nb] 41)) w.heap.size 41 #[.int .i64 (g : Int), .int .i64 nb] := Go.heap_alloc_new w _
  generalize w.alloc (.cells #[.int .i64 (g : Int), .int .i64 nb] 41) = Wa at hB0 hX0 ⊢
  refine (HWh.out _ hB0).mono ?_
  rintro e Wb ⟨rfl, hBb⟩
  have hX := hX0.keep (S := fun _ => False) (Kept.fresh hBb) (fun q => q)
  have hB : Below w.heap.size w Wb := hB0.trans (hBb.mono hB0.size)
  clear hBb hB0 hX0
  have c10 := cellAt_of hX 0
  have c11 := cellAt_of hX 1
  simp only [List.getElem?_toArray, List.getElem?_cons_zero, List.getElem?_cons_succ] at c10 c11
  have HX := Lib.hid hX
  have HB := Lib.hid hB
  clear hX hB
  go_wp2_with fail
  refine (HBl.out _ HB.out).mono ?_
  rintro e Wc ⟨rfl, hBc⟩
  have hX := HX.out.keep (S := fun _ => False) (Kept.fresh hBc) (fun q => q)
  have hB : Below w.heap.size w Wc := HB.out.trans (hBc.mono HB.out.size)
  clear hBc HX HB c10 c11
  have c10 := cellAt_of hX 0
  have c11 := cellAt_of hX 1
  simp only [List.getElem?_toArray, List.getElem?_cons_zero, List.getElem?_cons_succ] at c10 c11
  have hsc : w.heap.size < Wc.heap.size := lt_heap hX
  have HX := Lib.hid hX
  have HB := Lib.hid hB
  clear hX hB
  have k5 := HC5.out _ HB.out
  have hblt : gb < Wc.heap.size := by have := HB.out.size; omega
  have HHc : Hid (∀ n, Calls Try.prog 55 #[.slice Ak n1 ck, .int .i64 nb] (Wc.drewN n) fun e w' => e = .returned (.bool true) ∧ ∃ m, w' = (Wc.drewN n).drewN m) := fun n => HHas.out _ (bdn HB.out n)
  have HFc := Lib.hid (HF.out Wc HB.out)
  go_wp2_with fail
  go_quiet ((go_at_call 55; with_reducible exact Calls.quiet_of (HHc.out _)))
  go_wp2_with fail
  refine (HFc.out _).mono ?_
  rintro e w1 ⟨R, C, rfl, hG, hB1⟩
  have h10 := (hB1.block _ hsc).trans HX.out
  have hB1' : Below w.heap.size w w1 := HB.out.trans (hB1.mono HB.out.size)
  have hc : ∀ i, i < 7 → w1.cell? ⟨Wc.heap.size, g * 7 + i, none⟩ = (cellsC l R C g)[i]? := fun i hi => hG.cell Hgl.out hi
  have z5 : w1.cell? ⟨Wc.heap.size, g * 7 + 5, none⟩ = some (.slice (R (2 * g)) n1 (C (2 * g))) := by rw [hc 5 (by omega), Hn1.out]; rfl
  have hus := hG.rows.row (2 * g) (by have := Hgl.out; omega)
  rw [rowC_us] at hus
  have husd : RowI w1.drew Wc.heap.size (R (2 * g)) (C (2 * g)) (cyN l g).us := hus.next (Below.refl _ w1).drew
  have HW : Hid (Calls Try.prog 61 #[.slice (R (2 * g)) n1 (C (2 * g)), .int .i64 nb] w1.drew (Turned w1.drew Wc.heap.size (R (2 * g)) (withoutI (cyN l g).us nb))) := by
    have := without_any _ _ _ nb _ w1.drew Hsm.out.1 husd HR.out.us.2 Hmem.out
    rw [← Hn1.out] at this; exact this
  have HG := Lib.hid hG
  have H10 := Lib.hid h10
  have HB1 := Lib.hid hB1'
  have hz1 : Wc.heap.size < w1.heap.size := hG.lt
  have e10 := cellAt_of h10 0
  have e11 := cellAt_of h10 1
  simp only [List.getElem?_toArray, List.getElem?_cons_zero, List.getElem?_cons_succ] at e10 e11
  clear hG h10 hB1 hB1' hus husd hc k5 c10 c11
  go_wp2_with fail
  go_region_with (go_at_call 61; (with_reducible refine HW.out.mono ?_); rintro e w2 ⟨A', c', rfl, hr, hk, ho⟩; have hAg : own (R (2 * g)) ≠ some Wc.heap.size := (HG.out.rows.row (2 * g) (by have := Hgl.out; omega)).typed HG.out.blk (by decide); have h2g : w2.heap[Wc.heap.size]? = some (.cells (flat7 l.length (cellsC l R C)).toArray 24 (0, 0)) := (hk.block _ HG.out.lt (fun q => hAg q)).trans HG.out.blk; have hc : ∀ i, i < 7 → w2.cell? ⟨Wc.heap.size, g * 7 + i, none⟩ = (cellsC l R C g)[i]? := fun i hi => (by rw [cellAt_of h2g, List.getElem?_toArray, at_flat7 (length_cellsC l R C) Hgl.out hi]); have z2 := hc 2 (by omega); have z5 := hc 5 (by omega); simp only [cellsC, cy7, List.getElem?_cons_zero, List.getElem?_cons_succ] at z2 z5; have g2 := frozen_of_row w2 _ (g * 7 + 2) _ 24 h2g; have g5 := frozen_of_row w2 _ (g * 7 + 5) _ 24 h2g; have H2g := Lib.hid h2g; have Hr := Lib.hid hr; have Hk := Lib.hid hk; have Ho := Lib.hid ho; clear hr hk ho h2g hc hAg)
  all_goals
    have hfl1 : (cyN l g).fb + 1 ≤ 65 := by omega
    go_wp2_with fail
    have p1 := piece_set H2g.out (length_cellsC l R C) Hgl.out (show 5 < 7 by omega) (.slice A' (withoutI (cyN l g).us nb).length c')
    have p2 := piece_set p1.1 p1.2 Hgl.out (show 2 < 7 by omega) (.int .i64 ((cyN l g).fb + 1))
    have hk2 : Kept w2 ((w2.setCell ⟨Wc.heap.size, g * 7 + 5, none⟩ (.slice A' (withoutI (cyN l g).us nb).length c')).setCell ⟨Wc.heap.size, g * 7 + 2, none⟩ (.int .i64 ((cyN l g).fb + 1))) (fun k => k = Wc.heap.size) := ((Kept.refl w2 (fun k => k = Wc.heap.size)).set (.inl rfl)).set (.inl rfl)
    have hk1 : Kept w1 w2 (fun b => own (R (2 * g)) = some b) := ⟨Hk.out.os, Hk.out.tape, Hk.out.output, Hk.out.size, Hk.out.block⟩
    have hG2 := HG.out.put Hgl.out (show 0 < 2 by omega) (giveC (cyN l g) nb) (A := A') (c := c') rfl Hr.out hk1 Ho.out hk2 (by
      rw [p2.1]
      congr 3
      refine flat7_congr fun i hi => ?_
      by_cases e : i = g
      · simp [e, cellsC, cy7, giveC]
      · simp [e])
    refine HQ.out _ _ ⟨some ⟨Wc.heap.size, 0, none⟩, m, by simp [Hm.out], .inr ⟨Wc.heap.size, _, _, rfl, by simp [Hm.out], hG2.more HB.out.size⟩, ?_⟩
    have hlow : ∀ b, own (R (2 * g)) = some b → w.heap.size ≤ b := fun b q => by
      have := ((HG.out.rows.row (2 * g) (by have := Hgl.out; omega)).lt q).1; have := HB.out.size; omega
    exact (HB1.out.trans (hk1.below (fun b q => hlow b q) (by have := HB1.out.size; omega))).trans (hk2.below (fun b q => by have := HB.out.size; omega) (by have := HB1.out.size; have := hk1.size; omega))

theorem give_any (A : Option Addr) (c m : Nat) (l : List Cy) (ng nb : Int) (hm : m = l.length) (w : World) (hs : SmallL l) (hI : Cyls w w.heap.size A l) :
    Calls Try.prog 28 #[.slice A m c, .agg #[.int .i64 ng, .int .i64 nb]] w (AnSays2 w (giveL l ng nb)) := by
  unfold giveL
  by_cases hW : wholeL l = true
  · rw [if_pos hW]
    by_cases hb : isBlk l ng nb = true
    · rw [if_pos hb]
      have h1 : 0 ≤ ng := by unfold isBlk at hb; rw [Bool.and_eq_true, amongB_iff] at hb; exact hb.1.1
      obtain ⟨g, rfl⟩ : ∃ g : Nat, ng = g := ⟨ng.toNat, by omega⟩
      rw [Int.toNat_natCast]
      by_cases hh : (cyN l g).us.contains nb = true
      · rw [if_pos hh]; exact give_ok A c m l g nb hm w hs hI g rfl hW hb hh
      · rw [if_neg hh]; exact give_noent A c m l g nb hm w hs hI g rfl hW hb (by simpa using hh)
    · rw [if_neg hb]; exact give_range A c m l ng nb hm w hs hI hW (by simpa using hb)
  · rw [if_neg hW]; exact give_form A c m l ng nb hm w hs hI (by simpa using hW)
end Go.Proofs.Ytpcindemkkdbbaa
