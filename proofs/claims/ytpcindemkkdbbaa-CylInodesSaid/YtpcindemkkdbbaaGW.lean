/- The document's Give. -/
import Derived.Test.YtpcindemkkdbbaaRD
import Derived.Test.YtpcindemkkdbbaaGV
import Derived.Test.YtpcindemkkdbbaaBG
namespace Go.Proofs.Ytpcindemkkdbbaa
set_option linter.unusedVariables false
set_option linter.unusedSimpArgs false
open Go.RowKit

def RefSays2 (w : World) (r : An) (e : Ending) (w' : World) : Prop :=
  ∃ A c, e = .returned (.tuple #[.slice A r.l.length c, .int .i64 r.e]) ∧ Cyls w' w'.heap.size A r.l ∧ Below w.heap.size w w'
theorem rec_give {x : Cy} {b : Int} (h : RightC x) (hb : b ∈ x.us) : recount { x with us := withoutI x.us b } = giveC x b := by
  unfold recount giveC
  have h1 := h.fb
  have h2 := h.fi
  have h3 := length_withoutI h.us hb
  congr 1
  · show x.bl - ((withoutI x.us b).length : Int) = x.fb + 1
    omega
  · show 16 - (x.is.length : Int) = x.fi
    omega

set_option maxRecDepth 100000 in
set_option maxHeartbeats 2000000 in
theorem refgive_form (A : Option Addr) (c m : Nat) (l : List Cy) (ng nb : Int) (hm : m = l.length) (w : World) (hs : SmallL l) (hI : Cyls w w.heap.size A l) (hW : wholeL l = false) :
    Calls Try.prog 29 #[.slice A m c, .agg #[.int .i64 ng, .int .i64 nb]] w (RefSays2 w ⟨[], 0, 0, 3⟩) := by
  have HWh : Hid (∀ W, Below w.heap.size w W → Calls Try.prog 32 #[.slice A m c] W fun e w' => e = .returned (.bool false) ∧ Below W.heap.size W w') := fun W hB => by
    have := refwhole_any A c m l hm W hs (hI.next hB)
    rw [hW] at this; exact this
  clear hI hs hW hm
  obtain ⟨Q, hQ⟩ : ∃ Q, Q = RefSays2 w ⟨[], 0, 0, 3⟩ := ⟨_, rfl⟩
  have HQ : Hid (∀ w', Below w.heap.size w w' → Q (.returned (.tuple #[.slice none 0 0, .int .i64 3])) w') := by unfold Hid; rw [hQ]; exact fun w' h => ⟨none, 0, rfl, Cyls.nil, h⟩
  rw [← hQ]
  clear hQ
  go_enter Try.func29, Try.ntmps29
  go_wp2_with fail
  have hB0 : Below w.heap.size w (w.alloc (.cells #[.int .i64 ng, .int .i64 nb] 41)) := (Below.refl _ w).alloc (Nat.le_refl _) _
  have hX0 : Blk (w.alloc (.cells #[.int .i64 ng, .int .i64 nb] 41)) w.heap.size 41 #[.int .i64 ng, .int .i64 nb] := Go.heap_alloc_new w _
  generalize w.alloc (.cells #[.int .i64 ng, .int .i64 nb] 41) = W0 at hB0 hX0 ⊢
  refine (HWh.out _ hB0).mono ?_
  rintro e W1 ⟨rfl, hB1⟩
  have hX1 := hX0.keep (S := fun _ => False) (Kept.fresh hB1) (fun q => q)
  have hBw := hB0.trans (hB1.mono hB0.size)
  have c10 := cellAt_of hX1 0
  have c11 := cellAt_of hX1 1
  simp only [List.getElem?_toArray, List.getElem?_cons_zero, List.getElem?_cons_succ] at c10 c11
  have hsz3 : w.heap.size < W1.heap.size := lt_heap hX1
  have HX := Lib.hid hX1
  have HB := Lib.hid hBw
  have HBd : Hid (∀ n, Below w.heap.size w (W1.drewN n)) := fun n => bdn HB.out n
  clear hB0 hX0 hB1 hX1 hBw
  go_wp2_with fail
  exact HQ.out _ HB.out

set_option maxRecDepth 100000 in
set_option maxHeartbeats 2000000 in
theorem refgive_range (A : Option Addr) (c m : Nat) (l : List Cy) (ng nb : Int) (hm : m = l.length) (w : World) (hs : SmallL l) (hI : Cyls w w.heap.size A l) (hW : wholeL l = true) (hb : isBlk l ng nb = false) :
    Calls Try.prog 29 #[.slice A m c, .agg #[.int .i64 ng, .int .i64 nb]] w (RefSays2 w ⟨[], 0, 0, 2⟩) := by
  have HWh : Hid (∀ W, Below w.heap.size w W → Calls Try.prog 32 #[.slice A m c] W fun e w' => e = .returned (.bool true) ∧ Below W.heap.size W w') := fun W hB => by
    have := refwhole_any A c m l hm W hs (hI.next hB)
    rw [hW] at this; exact this
  have hno : ¬ ((0 ≤ ng ∧ ng < m) ∧ 0 ≤ nb ∧ nb < (cyN l ng.toNat).bl) := fun h => by
    rw [← Bool.not_eq_true, isBlk_iff, ← hm] at hb; exact hb h
  have hm1000 : m ≤ 1000 := by have := hs.1; omega
  clear hb
  obtain ⟨Q, hQ⟩ : ∃ Q, Q = RefSays2 w ⟨[], 0, 0, 2⟩ := ⟨_, rfl⟩
  have HQ : Hid (∀ w', Below w.heap.size w w' → Q (.returned (.tuple #[.slice none 0 0, .int .i64 2])) w') := by unfold Hid; rw [hQ]; exact fun w' h => ⟨none, 0, rfl, Cyls.nil, h⟩
  rw [← hQ]
  clear hQ
  by_cases h1 : ng < 0
  · have t1 : decide (ng < 0) = true := decide_eq_true h1
    clear hI hs hW hm hno h1
    go_enter Try.func29, Try.ntmps29
    go_wp2_with fail
    have hB0 : Below w.heap.size w (w.alloc (.cells #[.int .i64 ng, .int .i64 nb] 41)) := (Below.refl _ w).alloc (Nat.le_refl _) _
    have hX0 : Blk (w.alloc (.cells #[.int .i64 ng, .int .i64 nb] 41)) w.heap.size 41 #[.int .i64 ng, .int .i64 nb] := Go.heap_alloc_new w _
    generalize w.alloc (.cells #[.int .i64 ng, .int .i64 nb] 41) = W0 at hB0 hX0 ⊢
    refine (HWh.out _ hB0).mono ?_
    rintro e W1 ⟨rfl, hB1⟩
    have hX1 := hX0.keep (S := fun _ => False) (Kept.fresh hB1) (fun q => q)
    have hBw := hB0.trans (hB1.mono hB0.size)
    have c10 := cellAt_of hX1 0
    have c11 := cellAt_of hX1 1
    simp only [List.getElem?_toArray, List.getElem?_cons_zero, List.getElem?_cons_succ] at c10 c11
    have hsz3 : w.heap.size < W1.heap.size := lt_heap hX1
    have HX := Lib.hid hX1
    have HB := Lib.hid hBw
    have HBd : Hid (∀ n, Below w.heap.size w (W1.drewN n)) := fun n => bdn HB.out n
    clear hB0 hX0 hB1 hX1 hBw
    go_wp2_with fail
    go_quiet (fail)
    go_wp2_with fail
    exact HQ.out _ (HBd.out _)
  have t1 : decide (ng < 0) = false := decide_eq_false h1
  by_cases h2 : (m : Int) ≤ ng
  · have t2 : decide ((m : Int) ≤ ng) = true := decide_eq_true h2
    clear hI hs hW hm hno h1 h2
    go_enter Try.func29, Try.ntmps29
    go_wp2_with fail
    have hB0 : Below w.heap.size w (w.alloc (.cells #[.int .i64 ng, .int .i64 nb] 41)) := (Below.refl _ w).alloc (Nat.le_refl _) _
    have hX0 : Blk (w.alloc (.cells #[.int .i64 ng, .int .i64 nb] 41)) w.heap.size 41 #[.int .i64 ng, .int .i64 nb] := Go.heap_alloc_new w _
    generalize w.alloc (.cells #[.int .i64 ng, .int .i64 nb] 41) = W0 at hB0 hX0 ⊢
    refine (HWh.out _ hB0).mono ?_
    rintro e W1 ⟨rfl, hB1⟩
    have hX1 := hX0.keep (S := fun _ => False) (Kept.fresh hB1) (fun q => q)
    have hBw := hB0.trans (hB1.mono hB0.size)
    have c10 := cellAt_of hX1 0
    have c11 := cellAt_of hX1 1
    simp only [List.getElem?_toArray, List.getElem?_cons_zero, List.getElem?_cons_succ] at c10 c11
    have hsz3 : w.heap.size < W1.heap.size := lt_heap hX1
    have HX := Lib.hid hX1
    have HB := Lib.hid hBw
    have HBd : Hid (∀ n, Below w.heap.size w (W1.drewN n)) := fun n => bdn HB.out n
    clear hB0 hX0 hB1 hX1 hBw
    go_wp2_with fail
    go_quiet (fail)
    go_wp2_with fail
    exact HQ.out _ (HBd.out _)
  have t2 : decide ((m : Int) ≤ ng) = false := decide_eq_false h2
  by_cases h3 : nb < 0
  · have t3 : decide (nb < 0) = true := decide_eq_true h3
    clear hI hs hW hm hno h1 h2 h3
    go_enter Try.func29, Try.ntmps29
    go_wp2_with fail
    have hB0 : Below w.heap.size w (w.alloc (.cells #[.int .i64 ng, .int .i64 nb] 41)) := (Below.refl _ w).alloc (Nat.le_refl _) _
    have hX0 : Blk (w.alloc (.cells #[.int .i64 ng, .int .i64 nb] 41)) w.heap.size 41 #[.int .i64 ng, .int .i64 nb] := Go.heap_alloc_new w _
    generalize w.alloc (.cells #[.int .i64 ng, .int .i64 nb] 41) = W0 at hB0 hX0 ⊢
    refine (HWh.out _ hB0).mono ?_
    rintro e W1 ⟨rfl, hB1⟩
    have hX1 := hX0.keep (S := fun _ => False) (Kept.fresh hB1) (fun q => q)
    have hBw := hB0.trans (hB1.mono hB0.size)
    have c10 := cellAt_of hX1 0
    have c11 := cellAt_of hX1 1
    simp only [List.getElem?_toArray, List.getElem?_cons_zero, List.getElem?_cons_succ] at c10 c11
    have hsz3 : w.heap.size < W1.heap.size := lt_heap hX1
    have HX := Lib.hid hX1
    have HB := Lib.hid hBw
    have HBd : Hid (∀ n, Below w.heap.size w (W1.drewN n)) := fun n => bdn HB.out n
    clear hB0 hX0 hB1 hX1 hBw
    go_wp2_with fail
    go_quiet (fail)
    go_wp2_with fail
    exact HQ.out _ (HBd.out _)
  have t3 : decide (nb < 0) = false := decide_eq_false h3
  obtain ⟨g, rfl⟩ : ∃ g : Nat, ng = g := ⟨ng.toNat, by omega⟩
  rw [Int.toNat_natCast] at hno
  have hgm : (g : Int) < (m : Int) := by omega
  have hg0 : (0 : Int) ≤ (g : Int) := by omega
  have hgl : g < l.length := by omega
  obtain ⟨gb, off, Ag, cg, A2g, c2g, hA, hgb, hx⟩ := hI.at_ hgl
  have HG1 : Hid (∀ W, Below w.heap.size w W → W.cell? ⟨gb, off + g * 7 + 1, none⟩ = some (.int .i64 (cyN l g).bl)) := fun W hB => (hB.cell (p := ⟨gb, off + g * 7 + 1, none⟩) hgb).trans hx.c1
  obtain ⟨bl, hbl⟩ : ∃ b, b = (cyN l g).bl := ⟨_, rfl⟩
  rw [← hbl] at HG1 hno
  have t4 : decide (bl ≤ nb) = true := decide_eq_true (by omega)
  have t2' : decide (m ≤ g) = false := decide_eq_false (by omega)
  clear hI hs hW hm hno h1 h2 h3 hbl hx hgl
  subst hA
  go_enter Try.func29, Try.ntmps29
  go_wp2_with fail
  have hB0 : Below w.heap.size w (w.alloc (.cells #[.int .i64 (g : Int), .int .i64 nb] 41)) := (Below.refl _ w).alloc (Nat.le_refl _) _
  have hX0 : Blk (w.alloc (.cells #[.int .i64 (g : Int), .int .i64 nb] 41)) w.heap.size 41 #[.int .i64 (g : Int), .int .i64 nb] := Go.heap_alloc_new w _
  generalize w.alloc (.cells #[.int .i64 (g : Int), .int .i64 nb] 41) = W0 at hB0 hX0 ⊢
  refine (HWh.out _ hB0).mono ?_
  rintro e W1 ⟨rfl, hB1⟩
  have hX1 := hX0.keep (S := fun _ => False) (Kept.fresh hB1) (fun q => q)
  have hBw := hB0.trans (hB1.mono hB0.size)
  have c10 := cellAt_of hX1 0
  have c11 := cellAt_of hX1 1
  simp only [List.getElem?_toArray, List.getElem?_cons_zero, List.getElem?_cons_succ] at c10 c11
  have hsz3 : w.heap.size < W1.heap.size := lt_heap hX1
  have HX := Lib.hid hX1
  have HB := Lib.hid hBw
  have HBd : Hid (∀ n, Below w.heap.size w (W1.drewN n)) := fun n => bdn HB.out n
  clear hB0 hX0 hB1 hX1 hBw
  have cg1 := HG1.out W1 HB.out
  have hblt : gb < W1.heap.size := by have := HB.out.size; omega
  go_wp2_with fail
  go_quiet (fail)
  go_wp2_with fail
  exact HQ.out _ (HBd.out _)

set_option maxRecDepth 100000 in
set_option maxHeartbeats 2000000 in
theorem refgive_noent (A : Option Addr) (c m : Nat) (l : List Cy) (ng nb : Int) (hm : m = l.length) (w : World) (hs : SmallL l) (hI : Cyls w w.heap.size A l) (g : Nat) (hg : ng = g) (hW : wholeL l = true) (hb : isBlk l ng nb = true) (hh : (cyN l g).us.contains nb = false) :
    Calls Try.prog 29 #[.slice A m c, .agg #[.int .i64 ng, .int .i64 nb]] w (RefSays2 w ⟨[], 0, 0, 5⟩) := by
  have HWh : Hid (∀ W, Below w.heap.size w W → Calls Try.prog 32 #[.slice A m c] W fun e w' => e = .returned (.bool true) ∧ Below W.heap.size W w') := fun W hB => by
    have := refwhole_any A c m l hm W hs (hI.next hB)
    rw [hW] at this; exact this
  subst hg
  obtain ⟨⟨h1, h2⟩, h3, h4⟩ := isBlk_iff.1 hb
  rw [Int.toNat_natCast] at h4
  have hm1000 : m ≤ 1000 := by have := hs.1; omega
  have hgm : (g : Int) < (m : Int) := by omega
  have hg0 : (0 : Int) ≤ (g : Int) := by omega
  have hgl : g < l.length := by omega
  obtain ⟨gb, off, Ag, cg, A2g, c2g, hA, hgb, hx⟩ := hI.at_ hgl
  have HG1 : Hid (∀ W, Below w.heap.size w W → W.cell? ⟨gb, off + g * 7 + 1, none⟩ = some (.int .i64 (cyN l g).bl)) := fun W hB => (hB.cell (p := ⟨gb, off + g * 7 + 1, none⟩) hgb).trans hx.c1
  obtain ⟨bl, hbl⟩ : ∃ b, b = (cyN l g).bl := ⟨_, rfl⟩
  have hR := (((wholeL_iff l).1 hW).ok g hgl)
  have hix := (((wholeL_iff l).1 hW).ix g hgl)
  have hsm := hs.2 g hgl
  have HC : Hid (∀ W, Below w.heap.size w W → CyAt W W.heap.size gb (off + g * 7) (cyN l g) Ag cg A2g c2g) := fun W hB => (hx.keep hgb (fun p hp => hB.cell hp)).more hB.size
  have HHas : Hid (∀ W, Below w.heap.size w W → Calls Try.prog 57 #[.slice Ag (cyN l g).us.length cg, .int .i64 nb] W fun e w' => e = .returned (.bool ((cyN l g).us.contains nb)) ∧ W = w') := fun W hW => refhas_any Ag cg _ (cyN l g).us nb rfl W (by have := hsm.1; omega) (hx.us.next hW)
  have Hm := Lib.hid hm
  have Hs := Lib.hid hs
  have HI := Lib.hid hI
  have t1 : decide ((g : Int) < 0) = false := decide_eq_false (by omega)
  have t2 : decide ((m : Int) ≤ (g : Int)) = false := decide_eq_false (by omega)
  have t2' : decide (m ≤ g) = false := decide_eq_false (by omega)
  have t3 : decide (nb < 0) = false := decide_eq_false (by omega)
  have t4 : decide ((cyN l g).bl ≤ nb) = false := decide_eq_false (by omega)
  rw [hh] at HHas
  rw [← hbl] at HG1
  clear hI hs hW hm hb hh hsm hR hix hx hgl h1 h2 h3 h4 hbl
  subst hA
  obtain ⟨Q, hQ⟩ : ∃ Q, Q = RefSays2 w ⟨[], 0, 0, 5⟩ := ⟨_, rfl⟩
  have HQ : Hid (∀ w', Below w.heap.size w w' → Q (.returned (.tuple #[.slice none 0 0, .int .i64 5])) w') := by unfold Hid; rw [hQ]; exact fun w' h => ⟨none, 0, rfl, Cyls.nil, h⟩
  rw [← hQ]
  clear hQ
  go_enter Try.func29, Try.ntmps29
  go_wp2_with fail
  have hB0 : Below w.heap.size w (w.alloc (.cells #[.int .i64 (g : Int), .int .i64 nb] 41)) := (Below.refl _ w).alloc (Nat.le_refl _) _
  have hX0 : Blk (w.alloc (.cells #[.int .i64 (g : Int), .int .i64 nb] 41)) w.heap.size 41 #[.int .i64 (g : Int), .int .i64 nb] := Go.heap_alloc_new w _
  generalize w.alloc (.cells #[.int .i64 (g : Int), .int .i64 nb] 41) = W0 at hB0 hX0 ⊢
  refine (HWh.out _ hB0).mono ?_
  rintro e W1 ⟨rfl, hB1⟩
  have hX1 := hX0.keep (S := fun _ => False) (Kept.fresh hB1) (fun q => q)
  have hBw := hB0.trans (hB1.mono hB0.size)
  have c10 := cellAt_of hX1 0
  have c11 := cellAt_of hX1 1
  simp only [List.getElem?_toArray, List.getElem?_cons_zero, List.getElem?_cons_succ] at c10 c11
  have hsz3 : w.heap.size < W1.heap.size := lt_heap hX1
  have HX := Lib.hid hX1
  have HB := Lib.hid hBw
  have HBd : Hid (∀ n, Below w.heap.size w (W1.drewN n)) := fun n => bdn HB.out n
  clear hB0 hX0 hB1 hX1 hBw
  have hblt : gb < W1.heap.size := by have := HB.out.size; omega
  have hcy := HC.out W1 HB.out
  have q0 := hcy.c0
  have q1 := hcy.c1
  have q2 := hcy.c2
  have q3 := hcy.c3
  have q4 := hcy.c4
  have q5 := hcy.c5
  have q6 := hcy.c6
  clear hcy
  obtain ⟨x, hxx⟩ : ∃ x, x = cyN l g := ⟨_, rfl⟩
  rw [← hxx] at q0 q1 q2 q3 q4 q5 q6 t4 HHas
  clear hxx HC HG1
  obtain ⟨ix, bl', fb, fi, ro, us, is⟩ := x
  simp only at q0 q1 q2 q3 q4 q5 q6 t4 HHas
  obtain ⟨n1, hn1⟩ : ∃ n1, n1 = us.length := ⟨_, rfl⟩
  generalize is.length = n2 at q6
  rw [← hn1] at q5 HHas
  clear hn1
  go_wp2_with fail
  go_quiet (fail)
  have hBn : Below w.heap.size w (W1.drewN nq) := bdn HB.out nq
  have hX2 : Blk (W1.drewN nq) w.heap.size 41 #[.int .i64 (g : Int), .int .i64 nb] := HX.out
  have r0 : (W1.drewN nq).cell? ⟨gb, off + g * 7, none⟩ = some (.int .i64 ix) := q0
  have r1 : (W1.drewN nq).cell? ⟨gb, off + g * 7 + 1, none⟩ = some (.int .i64 bl') := q1
  have r2 : (W1.drewN nq).cell? ⟨gb, off + g * 7 + 2, none⟩ = some (.int .i64 fb) := q2
  have r3 : (W1.drewN nq).cell? ⟨gb, off + g * 7 + 3, none⟩ = some (.int .i64 fi) := q3
  have r4 : (W1.drewN nq).cell? ⟨gb, off + g * 7 + 4, none⟩ = some (.int .i64 ro) := q4
  have r5 : (W1.drewN nq).cell? ⟨gb, off + g * 7 + 5, none⟩ = some (.slice Ag n1 cg) := q5
  have r6 : (W1.drewN nq).cell? ⟨gb, off + g * 7 + 6, none⟩ = some (.slice A2g n2 c2g) := q6
  have hblt2 : gb < (W1.drewN nq).heap.size := hblt
  clear q0 q1 q2 q3 q4 q5 q6 hblt c10 c11 HB HX HBd
  generalize W1.drewN nq = W2 at hBn hX2 r0 r1 r2 r3 r4 r5 r6 hblt2 ⊢
  have c10 := cellAt_of hX2 0
  have c11 := cellAt_of hX2 1
  simp only [List.getElem?_toArray, List.getElem?_cons_zero, List.getElem?_cons_succ] at c10 c11
  have hsz2 : w.heap.size < W2.heap.size := lt_heap hX2
  have HX2 := Lib.hid hX2
  have HB2 := Lib.hid hBn
  have HBa : Hid (∀ o, Below w.heap.size w (W2.alloc o)) := fun o => HB2.out.alloc (Nat.le_of_lt hsz2) o
  clear hX2 hBn
  go_wp2_with fail
  refine (HHas.out _ (HBa.out _)).mono ?_
  rintro e w' ⟨rfl, rfl⟩
  go_wp2_with fail
  exact HQ.out _ (HBa.out _)

set_option maxRecDepth 100000 in
set_option maxHeartbeats 2000000 in
theorem refgive_ok (A : Option Addr) (c m : Nat) (l : List Cy) (ng nb : Int) (hm : m = l.length) (w : World) (hs : SmallL l) (hI : Cyls w w.heap.size A l) (g : Nat) (hg : ng = g) (hW : wholeL l = true) (hb : isBlk l ng nb = true) (hh : (cyN l g).us.contains nb = true) :
    Calls Try.prog 29 #[.slice A m c, .agg #[.int .i64 ng, .int .i64 nb]] w (RefSays2 w ⟨l.set g (giveC (cyN l g) nb), 0, 0, 0⟩) := by
  have HWh : Hid (∀ W, Below w.heap.size w W → Calls Try.prog 32 #[.slice A m c] W fun e w' => e = .returned (.bool true) ∧ Below W.heap.size W w') := fun W hB => by
    have := refwhole_any A c m l hm W hs (hI.next hB)
    rw [hW] at this; exact this
  subst hg
  obtain ⟨⟨h1, h2⟩, h3, h4⟩ := isBlk_iff.1 hb
  rw [Int.toNat_natCast] at h4
  have hm1000 : m ≤ 1000 := by have := hs.1; omega
  have hgm : (g : Int) < (m : Int) := by omega
  have hg0 : (0 : Int) ≤ (g : Int) := by omega
  have hgl : g < l.length := by omega
  obtain ⟨gb, off, Ag, cg, A2g, c2g, hA, hgb, hx⟩ := hI.at_ hgl
  have HG1 : Hid (∀ W, Below w.heap.size w W → W.cell? ⟨gb, off + g * 7 + 1, none⟩ = some (.int .i64 (cyN l g).bl)) := fun W hB => (hB.cell (p := ⟨gb, off + g * 7 + 1, none⟩) hgb).trans hx.c1
  obtain ⟨bl, hbl⟩ : ∃ b, b = (cyN l g).bl := ⟨_, rfl⟩
  have hR := (((wholeL_iff l).1 hW).ok g hgl)
  have hix := (((wholeL_iff l).1 hW).ix g hgl)
  have hsm := hs.2 g hgl
  have HC : Hid (∀ W, Below w.heap.size w W → CyAt W W.heap.size gb (off + g * 7) (cyN l g) Ag cg A2g c2g) := fun W hB => (hx.keep hgb (fun p hp => hB.cell hp)).more hB.size
  have HHas : Hid (∀ W, Below w.heap.size w W → Calls Try.prog 57 #[.slice Ag (cyN l g).us.length cg, .int .i64 nb] W fun e w' => e = .returned (.bool ((cyN l g).us.contains nb)) ∧ W = w') := fun W hW => refhas_any Ag cg _ (cyN l g).us nb rfl W (by have := hsm.1; omega) (hx.us.next hW)
  have Hm := Lib.hid hm
  have Hs := Lib.hid hs
  have HI := Lib.hid hI
  have t1 : decide ((g : Int) < 0) = false := decide_eq_false (by omega)
  have t2 : decide ((m : Int) ≤ (g : Int)) = false := decide_eq_false (by omega)
  have t2' : decide (m ≤ g) = false := decide_eq_false (by omega)
  have t3 : decide (nb < 0) = false := decide_eq_false (by omega)
  have t4 : decide ((cyN l g).bl ≤ nb) = false := decide_eq_false (by omega)
  have Hw : Hid (∀ W, Below w.heap.size w W → Calls Try.prog 62 #[.slice Ag (cyN l g).us.length cg, .int .i64 nb] W (IntsSays W (withoutI (cyN l g).us nb))) := fun W hW => refwithout_any Ag cg _ (cyN l g).us nb rfl W (by have := hsm.1; omega) (hx.us.next hW)
  have HSet : Hid (∀ W A' c', Below w.heap.size w W → Ints W W.heap.size A' (withoutI (cyN l g).us nb) → Calls Try.prog 59 #[.slice A m c, ({ (cyN l g) with us := withoutI (cyN l g).us nb } : Cy).v A' c' A2g c2g] W (SetSays W (l.set g (giveC (cyN l g) nb)))) := fun W A' c' hW hA' => by
    have := refset_any A c m l { (cyN l g) with us := withoutI (cyN l g).us nb } A' c' A2g c2g g hm W hs (hI.next hW) ⟨by have := withoutI_len (cyN l g).us nb; have := hsm.1; show (withoutI (cyN l g).us nb).length ≤ 1000; omega, hsm.2⟩ hix hgl hR.bl hA' (hx.is.next hW)
    rw [rec_give hR (List.contains_iff_mem.1 hh)] at this; exact this
  rw [hh] at HHas
  rw [← hbl] at HG1
  obtain ⟨Q, hQ⟩ : ∃ Q, Q = RefSays2 w ⟨l.set g (giveC (cyN l g) nb), 0, 0, 0⟩ := ⟨_, rfl⟩
  obtain ⟨L, hL⟩ : ∃ L, L = l.set g (giveC (cyN l g) nb) := ⟨_, rfl⟩
  have HQ : Hid (∀ w' A c, Cyls w' w'.heap.size A L → Below w.heap.size w w' → Q (.returned (.tuple #[.slice A L.length c, .int .i64 0])) w') := by unfold Hid; rw [hQ, hL]; exact fun w' A c hC h => ⟨A, c, rfl, hC, h⟩
  rw [← hQ]
  rw [← hL] at HSet
  clear hQ hL
  clear hI hs hW hm hb hh hsm hR hix hx hgl h1 h2 h3 h4 hbl
  subst hA
  go_enter Try.func29, Try.ntmps29
  go_wp2_with fail
  have hB0 : Below w.heap.size w (w.alloc (.cells #[.int .i64 (g : Int), .int .i64 nb] 41)) := (Below.refl _ w).alloc (Nat.le_refl _) _
  have hX0 : Blk (w.alloc (.cells #[.int .i64 (g : Int), .int .i64 nb] 41)) w.heap.size 41 #[.int .i64 (g : Int), .int .i64 nb] := Go.heap_alloc_new w _
  generalize w.alloc (.cells #[.int .i64 (g : Int), .int .i64 nb] 41) = W0 at hB0 hX0 ⊢
  refine (HWh.out _ hB0).mono ?_
  rintro e W1 ⟨rfl, hB1⟩
  have hX1 := hX0.keep (S := fun _ => False) (Kept.fresh hB1) (fun q => q)
  have hBw := hB0.trans (hB1.mono hB0.size)
  have c10 := cellAt_of hX1 0
  have c11 := cellAt_of hX1 1
  simp only [List.getElem?_toArray, List.getElem?_cons_zero, List.getElem?_cons_succ] at c10 c11
  have hsz3 : w.heap.size < W1.heap.size := lt_heap hX1
  have HX := Lib.hid hX1
  have HB := Lib.hid hBw
  have HBd : Hid (∀ n, Below w.heap.size w (W1.drewN n)) := fun n => bdn HB.out n
  clear hB0 hX0 hB1 hX1 hBw
  have hblt : gb < W1.heap.size := by have := HB.out.size; omega
  have hcy := HC.out W1 HB.out
  have q0 := hcy.c0
  have q1 := hcy.c1
  have q2 := hcy.c2
  have q3 := hcy.c3
  have q4 := hcy.c4
  have q5 := hcy.c5
  have q6 := hcy.c6
  clear hcy
  obtain ⟨x, hxx⟩ : ∃ x, x = cyN l g := ⟨_, rfl⟩
  rw [← hxx] at q0 q1 q2 q3 q4 q5 q6 t4 HHas HSet Hw
  clear hxx HC HG1
  obtain ⟨ix, bl', fb, fi, ro, us, is⟩ := x
  simp only at q0 q1 q2 q3 q4 q5 q6 t4 HHas HSet Hw
  obtain ⟨n1, hn1⟩ : ∃ n1, n1 = us.length := ⟨_, rfl⟩
  unfold Cy.v at HSet
  simp only at HSet
  generalize is.length = n2 at q6 HSet
  rw [← hn1] at q5 HHas Hw
  clear hn1
  generalize withoutI us nb = us2 at HSet Hw
  obtain ⟨n9, hn9⟩ : ∃ n9, n9 = us2.length := ⟨_, rfl⟩
  have Hn9 := Lib.hid hn9
  rw [← hn9] at HSet
  clear hn9
  go_wp2_with fail
  go_quiet (fail)
  have hBn : Below w.heap.size w (W1.drewN nq) := bdn HB.out nq
  have hX2 : Blk (W1.drewN nq) w.heap.size 41 #[.int .i64 (g : Int), .int .i64 nb] := HX.out
  have r0 : (W1.drewN nq).cell? ⟨gb, off + g * 7, none⟩ = some (.int .i64 ix) := q0
  have r1 : (W1.drewN nq).cell? ⟨gb, off + g * 7 + 1, none⟩ = some (.int .i64 bl') := q1
  have r2 : (W1.drewN nq).cell? ⟨gb, off + g * 7 + 2, none⟩ = some (.int .i64 fb) := q2
  have r3 : (W1.drewN nq).cell? ⟨gb, off + g * 7 + 3, none⟩ = some (.int .i64 fi) := q3
  have r4 : (W1.drewN nq).cell? ⟨gb, off + g * 7 + 4, none⟩ = some (.int .i64 ro) := q4
  have r5 : (W1.drewN nq).cell? ⟨gb, off + g * 7 + 5, none⟩ = some (.slice Ag n1 cg) := q5
  have r6 : (W1.drewN nq).cell? ⟨gb, off + g * 7 + 6, none⟩ = some (.slice A2g n2 c2g) := q6
  have hblt2 : gb < (W1.drewN nq).heap.size := hblt
  clear q0 q1 q2 q3 q4 q5 q6 hblt c10 c11 HB HX HBd
  generalize W1.drewN nq = W2 at hBn hX2 r0 r1 r2 r3 r4 r5 r6 hblt2 ⊢
  have c10 := cellAt_of hX2 0
  have c11 := cellAt_of hX2 1
  simp only [List.getElem?_toArray, List.getElem?_cons_zero, List.getElem?_cons_succ] at c10 c11
  have hsz2 : w.heap.size < W2.heap.size := lt_heap hX2
  have HX2 := Lib.hid hX2
  have HB2 := Lib.hid hBn
  have HBa : Hid (∀ o, Below w.heap.size w (W2.alloc o)) := fun o => HB2.out.alloc (Nat.le_of_lt hsz2) o
  clear hX2 hBn
  go_wp2_with fail
  refine (HHas.out _ (HBa.out _)).mono ?_
  rintro e w' ⟨rfl, rfl⟩
  go_wp2_with fail
  refine (Hw.out _ (HBa.out _)).mono ?_
  rintro e w4 ⟨A', c', rfl, hr, hB4⟩
  rw [← Hn9.out]
  have h4 : w4.heap[W2.heap.size]? = some (.cells #[.int .i64 ix, .int .i64 bl', .int .i64 fb, .int .i64 fi, .int .i64 ro, .slice Ag n1 cg, .slice A2g n2 c2g] 24 (0, 0)) := (hB4.block _ (by simp)).trans (Go.heap_alloc_new W2 _)
  obtain ⟨v0, v1, v2, v3, v4, v5, v6⟩ := seven h4
  have g5 := frozen_of_row w4 _ 5 _ 24 h4
  have hz4 : W2.heap.size + 1 ≤ w4.heap.size := by have := hB4.size; simpa using this
  have hB4w : Below w.heap.size w w4 := (HBa.out _).trans (hB4.mono (by simp; omega))
  have hk5 : Kept w4 (w4.setCell ⟨W2.heap.size, 5, none⟩ (.slice A' n9 c')) (fun b => b = W2.heap.size) := (Kept.refl w4 (fun b => b = W2.heap.size)).set (.inl rfl)
  have hI5 : Ints (w4.setCell ⟨W2.heap.size, 5, none⟩ (.slice A' n9 c')) (w4.setCell ⟨W2.heap.size, 5, none⟩ (.slice A' n9 c')).heap.size A' us2 := (hr.keep hk5 (fun b q r => by have h := (hr.lt q).1; rw [World.size_alloc] at h; have r' : b = W2.heap.size := r; omega)).ints
  have hB5 : Below w.heap.size w (w4.setCell ⟨W2.heap.size, 5, none⟩ (.slice A' n9 c')) := hB4w.trans (hk5.below (fun b q => by omega) hB4w.size)
  have HS5 := Lib.hid (HSet.out _ A' c' hB5 hI5)
  have HB5 := Lib.hid hB5
  clear hr hB4 hB4w hk5 hI5 hB5 h4
  go_wp2_with fail
  refine HS5.out.mono ?_
  rintro e w6 ⟨A6, c6, rfl, hC6, hB6⟩
  have HC6 := Lib.hid hC6
  have HB6 := Lib.hid (HB5.out.trans (hB6.mono HB5.out.size))
  clear hC6 hB6
  go_wp2_with fail
  exact HQ.out _ _ _ HC6.out HB6.out

theorem refgive_any (A : Option Addr) (c m : Nat) (l : List Cy) (ng nb : Int) (hm : m = l.length) (w : World) (hs : SmallL l) (hI : Cyls w w.heap.size A l) :
    Calls Try.prog 29 #[.slice A m c, .agg #[.int .i64 ng, .int .i64 nb]] w (RefSays2 w (giveL l ng nb)) := by
  unfold giveL
  by_cases hW : wholeL l = true
  · rw [if_pos hW]
    by_cases hb : isBlk l ng nb = true
    · rw [if_pos hb]
      have h1 : 0 ≤ ng := by unfold isBlk at hb; rw [Bool.and_eq_true, amongB_iff] at hb; exact hb.1.1
      obtain ⟨g, rfl⟩ : ∃ g : Nat, ng = g := ⟨ng.toNat, by omega⟩
      rw [Int.toNat_natCast]
      by_cases hh : (cyN l g).us.contains nb = true
      · rw [if_pos hh]; exact refgive_ok A c m l g nb hm w hs hI g rfl hW hb hh
      · rw [if_neg hh]; exact refgive_noent A c m l g nb hm w hs hI g rfl hW hb (by simpa using hh)
    · rw [if_neg hb]; exact refgive_range A c m l ng nb hm w hs hI hW (by simpa using hb)
  · rw [if_neg hW]; exact refgive_form A c m l ng nb hm w hs hI (by simpa using hW)
end Go.Proofs.Ytpcindemkkdbbaa
