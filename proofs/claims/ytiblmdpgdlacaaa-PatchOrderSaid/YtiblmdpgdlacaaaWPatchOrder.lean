/- PatchOrder is true of every bytes and two patches, and leaves its arguments as they are. Conditions: none. Here: the walk of the law's text. -/
import Derived.Test.YtiblmdpgdlacaaaWPatchTwo
namespace Go.Proofs.Ytiblmdpgdlacaaa.patchOrder
open Go.RowKit

/-- the second patch's block is made the first one's -/
theorem turned {w W : World} {p q : Pt} (h : St2 w p q W) : St2 w p ⟨p.b, q.o, q.s⟩ (W.setCell ⟨w.heap.size + 1, 0, none⟩ (.int .i64 p.b)) :=
  ⟨h.1.setCell (p := ⟨w.heap.size + 1, 0, none⟩) (by simp) _, BlkIs.far h.2.1 (by omega) _ _, BlkIs.set_ h.2.2 0 _⟩

set_option maxRecDepth 100000 in
set_option maxHeartbeats 1000000 in
theorem walk (a : Option Addr) (len cap : Nat) (z : List Int) (p q : Pt) (w : World) (h0 : IsRow .u8 w a len cap z) (hp : p.ok) (hq : q.ok) :
    Calls Try.prog 10 #[.slice a len cap, p.v, q.v] w fun e w' => e = .returned (.bool true) ∧ Below w.heap.size w w' := by
  obtain ⟨h1, h2, h3, h4⟩ := h0.bts
  have t0 : St2 w p q ((w.alloc (.cells p.cs.toArray 24)).alloc (.cells q.cs.toArray 24)) := St2.start w p q
  have F := Lib.hid (full_any a len cap (z.take len) ((w.alloc (.cells p.cs.toArray 24)).alloc (.cells q.cs.toArray 24)) ((h3.below t0.1).more t0.1.size) h4.symm (by omega))
  have T0 := Lib.hid t0
  have hq' : Pt.ok ⟨p.b, q.o, q.s⟩ := ⟨hp.1, hq.2⟩
  have R1 := Lib.hid (fun W => right_any p W hp)
  have R2 := Lib.hid (fun W => right_any ⟨p.b, q.o, q.s⟩ W hq')
  have O := Lib.hid (fun W => overlap_any p ⟨p.b, q.o, q.s⟩ W hp hq')
  have TU := Lib.hid (fun W => @turned w W p q)
  have L := Lib.hid live_any
  clear h1 h2 h3 h4 t0 h0
  cases c1 : p.right with
  | false =>
    rw [c1] at R1
    clear c1 hp hq hq'
    obtain ⟨b, o, s⟩ := p
    obtain ⟨b', o', s'⟩ := q
    unfold Pt.v at *
    simp only [Pt.cs] at *
    go_enter Try.func10, Try.ntmps10
    go_wp2_with fail
    refine F.out.mono ?_
    rintro e w1 ⟨rfl, hB1, -⟩
    have T1 := Lib.hid (T0.out.next hB1)
    have T1' := Lib.hid (TU.out _ T1.out)
    obtain ⟨e0, e1, e2, e3, e4, e5⟩ := T1.out.cells
    obtain ⟨g0, g1, g2, g3, g4, g5⟩ := T1'.out.cells
    have hf := BlkIs.frozen T1.out.2.2 0
    simp only at e0 e1 e2 e3 e4 e5 g0 g1 g2 g3 g4 g5
    clear hB1
    go_wp2_with fail
    refine (R1.out _).mono ?_
    rintro e w2 ⟨rfl, hB2⟩
    have T2 := Lib.hid (T1'.out.next hB2)
    clear hB2 e0 e1 e2 e3 e4 e5 g0 g1 g2 g3 g4 g5 hf
    go_wp2_with fail
    refine (L.out _).mono ?_
    rintro e w3 ⟨rfl, hB3⟩
    have T3 := Lib.hid (T2.out.next hB3)
    clear hB3
    go_wp2
    go_ret
    exact ⟨rfl, T3.out.1⟩
  | true =>
    cases c2 : Pt.right ⟨p.b, q.o, q.s⟩ with
    | false =>
      rw [c1] at R1
      rw [c2] at R2
      clear c1 c2 hp hq hq'
      obtain ⟨b, o, s⟩ := p
      obtain ⟨b', o', s'⟩ := q
      unfold Pt.v at *
      simp only [Pt.cs] at *
      go_enter Try.func10, Try.ntmps10
      go_wp2_with fail
      refine F.out.mono ?_
      rintro e w1 ⟨rfl, hB1, -⟩
      have T1 := Lib.hid (T0.out.next hB1)
      have T1' := Lib.hid (TU.out _ T1.out)
      obtain ⟨e0, e1, e2, e3, e4, e5⟩ := T1.out.cells
      obtain ⟨g0, g1, g2, g3, g4, g5⟩ := T1'.out.cells
      have hf := BlkIs.frozen T1.out.2.2 0
      simp only at e0 e1 e2 e3 e4 e5 g0 g1 g2 g3 g4 g5
      clear hB1
      go_wp2_with fail
      refine (R1.out _).mono ?_
      rintro e w2 ⟨rfl, hB2⟩
      have T2 := Lib.hid (T1'.out.next hB2)
      clear hB2 e0 e1 e2 e3 e4 e5 g0 g1 g2 g3 g4 g5 hf
      obtain ⟨e0, e1, e2, e3, e4, e5⟩ := T2.out.cells
      simp only at e0 e1 e2 e3 e4 e5
      go_wp2_with fail
      refine (R2.out _).mono ?_
      rintro e w3 ⟨rfl, hB3⟩
      have T3 := Lib.hid (T2.out.next hB3)
      clear hB3 e0 e1 e2 e3 e4 e5
      go_wp2_with fail
      refine (L.out _).mono ?_
      rintro e w4 ⟨rfl, hB4⟩
      have T4 := Lib.hid (T3.out.next hB4)
      clear hB4
      go_wp2
      go_ret
      exact ⟨rfl, T4.out.1⟩
    | true =>
      cases c3 : p.over ⟨p.b, q.o, q.s⟩ with
      | true =>
        rw [c1] at R1
        rw [c2] at R2
        rw [c3] at O
        clear c1 c2 c3 hp hq hq'
        obtain ⟨b, o, s⟩ := p
        obtain ⟨b', o', s'⟩ := q
        unfold Pt.v at *
        simp only [Pt.cs] at *
        go_enter Try.func10, Try.ntmps10
        go_wp2_with fail
        refine F.out.mono ?_
        rintro e w1 ⟨rfl, hB1, -⟩
        have T1 := Lib.hid (T0.out.next hB1)
        have T1' := Lib.hid (TU.out _ T1.out)
        obtain ⟨e0, e1, e2, e3, e4, e5⟩ := T1.out.cells
        obtain ⟨g0, g1, g2, g3, g4, g5⟩ := T1'.out.cells
        have hf := BlkIs.frozen T1.out.2.2 0
        simp only at e0 e1 e2 e3 e4 e5 g0 g1 g2 g3 g4 g5
        clear hB1
        go_wp2_with fail
        refine (R1.out _).mono ?_
        rintro e w2 ⟨rfl, hB2⟩
        have T2 := Lib.hid (T1'.out.next hB2)
        clear hB2 e0 e1 e2 e3 e4 e5 g0 g1 g2 g3 g4 g5 hf
        obtain ⟨e0, e1, e2, e3, e4, e5⟩ := T2.out.cells
        simp only at e0 e1 e2 e3 e4 e5
        go_wp2_with fail
        refine (R2.out _).mono ?_
        rintro e w3 ⟨rfl, hB3⟩
        have T3 := Lib.hid (T2.out.next hB3)
        clear hB3 e0 e1 e2 e3 e4 e5
        obtain ⟨e0, e1, e2, e3, e4, e5⟩ := T3.out.cells
        simp only at e0 e1 e2 e3 e4 e5
        go_wp2_with fail
        refine (O.out _).mono ?_
        rintro e w4 ⟨rfl, hB4⟩
        have T4 := Lib.hid (T3.out.next hB4)
        clear hB4 e0 e1 e2 e3 e4 e5
        go_wp2_with fail
        refine (L.out _).mono ?_
        rintro e w5 ⟨rfl, hB5⟩
        have T5 := Lib.hid (T4.out.next hB5)
        clear hB5
        go_wp2
        go_ret
        exact ⟨rfl, T5.out.1⟩
      | false =>
        have hsw := fun m (hm : m.length = 32) => put_swap (l := m) c1 c2 rfl c3 hm
        have C1 := Lib.hid (fun W A m (hb : Bts W W.heap.size A m) hm => @all_two W A m p ⟨p.b, q.o, q.s⟩ c1 c2 32 hb hm)
        have C2 : Hid (∀ W A m, Bts W W.heap.size A m → m.length = 32 → Calls Try.prog 21 #[.slice A 32 32, .slice (some ⟨W.heap.size, 0, none⟩) 2 2] (W.alloc (.cells (Pt.cs ⟨p.b, q.o, q.s⟩ ++ p.cs).toArray 24)) (Ans (W.alloc (.cells (Pt.cs ⟨p.b, q.o, q.s⟩ ++ p.cs).toArray 24)) (some (put (put m p) ⟨p.b, q.o, q.s⟩)))) := fun W A m hb hm => by
          rw [hsw m hm]
          exact all_two c2 c1 32 hb hm
        rw [c1] at R1
        rw [c2] at R2
        rw [c3] at O
        obtain ⟨f, hf⟩ : ∃ f : List Int → List Int, f = fun m => put (put m p) ⟨p.b, q.o, q.s⟩ := ⟨_, rfl⟩
        have hfm : ∀ m, put (put m p) ⟨p.b, q.o, q.s⟩ = f m := fun m => by rw [hf]
        simp only [hfm] at C1 C2
        clear c1 c2 c3 hp hq hq' hf hfm hsw
        obtain ⟨b, o, s⟩ := p
        obtain ⟨b', o', s'⟩ := q
        unfold Pt.v at *
        simp only [Pt.cs, List.cons_append, List.nil_append] at *
        go_enter Try.func10, Try.ntmps10
        go_wp2_with fail
        refine F.out.mono ?_
        rintro e w1 ⟨rfl, hB1, m, hm1, hm2, hm3⟩
        have T1 := Lib.hid (T0.out.next hB1)
        have T1' := Lib.hid (TU.out _ T1.out)
        have M2 := Lib.hid hm2
        have hm1' : BlkIs (w1.setCell ⟨w.heap.size + 1, 0, none⟩ (.int .i64 b)) (w.heap.size + 1 + 1) 5 (bytesV m) := BlkIs.far (by simpa using hm1) (by omega) _ _
        have M1 := Lib.hid (show Bts (w1.setCell ⟨w.heap.size + 1, 0, none⟩ (.int .i64 b)) (w1.setCell ⟨w.heap.size + 1, 0, none⟩ (.int .i64 b)).heap.size (some ⟨w.heap.size + 1 + 1, 0, none⟩) m from BlkIs.bts hm1' hm3 hm1'.lt)
        obtain ⟨e0, e1, e2, e3, e4, e5⟩ := T1.out.cells
        obtain ⟨g0, g1, g2, g3, g4, g5⟩ := T1'.out.cells
        have hf := BlkIs.frozen T1.out.2.2 0
        simp only at e0 e1 e2 e3 e4 e5 g0 g1 g2 g3 g4 g5
        clear hB1 hm1 hm2 hm3 hm1'
        go_wp2_with fail
        refine (R1.out _).mono ?_
        rintro e w2 ⟨rfl, hB2⟩
        have T2 := Lib.hid (T1'.out.next hB2)
        have N2 := Lib.hid ((M1.out.below hB2).more hB2.size)
        clear hB2 e0 e1 e2 e3 e4 e5 g0 g1 g2 g3 g4 g5 hf
        obtain ⟨e0, e1, e2, e3, e4, e5⟩ := T2.out.cells
        simp only at e0 e1 e2 e3 e4 e5
        go_wp2_with fail
        refine (R2.out _).mono ?_
        rintro e w3 ⟨rfl, hB3⟩
        have T3 := Lib.hid (T2.out.next hB3)
        have N3 := Lib.hid ((N2.out.below hB3).more hB3.size)
        clear hB3 e0 e1 e2 e3 e4 e5
        obtain ⟨e0, e1, e2, e3, e4, e5⟩ := T3.out.cells
        simp only at e0 e1 e2 e3 e4 e5
        go_wp2_with fail
        refine (O.out _).mono ?_
        rintro e w4 ⟨rfl, hB4⟩
        have T4 := Lib.hid (T3.out.next hB4)
        have N4 := Lib.hid ((N3.out.below hB4).more hB4.size)
        clear hB4 e0 e1 e2 e3 e4 e5
        obtain ⟨e0, e1, e2, e3, e4, e5⟩ := T4.out.cells
        simp only at e0 e1 e2 e3 e4 e5
        go_wp2_with fail
        refine (C1.out _ _ _ N4.out M2.out).mono ?_
        rintro e w5 ⟨hB5, A5, c5, rfl, -, -, hb5, hl5⟩
        have hB5' := (below_alloc1 w4 (.cells #[.int .i64 b, .int .i64 o, .string s, .int .i64 b, .int .i64 o', .string s'] 24)).trans (hB5.mono (by simp))
        have T5 := Lib.hid (T4.out.next hB5')
        have N5 := Lib.hid ((N4.out.below hB5').more hB5'.size)
        have R5 := Lib.hid (show Bts w5 w5.heap.size A5 (f m) from hb5)
        have L5 := Lib.hid hl5
        clear hB5 hB5' hb5 hl5 e0 e1 e2 e3 e4 e5
        obtain ⟨e0, e1, e2, e3, e4, e5⟩ := T5.out.cells
        simp only at e0 e1 e2 e3 e4 e5
        go_wp2_with fail
        refine (C2.out _ _ _ N5.out M2.out).mono ?_
        rintro e w6 ⟨hB6, A6, c6, rfl, -, -, hb6, hl6⟩
        have hB6' := (below_alloc1 w5 (.cells #[.int .i64 b, .int .i64 o', .string s', .int .i64 b, .int .i64 o, .string s] 24)).trans (hB6.mono (by simp))
        have T6 := Lib.hid (T5.out.next hB6')
        have R6 := Lib.hid (show Bts w6 w6.heap.size A5 (f m) ∧ Bts w6 w6.heap.size A6 (f m) from ⟨(R5.out.below hB6').more hB6'.size, hb6⟩)
        clear hB6 hB6' hb6 hl6 e0 e1 e2 e3 e4 e5
        go_wp2_with fail
        refine (L.out _).mono ?_
        rintro e w7 ⟨rfl, hB7⟩
        have T7 := Lib.hid (T6.out.next hB7)
        have y1 := (R6.out.1.below hB7).text c5 32 L5.out.symm
        have y2 := (R6.out.2.below hB7).text c6 32 L5.out.symm
        clear hB7
        go_wp2
        go_ret
        exact ⟨rfl, T7.out.1⟩
end Go.Proofs.Ytiblmdpgdlacaaa.patchOrder
