/- PatchTwo is true of every bytes and two patches, and leaves its arguments as they are. Conditions: none. Here: the walk of the law's text. -/
import Derived.Test.YtiblmdpgdlacaaaS
namespace Go.Proofs.Ytiblmdpgdlacaaa
open Go.RowKit
theorem pats_two {W : World} {g : Nat} {p q : Pt} (h : BlkIs W g 24 (p.cs ++ q.cs)) : Pats W (g + 1) (some ⟨g, 0, none⟩) [p, q] := by
  intro _
  refine ⟨g, 0, rfl, by omega, fun j hj => ?_⟩
  have hj' : j = 0 ∨ j = 1 := by simp at hj; omega
  rcases hj' with rfl | rfl
  · exact ⟨h.cell 0, h.cell 1, h.cell 2⟩
  · exact ⟨h.cell 3, h.cell 4, h.cell 5⟩
theorem pn_two {p q : Pt} (hp : p.ok) (hq : q.ok) : ∀ k, k < [p, q].length → (pn [p, q] k).ok := by
  intro k hk
  have : k = 0 ∨ k = 1 := by simp at hk; omega
  rcases this with rfl | rfl
  · exact hp
  · exact hq
/-- All of two patches that lie side by side in a block of their own -/
theorem all_two {W : World} {A : Option Addr} {m : List Int} {p q : Pt} (hp : p.right = true) (hq : q.right = true) (c : Nat) (hb : Bts W W.heap.size A m) (hm : m.length = 32) :
    Calls Try.prog 21 #[.slice A 32 c, .slice (some ⟨W.heap.size, 0, none⟩) 2 2] (W.alloc (.cells (p.cs ++ q.cs).toArray 24)) (Ans (W.alloc (.cells (p.cs ++ q.cs).toArray 24)) (some (put (put m p) q))) := by
  have h := all_any (w := W.alloc (.cells (p.cs ++ q.cs).toArray 24)) A (some ⟨W.heap.size, 0, none⟩) c 2 m [p, q] ((hb.below (below_alloc1 W _)).more (by simp)) hm ((pats_two (heap_alloc_new W _)).more (by simp)) (by simp) (pn_two (ok_of hp) (ok_of hq))
  have e : allP m [p, q] = some (put (put m p) q) := by simp [allP, hp, hq]
  rwa [e] at h
end Go.Proofs.Ytiblmdpgdlacaaa
namespace Go.Proofs.Ytiblmdpgdlacaaa.patchTwo
open Go.RowKit

set_option maxRecDepth 100000 in
set_option maxHeartbeats 1000000 in
theorem walk (a : Option Addr) (len cap : Nat) (z : List Int) (p q : Pt) (w : World) (h0 : IsRow .u8 w a len cap z) (hp : p.ok) (hq : q.ok) :
    Calls Try.prog 9 #[.slice a len cap, p.v, q.v] w fun e w' => e = .returned (.bool true) ∧ Below w.heap.size w w' := by
  obtain ⟨h1, h2, h3, h4⟩ := h0.bts
  have t0 : St2 w p q ((w.alloc (.cells p.cs.toArray 24)).alloc (.cells q.cs.toArray 24)) := St2.start w p q
  have F := Lib.hid (full_any a len cap (z.take len) ((w.alloc (.cells p.cs.toArray 24)).alloc (.cells q.cs.toArray 24)) ((h3.below t0.1).more t0.1.size) h4.symm (by omega))
  have T0 := Lib.hid t0
  clear h1 h2 h3 h4 t0 h0
  cases ha : p.apart q with
  | true =>
    have J := Lib.hid (fun W => join_no p q W hp hq ha)
    clear ha hp hq
    obtain ⟨b, o, s⟩ := p
    obtain ⟨b', o', s'⟩ := q
    unfold Pt.v at *
    simp only [Pt.cs, zeroP] at *
    go_enter Try.func9, Try.ntmps9
    go_wp2_with fail
    refine F.out.mono ?_
    rintro e w1 ⟨rfl, hB1, -⟩
    have T1 := Lib.hid (T0.out.next hB1)
    have hcl := T1.out.cells
    obtain ⟨e0, e1, e2, e3, e4, e5⟩ := hcl
    simp only at e0 e1 e2 e3 e4 e5
    clear hB1
    go_wp2_with fail
    refine (J.out _).mono ?_
    rintro e w2 ⟨rfl, hB2⟩
    have hB2' := hB2.trans ((below_alloc1 w2 (.cells #[.int .i64 0, .int .i64 0, .string ⟨#[]⟩] 24)).mono hB2.size)
    have T2 := Lib.hid (T1.out.next hB2')
    have X2 := Lib.hid (boxed1 w2 zeroP)
    clear hB2 hB2' e0 e1 e2 e3 e4 e5
    go_wp2_with fail
    refine (live_any _).mono ?_
    rintro e w3 ⟨rfl, hB3⟩
    have T3 := Lib.hid (T2.out.next hB3)
    have X3 : Boxed w3 w2.heap.size zeroP := Boxed.below X2.out hB3 (BlkIs.lt X2.out)
    obtain ⟨e0, e1, e2⟩ := X3.cells
    simp only [zeroP] at e0 e1 e2
    clear hB3 X3
    go_wp2
    go_ret
    exact ⟨rfl, T3.out.1⟩
  | false =>
    have J := Lib.hid (fun W => join_yes p q W hp hq ha)
    have hjr := joinP_right ha
    obtain ⟨hpr, hqr, -⟩ := apart_out ha
    have hpj := Lib.hid (fun m hm => @put_join m p q ha hm)
    have C1 : Hid (∀ W A m, Bts W W.heap.size A m → m.length = 32 → Calls Try.prog 12 #[.slice A 32 32, (joinP p q).v] W (Ans W (some (put (put m p) q)))) := fun W A m hb hm => by
      have := apply_any A 32 m (joinP p q) W hb hm (ok_of hjr)
      have e : allP m [joinP p q] = some (put (put m p) q) := by simp [allP, hjr, put_join ha hm]
      rwa [e] at this
    have C2 := Lib.hid (fun W A m (hb : Bts W W.heap.size A m) hm => @all_two W A m p q hpr hqr 32 hb hm)
    have C3 := Lib.hid (fun W => right_yes (joinP p q) W hjr)
    have C4 := Lib.hid (fun m hm => length_put hqr (@length_put m p hpr hm))
    obtain ⟨j, hj⟩ : ∃ j, j = joinP p q := ⟨_, rfl⟩
    rw [← hj] at J C1 C3
    obtain ⟨f, hf⟩ : ∃ f : List Int → List Int, f = fun m => put (put m p) q := ⟨_, rfl⟩
    have hfm : ∀ m, put (put m p) q = f m := fun m => by rw [hf]
    simp only [hfm] at C1 C2 C4
    clear hpj hj hf hfm ha hp hq hjr hpr hqr
    obtain ⟨b, o, s⟩ := p
    obtain ⟨b', o', s'⟩ := q
    obtain ⟨jb, jo, js⟩ := j
    unfold Pt.v at *
    simp only [Pt.cs, List.cons_append, List.nil_append] at *
    go_enter Try.func9, Try.ntmps9
    go_wp2_with fail
    refine F.out.mono ?_
    rintro e w1 ⟨rfl, hB1, m, hm1, hm2, hm3⟩
    have T1 := Lib.hid (T0.out.next hB1)
    have M1 := Lib.hid (show Bts w1 w1.heap.size (some ⟨w.heap.size + 1 + 1, 0, none⟩) m from by simpa using BlkIs.bts hm1 hm3 hm1.lt)
    have M2 := Lib.hid hm2
    have hcl := T1.out.cells
    obtain ⟨e0, e1, e2, e3, e4, e5⟩ := hcl
    simp only at e0 e1 e2 e3 e4 e5
    clear hB1 hm1 hm2 hm3
    go_wp2_with fail
    refine (J.out _).mono ?_
    rintro e w2 ⟨rfl, hB2⟩
    have hB2' := hB2.trans ((below_alloc1 w2 (.cells #[.int .i64 jb, .int .i64 jo, .string js] 24)).mono hB2.size)
    have T2 := Lib.hid (T1.out.next hB2')
    have X2 := Lib.hid (boxed1 w2 ⟨jb, jo, js⟩)
    have N2 := Lib.hid ((M1.out.below hB2').more hB2'.size)
    clear hB2 hB2' e0 e1 e2 e3 e4 e5
    obtain ⟨e0, e1, e2⟩ := X2.out.cells
    simp only at e0 e1 e2
    go_wp2_with fail
    refine (C1.out _ _ _ N2.out M2.out).mono ?_
    rintro e w3 ⟨hB3, A3, c3, rfl, -, -, hb3, hl3⟩
    have T3 := Lib.hid (T2.out.next hB3)
    have X3 := Lib.hid (show Boxed w3 w2.heap.size ⟨jb, jo, js⟩ from Boxed.below X2.out hB3 (BlkIs.lt X2.out))
    have N3 := Lib.hid ((N2.out.below hB3).more hB3.size)
    have R3 := Lib.hid (show Bts w3 w3.heap.size A3 (f m) from hb3)
    have L3 := Lib.hid hl3
    clear hB3 hb3 hl3 e0 e1 e2
    have hcl := T3.out.cells
    obtain ⟨e0, e1, e2, e3, e4, e5⟩ := hcl
    simp only at e0 e1 e2 e3 e4 e5
    go_wp2_with fail
    refine (C2.out _ _ _ N3.out M2.out).mono ?_
    rintro e w4 ⟨hB4, A4, c4, rfl, -, -, hb4, hl4⟩
    have hB4' := (below_alloc1 w3 (.cells #[.int .i64 b, .int .i64 o, .string s, .int .i64 b', .int .i64 o', .string s'] 24)).trans (hB4.mono (by simp))
    have T4 := Lib.hid (T3.out.next hB4')
    have X4 := Lib.hid (show Boxed w4 w2.heap.size ⟨jb, jo, js⟩ from Boxed.below X3.out hB4' (BlkIs.lt X3.out))
    have R4 := Lib.hid (show Bts w4 w4.heap.size A3 (f m) ∧ Bts w4 w4.heap.size A4 (f m) from ⟨(R3.out.below hB4').more hB4'.size, hb4⟩)
    clear hB4 hB4' hb4 hl4 e0 e1 e2 e3 e4 e5
    go_wp2_with fail
    refine (live_any _).mono ?_
    rintro e w5 ⟨rfl, hB5⟩
    have T5 := Lib.hid (T4.out.next hB5)
    have X5 : Boxed w5 w2.heap.size ⟨jb, jo, js⟩ := Boxed.below X4.out hB5 (BlkIs.lt X4.out)
    obtain ⟨e0, e1, e2⟩ := X5.cells
    simp only at e0 e1 e2
    have y1 := (R4.out.1.below hB5).text c3 32 L3.out.symm
    have y2 := (R4.out.2.below hB5).text c4 32 L3.out.symm
    clear hB5 X5
    go_wp2_with fail
    refine (C3.out _).mono ?_
    rintro e w6 ⟨rfl, hB6⟩
    have T6 := Lib.hid (T5.out.next hB6)
    clear hB6 y1 y2 e0 e1 e2
    go_wp2
    go_ret
    exact ⟨rfl, T6.out.1⟩
end Go.Proofs.Ytiblmdpgdlacaaa.patchTwo
