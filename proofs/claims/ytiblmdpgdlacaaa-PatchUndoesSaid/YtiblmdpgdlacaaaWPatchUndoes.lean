/- PatchUndoes is true of every bytes and patch, and leaves its arguments as they are. Conditions: none. Here: the walk of the law's text. -/
import Derived.Test.YtiblmdpgdlacaaaR
namespace Go.Proofs.Ytiblmdpgdlacaaa.patchUndoes
open Go.RowKit

theorem undo_o {l : List Int} {p : Pt} (hp : p.right = true) : (undoP l p).o.toNat = p.o.toNat ∧ (undoP l p).o = p.o := by
  obtain ⟨_, _, h3, _, _, _⟩ := Pt.right_out hp
  have : (undoP l p).o = (p.o.toNat : Int) := rfl
  omega
theorem undo_size {l : List Int} {p : Pt} (hp : p.right = true) (hl : l.length = 32) : (undoP l p).s.size = p.s.size := by
  obtain ⟨_, _, h3, h4, h5, h6⟩ := Pt.right_out hp
  have : (undoP l p).s = strOfNums (part l p.o.toNat (p.o.toNat + p.s.size)) := rfl
  rw [this, strOfNums_size, length_part _ _ _ (by omega)]
  omega
/-- APPLY OF UNDO BEHIND APPLY IS THE BLOCK -/
theorem put_undo {l : List Int} {p : Pt} (hp : p.right = true) (hl : l.length = 32) (ha : AllB l) : put (put l p) (undoP l p) = l := by
  obtain ⟨_, _, h3, h4, h5, h6⟩ := Pt.right_out hp
  have hu := undo_right hl hp
  have hl2 := length_put hp hl
  refine ext_nth (by rw [length_put hu hl2, hl]) fun i _ => ?_
  rw [nth_put hu hl2, (undo_o hp).1, undo_size hp hl, undo_sb ha, nth_put hp hl]
  split
  · next h => rw [nth_part _ _ _ _ (by omega), show p.o.toNat + (i - p.o.toNat) = i by omega]
  · rfl
theorem put_put {l : List Int} {p : Pt} (hp : p.right = true) (hl : l.length = 32) : put (put l p) p = put l p := by
  have hl2 := length_put hp hl
  refine ext_nth (by rw [length_put hp hl2, hl2]) fun i _ => ?_
  rw [nth_put hp hl2, nth_put hp hl]
  split <;> rfl

set_option maxRecDepth 100000 in
set_option maxHeartbeats 1000000 in
theorem walk (a : Option Addr) (len cap : Nat) (z : List Int) (p : Pt) (w : World) (h0 : IsRow .u8 w a len cap z) (hp : p.ok) :
    Calls Try.prog 7 #[.slice a len cap, p.v] w fun e w' => e = .returned (.bool true) ∧ Below w.heap.size w w' := by
  obtain ⟨l, hl, hc1, hc2, hb⟩ := few_row h0
  have F := Lib.hid (fun W => few_any a len cap W hc1 hc2)
  rw [← hl] at F
  have hlc : l.length ≤ cap := by omega
  have t0 : St1 w p (w.alloc (.cells p.cs.toArray 24)) := St1.start w p
  have b0 : Bts (w.alloc (.cells p.cs.toArray 24)) (w.alloc (.cells p.cs.toArray 24)).heap.size a l := (hb.below t0.1).more t0.1.size
  have C1 := Lib.hid (apply_uni (c := cap) b0 rfl hp)
  have C3 := Lib.hid (fun W (h : Bts W W.heap.size a l) => undo_uni (c := cap) h rfl hlc hp)
  have B0 := Lib.hid b0
  have T0 := Lib.hid t0
  cases hg : good l p with
  | false =>
    have hr : ansP l [p] = none := by
      unfold ansP allP
      rcases good_not hg with h | h
      · rw [if_neg h]
      · simp [h]
    have hu : undoE l p = 3 := by simp [undoE, hg]
    have hq : undoA l p = zeroP := by simp [undoA, hg]
    rw [hr] at C1
    rw [hu, hq] at C3
    obtain ⟨n, hn⟩ : ∃ n, n = l.length := ⟨_, rfl⟩
    rw [← hn] at F C1 C3
    clear hr hu hq hn hl hb h0 hp hc1 hc2 hlc t0 b0 hg
    obtain ⟨b, o, s⟩ := p
    unfold Pt.v at *
    simp only [Pt.cs] at *
    go_enter Try.func7, Try.ntmps7
    go_wp2_with (go_at_call 11; (with_reducible refine (F.out _).mono ?_); rintro e w' ⟨rfl, rfl⟩)
    refine C1.out.mono ?_
    rintro e w2 ⟨hB2, he⟩
    subst he
    have T2 := Lib.hid (T0.out.next hB2)
    have B2 := Lib.hid ((B0.out.below hB2).more hB2.size)
    obtain ⟨e0, e1, e2⟩ := T2.out.2.cells
    simp only at e0 e1 e2
    clear hB2
    go_wp2_with fail
    refine (C3.out _ B2.out).mono ?_
    rintro e w4 ⟨rfl, hB4⟩
    have hB4' := hB4.trans ((below_alloc1 w4 (.cells #[.int .i64 zeroP.b, .int .i64 zeroP.o, .string zeroP.s] 24)).mono hB4.size)
    have T4 := Lib.hid (T2.out.next hB4')
    clear hB4 hB4' e0 e1 e2
    go_wp2_with fail
    refine (live_any _).mono ?_
    rintro e w5 ⟨rfl, hB5⟩
    go_wp2
    go_ret
    exact ⟨rfl, (T4.out.next hB5).1⟩
  | true =>
    obtain ⟨h32, hr⟩ := good_out hg
    have hr1 : ansP l [p] = some (put l p) := by simp [ansP, allP, h32, hr]
    have hu : undoE l p = 0 := by simp [undoE, hg]
    have hq : undoA l p = undoP l p := by simp [undoA, hg]
    have hur := undo_right h32 hr
    have hm := length_put hr h32
    have hma := put_all hb.1 p
    have hpu := put_undo hr h32 hb.1
    have C4 := Lib.hid (fun W A c (h : Bts W W.heap.size A (put l p)) => apply_uni (c := c) (n := 32) h hm.symm (ok_of hur))
    have hr2 : ansP (put l p) [undoP l p] = some l := by simp [ansP, allP, hm, hur, hpu]
    rw [hr2] at C4
    have C5 := Lib.hid (fun W A c (h : Bts W W.heap.size A (put l p)) (hc : 32 ≤ c) => idle_uni (c := c) (n := 32) h hm.symm hc hp)
    have hid : idleA (put l p) p = true := by
      have hgo : good (put l p) p = true := by simp [good, hm, hr]
      have hii := idle_iff hr hm hma
      unfold idleA
      rw [hgo]
      simp [hii, put_put hr h32]
    rw [hid] at C5
    have C6 := Lib.hid (fun W => right_yes (undoP l p) W hur)
    rw [hr1] at C1
    rw [hu, hq] at C3
    obtain ⟨q, hqq⟩ : ∃ q, q = undoP l p := ⟨_, rfl⟩
    rw [← hqq] at C3 C4 C6
    obtain ⟨m, hmm⟩ : ∃ m, m = put l p := ⟨_, rfl⟩
    rw [← hmm] at C1 C4 C5
    rw [h32] at F C1 C3
    have H32 := Lib.hid h32
    clear hr1 hu hq hur hm hma hpu hr2 hid hqq hmm hl hb h0 hp hc1 hc2 hlc t0 b0 hg h32 hr
    obtain ⟨b, o, s⟩ := p
    obtain ⟨b', o', s'⟩ := q
    unfold Pt.v at *
    simp only [Pt.cs] at *
    go_enter Try.func7, Try.ntmps7
    go_wp2_with (go_at_call 11; (with_reducible refine (F.out _).mono ?_); rintro e w' ⟨rfl, rfl⟩)
    refine C1.out.mono ?_
    rintro e w2 ⟨hB2, A2, c2, rfl, hc, hcm, hb2, hl2⟩
    have T2 := Lib.hid (T0.out.next hB2)
    have B2 := Lib.hid (show Bts w2 w2.heap.size a l ∧ Bts w2 w2.heap.size A2 m ∧ 32 ≤ c2 from ⟨(B0.out.below hB2).more hB2.size, hb2, hc⟩)
    obtain ⟨e0, e1, e2⟩ := T2.out.2.cells
    simp only at e0 e1 e2
    clear hB2 hc hcm hb2 hl2
    go_wp2_with fail
    refine (C3.out _ B2.out.1).mono ?_
    rintro e w4 ⟨rfl, hB4⟩
    have hB4' := hB4.trans ((below_alloc1 w4 (.cells #[.int .i64 b', .int .i64 o', .string s'] 24)).mono hB4.size)
    have hs4 := hB4'.size
    have T4 := Lib.hid (T2.out.next hB4')
    have B4 := Lib.hid (show Boxed (w4.alloc (.cells #[.int .i64 b', .int .i64 o', .string s'] 24)) w4.heap.size ⟨b', o', s'⟩ ∧ Bts _ _ a l ∧ Bts _ _ A2 m from ⟨boxed1 w4 ⟨b', o', s'⟩, (B2.out.1.below hB4').more hs4, (B2.out.2.1.below hB4').more hs4⟩)
    clear hB4 hB4' hs4 e0 e1 e2
    obtain ⟨f0, f1, f2⟩ := B4.out.1.cells
    simp only at f0 f1 f2
    go_wp2_with fail
    refine (C4.out _ _ _ B4.out.2.2).mono ?_
    rintro e w5 ⟨hB5, A5, c5, rfl, -, -, hb5, hl5⟩
    have L5 := Lib.hid hl5
    have T5 := Lib.hid (T4.out.next hB5)
    have B5 := Lib.hid (show Boxed w5 w4.heap.size ⟨b', o', s'⟩ ∧ Bts w5 w5.heap.size a l ∧ Bts w5 w5.heap.size A2 m ∧ Bts w5 w5.heap.size A5 l from ⟨B4.out.1.below hB5 (BlkIs.lt B4.out.1), (B4.out.2.1.below hB5).more hB5.size, (B4.out.2.2.below hB5).more hB5.size, hb5⟩)
    clear hB5 hb5 hl5 f0 f1 f2
    go_wp2_with fail
    refine (live_any _).mono ?_
    rintro e w6 ⟨rfl, hB6⟩
    have T6 := Lib.hid (T5.out.next hB6)
    have B6 := Lib.hid (show Boxed w6 w4.heap.size ⟨b', o', s'⟩ ∧ Bts w6 w6.heap.size a l ∧ Bts w6 w6.heap.size A2 m ∧ Bts w6 w6.heap.size A5 l from ⟨B5.out.1.below hB6 (BlkIs.lt B5.out.1), (B5.out.2.1.below hB6).more hB6.size, (B5.out.2.2.1.below hB6).more hB6.size, (B5.out.2.2.2.below hB6).more hB6.size⟩)
    clear hB6
    have x1 := B6.out.2.2.2.text c5 32 L5.out.symm
    have x2 := B6.out.2.1.text cap 32 H32.out.symm
    obtain ⟨e0, e1, e2⟩ := T6.out.2.cells
    simp only at e0 e1 e2
    go_wp2_with fail
    refine (C5.out _ _ _ B6.out.2.2.1 B2.out.2.2).mono ?_
    rintro e w7 ⟨rfl, hB7⟩
    have T7 := Lib.hid (T6.out.next hB7)
    obtain ⟨f0, f1, f2⟩ := (B6.out.1.below hB7 (BlkIs.lt B6.out.1)).cells
    simp only at f0 f1 f2
    clear hB7 e0 e1 e2 x1 x2
    go_wp2_with fail
    refine (C6.out _).mono ?_
    rintro e w8 ⟨rfl, hB8⟩
    have T8 := Lib.hid (T7.out.next hB8)
    clear hB8 f0 f1 f2
    go_wp2
    go_ret
    exact ⟨rfl, T8.out.1⟩
end Go.Proofs.Ytiblmdpgdlacaaa.patchUndoes
