/- Contract of the document's first. -/
import Derived.Test.YtpcindemkkdbbaaIP
import Derived.Test.YtpcindemkkdbbaaRI
import Derived.Test.YtpcindemkkdbbaaDI
import Derived.Test.YtpcindemkkdbbaaFP
namespace Go.Proofs.Ytpcindemkkdbbaa
set_option linter.unusedVariables false
set_option linter.unusedSimpArgs false
open Go.RowKit

theorem rec_take {x : Cy} {i : Int} (h : RightC x) : recount { x with is := withI x.is i } = takeI x i := by
  unfold recount takeI
  have h1 := h.fb
  have h2 := h.fi
  congr 1
  · show x.bl - (x.us.length : Int) = x.fb
    omega
  · show 16 - ((withI x.is i).length : Int) = x.fi - 1
    rw [length_withI]; omega
set_option maxRecDepth 100000 in
set_option maxHeartbeats 4000000 in
theorem first_any (A : Option Addr) (c m : Nat) (l : List Cy) (g : Nat) (hm : m = l.length) (w : World) (hs : SmallL l) (hI : Cyls w w.heap.size A l) (hg : g < l.length) (hR : RightC (cyN l g)) (hix : (cyN l g).ix = g) :
    Calls Try.prog 65 #[.slice A m c, .int .i64 g] w (RefSays w (inodeG l g)) := by
  have hm1 : m ≤ 1000 := by have := hs.1; omega
  have hgm : (g : Int) < (m : Int) := by omega
  have hg0 : (0 : Int) ≤ (g : Int) := by omega
  obtain ⟨gb, off, Ak, ck, A2k, c2k, hA, hgb, hx⟩ := hI.at_ hg
  have hsm := hs.2 g hg
  have hV := hx.is
  have hU := hx.us
  have HHas : Hid (∀ W (q : Int), Below w.heap.size w W → Calls Try.prog 57 #[.slice A2k (cyN l g).is.length c2k, .int .i64 q] W fun e w' => e = .returned (.bool ((cyN l g).is.contains q)) ∧ W = w') := fun W q hW => refhas_any A2k c2k _ (cyN l g).is q rfl W (by have := hsm.2; omega) (hV.next hW)
  have HWith : Hid (∀ W (q : Int), Below w.heap.size w W → (cyN l g).is.contains q = false → Calls Try.prog 58 #[.slice A2k (cyN l g).is.length c2k, .int .i64 q] W (IntsSays W (withI (cyN l g).is q))) := fun W q hW hq => refwith_any A2k c2k _ (cyN l g).is q rfl W (by have := hsm.2; omega) hR.is.2 (fun h => by rw [List.contains_iff_mem.2 h] at hq; cases hq) (hV.next hW)
  have HSet : Hid (∀ W (q : Nat) A' c', Below w.heap.size w W → Ints W W.heap.size A' (withI (cyN l g).is q) → Calls Try.prog 59 #[.slice A m c, ({ (cyN l g) with is := withI (cyN l g).is q } : Cy).v Ak ck A' c'] W (SetFar W (l.set g (takeI (cyN l g) q)))) := fun W q A' c' hW hA' => by
    have := refset_far A c m l { (cyN l g) with is := withI (cyN l g).is q } Ak ck A' c' g hm W hs (hI.next hW) ⟨hsm.1, by show (withI (cyN l g).is q).length ≤ 1000; rw [length_withI]; have := rise_len hR.is (by omega); omega⟩ hix hg hR.bl (hU.next hW) hA'
    rw [rec_take hR] at this; exact this
  have HSome : Hid (∀ k : Nat, k < 16 → (∀ i, i < k → (cyN l g).is.contains ((i : Nat) : Int) = true) → (cyN l g).is.contains ((k : Nat) : Int) = false → inodeG l g = ⟨l.set g (takeI (cyN l g) k), g, k, 0⟩) := fun k h1 h2 h3 => inodeG_some (inodeAt_some h1 h2 h3)
  have HNone : Hid ((∀ i, i < 16 → (cyN l g).is.contains ((i : Nat) : Int) = true) → inodeG l g = ⟨[], 0, 0, 4⟩) := fun h => inodeG_none (inodeAt_none h)
  obtain ⟨q0, q1, q2, q3, q4, q5, q6, _, _⟩ := hx
  obtain ⟨Q, hQ⟩ : ∃ Q, Q = RefSays w (inodeG l g) := ⟨_, rfl⟩
  have HQ : Hid (∀ e w', RefSays w (inodeG l g) e w' → Q e w') := by unfold Hid; rw [hQ]; exact fun _ _ h => h
  rw [← hQ]
  clear hQ hI hs hm hR hix hg hsm hV hU
  subst hA
  obtain ⟨x, hxx⟩ : ∃ x, x = cyN l g := ⟨_, rfl⟩
  rw [← hxx] at q0 q1 q2 q3 q4 q5 q6 HHas HWith HSet HSome HNone
  clear hxx
  obtain ⟨ix, bl, fb, fi, ro, us, is⟩ := x
  simp only at q0 q1 q2 q3 q4 q5 q6 HHas HWith HSet HSome HNone
  unfold Cy.v at HSet
  simp only at HSet
  obtain ⟨n2, hn2⟩ : ∃ n2, n2 = is.length := ⟨_, rfl⟩
  have Hn2 := Lib.hid hn2
  generalize us.length = n1 at q5 HSet
  rw [← hn2] at q6 HHas HWith
  clear hn2
  go_enter Try.func65, Try.ntmps65
  go_wp2_with fail
  have hB0 : Below w.heap.size w ((w.alloc (.cells #[.int .i64 0, .int .i64 0] 41)).alloc (.cells #[.int .i64 ix, .int .i64 bl, .int .i64 fb, .int .i64 fi, .int .i64 ro, .slice Ak n1 ck, .slice A2k n2 c2k] 24)) := ((Below.refl _ w).alloc (Nat.le_refl _) _).alloc (by simp) _
  have h1 : Blk ((w.alloc (.cells #[.int .i64 0, .int .i64 0] 41)).alloc (.cells #[.int .i64 ix, .int .i64 bl, .int .i64 fb, .int .i64 fi, .int .i64 ro, .slice Ak n1 ck, .slice A2k n2 c2k] 24)) w.heap.size 41 #[.int .i64 0, .int .i64 0] := (Below.heap_alloc _ _ _ (by simp)).trans (Go.heap_alloc_new w _)
  have h2 : Blk ((w.alloc (.cells #[.int .i64 0, .int .i64 0] 41)).alloc (.cells #[.int .i64 ix, .int .i64 bl, .int .i64 fb, .int .i64 fi, .int .i64 ro, .slice Ak n1 ck, .slice A2k n2 c2k] 24)) (w.heap.size + 1) 24 #[.int .i64 ix, .int .i64 bl, .int .i64 fb, .int .i64 fi, .int .i64 ro, .slice Ak n1 ck, .slice A2k n2 c2k] := by have := Go.heap_alloc_new (w.alloc (.cells #[.int .i64 0, .int .i64 0] 41)) (.cells #[.int .i64 ix, .int .i64 bl, .int .i64 fb, .int .i64 fi, .int .i64 ro, .slice Ak n1 ck, .slice A2k n2 c2k] 24); rwa [World.size_alloc] at this
  have HB0 := Lib.hid hB0
  have H1 := Lib.hid h1
  have H2 := Lib.hid h2
  clear hB0 h1 h2
  go_loopw [8] (fun i W => ∃ k : Nat, k ≤ 16 ∧ i = .int .i64 k ∧ (∀ i, i < k → is.contains ((i : Nat) : Int) = true) ∧ Blk W w.heap.size 41 #[.int .i64 0, .int .i64 0] ∧ Blk W (w.heap.size + 1) 24 #[.int .i64 ix, .int .i64 bl, .int .i64 fb, .int .i64 fi, .int .i64 ro, .slice Ak n1 ck, .slice A2k n2 c2k] ∧ Below w.heap.size w W) (fun i _ => 16 - (intOf i).toNat)
  case atStart => exact ⟨0, Nat.zero_le _, rfl, (fun i hi => by omega), H1.out, H2.out, HB0.out⟩
  case round =>
    obtain ⟨k, hk, rfl, hp, hX, hY, hB⟩ := hrel
    rename World => W
    have Hp := Lib.hid hp
    have HX := Lib.hid hX
    have HY := Lib.hid hY
    have HB := Lib.hid hB
    have hk0 : (0 : Int) ≤ (k : Int) := by omega
    have hsz : w.heap.size + 1 < W.heap.size := lt_heap hY
    obtain ⟨v0, v1, v2, v3, v4, v5, v6⟩ := seven hY
    by_cases hlt : k < 16
    · have hlti : (k : Int) < 16 := by omega
      have HH := Lib.hid (HHas.out W (k : Int) hB)
      by_cases hc : is.contains (k : Int) = true
      · rw [hc] at HH
        have Hc := Lib.hid hc
        clear hc hp hX hY hB
        go_wp2_with fail
        refine HH.out.mono ?_
        rintro e W2 ⟨rfl, rfl⟩
        go_wp2_with fail
        go_roundw
        case rel => exact ⟨k + 1, by omega, by go_num, (fun i hi => by
          rcases Nat.lt_or_ge i k with h | h
          · exact Hp.out i h
          · obtain rfl : i = k := by omega
            exact Hc.out), HX.out, HY.out, HB.out⟩
        case measure => simp [intOf]; omega
      · have hc' : is.contains (k : Int) = false := by simpa using hc
        rw [hc'] at HH
        have Hw := Lib.hid (HWith.out W (k : Int) hB hc')
        have Hfin := Lib.hid (HSome.out k hlt hp hc')
        clear hc hc' hp hX hY hB
        go_wp2_with fail
        refine HH.out.mono ?_
        rintro e W2 ⟨rfl, rfl⟩
        go_wp2_with fail
        refine Hw.out.mono ?_
        rintro e w4 ⟨A', c', rfl, hr, hB4⟩
        have h4 := (hB4.block _ hsz).trans HY.out
        have hX4 := (hB4.block w.heap.size (by omega)).trans HX.out
        have hB4w := HB.out.trans (hB4.mono (by have := HB.out.size; omega))
        have hz4 : W.heap.size ≤ w4.heap.size := hB4.size
        clear v0 v1 v2 v3 v4 v5 v6
        obtain ⟨v0, v1, v2, v3, v4, v5, v6⟩ := seven h4
        have g6 := frozen_of_row w4 _ 6 _ 24 h4
        have hlen : (withI is (k : Int)).length = n2 + 1 := by rw [length_withI, Hn2.out]
        rw [hlen]
        have Hlen := Lib.hid hlen
        have hk5 : Kept w4 (w4.setCell ⟨w.heap.size + 1, 6, none⟩ (.slice A' (n2 + 1) c')) (fun b => b = w.heap.size + 1) := (Kept.refl w4 (fun b => b = w.heap.size + 1)).set (.inl rfl)
        have hI5 : Ints (w4.setCell ⟨w.heap.size + 1, 6, none⟩ (.slice A' (n2 + 1) c')) (w4.setCell ⟨w.heap.size + 1, 6, none⟩ (.slice A' (n2 + 1) c')).heap.size A' (withI is (k : Int)) := (hr.keep hk5 (fun b q r => by have h := (hr.lt q).1; have r' : b = w.heap.size + 1 := r; omega)).ints
        have hB5 : Below w.heap.size w (w4.setCell ⟨w.heap.size + 1, 6, none⟩ (.slice A' (n2 + 1) c')) := hB4w.trans (hk5.below (fun b q => by have q' : b = w.heap.size + 1 := q; omega) (by omega))
        have HS5 := Lib.hid (HSet.out _ k A' c' hB5 hI5)
        rw [Hlen.out] at HS5
        have HB5 := Lib.hid hB5
        have HX5 : Hid (Blk (w4.setCell ⟨w.heap.size + 1, 6, none⟩ (.slice A' (n2 + 1) c')) w.heap.size 41 #[.int .i64 0, .int .i64 0]) := (set_other (by omega) _).trans hX4
        have hs5 : (w4.setCell ⟨w.heap.size + 1, 6, none⟩ (.slice A' (n2 + 1) c')).heap.size = w4.heap.size := by simp
        clear hr hB4 hB4w hk5 hI5 hB5 h4 hX4 hlen
        go_wp2_with fail
        refine HS5.out.mono ?_
        rintro e w6 ⟨A6, c6, rfl, hC6, hB6⟩
        have h6 := (hB6.block w.heap.size (by rw [hs5]; omega)).trans HX5.out
        have hz6 : w4.heap.size ≤ w6.heap.size := by have := hB6.size; rw [hs5] at this; exact this
        have d0 := cellAt_of h6 0
        have d1 := cellAt_of h6 1
        have f0 := frozen_of_row w6 _ 0 _ 41 h6
        have f1 := frozen_of_row w6 _ 1 _ 41 h6
        simp only [List.getElem?_toArray, List.getElem?_cons_zero, List.getElem?_cons_succ] at d0 d1
        have HC6 := Lib.hid hC6
        have HB6 := Lib.hid (HB5.out.trans (hB6.mono HB5.out.size))
        clear hC6 hB6 h6
        go_wp2_with fail
        have hk6 : Kept w6 ((w6.setCell ⟨w.heap.size, 0, none⟩ (.int .i64 (g : Int))).setCell ⟨w.heap.size, 1, none⟩ (.int .i64 (k : Int))) (fun b => b = w.heap.size) := ((Kept.refl w6 (fun b => b = w.heap.size)).set (.inl rfl)).set (.inl rfl)
        refine bodyPost_ret (v := .tuple #[.slice A6 (l.set g (takeI ⟨ix, bl, fb, fi, ro, us, is⟩ k)).length c6, .agg #[.int .i64 (g : Int), .int .i64 (k : Int)], .int .i64 0]) (by simp [results, Try.results65, go_sem, d0, d1]) rfl (HQ.out _ _ ?_)
        rw [Hfin.out]
        exact ⟨A6, c6, rfl, (fun w2 h2 => HC6.out _ ((hk6.more (S' := fun b => b < (w4.setCell ⟨w.heap.size + 1, 6, none⟩ (.slice A' (n2 + 1) c')).heap.size) (fun b q => .inl (by have q' : b = w.heap.size := q; rw [hs5]; omega))).trans h2 (fun b q => .inl (by have q' : b < w.heap.size := q; show b < (w4.setCell _ _).heap.size; rw [hs5]; omega)))), HB6.out.trans (hk6.below (fun b q => by have q' : b = w.heap.size := q; omega) (by have := HB6.out.size; omega))⟩
    · have hlti : ¬ (k : Int) < 16 := by omega
      have Hin := Lib.hid (HNone.out (fun i hi => hp i (by omega)))
      have r0 := cellAt_of hX 0
      have r1 := cellAt_of hX 1
      simp only [List.getElem?_toArray, List.getElem?_cons_zero, List.getElem?_cons_succ] at r0 r1
      have k0 := frozen_of_row W _ 0 _ 41 hX
      have k1 := frozen_of_row W _ 1 _ 41 hX
      clear hp hX hY hB v0 v1 v2 v3 v4 v5 v6
      go_wp2_with fail
      have hk3 : Kept W ((W.setCell ⟨w.heap.size, 0, none⟩ (.int .i64 0)).setCell ⟨w.heap.size, 1, none⟩ (.int .i64 0)) (fun k => k = w.heap.size) := ((Kept.refl W (fun k => k = w.heap.size)).set (.inl rfl)).set (.inl rfl)
      refine bodyPost_ret (v := .tuple #[.slice none 0 0, .agg #[.int .i64 0, .int .i64 0], .int .i64 4]) (by simp [results, Try.results65, go_sem, r0, r1]) rfl (HQ.out _ _ ?_)
      rw [Hin.out]
      exact ⟨none, 0, rfl, (fun w2 _ => Cyls.nil), HB.out.trans (hk3.below (fun b q => by have q' : b = w.heap.size := q; omega) (by omega))⟩
end Go.Proofs.Ytpcindemkkdbbaa

/- The document's Dir. -/
namespace Go.Proofs.Ytpcindemkkdbbaa
set_option linter.unusedVariables false
set_option linter.unusedSimpArgs false
open Go.RowKit

/-- the best one so far, as the document keeps it -/
def refB (l : List Cy) (q : Int) (k : Nat) : Int := if (bestTo l q k).2 = -1 then -1 else ((bestTo l q k).1 : Nat)
theorem refB_put {l : List Cy} {q : Int} {k : Nat} (h : q ≤ (cyN l k).fi ∧ (bestTo l q k).2 < (cyN l k).fb) (h0 : 0 ≤ (cyN l k).fb) : refB l q (k + 1) = (k : Int) := by
  have e : bestTo l q (k + 1) = (k, (cyN l k).fb) := if_pos h
  unfold refB
  rw [e]
  show (if (cyN l k).fb = -1 then (-1 : Int) else (k : Int)) = k
  rw [if_neg (by omega)]
theorem refB_keep {l : List Cy} {q : Int} {k : Nat} (h : ¬ (q ≤ (cyN l k).fi ∧ (bestTo l q k).2 < (cyN l k).fb)) : refB l q (k + 1) = refB l q k := by
  have e : bestTo l q (k + 1) = bestTo l q k := if_neg h
  unfold refB
  rw [e]
theorem dirL_best {l : List Cy} (hW : Whole l) : dirL l = if (bestTo l (enough l) l.length).2 = -1 then ⟨[], 0, 0, 4⟩ else inodeG l (bestTo l (enough l) l.length).1 := by
  unfold dirL
  rw [if_pos ((wholeL_iff l).2 hW)]
  by_cases h0 : freeI l = 0
  · rw [if_pos h0]
    rcases bestTo_inv l (enough l) (fun j hj => (hW.ok j hj).fb_in.1) l.length (Nat.le_refl _) with ⟨h1, _, _⟩ | ⟨h1, _, h3, _⟩
    · rw [if_pos h1]
    · have := freeI_pos hW h1 (by have := enough_pos l; omega)
      omega
  · rw [if_neg h0]
    obtain ⟨j, hj, hq⟩ := enough_one hW h0
    rcases bestTo_inv l (enough l) (fun j hj => (hW.ok j hj).fb_in.1) l.length (Nat.le_refl _) with ⟨_, _, h3⟩ | ⟨h1, h2, _, _⟩
    · exact absurd hq (h3 j hj)
    · rw [if_neg (by rw [h2]; have := (hW.ok _ h1).fb_in; omega)]
set_option maxRecDepth 100000 in
set_option maxHeartbeats 2000000 in
theorem refdir_form (A : Option Addr) (c n : Nat) (l : List Cy) (hn : n = l.length) (w : World) (hs : SmallL l) (hI : Cyls w w.heap.size A l) (hW : wholeL l = false) :
    Calls Try.prog 36 #[.slice A n c] w (RefSays w ⟨[], 0, 0, 3⟩) := by
  have HWh : Hid (∀ W, Below w.heap.size w W → Calls Try.prog 32 #[.slice A n c] W fun e w' => e = .returned (.bool false) ∧ Below W.heap.size W w') := fun W hB => by
    have := refwhole_any A c n l hn W hs (hI.next hB)
    rw [hW] at this; exact this
  clear hI hs hW hn
  obtain ⟨Q, hQ⟩ : ∃ Q, Q = RefSays w ⟨[], 0, 0, 3⟩ := ⟨_, rfl⟩
  have HQ : Hid (∀ w', Below w.heap.size w w' → Q (.returned (.tuple #[.slice none 0 0, .agg #[.int .i64 0, .int .i64 0], .int .i64 3])) w') := by unfold Hid; rw [hQ]; exact fun w' h => ⟨none, 0, rfl, (fun _ _ => Cyls.nil), h⟩
  rw [← hQ]
  clear hQ
  go_enter Try.func36, Try.ntmps36
  go_wp2_with fail
  have hB0 : Below w.heap.size w (w.alloc (.cells #[.int .i64 0, .int .i64 0] 41)) := (Below.refl _ w).alloc (Nat.le_refl _) _
  have hX0 : Blk (w.alloc (.cells #[.int .i64 0, .int .i64 0] 41)) w.heap.size 41 #[.int .i64 0, .int .i64 0] := Go.heap_alloc_new w _
  generalize w.alloc (.cells #[.int .i64 0, .int .i64 0] 41) = Wa at hB0 hX0 ⊢
  refine (HWh.out _ hB0).mono ?_
  rintro e Wb ⟨rfl, hBb⟩
  have hX := hX0.keep (S := fun _ => False) (Kept.fresh hBb) (fun q => q)
  have HB := Lib.hid (hB0.trans (hBb.mono hB0.size))
  have hsz := lt_heap hX
  have r0 := cellAt_of hX 0
  have r1 := cellAt_of hX 1
  simp only [List.getElem?_toArray, List.getElem?_cons_zero, List.getElem?_cons_succ] at r0 r1
  have k0 := frozen_of_row Wb _ 0 _ 41 hX
  have k1 := frozen_of_row Wb _ 1 _ 41 hX
  clear hBb hB0 hX0 hX
  go_wp2_with fail
  have hk3 : Kept Wb ((Wb.setCell ⟨w.heap.size, 0, none⟩ (.int .i64 0)).setCell ⟨w.heap.size, 1, none⟩ (.int .i64 0)) (fun k => k = w.heap.size) := ((Kept.refl Wb (fun k => k = w.heap.size)).set (.inl rfl)).set (.inl rfl)
  exact bodyPost_ret (v := .tuple #[.slice none 0 0, .agg #[.int .i64 0, .int .i64 0], .int .i64 3]) (by simp [results, Try.results36, go_sem, r0, r1]) rfl (HQ.out _ (HB.out.trans (hk3.below (fun b q => by have q' : b = w.heap.size := q; omega) HB.out.size)))

set_option maxRecDepth 100000 in
set_option maxHeartbeats 4000000 in
theorem refdir_go (A : Option Addr) (c n : Nat) (l : List Cy) (hn : n = l.length) (w : World) (hs : SmallL l) (hI : Cyls w w.heap.size A l) (hW : Whole l) :
    Calls Try.prog 36 #[.slice A n c] w (RefSays w (dirL l)) := by
  have HWh : Hid (∀ W, Below w.heap.size w W → Calls Try.prog 32 #[.slice A n c] W fun e w' => e = .returned (.bool true) ∧ Below W.heap.size W w') := fun W hB => by
    have := refwhole_any A c n l hn W hs (hI.next hB)
    rw [(wholeL_iff l).2 hW] at this; exact this
  obtain ⟨N, hN⟩ : ∃ N, N = freeI l := ⟨_, rfl⟩
  have HF : Hid (∀ W, Below w.heap.size w W → Calls Try.prog 40 #[.slice A n c] W fun e w' => (∃ q, e = .returned (.tuple #[.int .i64 q, .int .i64 N])) ∧ Below W.heap.size W w') := fun W h => by
    refine (reffree_any A c n l hn W hs (hI.next h)).mono ?_
    rintro e w' ⟨rfl, hB⟩
    exact ⟨⟨_, by rw [hN]⟩, hB⟩
  have hN1 := (free_in hW).2
  rw [← hN] at hN1
  have hN0 : 0 ≤ N := hN1.1
  have hN2 : N ≤ 256 := hN1.2
  have hn16 : n ≤ 16 := by have := hW.n2; omega
  have hn0 : (0 : Int) < (n : Int) := by have := hW.n1; omega
  have hnne : ¬ (n : Int) = 0 := by omega
  have HIn : Hid (∀ W, Below w.heap.size w W → ∀ g : Nat, g < n → Calls Try.prog 65 #[.slice A n c, .int .i64 (g : Int)] W (RefSays W (inodeG l g))) := fun W h g hg =>
    first_any A c n l g hn W hs (hI.next h) (by omega) (hW.ok _ (by omega)) (hW.ix _ (by omega))
  have hq0 : 0 ≤ N / (n : Int) := Int.ediv_nonneg hN0 (by omega)
  have hq1 : N / (n : Int) ≤ 256 := by
    have := Int.ediv_le_self (n : Int) hN0
    omega
  have He : Hid (enough l = max (N / (n : Int)) 1) := by unfold Hid enough; rw [← hN, hn]
  have hp := enough_pos l
  have HDl := Lib.hid (dirL_best hW)
  obtain ⟨q, hq⟩ : ∃ q, q = enough l := ⟨_, rfl⟩
  rw [← hq] at He hp HDl
  rw [← hn] at HDl
  have HBi := Lib.hid (bestTo_inv l q (fun j hj => (hW.ok j hj).fb_in.1))
  have HO := Lib.hid hW
  have Hn := Lib.hid hn
  have HI := Lib.hid hI
  obtain ⟨Q, hQ⟩ : ∃ Q, Q = RefSays w (dirL l) := ⟨_, rfl⟩
  have HQ : Hid (∀ e w', RefSays w (dirL l) e w' → Q e w') := by unfold Hid; rw [hQ]; exact fun _ _ h => h
  rw [← hQ]
  clear hQ hI hs hW hn hq hN hN1
  go_enter Try.func36, Try.ntmps36
  go_wp2_with fail
  have hB0 : Below w.heap.size w (w.alloc (.cells #[.int .i64 0, .int .i64 0] 41)) := (Below.refl _ w).alloc (Nat.le_refl _) _
  have hX0 : Blk (w.alloc (.cells #[.int .i64 0, .int .i64 0] 41)) w.heap.size 41 #[.int .i64 0, .int .i64 0] := Go.heap_alloc_new w _
  generalize w.alloc (.cells #[.int .i64 0, .int .i64 0] 41) = Wa at hB0 hX0 ⊢
  refine (HWh.out _ hB0).mono ?_
  rintro e Wb ⟨rfl, hBb⟩
  have hX := hX0.keep (S := fun _ => False) (Kept.fresh hBb) (fun q => q)
  have HB := Lib.hid (hB0.trans (hBb.mono hB0.size))
  clear hBb hB0 hX0
  have HX := Lib.hid hX
  clear hX
  go_wp2_with fail
  refine (HF.out _ HB.out).mono ?_
  rintro e Wc ⟨⟨qb, rfl⟩, hBc⟩
  have HX2 := Lib.hid (HX.out.keep (S := fun _ => False) (Kept.fresh hBc) (fun q => q))
  have HB2 := Lib.hid (HB.out.trans (hBc.mono HB.out.size))
  clear hBc HX
  go_wp2_with fail
  go_loopw [7, 8] (fun b i wr => ∃ k : Nat, k ≤ n ∧ i = .int .i64 k ∧ b = .int .i64 (refB l q k) ∧ Blk wr w.heap.size 41 #[.int .i64 0, .int .i64 0] ∧ Below w.heap.size w wr) (fun _ i _ => n - (intOf i).toNat)
  case atStart => exact ⟨0, Nat.zero_le _, rfl, rfl, HX2.out, HB2.out⟩
  case round =>
    obtain ⟨k, hk, rfl, rfl, hX, hB⟩ := hrel
    rename World => wr
    have HX := Lib.hid hX
    have HB := Lib.hid hB
    have hsz := hB.size
    have hsx : w.heap.size < wr.heap.size := lt_heap hX
    have hk0 : (0 : Int) ≤ (k : Int) := by omega
    by_cases hlt : k < n
    · have hlti : (k : Int) < (n : Int) := by omega
      have hkl : k < l.length := by rw [← Hn.out]; exact hlt
      have HA := Lib.hid (HI.out.at_ hkl)
      obtain ⟨b, off, Ak, ck, A2k, c2k, rfl, hb, hx⟩ := HI.out.at_ hkl
      have c2 := (hB.cell (p := ⟨b, off + k * 7 + 2, none⟩) hb).trans hx.c2
      have c3 := (hB.cell (p := ⟨b, off + k * 7 + 3, none⟩) hb).trans hx.c3
      have hbw : b < wr.heap.size := by omega
      have hf1 := (HO.out.ok k hkl).fb_in
      have HPut : Hid (q ≤ (cyN l k).fi ∧ (bestTo l q k).2 < (cyN l k).fb → refB l q (k + 1) = (k : Int)) := fun h => refB_put h (HO.out.ok k hkl).fb_in.1
      have HKeep : Hid (¬ (q ≤ (cyN l k).fi ∧ (bestTo l q k).2 < (cyN l k).fb) → refB l q (k + 1) = refB l q k) := fun h => refB_keep h
      have HP : Hid ((bestTo l q k).2 = -1 ∨ ((bestTo l q k).1 < n ∧ (bestTo l q k).2 = (cyN l (bestTo l q k).1).fb ∧ 0 ≤ (bestTo l q k).2)) := by
        rcases HBi.out k (by rw [← Hn.out]; omega) with ⟨h, _⟩ | ⟨h1, h2, _⟩
        · exact .inl h
        · exact .inr ⟨by omega, h2, by rw [h2]; exact (HO.out.ok (bestTo l q k).1 (by rw [← Hn.out]; omega)).fb_in.1⟩
      have HPc : Hid (∀ g : Nat, g < n → wr.cell? ⟨b, off + g * 7 + 2, none⟩ = some (.int .i64 (cyN l g).fb)) := fun g hg => by
        obtain ⟨b', off', Aj, cj, A2j, c2j, he, _, hcj⟩ := HI.out.at_ (k := g) (by rw [← Hn.out]; exact hg)
        cases he
        exact (hB.cell (p := ⟨b, off + g * 7 + 2, none⟩) hb).trans hcj.c2
      have Hr : Hid (∀ k, refB l q k = if (bestTo l q k).2 = -1 then (-1 : Int) else (((bestTo l q k).1 : Nat) : Int)) := fun k => rfl
      obtain ⟨fi, hfi⟩ : ∃ fi, fi = (cyN l k).fi := ⟨_, rfl⟩
      obtain ⟨fb, hfb⟩ : ∃ fb, fb = (cyN l k).fb := ⟨_, rfl⟩
      rw [← hfi] at c3 HPut HKeep
      rw [← hfb] at c2 HPut HKeep hf1
      have hfb0 : 0 ≤ fb := hf1.1
      clear hx hkl hB hX hfi hfb hf1 HA
      by_cases p1 : 1 ≤ fi
      · have t1 : decide (1 ≤ fi) = true := decide_eq_true p1
        by_cases p2 : N / (n : Int) ≤ fi
        · have t2 : decide (N / (n : Int) ≤ fi) = true := decide_eq_true p2
          have hqf : q ≤ fi := by have := He.out; omega
          have Hqf := Lib.hid hqf
          by_cases p3 : (bestTo l q k).2 = -1
          · have hr0 : refB l q k = -1 := by rw [Hr.out, if_pos p3]
            have hr1 : Hid (refB l q (k + 1) = (k : Int)) := HPut.out ⟨hqf, by omega⟩
            clear p1 p2 p3 hqf
            rw [hr0]
            clear hr0
            go_wp2_with fail
            go_quiet (fail)
            go_wp2_with fail
            go_roundw
            case rel => exact ⟨k + 1, by omega, by go_num, by rw [hr1.out], HX.out, bdn HB.out _⟩
            case measure => simp [intOf]; omega
          · obtain ⟨g1, g2, g3⟩ := HP.out.resolve_left p3
            have hcg := HPc.out _ g1
            rw [← g2] at hcg
            have hr0 : refB l q k = ((bestTo l q k).1 : Nat) := by rw [Hr.out, if_neg p3]
            have hr1 : Hid (refB l q (k + 1) = if (bestTo l q k).2 < fb then (k : Int) else (((bestTo l q k).1 : Nat) : Int)) := by
              unfold Hid
              by_cases p4 : (bestTo l q k).2 < fb
              · rw [if_pos p4]; exact HPut.out ⟨hqf, p4⟩
              · rw [if_neg p4, HKeep.out (fun h => p4 h.2)]; exact hr0
            rw [hr0]
            clear hr0 HP HPc HPut HKeep Hr g2
            generalize (bestTo l q k).1 = pb at g1 hcg hr1 ⊢
            generalize (bestTo l q k).2 = pm at p3 g3 hcg hr1
            have hg1 : (pb : Int) < (n : Int) := by omega
            have hg0 : (0 : Int) ≤ (pb : Int) := by omega
            have t3 : decide ((pb : Int) < 0) = false := decide_eq_false (by omega)
            by_cases p4 : pm < fb
            · have t4 : decide (pm < fb) = true := decide_eq_true p4
              rw [if_pos p4] at hr1
              clear p1 p2 p3 p4 hqf
              go_wp2_with fail
              go_quiet (fail)
              go_wp2_with fail
              go_roundw
              case rel => exact ⟨k + 1, by omega, by go_num, by rw [hr1.out], HX.out, bdn HB.out _⟩
              case measure => simp [intOf]; omega
            · have t4 : decide (pm < fb) = false := decide_eq_false p4
              rw [if_neg p4] at hr1
              clear p1 p2 p3 p4 hqf
              go_wp2_with fail
              go_quiet (fail)
              go_wp2_with fail
              go_roundw
              case rel => exact ⟨k + 1, by omega, by go_num, by rw [hr1.out], HX.out, bdn HB.out _⟩
              case measure => simp [intOf]; omega
        · have t2 : decide (N / (n : Int) ≤ fi) = false := decide_eq_false p2
          have hr1 : Hid (refB l q (k + 1) = refB l q k) := by
            exact HKeep.out (fun h => by have := He.out; have := h.1; omega)
          generalize refB l q k = rb at hr1 ⊢
          clear p1 p2
          go_wp2_with fail
          go_quiet (fail)
          go_wp2_with fail
          go_roundw
          case rel => exact ⟨k + 1, by omega, by go_num, by rw [hr1.out], HX.out, bdn HB.out _⟩
          case measure => simp [intOf]; omega
      · have t1 : decide (1 ≤ fi) = false := decide_eq_false p1
        have hr1 : Hid (refB l q (k + 1) = refB l q k) := by
          exact HKeep.out (fun h => by have := h.1; omega)
        generalize refB l q k = rb at hr1 ⊢
        clear p1
        go_wp2_with fail
        go_quiet (fail)
        go_wp2_with fail
        go_roundw
        case rel => exact ⟨k + 1, by omega, by go_num, by rw [hr1.out], HX.out, bdn HB.out _⟩
        case measure => simp [intOf]; omega
    · have hlti : ¬ (k : Int) < (n : Int) := by omega
      obtain rfl : k = n := by omega
      by_cases p3 : (bestTo l q k).2 = -1
      · have hr0 : refB l q k = -1 := by unfold refB; rw [if_pos p3]
        have Hd : Hid (dirL l = ⟨[], 0, 0, 4⟩) := by unfold Hid; rw [HDl.out, if_pos p3]
        have r0 := cellAt_of hX 0
        have r1 := cellAt_of hX 1
        simp only [List.getElem?_toArray, List.getElem?_cons_zero, List.getElem?_cons_succ] at r0 r1
        have k0 := frozen_of_row wr _ 0 _ 41 hX
        have k1 := frozen_of_row wr _ 1 _ 41 hX
        rw [hr0]
        clear hr0 p3 hX hB
        go_wp2_with fail
        have hk3 : Kept wr ((wr.setCell ⟨w.heap.size, 0, none⟩ (.int .i64 0)).setCell ⟨w.heap.size, 1, none⟩ (.int .i64 0)) (fun k => k = w.heap.size) := ((Kept.refl wr (fun k => k = w.heap.size)).set (.inl rfl)).set (.inl rfl)
        refine bodyPost_ret (v := .tuple #[.slice none 0 0, .agg #[.int .i64 0, .int .i64 0], .int .i64 4]) (by simp [results, Try.results36, go_sem, r0, r1]) rfl (HQ.out _ _ ?_)
        rw [Hd.out]
        exact ⟨none, 0, rfl, (fun _ _ => Cyls.nil), HB.out.trans (hk3.below (fun b q => by have q' : b = w.heap.size := q; omega) HB.out.size)⟩
      · have hr0 : refB l q k = ((bestTo l q k).1 : Nat) := by unfold refB; rw [if_neg p3]
        have Hd : Hid (dirL l = inodeG l (bestTo l q k).1) := by unfold Hid; rw [HDl.out, if_neg p3]
        have hg1 : (bestTo l q k).1 < k := by
          rcases HBi.out k (by rw [← Hn.out]; omega) with ⟨h, _⟩ | ⟨h1, h2, _⟩
          · exact absurd h p3
          · exact h1
        rw [hr0]
        have HInr := Lib.hid (HIn.out wr hB _ hg1)
        obtain ⟨r, hr⟩ : ∃ r, r = inodeG l (bestTo l q k).1 := ⟨_, rfl⟩
        rw [← hr] at HInr Hd
        generalize (bestTo l q k).1 = pb at HInr hg1 ⊢
        have hpb : ¬ (pb : Int) < 0 := by omega
        clear hB hX hr hr0 p3
        go_wp2_with fail
        refine HInr.out.mono ?_
        rintro e w2 ⟨A', c', rfl, hC, hB2⟩
        have hX2 := HX.out.keep (S := fun _ => False) (Kept.fresh hB2) (fun q => q)
        have HB4 := Lib.hid (HB.out.trans (hB2.mono HB.out.size))
        have hsz2 := lt_heap hX2
        have r0 := cellAt_of hX2 0
        have r1 := cellAt_of hX2 1
        simp only [List.getElem?_toArray, List.getElem?_cons_zero, List.getElem?_cons_succ] at r0 r1
        have k0 := frozen_of_row w2 _ 0 _ 41 hX2
        have k1 := frozen_of_row w2 _ 1 _ 41 hX2
        have HC := Lib.hid hC
        clear hB2 hX2 hC
        go_wp2_with fail
        have hk3 : Kept w2 ((w2.setCell ⟨w.heap.size, 0, none⟩ (.int .i64 r.g)).setCell ⟨w.heap.size, 1, none⟩ (.int .i64 r.b)) (fun k => k = w.heap.size) := ((Kept.refl w2 (fun k => k = w.heap.size)).set (.inl rfl)).set (.inl rfl)
        refine bodyPost_ret (v := .tuple #[.slice A' r.l.length c', .agg #[.int .i64 r.g, .int .i64 r.b], .int .i64 r.e]) (by simp [results, Try.results36, go_sem, r0, r1]) rfl (HQ.out _ _ ?_)
        rw [Hd.out]
        exact ⟨A', c', rfl, (fun w2 h2 => HC.out _ ((hk3.more (S' := fun b => b < wr.heap.size) (fun b q => .inl (by have q' : b = w.heap.size := q; show b < wr.heap.size; omega))).trans h2 (fun b q => .inl (by have q' : b < w.heap.size := q; show b < wr.heap.size; omega)))), HB4.out.trans (hk3.below (fun b q => by have q' : b = w.heap.size := q; omega) HB4.out.size)⟩
theorem refdir_any (A : Option Addr) (c n : Nat) (l : List Cy) (hn : n = l.length) (w : World) (hs : SmallL l) (hI : Cyls w w.heap.size A l) :
    Calls Try.prog 36 #[.slice A n c] w (RefSays w (dirL l)) := by
  by_cases hW : wholeL l = true
  · exact refdir_go A c n l hn w hs hI ((wholeL_iff l).1 hW)
  · unfold dirL
    rw [if_neg hW]; exact refdir_form A c n l hn w hs hI (by simpa using hW)
end Go.Proofs.Ytpcindemkkdbbaa

/- In which groups the document looks for a file's inode: plain. -/
namespace Go.Proofs.Ytpcindemkkdbbaa
set_option linter.unusedVariables false
set_option linter.unusedSimpArgs false
open Go.RowKit

/-- how far behind -/
def wayW (k : Nat) : List Nat := [0, 1, 3, 7, 15] ++ (List.range k).map fun i => i + 1
theorem length_wayW (k : Nat) : (wayW k).length = k + 5 := by simp [wayW]
theorem wayW_succ (k : Nat) : wayW (k + 1) = wayW k ++ [k + 1] := by simp [wayW, List.range_succ]
def atW (k t : Nat) : Nat := (wayW k).getD t 0
theorem atW_eq {k t : Nat} (h : t < (wayW k).length) : atW k t = (wayW k)[t] := by unfold atW; rw [List.getD_eq_getElem?_getD, List.getElem?_eq_getElem h]; rfl
theorem mem_wayW {k b : Nat} (h : b ∈ wayW k) : b ≤ 15 + k := by
  unfold wayW at h
  rw [List.mem_append, List.mem_map] at h
  rcases h with h | ⟨i, hi, rfl⟩
  · simp at h; omega
  · have := List.mem_range.1 hi; omega
theorem fileAt_way {l : List Cy} {g : Nat} (hg : g < l.length) :
    fileAt l g = ((wayW (l.length - 1)).find? fun b => decide (b ≤ l.length) && decide (0 < (cyN l ((g + b) % l.length)).fi)).map fun b => (g + b) % l.length := by
  obtain ⟨m, hm⟩ : ∃ m, m + 1 = l.length := ⟨l.length - 1, by omega⟩
  have e1 : ((wayW (l.length - 1)).find? fun b => decide (b ≤ l.length) && decide (0 < (cyN l ((g + b) % l.length)).fi)).map (fun b => (g + b) % l.length) =
      (((wayW m).filter fun b => decide (b ≤ m + 1)).map fun b => (g + b) % (m + 1)).find? fun i => decide (0 < (cyN l i).fi) := by
    rw [← hm, List.find?_map, List.find?_filter]
    congr 1
    show List.find? _ (wayW m) = List.find? _ (wayW m)
    congr 1
    funext b
    simp
  rw [e1]
  unfold fileAt searchW
  rw [← hm]
  have e2 : wayT (m + 1) g (m + 1) = g :: ((List.range m).map fun i => (g + (i + 1)) % (m + 1)) := by
    unfold wayT
    rw [List.range_succ_eq_map, List.map_cons, List.map_map, Nat.add_zero, Nat.mod_eq_of_lt (by omega)]
    rfl
  have e3 : ((wayW m).filter fun b => decide (b ≤ m + 1)).map (fun b => (g + b) % (m + 1)) = g :: ((([1, 3, 7, 15].filter fun b => decide (b ≤ m + 1)).map fun b => (g + b) % (m + 1)) ++ (List.range m).map fun i => (g + (i + 1)) % (m + 1)) := by
    have e4 : wayW m = 0 :: ([1, 3, 7, 15] ++ (List.range m).map fun i => i + 1) := rfl
    have e5 : ((List.range m).map fun i => i + 1).filter (fun b => decide (b ≤ m + 1)) = (List.range m).map fun i => i + 1 := by
      rw [List.filter_eq_self]
      intro b hb
      obtain ⟨i, hi, rfl⟩ := List.mem_map.1 hb
      have := List.mem_range.1 hi
      exact decide_eq_true (by omega)
    rw [e4, List.filter_cons_of_pos (by simp), List.filter_append, e5, List.map_cons, List.map_append, List.map_map, Nat.add_zero, Nat.mod_eq_of_lt (by omega)]
    rfl
  rw [e2, e3]
  generalize ([1, 3, 7, 15].filter fun b => decide (b ≤ m + 1)).map (fun b => (g + b) % (m + 1)) = X
  generalize (List.range m).map (fun i => (g + (i + 1)) % (m + 1)) = Y
  rw [List.cons_append, List.find?_cons, List.find?_cons]
  cases h : decide (0 < (cyN l g).fi) with
  | true => rfl
  | false =>
    dsimp only
    rw [List.find?_append, List.find?_append, List.find?_cons, h]
theorem file_some {l : List Cy} {g t : Nat} (hg : g < l.length) (ht : t < (wayW (l.length - 1)).length) (hp : ∀ s, s < t → ¬ (atW (l.length - 1) s ≤ l.length ∧ 0 < (cyN l ((g + atW (l.length - 1) s) % l.length)).fi))
    (h1 : atW (l.length - 1) t ≤ l.length) (h2 : 0 < (cyN l ((g + atW (l.length - 1) t) % l.length)).fi) : fileAt l g = some ((g + atW (l.length - 1) t) % l.length) := by
  rw [fileAt_way hg]
  have e : (wayW (l.length - 1)).find? (fun b => decide (b ≤ l.length) && decide (0 < (cyN l ((g + b) % l.length)).fi)) = some (atW (l.length - 1) t) := by
    refine find_pre (p := (wayW (l.length - 1)).take t) (x := atW (l.length - 1) t) ?_ (fun y hy => ?_) ?_
    · rw [atW_eq ht, ← List.take_succ_eq_append_getElem ht]
      exact List.take_prefix _ _
    · obtain ⟨s, hs, rfl⟩ := List.getElem_of_mem hy
      rw [List.length_take] at hs
      have := hp s (by omega)
      rw [atW_eq (by omega)] at this
      rw [List.getElem_take]
      rw [Bool.eq_false_iff]
      intro q
      rw [Bool.and_eq_true, decide_eq_true_eq, decide_eq_true_eq] at q
      exact this q
    · rw [decide_eq_true h1, decide_eq_true h2]; rfl
  rw [e]; rfl
theorem file_none {l : List Cy} {g : Nat} (hg : g < l.length) (hp : ∀ s, s < (wayW (l.length - 1)).length → ¬ (atW (l.length - 1) s ≤ l.length ∧ 0 < (cyN l ((g + atW (l.length - 1) s) % l.length)).fi)) : fileAt l g = none := by
  rw [fileAt_way hg, Option.map_eq_none_iff, List.find?_eq_none]
  intro y hy
  obtain ⟨s, hs, rfl⟩ := List.getElem_of_mem hy
  have := hp s hs
  rw [atW_eq hs] at this
  intro q
  rw [Bool.and_eq_true, decide_eq_true_eq, decide_eq_true_eq] at q
  exact this q
/-- what File answers, in whole groups -/
def fileR (l : List Cy) (g : Nat) : An := match fileAt l g with
  | some i => inodeG l i
  | none => ⟨[], 0, 0, 4⟩
theorem fileR_some {l : List Cy} {g i : Nat} (h : fileAt l g = some i) : fileR l g = inodeG l i := by unfold fileR; rw [h]
theorem fileR_none {l : List Cy} {g : Nat} (h : fileAt l g = none) : fileR l g = ⟨[], 0, 0, 4⟩ := by unfold fileR; rw [h]
theorem fileL_eq (l : List Cy) (g : Int) : fileL l g = if wholeL l then (if amongB g l.length then fileR l g.toNat else ⟨[], 0, 0, 2⟩) else ⟨[], 0, 0, 3⟩ := rfl
def rowW (k : Nat) : List Int := (wayW k).map fun b : Nat => (b : Int)
theorem length_rowW (k : Nat) : (rowW k).length = k + 5 := by simp [rowW, length_wayW]
theorem rowW_succ (k : Nat) : rowW (k + 1) = rowW k ++ [(k : Int) + 1] := by simp [rowW, wayW_succ]
theorem nth_rowW {k t : Nat} (h : t < k + 5) : nth (rowW k) t = (atW k t : Nat) := by
  rw [nth_lt (by rw [length_rowW]; exact h), atW_eq (by rw [length_wayW]; exact h)]
  simp [rowW]
end Go.Proofs.Ytpcindemkkdbbaa

/- The document's File. -/
namespace Go.Proofs.Ytpcindemkkdbbaa
set_option linter.unusedVariables false
set_option linter.unusedSimpArgs false
open Go.RowKit

set_option maxRecDepth 100000 in
set_option maxHeartbeats 2000000 in
theorem reffile_form (A : Option Addr) (c n : Nat) (l : List Cy) (ng : Int) (hn : n = l.length) (w : World) (hs : SmallL l) (hI : Cyls w w.heap.size A l) (hW : wholeL l = false) :
    Calls Try.prog 34 #[.slice A n c, .int .i64 ng] w (RefSays w ⟨[], 0, 0, 3⟩) := by
  have HWh : Hid (∀ W, Below w.heap.size w W → Calls Try.prog 32 #[.slice A n c] W fun e w' => e = .returned (.bool false) ∧ Below W.heap.size W w') := fun W hB => by
    have := refwhole_any A c n l hn W hs (hI.next hB)
    rw [hW] at this; exact this
  clear hI hs hW hn
  obtain ⟨Q, hQ⟩ : ∃ Q, Q = RefSays w ⟨[], 0, 0, 3⟩ := ⟨_, rfl⟩
  have HQ : Hid (∀ w', Below w.heap.size w w' → Q (.returned (.tuple #[.slice none 0 0, .agg #[.int .i64 0, .int .i64 0], .int .i64 3])) w') := by unfold Hid; rw [hQ]; exact fun w' h => ⟨none, 0, rfl, (fun _ _ => Cyls.nil), h⟩
  rw [← hQ]
  clear hQ
  go_enter Try.func34, Try.ntmps34
  go_wp2_with fail
  have hB0 : Below w.heap.size w (w.alloc (.cells #[.int .i64 0, .int .i64 0] 41)) := (Below.refl _ w).alloc (Nat.le_refl _) _
  have hX0 : Blk (w.alloc (.cells #[.int .i64 0, .int .i64 0] 41)) w.heap.size 41 #[.int .i64 0, .int .i64 0] := Go.heap_alloc_new w _
  generalize w.alloc (.cells #[.int .i64 0, .int .i64 0] 41) = Wa at hB0 hX0 ⊢
  refine (HWh.out _ hB0).mono ?_
  rintro e Wb ⟨rfl, hBb⟩
  have hX := hX0.keep (S := fun _ => False) (Kept.fresh hBb) (fun q => q)
  have HB := Lib.hid (hB0.trans (hBb.mono hB0.size))
  have hsz := lt_heap hX
  have r0 := cellAt_of hX 0
  have r1 := cellAt_of hX 1
  simp only [List.getElem?_toArray, List.getElem?_cons_zero, List.getElem?_cons_succ] at r0 r1
  have k0 := frozen_of_row Wb _ 0 _ 41 hX
  have k1 := frozen_of_row Wb _ 1 _ 41 hX
  clear hBb hB0 hX0 hX
  go_wp2_with fail
  have hk3 : Kept Wb ((Wb.setCell ⟨w.heap.size, 0, none⟩ (.int .i64 0)).setCell ⟨w.heap.size, 1, none⟩ (.int .i64 0)) (fun k => k = w.heap.size) := ((Kept.refl Wb (fun k => k = w.heap.size)).set (.inl rfl)).set (.inl rfl)
  exact bodyPost_ret (v := .tuple #[.slice none 0 0, .agg #[.int .i64 0, .int .i64 0], .int .i64 3]) (by simp [results, Try.results34, go_sem, r0, r1]) rfl (HQ.out _ (HB.out.trans (hk3.below (fun b q => by have q' : b = w.heap.size := q; omega) HB.out.size)))

set_option maxRecDepth 100000 in
set_option maxHeartbeats 2000000 in
theorem reffile_range (A : Option Addr) (c n : Nat) (l : List Cy) (ng : Int) (hn : n = l.length) (w : World) (hs : SmallL l) (hI : Cyls w w.heap.size A l) (hW : wholeL l = true) (hg : amongB ng n = false) :
    Calls Try.prog 34 #[.slice A n c, .int .i64 ng] w (RefSays w ⟨[], 0, 0, 2⟩) := by
  have HWh : Hid (∀ W, Below w.heap.size w W → Calls Try.prog 32 #[.slice A n c] W fun e w' => e = .returned (.bool true) ∧ Below W.heap.size W w') := fun W hB => by
    have := refwhole_any A c n l hn W hs (hI.next hB)
    rw [hW] at this; exact this
  have hno := amongB_no.1 hg
  have hn1 : n ≤ 1000 := by have := hs.1; omega
  clear hI hs hW hn hg
  obtain ⟨Q, hQ⟩ : ∃ Q, Q = RefSays w ⟨[], 0, 0, 2⟩ := ⟨_, rfl⟩
  have HQ : Hid (∀ w', Below w.heap.size w w' → Q (.returned (.tuple #[.slice none 0 0, .agg #[.int .i64 0, .int .i64 0], .int .i64 2])) w') := by unfold Hid; rw [hQ]; exact fun w' h => ⟨none, 0, rfl, (fun _ _ => Cyls.nil), h⟩
  rw [← hQ]
  clear hQ
  by_cases h1 : ng < 0
  · clear hno
    go_enter Try.func34, Try.ntmps34
    go_wp2_with fail
    have hB0 : Below w.heap.size w (w.alloc (.cells #[.int .i64 0, .int .i64 0] 41)) := (Below.refl _ w).alloc (Nat.le_refl _) _
    have hX0 : Blk (w.alloc (.cells #[.int .i64 0, .int .i64 0] 41)) w.heap.size 41 #[.int .i64 0, .int .i64 0] := Go.heap_alloc_new w _
    generalize w.alloc (.cells #[.int .i64 0, .int .i64 0] 41) = Wa at hB0 hX0 ⊢
    refine (HWh.out _ hB0).mono ?_
    rintro e Wb ⟨rfl, hBb⟩
    have hX := hX0.keep (S := fun _ => False) (Kept.fresh hBb) (fun q => q)
    have HB := Lib.hid (hB0.trans (hBb.mono hB0.size))
    have hsz := lt_heap hX
    have r0 := cellAt_of hX 0
    have r1 := cellAt_of hX 1
    simp only [List.getElem?_toArray, List.getElem?_cons_zero, List.getElem?_cons_succ] at r0 r1
    have k0 := frozen_of_row Wb _ 0 _ 41 hX
    have k1 := frozen_of_row Wb _ 1 _ 41 hX
    clear hBb hB0 hX0 hX
    go_wp2_with fail
    have hk3 : Kept Wb ((Wb.setCell ⟨w.heap.size, 0, none⟩ (.int .i64 0)).setCell ⟨w.heap.size, 1, none⟩ (.int .i64 0)) (fun k => k = w.heap.size) := ((Kept.refl Wb (fun k => k = w.heap.size)).set (.inl rfl)).set (.inl rfl)
    exact bodyPost_ret (v := .tuple #[.slice none 0 0, .agg #[.int .i64 0, .int .i64 0], .int .i64 2]) (by simp [results, Try.results34, go_sem, r0, r1]) rfl (HQ.out _ (HB.out.trans (hk3.below (fun b q => by have q' : b = w.heap.size := q; omega) HB.out.size)))
  have h2 : (n : Int) ≤ ng := by omega
  clear hno
  go_enter Try.func34, Try.ntmps34
  go_wp2_with fail
  have hB0 : Below w.heap.size w (w.alloc (.cells #[.int .i64 0, .int .i64 0] 41)) := (Below.refl _ w).alloc (Nat.le_refl _) _
  have hX0 : Blk (w.alloc (.cells #[.int .i64 0, .int .i64 0] 41)) w.heap.size 41 #[.int .i64 0, .int .i64 0] := Go.heap_alloc_new w _
  generalize w.alloc (.cells #[.int .i64 0, .int .i64 0] 41) = Wa at hB0 hX0 ⊢
  refine (HWh.out _ hB0).mono ?_
  rintro e Wb ⟨rfl, hBb⟩
  have hX := hX0.keep (S := fun _ => False) (Kept.fresh hBb) (fun q => q)
  have HB := Lib.hid (hB0.trans (hBb.mono hB0.size))
  have hsz := lt_heap hX
  have r0 := cellAt_of hX 0
  have r1 := cellAt_of hX 1
  simp only [List.getElem?_toArray, List.getElem?_cons_zero, List.getElem?_cons_succ] at r0 r1
  have k0 := frozen_of_row Wb _ 0 _ 41 hX
  have k1 := frozen_of_row Wb _ 1 _ 41 hX
  clear hBb hB0 hX0 hX
  go_wp2_with fail
  have hk3 : Kept Wb ((Wb.setCell ⟨w.heap.size, 0, none⟩ (.int .i64 0)).setCell ⟨w.heap.size, 1, none⟩ (.int .i64 0)) (fun k => k = w.heap.size) := ((Kept.refl Wb (fun k => k = w.heap.size)).set (.inl rfl)).set (.inl rfl)
  exact bodyPost_ret (v := .tuple #[.slice none 0 0, .agg #[.int .i64 0, .int .i64 0], .int .i64 2]) (by simp [results, Try.results34, go_sem, r0, r1]) rfl (HQ.out _ (HB.out.trans (hk3.below (fun b q => by have q' : b = w.heap.size := q; omega) HB.out.size)))

set_option maxRecDepth 100000 in
set_option maxHeartbeats 4000000 in
theorem reffile_go (A : Option Addr) (c n : Nat) (l : List Cy) (g : Nat) (hn : n = l.length) (w : World) (hs : SmallL l) (hI : Cyls w w.heap.size A l) (hW : Whole l) (hg : g < n) :
    Calls Try.prog 34 #[.slice A n c, .int .i64 (g : Int)] w (RefSays w (fileR l g)) := by
  obtain ⟨i0, hi, hz0, hz1, hz2⟩ := info_parts info3
  have HWh : Hid (∀ W, Below w.heap.size w W → Calls Try.prog 32 #[.slice A n c] W fun e w' => e = .returned (.bool true) ∧ Below W.heap.size W w') := fun W hB => by
    have := refwhole_any A c n l hn W hs (hI.next hB)
    rw [(wholeL_iff l).2 hW] at this; exact this
  have hn16 : n ≤ 16 := by have := hW.n2; omega
  have hn0 : (0 : Int) < (n : Int) := by have := hW.n1; omega
  have hnne : ¬ (n : Int) = 0 := by omega
  have hgn : (g : Int) < (n : Int) := by omega
  have hg0 : (0 : Int) ≤ (g : Int) := by omega
  have t1 : decide ((g : Int) < 0) = false := decide_eq_false (by omega)
  have t2 : decide ((n : Int) ≤ (g : Int)) = false := decide_eq_false (by omega)
  have t2n : decide (n ≤ g) = false := decide_eq_false (by omega)
  have HIn : Hid (∀ W, Below w.heap.size w W → ∀ g : Nat, g < n → Calls Try.prog 65 #[.slice A n c, .int .i64 (g : Int)] W (RefSays W (inodeG l g))) := fun W h g hg =>
    first_any A c n l g hn W hs (hI.next h) (by omega) (hW.ok _ (by omega)) (hW.ix _ (by omega))
  obtain ⟨M, hM⟩ : ∃ M, M + 1 = n := ⟨n - 1, by omega⟩
  have HSome : Hid (∀ t, t < M + 5 → (∀ s, s < t → ¬ (atW M s ≤ n ∧ 0 < (cyN l ((g + atW M s) % n)).fi)) → atW M t ≤ n → 0 < (cyN l ((g + atW M t) % n)).fi → fileR l g = inodeG l ((g + atW M t) % n)) := fun t ht hp h1 h2 => by
    have e : M = l.length - 1 := by omega
    subst e
    rw [hn] at hp h1 h2 hg ⊢
    exact fileR_some (file_some hg (by rw [length_wayW]; exact ht) hp h1 h2)
  have HNone : Hid ((∀ s, s < M + 5 → ¬ (atW M s ≤ n ∧ 0 < (cyN l ((g + atW M s) % n)).fi)) → fileR l g = ⟨[], 0, 0, 4⟩) := fun hp => by
    have e : M = l.length - 1 := by omega
    subst e
    rw [hn] at hp hg
    exact fileR_none (file_none hg (fun s hs => hp s (by rw [length_wayW] at hs; exact hs)))
  have Hn := Lib.hid hn
  have HI := Lib.hid hI
  have HM := Lib.hid hM
  obtain ⟨Q, hQ⟩ : ∃ Q, Q = RefSays w (fileR l g) := ⟨_, rfl⟩
  have HQ : Hid (∀ e w', RefSays w (fileR l g) e w' → Q e w') := by unfold Hid; rw [hQ]; exact fun _ _ h => h
  rw [← hQ]
  clear hQ hI hs hW hn hM
  go_enter Try.func34, Try.ntmps34
  go_wp2_with fail
  have hB0 : Below w.heap.size w (w.alloc (.cells #[.int .i64 0, .int .i64 0] 41)) := (Below.refl _ w).alloc (Nat.le_refl _) _
  have hX0 : Blk (w.alloc (.cells #[.int .i64 0, .int .i64 0] 41)) w.heap.size 41 #[.int .i64 0, .int .i64 0] := Go.heap_alloc_new w _
  generalize w.alloc (.cells #[.int .i64 0, .int .i64 0] 41) = Wa at hB0 hX0 ⊢
  refine (HWh.out _ hB0).mono ?_
  rintro e Wb ⟨rfl, hBb⟩
  have hX := hX0.keep (S := fun _ => False) (Kept.fresh hBb) (fun q => q)
  have hB1 := hB0.trans (hBb.mono hB0.size)
  have hsz1 : w.heap.size < Wb.heap.size := lt_heap hX
  have HB1 : Hid (Below w.heap.size w (Wb.alloc (.cells #[.int .i64 0, .int .i64 1, .int .i64 3, .int .i64 7, .int .i64 15] 3))) := hB1.alloc hB1.size _
  have HX1 : Hid (Blk (Wb.alloc (.cells #[.int .i64 0, .int .i64 1, .int .i64 3, .int .i64 7, .int .i64 15] 3)) w.heap.size 41 #[.int .i64 0, .int .i64 0]) := (Below.heap_alloc _ _ _ hsz1).trans hX
  have HR1 : Hid ((Wb.alloc (.cells #[.int .i64 0, .int .i64 1, .int .i64 3, .int .i64 7, .int .i64 15] 3)).ownsRow (w.heap.size + 1) 3 1 (.slice (some ⟨Wb.heap.size, 0, none⟩) 5 5) 5 (intsV (rowW 0))) :=
    ⟨by simp [length_intsV, length_rowW], .inr ⟨Wb.heap.size, 5, _, rfl, by omega, Go.heap_alloc_new Wb _, Nat.le_refl _, by unfold maxLen; omega, rfl, rfl⟩⟩
  clear hBb hB0 hX0 hX hB1
  go_wp2_with fail
  go_loopw [7, 8] (fun v i wr => ∃ k : Nat, k ≤ M ∧ i = .int .i64 ((k : Int) + 1) ∧ wr.ownsRow (w.heap.size + 1) 3 1 v (k + 5) (intsV (rowW k)) ∧ Blk wr w.heap.size 41 #[.int .i64 0, .int .i64 0] ∧ Below w.heap.size w wr) (fun _ i _ => n - (intOf i).toNat)
  case atStart => exact ⟨0, Nat.zero_le _, rfl, HR1.out, HX1.out, HB1.out⟩
  case round =>
    obtain ⟨k, hk, rfl, hown, hX, hB⟩ := hrel
    rename World => wr
    have hk0 : (0 : Int) ≤ (k : Int) := by omega
    have hsz := hB.size
    have hsx : w.heap.size < wr.heap.size := lt_heap hX
    have hMn := HM.out
    by_cases hlt : k < M
    · have hlti : (k : Int) + 1 < (n : Int) := by omega
      have hk16 : k ≤ 15 := by omega
      have Hsn := Lib.hid (rowW_succ k)
      have HX := Lib.hid hX
      have HB := Lib.hid hB
      clear hMn hX hB
      go_wp2_with (at_builtin; refine wpList_append_own _ rfl _ _ 22 rfl (w.heap.size + 1) 3 i0 (.int .i64 0) 1 8 Try.underlying22 hi hz0 hz1 hz2 rfl (by decide) _ _ _ rfl (hown.alloc _) ⟨wr.heap.size, 0, none⟩ 1 1 [.int .i64 ((k : Int) + 1)] rfl rfl (cell_one_new _ _ _) (by simp [Value.oneCell']) (by unfold maxLen; omega) (by omega) (by simp; omega) ?_)
      intro v' w1 hown' hgrow _
      have hk2 : Kept wr w1 (fun b => w.heap.size + 1 ≤ b) := ((Kept.refl wr _).trans (Kept.fresh ((Below.refl _ wr).alloc (Nat.le_refl _) _)) (fun b q => .inl q)).trans (Kept.grown hgrow (fun j e => .inl (hown.lt j e).1)) (fun b q => .inl q)
      have Ho := Lib.hid hown'
      have HX2 := Lib.hid (HX.out.keep hk2 (by omega))
      have HB2 := Lib.hid (HB.out.trans (hk2.below (fun b q => by have q' : w.heap.size + 1 ≤ b := q; omega) hsz))
      clear hown' hgrow hown hk2
      go_wp2_with fail
      go_roundw
      case rel => exact ⟨k + 1, by omega, by go_num, by rw [Hsn.out, intsV_append']; exact Ho.out, HX2.out, HB2.out⟩
      case measure => have := HM.out; simp [intOf]; omega
    · have hlti : ¬ (k : Int) + 1 < (n : Int) := by omega
      obtain rfl : k = M := by omega
      have hlen := length_rowW k
      rw [← hlen] at hown
      obtain ⟨_, A', c', rfl, hr⟩ := own_ints hown
      have hR := hr.ints
      rw [hlen]
      have HR := Lib.hid hR
      have HX := Lib.hid hX
      have HB := Lib.hid hB
      have hk15 : k ≤ 15 := by omega
      clear hMn hown hr hR hX hB hlen
      go_wp2_with fail
      go_loopw [9] (fun i W => ∃ t : Nat, t ≤ k + 5 ∧ i = .int .i64 t ∧ (∀ s, s < t → ¬ (atW k s ≤ n ∧ 0 < (cyN l ((g + atW k s) % n)).fi)) ∧ W = wr) (fun i _ => k + 5 - (intOf i).toNat)
      case atStart => exact ⟨0, Nat.zero_le _, rfl, (fun s hs => by omega), rfl⟩
      case round =>
        obtain ⟨t, ht, rfl, hp, rfl⟩ := hrel
        rename World => W
        have ht0 : (0 : Int) ≤ (t : Int) := by omega
        have Hp := Lib.hid hp
        by_cases htl : t < k + 5
        · have htli : (t : Int) < (k : Int) + 5 := by omega
          obtain ⟨wb, woff, hA', hwb, hwc⟩ := HR.out (by rw [length_rowW]; omega)
          have cw := hwc t (by rw [length_rowW]; exact htl)
          rw [nth_rowW htl] at cw
          have hy15 : atW k t ≤ 15 + k := by rw [atW_eq (by rw [length_wayW]; exact htl)]; exact mem_wayW (List.getElem_mem _)
          have HSt := Lib.hid (HSome.out t htl hp)
          have HNt : Hid (¬ (atW k t ≤ n ∧ 0 < (cyN l ((g + atW k t) % n)).fi) → ∀ s, s < t + 1 → ¬ (atW k s ≤ n ∧ 0 < (cyN l ((g + atW k s) % n)).fi)) := fun h s hs => by
            rcases Nat.lt_or_ge s t with h2 | h2
            · exact Hp.out s h2
            · obtain rfl : s = t := by omega
              exact h
          generalize atW k t = y at cw hy15 HSt HNt
          obtain ⟨j, hjN⟩ : ∃ j, j = (g + y) % n := ⟨_, rfl⟩
          rw [← hjN] at HSt HNt
          have hj : ((g : Int) + (y : Int)) % (n : Int) = (j : Int) := by rw [hjN]; push_cast; rfl
          have hjn : j < n := by rw [hjN]; exact Nat.mod_lt _ (by omega)
          have hjni : (j : Int) < (n : Int) := by omega
          have hj0 : (0 : Int) ≤ (j : Int) := by omega
          have hy0 : (0 : Int) ≤ (y : Int) := by omega
          obtain ⟨gb, off, Ag, cg, A2g, c2g, rfl, hgb, hx⟩ := HI.out.at_ (k := j) (by rw [← Hn.out]; exact hjn)
          have c3 := (HB.out.cell (p := ⟨gb, off + j * 7 + 3, none⟩) hgb).trans hx.c3
          have hgw : gb < W.heap.size := by have := HB.out.size; omega
          have HInr := Lib.hid (HIn.out W HB.out j hjn)
          subst hA'
          obtain ⟨fi, hfi⟩ : ∃ fi, fi = (cyN l j).fi := ⟨_, rfl⟩
          rw [← hfi] at c3 HSt HNt
          clear hp hjN hwc hx hfi
          by_cases p1 : (y : Int) ≤ (n : Int)
          · by_cases p2 : (0 : Int) < fi
            · have Hd : Hid (fileR l g = inodeG l j) := HSt.out (by omega) p2
              obtain ⟨r, hr⟩ : ∃ r, r = inodeG l j := ⟨_, rfl⟩
              rw [← hr] at HInr Hd
              clear hr
              go_wp2_with fail
              refine HInr.out.mono ?_
              rintro e w2 ⟨A2, c2, rfl, hC, hB2⟩
              have hX2 := HX.out.keep (S := fun _ => False) (Kept.fresh hB2) (fun q => q)
              have HB4 := Lib.hid (HB.out.trans (hB2.mono HB.out.size))
              have hsz2 := lt_heap hX2
              have r0 := cellAt_of hX2 0
              have r1 := cellAt_of hX2 1
              simp only [List.getElem?_toArray, List.getElem?_cons_zero, List.getElem?_cons_succ] at r0 r1
              have k0 := frozen_of_row w2 _ 0 _ 41 hX2
              have k1 := frozen_of_row w2 _ 1 _ 41 hX2
              have HC := Lib.hid hC
              clear hB2 hX2 hC
              go_wp2_with fail
              have hk3 : Kept w2 ((w2.setCell ⟨w.heap.size, 0, none⟩ (.int .i64 r.g)).setCell ⟨w.heap.size, 1, none⟩ (.int .i64 r.b)) (fun k => k = w.heap.size) := ((Kept.refl w2 (fun k => k = w.heap.size)).set (.inl rfl)).set (.inl rfl)
              refine bodyPost_ret (v := .tuple #[.slice A2 r.l.length c2, .agg #[.int .i64 r.g, .int .i64 r.b], .int .i64 r.e]) (by simp [results, Try.results34, go_sem, r0, r1]) rfl (HQ.out _ _ ?_)
              rw [Hd.out]
              exact ⟨A2, c2, rfl, (fun w2 h2 => HC.out _ ((hk3.more (S' := fun b => b < W.heap.size) (fun b q => .inl (by have q' : b = w.heap.size := q; show b < W.heap.size; omega))).trans h2 (fun b q => .inl (by have q' : b < w.heap.size := q; show b < W.heap.size; omega)))), HB4.out.trans (hk3.below (fun b q => by have q' : b = w.heap.size := q; omega) HB4.out.size)⟩
            · have Hn2 := Lib.hid (HNt.out (fun h => p2 h.2))
              go_wp2_with fail
              go_roundw
              case rel => exact ⟨t + 1, by omega, by go_num, Hn2.out, trivial⟩
              case measure => simp [intOf]; omega
          · have Hn2 := Lib.hid (HNt.out (fun h => p1 (by have := h.1; omega)))
            go_wp2_with fail
            go_roundw
            case rel => exact ⟨t + 1, by omega, by go_num, Hn2.out, trivial⟩
            case measure => simp [intOf]; omega
        · have htli : ¬ (t : Int) < (k : Int) + 5 := by omega
          obtain rfl : t = k + 5 := by omega
          have Hd := Lib.hid (HNone.out hp)
          have hX := HX.out
          have r0 := cellAt_of hX 0
          have r1 := cellAt_of hX 1
          simp only [List.getElem?_toArray, List.getElem?_cons_zero, List.getElem?_cons_succ] at r0 r1
          have k0 := frozen_of_row W _ 0 _ 41 hX
          have k1 := frozen_of_row W _ 1 _ 41 hX
          clear hp hX
          go_wp2_with fail
          have hk3 : Kept W ((W.setCell ⟨w.heap.size, 0, none⟩ (.int .i64 0)).setCell ⟨w.heap.size, 1, none⟩ (.int .i64 0)) (fun k => k = w.heap.size) := ((Kept.refl W (fun k => k = w.heap.size)).set (.inl rfl)).set (.inl rfl)
          refine bodyPost_ret (v := .tuple #[.slice none 0 0, .agg #[.int .i64 0, .int .i64 0], .int .i64 4]) (by simp [results, Try.results34, go_sem, r0, r1]) rfl (HQ.out _ _ ?_)
          rw [Hd.out]
          exact ⟨none, 0, rfl, (fun _ _ => Cyls.nil), HB.out.trans (hk3.below (fun b q => by have q' : b = w.heap.size := q; omega) HB.out.size)⟩
theorem reffile_any (A : Option Addr) (c n : Nat) (l : List Cy) (ng : Int) (hn : n = l.length) (w : World) (hs : SmallL l) (hI : Cyls w w.heap.size A l) :
    Calls Try.prog 34 #[.slice A n c, .int .i64 ng] w (RefSays w (fileL l ng)) := by
  rw [fileL_eq, ← hn]
  by_cases hW : wholeL l = true
  · rw [if_pos hW]
    by_cases hg : amongB ng n = true
    · rw [if_pos hg]
      obtain ⟨h1, h2⟩ := amongB_iff.1 hg
      obtain ⟨g, rfl⟩ : ∃ g : Nat, ng = g := ⟨ng.toNat, by omega⟩
      rw [Int.toNat_natCast]
      exact reffile_go A c n l g hn w hs hI ((wholeL_iff l).1 hW) (by omega)
    · rw [if_neg hg]; exact reffile_range A c n l ng hn w hs hI hW (by simpa using hg)
  · rw [if_neg hW]; exact reffile_form A c n l ng hn w hs hI (by simpa using hW)
end Go.Proofs.Ytpcindemkkdbbaa
