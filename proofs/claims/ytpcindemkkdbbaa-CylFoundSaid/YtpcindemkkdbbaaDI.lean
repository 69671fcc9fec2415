/- Contract of Dir. -/
import Derived.Test.YtpcindemkkdbbaaIA
import Derived.RegionTactic
namespace Go.Proofs.Ytpcindemkkdbbaa
set_option linter.unusedVariables false
set_option linter.unusedSimpArgs false
open Go.RowKit

theorem free_in {l : List Cy} (h : Whole l) : (0 ≤ freeB l ∧ freeB l ≤ 1024) ∧ 0 ≤ freeI l ∧ freeI l ≤ 256 := by
  have h1 := sum_in (f := Cy.fb) (l := l) (m := 64) (fun i hi => (h.ok i hi).fb_in) l.length (Nat.le_refl _)
  have h2 := sum_in (f := Cy.fi) (l := l) (m := 16) (fun i hi => (h.ok i hi).fi_in) l.length (Nat.le_refl _)
  have h16 := h.n2
  unfold freeB freeI
  rw [if_pos ((wholeL_iff l).2 h)]
  rw [if_pos ((wholeL_iff l).2 h)]
  exact ⟨⟨h1.1, by omega⟩, h2.1, by omega⟩
set_option maxRecDepth 100000 in
set_option maxHeartbeats 2000000 in
theorem dir_form (A : Option Addr) (c n : Nat) (l : List Cy) (hn : n = l.length) (w : World) (hs : SmallL l) (hI : Cyls w w.heap.size A l) (hW : wholeL l = false) :
    Calls Try.prog 35 #[.slice A n c] w (AnSays w ⟨[], 0, 0, 3⟩) := by
  have HWh : Hid (∀ W, Below w.heap.size w W → Calls Try.prog 31 #[.slice A n c] W fun e w' => e = .returned (.bool false) ∧ Below W.heap.size W w') := fun W hB => by
    have := whole_any A c n l hn W hs (hI.next hB)
    rw [hW] at this; exact this
  clear hI hs hW hn
  obtain ⟨Q, hQ⟩ : ∃ Q, Q = AnSays w ⟨[], 0, 0, 3⟩ := ⟨_, rfl⟩
  have HQ : Hid (∀ w', Below w.heap.size w w' → Q (.returned (.tuple #[.slice none 0 0, .agg #[.int .i64 0, .int .i64 0], .int .i64 3])) w') := by unfold Hid; rw [hQ]; exact fun w' h => ⟨none, 0, rfl, .inl ⟨rfl, rfl, rfl⟩, h⟩
  rw [← hQ]
  clear hQ
  go_enter Try.func35, Try.ntmps35
  go_wp2_with fail
  have hB0 : Below w.heap.size w (w.alloc (.cells #[.int .i64 0, .int .i64 0] 41)) := (Below.refl _ w).alloc (Nat.le_refl _) _
  have hX0 : Blk (w.alloc (.cells #[.int .i64 0, .int .i64 0] 41)) w.heap.size 41 #[.int .i64 0, .int .i64 0] := Go.heap_alloc_new w _
  generalize w.alloc (.cells #[.int .i64 0, .int .i64 0] 41) = Wa at hB0 hX0 ⊢
  refine (HWh.out _ hB0).mono ?_
  rintro e Wb ⟨rfl, hBb⟩
  have hX := hX0.keep (S := fun _ => False) (Kept.fresh hBb) (fun q => q)
  have HB := Lib.hid (hB0.trans (hBb.mono hB0.size))
  have hsz := lt_heap hX
  have r0 := cellAt_of hX 0
  have r1 := cellAt_of hX 1
  simp only [List.getElem?_toArray, List.getElem?_cons_zero, List.getElem?_cons_succ] at r0 r1
  have k0 := frozen_of_row Wb _ 0 _ 41 hX
  have k1 := frozen_of_row Wb _ 1 _ 41 hX
  clear hBb hB0 hX0 hX
  go_wp2_with fail
  have hk3 : Kept Wb ((Wb.setCell ⟨w.heap.size, 0, none⟩ (.int .i64 0)).setCell ⟨w.heap.size, 1, none⟩ (.int .i64 0)) (fun k => k = w.heap.size) := ((Kept.refl Wb (fun k => k = w.heap.size)).set (.inl rfl)).set (.inl rfl)
  exact bodyPost_ret (v := .tuple #[.slice none 0 0, .agg #[.int .i64 0, .int .i64 0], .int .i64 3]) (by simp [results, Try.results35, go_sem, r0, r1]) rfl (HQ.out _ (HB.out.trans (hk3.below (fun b q => by have q' : b = w.heap.size := q; omega) HB.out.size)))

set_option maxRecDepth 100000 in
set_option maxHeartbeats 2000000 in
theorem dir_space (A : Option Addr) (c n : Nat) (l : List Cy) (hn : n = l.length) (w : World) (hs : SmallL l) (hI : Cyls w w.heap.size A l) (hW : wholeL l = true) (h0 : freeI l = 0) :
    Calls Try.prog 35 #[.slice A n c] w (AnSays w ⟨[], 0, 0, 4⟩) := by
  have HWh : Hid (∀ W, Below w.heap.size w W → Calls Try.prog 31 #[.slice A n c] W fun e w' => e = .returned (.bool true) ∧ Below W.heap.size W w') := fun W hB => by
    have := whole_any A c n l hn W hs (hI.next hB)
    rw [hW] at this; exact this
  have HF : Hid (∀ W, Below w.heap.size w W → Calls Try.prog 39 #[.slice A n c] W fun e w' => (∃ q, e = .returned (.tuple #[.int .i64 q, .int .i64 0])) ∧ Below W.heap.size W w') := fun W h => by
    refine (free_any A c n l hn W hs (hI.next h)).mono ?_
    rintro e w' ⟨rfl, hB⟩
    exact ⟨⟨_, by rw [h0]⟩, hB⟩
  clear hI hs hW hn h0
  obtain ⟨Q, hQ⟩ : ∃ Q, Q = AnSays w ⟨[], 0, 0, 4⟩ := ⟨_, rfl⟩
  have HQ : Hid (∀ w', Below w.heap.size w w' → Q (.returned (.tuple #[.slice none 0 0, .agg #[.int .i64 0, .int .i64 0], .int .i64 4])) w') := by unfold Hid; rw [hQ]; exact fun w' h => ⟨none, 0, rfl, .inl ⟨rfl, rfl, rfl⟩, h⟩
  rw [← hQ]
  clear hQ
  go_enter Try.func35, Try.ntmps35
  go_wp2_with fail
  have hB0 : Below w.heap.size w (w.alloc (.cells #[.int .i64 0, .int .i64 0] 41)) := (Below.refl _ w).alloc (Nat.le_refl _) _
  have hX0 : Blk (w.alloc (.cells #[.int .i64 0, .int .i64 0] 41)) w.heap.size 41 #[.int .i64 0, .int .i64 0] := Go.heap_alloc_new w _
  generalize w.alloc (.cells #[.int .i64 0, .int .i64 0] 41) = Wa at hB0 hX0 ⊢
  refine (HWh.out _ hB0).mono ?_
  rintro e Wb ⟨rfl, hBb⟩
  have hX := hX0.keep (S := fun _ => False) (Kept.fresh hBb) (fun q => q)
  have HB := Lib.hid (hB0.trans (hBb.mono hB0.size))
  clear hBb hB0 hX0
  have HX := Lib.hid hX
  clear hX
  go_wp2_with fail
  refine (HF.out _ HB.out).mono ?_
  rintro e Wc ⟨⟨qb, rfl⟩, hBc⟩
  have hX := HX.out.keep (S := fun _ => False) (Kept.fresh hBc) (fun q => q)
  have HB2 := Lib.hid (HB.out.trans (hBc.mono HB.out.size))
  have hsz := lt_heap hX
  have r0 := cellAt_of hX 0
  have r1 := cellAt_of hX 1
  simp only [List.getElem?_toArray, List.getElem?_cons_zero, List.getElem?_cons_succ] at r0 r1
  have k0 := frozen_of_row Wc _ 0 _ 41 hX
  have k1 := frozen_of_row Wc _ 1 _ 41 hX
  clear hBc HX hX
  go_wp2_with fail
  have hk3 : Kept Wc ((Wc.setCell ⟨w.heap.size, 0, none⟩ (.int .i64 0)).setCell ⟨w.heap.size, 1, none⟩ (.int .i64 0)) (fun k => k = w.heap.size) := ((Kept.refl Wc (fun k => k = w.heap.size)).set (.inl rfl)).set (.inl rfl)
  exact bodyPost_ret (v := .tuple #[.slice none 0 0, .agg #[.int .i64 0, .int .i64 0], .int .i64 4]) (by simp [results, Try.results35, go_sem, r0, r1]) rfl (HQ.out _ (HB2.out.trans (hk3.below (fun b q => by have q' : b = w.heap.size := q; omega) HB2.out.size)))

set_option maxRecDepth 100000 in
set_option maxHeartbeats 4000000 in
theorem dir_go (A : Option Addr) (c n : Nat) (l : List Cy) (hn : n = l.length) (w : World) (hs : SmallL l) (hI : Cyls w w.heap.size A l) (hW : Whole l) (h0 : freeI l ≠ 0) :
    Calls Try.prog 35 #[.slice A n c] w (AnSays w (inodeG l (bestTo l (enough l) l.length).1)) := by
  have HWh : Hid (∀ W, Below w.heap.size w W → Calls Try.prog 31 #[.slice A n c] W fun e w' => e = .returned (.bool true) ∧ Below W.heap.size W w') := fun W hB => by
    have := whole_any A c n l hn W hs (hI.next hB)
    rw [(wholeL_iff l).2 hW] at this; exact this
  obtain ⟨N, hN⟩ : ∃ N, N = freeI l := ⟨_, rfl⟩
  have HF : Hid (∀ W, Below w.heap.size w W → Calls Try.prog 39 #[.slice A n c] W fun e w' => (∃ q, e = .returned (.tuple #[.int .i64 q, .int .i64 N])) ∧ Below W.heap.size W w') := fun W h => by
    refine (free_any A c n l hn W hs (hI.next h)).mono ?_
    rintro e w' ⟨rfl, hB⟩
    exact ⟨⟨_, by rw [hN]⟩, hB⟩
  have hN1 := (free_in hW).2
  rw [← hN] at hN1 h0
  have hN0 : 0 ≤ N := hN1.1
  have hN2 : N ≤ 256 := hN1.2
  have hn16 : n ≤ 16 := by have := hW.n2; omega
  have hn0 : (0 : Int) < (n : Int) := by have := hW.n1; omega
  have hnne : ¬ (n : Int) = 0 := by omega
  have hb := best_found hW (by rw [← hN]; exact h0)
  have HIn : Hid (∀ W, Below w.heap.size w W → Calls Try.prog 64 #[.slice A n c, .int .i64 ((bestTo l (enough l) n).1 : Nat)] W (AnSays W (inodeG l (bestTo l (enough l) n).1))) := fun W h => by
    rw [hn]
    exact inode_any A c _ l _ rfl W hs (hI.next h) hb.1 (hW.ok _ hb.1)
  have hq0 : 0 ≤ N / (n : Int) := Int.ediv_nonneg hN0 (by omega)
  have hq1 : N / (n : Int) ≤ 256 := by
    have := Int.ediv_le_self (n : Int) hN0
    omega
  have He : Hid (enough l = max (N / (n : Int)) 1) := by unfold Hid enough; rw [← hN, hn]
  have hp := enough_pos l
  have hp2 : enough l ≤ 256 := by rw [He.out]; omega
  obtain ⟨q, hq⟩ : ∃ q, q = enough l := ⟨_, rfl⟩
  rw [← hq] at HIn He hp hp2
  have HBi := Lib.hid (bestTo_inv l q (fun j hj => (hW.ok j hj).fb_in.1))
  have HO := Lib.hid hW
  have Hn := Lib.hid hn
  have HI := Lib.hid hI
  rw [← hq]
  obtain ⟨Q, hQ⟩ : ∃ Q, Q = AnSays w (inodeG l (bestTo l q l.length).1) := ⟨_, rfl⟩
  have HQ : Hid (∀ e w', AnSays w (inodeG l (bestTo l q l.length).1) e w' → Q e w') := by unfold Hid; rw [hQ]; exact fun _ _ h => h
  rw [← hQ]
  rw [← hn] at HQ
  clear hQ hI hs hW hn hq hb hN hN1
  go_enter Try.func35, Try.ntmps35
  go_wp2_with fail
  have hB0 : Below w.heap.size w (w.alloc (.cells #[.int .i64 0, .int .i64 0] 41)) := (Below.refl _ w).alloc (Nat.le_refl _) _
  have hX0 : Blk (w.alloc (.cells #[.int .i64 0, .int .i64 0] 41)) w.heap.size 41 #[.int .i64 0, .int .i64 0] := Go.heap_alloc_new w _
  generalize w.alloc (.cells #[.int .i64 0, .int .i64 0] 41) = Wa at hB0 hX0 ⊢
  refine (HWh.out _ hB0).mono ?_
  rintro e Wb ⟨rfl, hBb⟩
  have hX := hX0.keep (S := fun _ => False) (Kept.fresh hBb) (fun q => q)
  have HB := Lib.hid (hB0.trans (hBb.mono hB0.size))
  clear hBb hB0 hX0
  have HX := Lib.hid hX
  clear hX
  go_wp2_with fail
  refine (HF.out _ HB.out).mono ?_
  rintro e Wc ⟨⟨qb, rfl⟩, hBc⟩
  have HX2 := Lib.hid (HX.out.keep (S := fun _ => False) (Kept.fresh hBc) (fun q => q))
  have HB2 := Lib.hid (HB.out.trans (hBc.mono HB.out.size))
  clear hBc HX
  go_wp2_with fail
  rw [← He.out]
  go_loopw [8, 9, 31] (fun b m i wr => ∃ k : Nat, k ≤ n ∧ i = .int .i64 k ∧ b = .int .i64 ((bestTo l q k).1 : Nat) ∧ m = .int .i64 (bestTo l q k).2 ∧ Blk wr w.heap.size 41 #[.int .i64 0, .int .i64 0] ∧ Below w.heap.size w wr) (fun _ _ i _ => n - (intOf i).toNat)
  case atStart => exact ⟨0, Nat.zero_le _, rfl, rfl, rfl, HX2.out, HB2.out⟩
  case round =>
    obtain ⟨k, hk, rfl, rfl, rfl, hX, hB⟩ := hrel
    rename World => wr
    have HX := Lib.hid hX
    have HB := Lib.hid hB
    have hsz := hB.size
    have hsx : w.heap.size < wr.heap.size := lt_heap hX
    have hk0 : (0 : Int) ≤ (k : Int) := by omega
    by_cases hlt : k < n
    · have hlti : (k : Int) < (n : Int) := by omega
      have hkl : k < l.length := by rw [← Hn.out]; exact hlt
      obtain ⟨b, off, Ak, ck, A2k, c2k, rfl, hb, hx⟩ := HI.out.at_ hkl
      replace hx := (hx.keep (w' := wr) hb (fun p hp => hB.cell hp)).more hB.size
      obtain ⟨c0, c1, c2, c3, c4, c5, c6, hU, hV⟩ := hx
      have hf1 := (HO.out.ok k hkl).fb_in
      have hf2 := (HO.out.ok k hkl).fi_in
      have Hs : Hid (bestTo l q (k + 1) = if q ≤ (cyN l k).fi ∧ (bestTo l q k).2 < (cyN l k).fb then (k, (cyN l k).fb) else bestTo l q k) := rfl
      have hm : -1 ≤ (bestTo l q k).2 := by
        rcases HBi.out k (by rw [← Hn.out]; omega) with ⟨h, _⟩ | ⟨h1, h2, _⟩
        · omega
        · rw [h2]; have := (HO.out.ok (bestTo l q k).1 (by rw [← Hn.out]; omega)).fb_in; omega
      obtain ⟨x, hx⟩ : ∃ x, x = cyN l k := ⟨_, rfl⟩
      rw [← hx] at c0 c1 c2 c3 c4 c5 c6 hf1 hf2 Hs
      obtain ⟨⟨pb, pm⟩, hpe⟩ : ∃ p, p = bestTo l q k := ⟨_, rfl⟩
      rw [← hpe] at hm Hs ⊢
      dsimp only at hm ⊢
      clear hx hU hV hkl hB hX hpe
      obtain ⟨ix, bl, fb, fi, ro, us, is⟩ := x
      simp only at c0 c1 c2 c3 c4 c5 c6 hf1 hf2 Hs
      have f1 := hf1.1
      have f2 := hf1.2
      have f3 := hf2.1
      have f4 := hf2.2
      obtain ⟨n1, h1⟩ : ∃ n1, n1 = us.length := ⟨_, rfl⟩
      obtain ⟨n2, h2⟩ : ∃ n2, n2 = is.length := ⟨_, rfl⟩
      rw [← h1] at c5
      rw [← h2] at c6
      have HB3 := Lib.hid (HB.out.alloc hsz (.cells #[.int .i64 ix, .int .i64 bl, .int .i64 fb, .int .i64 fi, .int .i64 ro, .slice Ak n1 ck, .slice A2k n2 c2k] 24))
      have HX3 := Lib.hid ((Below.heap_alloc wr (.cells #[.int .i64 ix, .int .i64 bl, .int .i64 fb, .int .i64 fi, .int .i64 ro, .slice Ak n1 ck, .slice A2k n2 c2k] 24) _ hsx).trans HX.out)
      clear h1 h2 hf1 hf2
      by_cases hq : q ≤ fi
      · by_cases hm2 : pm < fb
        · go_wp2_with fail
          go_region
          all_goals
            go_wp2_with fail
            go_roundw
            case rel => exact ⟨k + 1, by omega, by go_num, by rw [Hs.out, if_pos ⟨hq, hm2⟩], by rw [Hs.out, if_pos ⟨hq, hm2⟩], HX3.out, HB3.out.drew⟩
            case measure => simp [intOf]; omega
        · go_wp2_with fail
          go_roundw
          case rel => exact ⟨k + 1, by omega, by go_num, by rw [Hs.out, if_neg (fun h => hm2 h.2)], by rw [Hs.out, if_neg (fun h => hm2 h.2)], HX3.out, HB3.out⟩
          case measure => simp [intOf]; omega
      · go_wp2_with fail
        go_roundw
        case rel => exact ⟨k + 1, by omega, by go_num, by rw [Hs.out, if_neg (fun h => hq h.1)], by rw [Hs.out, if_neg (fun h => hq h.1)], HX3.out, HB3.out⟩
        case measure => simp [intOf]; omega
    · have hlti : ¬ (k : Int) < (n : Int) := by omega
      obtain rfl : k = n := by omega
      have HInr := Lib.hid (HIn.out wr hB)
      obtain ⟨r, hr⟩ : ∃ r, r = inodeG l (bestTo l q k).1 := ⟨_, rfl⟩
      rw [← hr] at HInr HQ
      generalize (bestTo l q k).1 = pb at HInr ⊢
      clear hB hX hr
      go_wp2_with fail
      refine HInr.out.mono ?_
      rintro e w2 ⟨A', c', rfl, hG, hB2⟩
      have hX2 := HX.out.keep (S := fun _ => False) (Kept.fresh hB2) (fun q => q)
      have HB4 := Lib.hid (HB.out.trans (hB2.mono HB.out.size))
      have hsz2 := lt_heap hX2
      have r0 := cellAt_of hX2 0
      have r1 := cellAt_of hX2 1
      simp only [List.getElem?_toArray, List.getElem?_cons_zero, List.getElem?_cons_succ] at r0 r1
      have k0 := frozen_of_row w2 _ 0 _ 41 hX2
      have k1 := frozen_of_row w2 _ 1 _ 41 hX2
      have HG := Lib.hid hG
      clear hB2 hX2 hG
      go_wp2_with fail
      have hk3 : Kept w2 ((w2.setCell ⟨w.heap.size, 0, none⟩ (.int .i64 r.g)).setCell ⟨w.heap.size, 1, none⟩ (.int .i64 r.b)) (fun k => k = w.heap.size) := ((Kept.refl w2 (fun k => k = w.heap.size)).set (.inl rfl)).set (.inl rfl)
      exact bodyPost_ret (v := .tuple #[.slice A' r.l.length c', .agg #[.int .i64 r.g, .int .i64 r.b], .int .i64 r.e]) (by simp [results, Try.results35, go_sem, r0, r1]) rfl (HQ.out _ _ ⟨A', c', rfl, (HG.out.keep hk3 (fun b q => by have q' : b = w.heap.size := q; omega)).more (by omega), HB4.out.trans (hk3.below (fun b q => by have q' : b = w.heap.size := q; omega) HB4.out.size)⟩)

theorem dir_any (A : Option Addr) (c n : Nat) (l : List Cy) (hn : n = l.length) (w : World) (hs : SmallL l) (hI : Cyls w w.heap.size A l) :
    Calls Try.prog 35 #[.slice A n c] w (AnSays w (dirL l)) := by
  unfold dirL
  by_cases hW : wholeL l = true
  · rw [if_pos hW]
    by_cases h0 : freeI l = 0
    · rw [if_pos h0]; exact dir_space A c n l hn w hs hI hW h0
    · rw [if_neg h0]; exact dir_go A c n l hn w hs hI ((wholeL_iff l).1 hW) h0
  · rw [if_neg hW]; exact dir_form A c n l hn w hs hI (by simpa using hW)
end Go.Proofs.Ytpcindemkkdbbaa
