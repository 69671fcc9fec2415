/- The document's Depend. -/
import Derived.Test.YtdndchoghhllmaaRA
set_option linter.unusedVariables false
set_option linter.unusedSimpArgs false
namespace Go.Proofs.Ytdndchoghhllmaa
open Go.RowKit
/-- a new row of numbers laid into one of the document's groups -/
theorem new_nums {B : Nat} {w w4 : World} {r b i j c c4 : Nat} {A A5 : Option Addr} {L : List Gr} {k : Int} {q : Gr} {l : List Int} (h : RefAt B w r A c L k) (hA : A = some ⟨b, 0, none⟩) (hb : Below w.heap.size w w4) (hr : RowI w4 w.heap.size A5 c4 l) (hi : i < L.length) (hj : j < 4)
    (hq : q.cs = (grn L i).cs.set j (.slice A5 l.length c4)) (hn : (q.pa = A5 ∧ q.pc = c4 ∧ q.g.p = l ∧ RowI w B q.aa q.ac q.g.a) ∨ (RowI w B q.pa q.pc q.g.p ∧ q.aa = A5 ∧ q.ac = c4 ∧ q.g.a = l)) (hB : B ≤ w.heap.size) :
    w4.cell? ⟨b, i * 4 + j, none⟩ = (grn L i).cs[j]? ∧ w4.frozen? ⟨b, i * 4 + j, none⟩ = false ∧ b < w4.heap.size ∧ RefAt B (w4.setCell ⟨b, i * 4 + j, none⟩ (.slice A5 l.length c4)) r A c (L.set i q) k ∧ Kept w (w4.setCell ⟨b, i * 4 + j, none⟩ (.slice A5 l.length c4)) (OfR r A) := by
  have h4 := h.fresh hb
  have hr' : RowI w4 B A5 c4 l := ownBase hr hB
  obtain ⟨z1, z2⟩ := rset h4 (q := q) (u := .slice A5 l.length c4) hA hi hj hq rfl (by
    rcases hn with ⟨rfl, rfl, rfl, h1⟩ | ⟨h1, rfl, rfl, rfl⟩
    · exact ⟨hr', h1.fresh hb⟩
    · exact ⟨h1.fresh hb, hr'⟩)
  obtain ⟨b2, hA2, _, _, hb2, _, _, _, _, hf⟩ := h4.at_ hi
  obtain rfl : b = b2 := by rw [hA] at hA2; cases hA2; rfl
  refine ⟨?_, hf _, hb2, z1, (Kept.fresh (S := OfR r A) hb).trans z2 (fun b e => .inl e)⟩
  have hrow := h4.row
  rw [hA] at hrow
  rw [hrow.cellAt (i * 4 + j) (by omega), flatG_get hi hj]
section
variable (B r : Nat) (A : Option Addr) (c : Nat) (L : List Gr) (k n m : Int) (w : World)
set_option maxRecDepth 100000 in
set_option maxHeartbeats 800000 in
theorem rdepend_any (hC : RefAt B w r A c L k) (hl : L.length ≤ 1000) (hnd : (nos (gs L)).Nodup) (hal : (ofN (gs L) n).a.length ≤ 1000) (hB : B ≤ w.heap.size) :
    Calls Try.prog 44 #[.pointer (some ⟨r, 0, none⟩), .int .i64 n, .int .i64 m] w fun e w' => e = .returned (.int .i64 (Gs.dependE ⟨gs L, k⟩ n m)) ∧ RWent B w r A (if Gs.dependE ⟨gs L, k⟩ n m = 0 then Gs.depend ⟨gs L, k⟩ n m else ⟨gs L, k⟩) w' := by
  have HA := Lib.hid (fun x => rat_any B r A c L k x w hC hl)
  have HS := Lib.hid (RWent.same hC (Below.refl _ _))
  obtain ⟨c0, _⟩ := hC.hcells
  have hr := hC.glt
  by_cases hn : n ∈ nos (gs L)
  · obtain ⟨i, hi, e1, e2, e3⟩ := idxG_in hnd hn
    obtain ⟨bb, hA, h1, h2, hb, _, d1, _, d3, _⟩ := hC.at_ hi
    unfold maxLen at h2
    have hi0 : (0 : Int) ≤ (i : Int) := by omega
    have hii : (i : Int) < (L.length : Int) := by omega
    have hng : ¬ (i : Int) < 0 := by omega
    have E1 := Lib.hid e1
    by_cases hm : m ∈ nos (gs L)
    · obtain ⟨j, hj, e4, e5, _⟩ := idxG_in hnd hm
      obtain ⟨bb2, hA2, _, _, _, _, d4, _⟩ := hC.at_ hj
      obtain rfl : bb = bb2 := by rw [hA] at hA2; cases hA2; rfl
      clear hA2
      have hj0 : (0 : Int) ≤ (j : Int) := by omega
      have hji : (j : Int) < (L.length : Int) := by omega
      have hjg : ¬ (j : Int) < 0 := by omega
      have E4 := Lib.hid e4
      have hE : Gs.dependE ⟨gs L, k⟩ n m = if (grn L i).g.s ≠ 1 ∨ (grn L j).g.s ≠ 4 then 13 else 0 := by unfold Gs.dependE; rw [if_neg (fun q => q ⟨hn, hm⟩), ← e2, ← e5]
      by_cases h0 : (grn L i).g.s = 1 ∧ (grn L j).g.s = 4
      · have H0 : Hid (Gs.dependE ⟨gs L, k⟩ n m = 0) := by unfold Hid; rw [hE, if_neg (fun q => q.elim (fun z => z h0.1) (fun z => z h0.2))]
        have hx : (((grn L i).g.s : Int) != 1) = false := by have := h0.1; simp; omega
        have hy : (((grn L j).g.s : Int) != 4) = false := by have := h0.2; simp; omega
        rw [H0.out, if_pos rfl]
        obtain ⟨i0, hi0', hz0, hz1, hz2⟩ := info_parts infoI
        have hrow := (hC.nums _ (grn_mem hi)).2
        have B0 : Hid (Below w.heap.size w w.drew) := (Below.refl _ _).drew
        have HKeep : Hid (∀ V, Below w.heap.size w V → V.cell? ⟨r, 0, none⟩ = some (.slice A L.length c) ∧ V.cell? ⟨bb, i * 4 + 3, none⟩ = some (.slice (grn L i).aa (grn L i).g.a.length (grn L i).ac)) := fun V hV => ⟨(hC.fresh hV).hcells.1, (hV.cell (p := ⟨bb, i * 4 + 3, none⟩) hb).trans d3⟩
        have Hsrc : Hid (∀ V, Below w.heap.size w V → ∀ ad, (grn L i).aa = some ad → ∀ j u, (intsV (grn L i).g.a)[j]? = some u → V.cell? (ad.add j) = some u) := fun V hV => (row_srcI (hrow.fresh hV)).1
        have Hnil : Hid ((grn L i).aa = none → (grn L i).g.a.length = 0) := (row_srcI hrow).2
        have Hfl : Hid ((intsV (grn L i).g.a).length = (grn L i).g.a.length * 1) := by unfold Hid; rw [length_intsV]; omega
        have Hone := Lib.hid (intsV_one (grn L i).g.a)
        have HNew : Hid (∀ V, Below w.heap.size w V → Below w.heap.size w (V.alloc (.cells #[] 3)) ∧ (V.alloc (.cells #[] 3)).ownsRow w.heap.size 3 1 (.slice (some ⟨V.heap.size, 0, none⟩) 0 0) 0 [] ∧ V.heap.size < (V.alloc (.cells #[] 3)).heap.size) := fun V hV =>
          ⟨hV.alloc hV.size _, World.ownsRow_made V #[] 0 hV.size (by simp) (by simp), by simp⟩
        have HOne : Hid (∀ V, Below w.heap.size w V → Below w.heap.size w (V.alloc (.cells #[.int .i64 m] 3)) ∧ (V.alloc (.cells #[.int .i64 m] 3)).heap[V.heap.size]? = some (.cells #[.int .i64 m] 3 (0, 0)) ∧ V.heap.size < (V.alloc (.cells #[.int .i64 m] 3)).heap.size) := fun V hV =>
          ⟨hV.alloc hV.size _, heap_alloc_new V _, by simp⟩
        have HBs : Hid (∀ (V : World) b, V.heap[b]? = some (.cells #[.int .i64 m] 3 (0, 0)) → ∀ ad, some (⟨b, 0, none⟩ : Addr) = some ad → ∀ j u, [Value.int .i64 m][j]? = some u → V.cell? (ad.add j) = some u) := fun V b h ad e j u hu => by cases e; exact World.news_of_block h j u hu
        have HoneB : Hid (∀ u ∈ [Value.int .i64 m], u.oneCell' = true) := by intro u hu; simp at hu; rw [hu]; rfl
        have HGr : Hid (∀ V V' A1 n c1 (row : Option Nat), Below w.heap.size w V → (∀ b, row = some b → w.heap.size ≤ b) → V.grownBy V' row → V'.ownsRow w.heap.size 3 1 (.slice A1 n c1) n (([] : List Value) ++ intsV (grn L i).g.a) → Below w.heap.size w V' ∧ V'.ownsRow w.heap.size 3 1 (.slice A1 n c1) n (intsV (grn L i).g.a)) := fun V V' A1 n c1 row hV hrow hg ho => ⟨hV.grown hg hV.size hrow, ho⟩
        have HFin : Hid (∀ V V' A2 c2 (row : Option Nat), Below w.heap.size w V → (∀ b, row = some b → w.heap.size ≤ b) → V.grownBy V' row → V'.ownsRow w.heap.size 3 1 (.slice A2 ((grn L i).g.a.length + 1) c2) ((grn L i).g.a.length + 1) (intsV (grn L i).g.a ++ [.int .i64 m]) →
            Below w.heap.size w V' ∧ V'.cell? ⟨bb, i * 4 + 3, none⟩ = some (.slice (grn L i).aa (grn L i).g.a.length (grn L i).ac) ∧ V'.frozen? ⟨bb, i * 4 + 3, none⟩ = false ∧ bb < V'.heap.size ∧ RWent B w r A (Gs.depend ⟨gs L, k⟩ n m) (V'.setCell ⟨bb, i * 4 + 3, none⟩ (.slice A2 ((grn L i).g.a.length + 1) c2))) := fun V V' A2 c2 row hV hrow2 hg ho => by
          have hbw := hV.grown hg hV.size hrow2
          have ho' : RowI V' w.heap.size A2 c2 ((grn L i).g.a ++ [m]) := by unfold RowI; rw [List.length_append, intsV_append]; exact ho
          obtain ⟨y1, y2, y3, z1, z2⟩ := new_nums (q := ⟨{ (grn L i).g with a := (grn L i).g.a ++ [m] }, (grn L i).pa, (grn L i).pc, A2, c2⟩) hC hA hbw ho' hi (show 3 < 4 by omega) rfl (.inr ⟨(hC.nums _ (grn_mem hi)).1, rfl, rfl, rfl⟩) hB
          rw [List.length_append] at z1 z2
          refine ⟨hbw, y1, y2, y3, A, c, _, z1, ?_, z2, fun b e => .inl e⟩
          rw [gs_set]
          have := put_set hnd (n := n) (f := fun g => { g with a := g.a ++ [m] }) (k := i) (by rw [length_gs]; exact hi) (by rw [gs_at hi]; exact e3)
          rw [gs_at hi] at this
          exact this.symm
        have X := Lib.hid (HKeep.out _ B0.out)
        rw [← e2] at hal
        subst hA
        clear hC hn hm hnd e1 e2 e3 e4 e5 hE h0 hrow
        generalize (grn L i).g.s = si at *
        generalize (grn L j).g.s = sj at *
        generalize intsV (grn L i).g.a = fl at *
        generalize (grn L i).g.a.length = len at *
        generalize (grn L i).aa = aA at *
        generalize (grn L i).ac = aC at *
        go_enter Try.func44, Try.ntmps44
        go_wp2_with (refine (HA.out _).mono ?_; rintro e w' ⟨rfl, rfl⟩; first | rw [E1.out] | rw [E4.out] | skip)
        refine beginZ (fun V => V.cell? ⟨r, 0, none⟩ = some (.slice (some ⟨bb, 0, none⟩) L.length c) ∧ V.cell? ⟨bb, i * 4 + 3, none⟩ = some (.slice aA len aC)) 20 (by kernel_rfl) (X.out) (fun hHeld => ?_)
        generalize w.drew = w0 at *
        refine takeZ 0 [19, 18, 3, 2, 1, 0] (some 46) (v := ?_) rfl rfl (by kernel_rfl) (by kernel_rfl) (by kernel_rfl) (by kernel_rfl) (by kernel_rfl) (fun _ _ _ h => h) (by rfl) ?_ (by assumption) ?_
        rotate_left
        · (intro w hSw; (try dsimp only at hSw); go_simp; try with_reducible rfl)
        simp only [Act.put, List.setIfInBounds_toArray, List.set_cons_zero, List.set_cons_succ]
        refine takeZ 1 [19, 18, 3, 2, 1] (some 47) (v := ?_) rfl rfl (by kernel_rfl) (by kernel_rfl) (by kernel_rfl) (by kernel_rfl) (by kernel_rfl) (fun _ _ _ h => h) (by rfl) ?_ (by assumption) ?_
        rotate_left
        · (intro w hSw; (try dsimp only at hSw); go_simp; try with_reducible rfl)
        simp only [Act.put, List.setIfInBounds_toArray, List.set_cons_zero, List.set_cons_succ]
        refine takeZ 2 [19, 18, 3, 2] (some 48) (v := ?_) rfl rfl (by kernel_rfl) (by kernel_rfl) (by kernel_rfl) (by kernel_rfl) (by kernel_rfl) (fun _ _ _ h => h) (by rfl) ?_ (by assumption) ?_
        rotate_left
        · (intro w hSw; (try dsimp only at hSw); go_simp; try with_reducible rfl)
        simp only [Act.put, List.setIfInBounds_toArray, List.set_cons_zero, List.set_cons_succ]
        refine takeZ 3 [19, 18, 3] (some 49) (v := ?_) rfl rfl (by kernel_rfl) (by kernel_rfl) (by kernel_rfl) (by kernel_rfl) (by kernel_rfl) (fun _ _ _ h => h) (by rfl) ?_ (by assumption) ?_
        rotate_left
        · (intro w hSw; (try dsimp only at hSw); go_simp; try with_reducible rfl)
        simp only [Act.put, List.setIfInBounds_toArray, List.set_cons_zero, List.set_cons_succ]
        refine takeZ 4 [19, 18, 4] (some 50) (v := ?_) rfl rfl (by kernel_rfl) (by kernel_rfl) (by kernel_rfl) (by kernel_rfl) (by kernel_rfl) (fun _ _ _ h => h) (by rfl) ?_ (by assumption) ?_
        rotate_left
        · (intro w hSw; (try dsimp only at hSw); go_simp; try with_reducible rfl)
        simp only [Act.put, List.setIfInBounds_toArray, List.set_cons_zero, List.set_cons_succ]
        refine takeZ 6 [17, 14, 13, 12, 11, 9, 8, 7, 6] (some 52) (v := ?_) rfl rfl (by kernel_rfl) (by kernel_rfl) (by kernel_rfl) (by kernel_rfl) (by kernel_rfl) (fun _ _ _ h => h) (by rfl) ?_ (by assumption) ?_
        rotate_left
        · (intro w hSw; (try dsimp only at hSw); go_simp; try with_reducible rfl)
        simp only [Act.put, List.setIfInBounds_toArray, List.set_cons_zero, List.set_cons_succ]
        refine takeZ 7 [17, 14, 13, 12, 11, 9, 8, 7] (some 53) (v := ?_) rfl rfl (by kernel_rfl) (by kernel_rfl) (by kernel_rfl) (by kernel_rfl) (by kernel_rfl) (fun _ _ _ h => h) (by rfl) ?_ (by assumption) ?_
        rotate_left
        · (intro w hSw; (try dsimp only at hSw); go_simp; try with_reducible rfl)
        simp only [Act.put, List.setIfInBounds_toArray, List.set_cons_zero, List.set_cons_succ]
        refine takeZ 8 [17, 14, 13, 12, 11, 9, 8] (some 54) (v := ?_) rfl rfl (by kernel_rfl) (by kernel_rfl) (by kernel_rfl) (by kernel_rfl) (by kernel_rfl) (fun _ _ _ h => h) (by rfl) ?_ (by assumption) ?_
        rotate_left
        · (intro w hSw; (try dsimp only at hSw); go_simp; try with_reducible rfl)
        simp only [Act.put, List.setIfInBounds_toArray, List.set_cons_zero, List.set_cons_succ]
        refine takeZ 9 [17, 14, 13, 12, 11, 9] (some 55) (v := ?_) rfl rfl (by kernel_rfl) (by kernel_rfl) (by kernel_rfl) (by kernel_rfl) (by kernel_rfl) (fun _ _ _ h => h) (by rfl) ?_ (by assumption) ?_
        rotate_left
        · (intro w hSw; (try dsimp only at hSw); go_simp; try with_reducible rfl)
        simp only [Act.put, List.setIfInBounds_toArray, List.set_cons_zero, List.set_cons_succ]
        refine takeZ 10 [17, 14, 13, 12, 11, 10] (some 56) (v := ?_) rfl rfl (by kernel_rfl) (by kernel_rfl) (by kernel_rfl) (by kernel_rfl) (by kernel_rfl) (fun _ _ _ h => h) (by rfl) ?_ (by assumption) ?_
        rotate_left
        · (intro w hSw; (try dsimp only at hSw); go_simp; try with_reducible rfl)
        simp only [Act.put, List.setIfInBounds_toArray, List.set_cons_zero, List.set_cons_succ]
        refine takeZ 11 [17, 14, 13, 12, 11] (some 57) (v := ?_) rfl rfl (by kernel_rfl) (by kernel_rfl) (by kernel_rfl) (by kernel_rfl) (by kernel_rfl) (fun _ _ _ h => h) (by rfl) ?_ (by assumption) ?_
        rotate_left
        · (intro w hSw; (try dsimp only at hSw); go_simp; try with_reducible rfl)
        simp only [Act.put, List.setIfInBounds_toArray, List.set_cons_zero, List.set_cons_succ]
        refine takeZ 12 [17, 14, 13, 12] (some 58) (v := ?_) rfl rfl (by kernel_rfl) (by kernel_rfl) (by kernel_rfl) (by kernel_rfl) (by kernel_rfl) (fun _ _ _ h => h) (by rfl) ?_ (by assumption) ?_
        rotate_left
        · (intro w hSw; (try dsimp only at hSw); go_simp; try with_reducible rfl)
        simp only [Act.put, List.setIfInBounds_toArray, List.set_cons_zero, List.set_cons_succ]
        refine takeZ 13 [17, 14, 13] (some 59) (v := ?_) rfl rfl (by kernel_rfl) (by kernel_rfl) (by kernel_rfl) (by kernel_rfl) (by kernel_rfl) (fun _ _ _ h => h) (by rfl) ?_ (by assumption) ?_
        rotate_left
        · (intro w hSw; (try dsimp only at hSw); go_simp; try with_reducible rfl)
        simp only [Act.put, List.setIfInBounds_toArray, List.set_cons_zero, List.set_cons_succ]
        refine takeZ 15 [17, 16, 15] (some 61) (v := ?_) rfl rfl (by kernel_rfl) (by kernel_rfl) (by kernel_rfl) (by kernel_rfl) (by kernel_rfl) (fun _ _ _ h => h) (by rfl) ?_ (by assumption) ?_
        rotate_left
        · (intro w hSw; (try dsimp only at hSw); go_simp; try with_reducible rfl)
        simp only [Act.put, List.setIfInBounds_toArray, List.set_cons_zero, List.set_cons_succ]
        refine readyZ (rs := [5, 16]) (by kernel_rfl) (by simp) ?_
        refine AllZ.cons rfl (fun K hK => ?_) (AllZ.cons rfl (fun K hK => ?_) AllZ.nil)
        · go_simp
          obtain ⟨hb1, ho1, hl1⟩ := HNew.out w0 B0.out
          generalize hW1 : w0.alloc (.cells #[] 3) = W1 at *
          clear hW1
          have HB1 := Lib.hid hb1
          have HO1 := Lib.hid ho1
          have HL1 := Lib.hid hl1
          clear hb1 ho1 hl1
          refine hK _ _ (fun _ => HKeep.out _ HB1.out) (fun hHeld => ?_)
          clear hK K
          try simp only [Act.put, List.setIfInBounds_toArray, List.set_cons_zero, List.set_cons_succ]
          replace hHeld := hHeld (by decide)
          refine readyZ (rs := [14, 16]) (by kernel_rfl) (by simp) ?_
          refine AllZ.cons rfl (fun K hK => ?_) (AllZ.cons rfl (fun K hK => ?_) AllZ.nil)
          · refine step_append_src rfl (.tmp 51) (.tmp 59) 30 rfl w.heap.size 3 i0 (.int .i64 0) 1 8 Try.underlying30 hi0' hz0 hz1 hz2 rfl (by decide) (.slice (some ⟨w0.heap.size, 0, none⟩) 0 0) 0 [] rfl HO1.out aA len aC fl rfl Hfl.out (Hsrc.out _ HB1.out) Hnil.out Hone.out (by unfold maxLen; omega) (by omega) HB1.out.size len (by omega) ?_
            intro A3 c3 w3 ho3 hg3 hor3
            obtain ⟨hb3, ho3b⟩ := HGr.out _ _ _ _ _ _ HB1.out (fun b e => (HO1.out.lt b e).1) hg3 ho3
            have HB3 := Lib.hid hb3
            have HO3 := Lib.hid ho3b
            clear ho3 hg3 hor3 hb3 ho3b
            refine hK _ _ (fun _ => HKeep.out _ HB3.out) (fun hHeld => ?_)
            clear hK K
            try simp only [Act.put, List.setIfInBounds_toArray, List.set_cons_zero, List.set_cons_succ]
            replace hHeld := hHeld (by decide)
            refine readyZ (rs := [16]) (by kernel_rfl) (by simp) ?_
            refine AllZ.cons rfl (fun K hK => ?_) AllZ.nil
            go_simp
            obtain ⟨hb5, ht5, hl5⟩ := HOne.out w3 HB3.out
            have HB5 := Lib.hid hb5
            have HT5 := Lib.hid ht5
            have HO5 := Lib.hid (HO3.out.alloc (.cells #[.int .i64 m] 3))
            clear hb5 ht5 hl5
            refine hK _ _ (fun _ => HKeep.out _ HB5.out) (fun hHeld => ?_)
            clear hK K
            try simp only [Act.put, List.setIfInBounds_toArray, List.set_cons_zero, List.set_cons_succ]
            replace hHeld := hHeld (by decide)
            refine readyZ (rs := [17]) (by kernel_rfl) (by simp) ?_
            refine AllZ.cons rfl (fun K hK => ?_) AllZ.nil
            refine step_append_src rfl (.tmp 60) (.tmp 62) 30 rfl w.heap.size 3 i0 (.int .i64 0) 1 8 Try.underlying30 hi0' hz0 hz1 hz2 rfl (by decide) (.slice A3 len c3) len fl rfl HO5.out (some ⟨w3.heap.size, 0, none⟩) 1 1 [.int .i64 m] rfl rfl (HBs.out _ _ HT5.out) (fun e => by cases e) HoneB.out (by unfold maxLen; omega) (by omega) HB5.out.size (len + 1) rfl ?_
            intro A4 c4 w4 ho4 hg4 hor4
            have HO4 := Lib.hid ho4
            have HG4 := Lib.hid hg4
            clear ho4 hg4 hor4
            refine hK _ _ (fun _ => HKeep.out _ (HB5.out.grown HG4.out HB5.out.size (fun b e => (HO5.out.lt b e).1))) (fun hHeld => ?_)
            clear hK K
            try simp only [Act.put, List.setIfInBounds_toArray, List.set_cons_zero, List.set_cons_succ]
            replace hHeld := hHeld (by decide)
            refine takeZ 18 [19, 18] (some 64) (v := ?_) rfl rfl (by kernel_rfl) (by kernel_rfl) (by kernel_rfl) (by kernel_rfl) (by kernel_rfl) (fun _ _ _ h => h) (by rfl) ?_ (by assumption) ?_
            rotate_left
            · (intro w hSw; (try dsimp only at hSw); go_simp; try with_reducible rfl)
            simp only [Act.put, List.setIfInBounds_toArray, List.set_cons_zero, List.set_cons_succ]
            refine takeZ 19 [19] (some 65) (v := ?_) rfl rfl (by kernel_rfl) (by kernel_rfl) (by kernel_rfl) (by kernel_rfl) (by kernel_rfl) (fun _ _ _ h => h) (by rfl) ?_ (by assumption) ?_
            rotate_left
            · (intro w hSw; (try dsimp only at hSw); go_simp; try with_reducible rfl)
            simp only [Act.put, List.setIfInBounds_toArray, List.set_cons_zero, List.set_cons_succ]
            refine readyZ (rs := [20]) (by kernel_rfl) (by simp) ?_
            refine AllZ.cons rfl (fun K hK => ?_) AllZ.nil
            have HZ := Lib.hid (HFin.out (w3.alloc (.cells #[.int .i64 m] 3)) w4 A4 c4 (Value.slice A3 len c3).ownBlock HB5.out (fun b e => (World.ownsRow.lt HO5.out b e).1) HG4.out HO4.out)
            have d9 := HZ.out.2.1
            have f9 := HZ.out.2.2.1
            have l9 := HZ.out.2.2.2.1
            go_simp
            refine hK _ _ (fun e => absurd rfl e) (fun hHeld => ?_)
            clear hK K
            try simp only [Act.put, List.setIfInBounds_toArray, List.set_cons_zero, List.set_cons_succ]
            refine doneZ (by kernel_rfl) ?_ _
            have HE := Lib.hid HZ.out.2.2.2.2
            clear HZ d9 f9 l9
            generalize w4.setCell ⟨bb, i * 4 + 3, none⟩ (.slice A4 (len + 1) c4) = W at *
            go_wp2
            go_ret
            exact ⟨rfl, HE.out⟩
          · go_simp
            obtain ⟨hb2, ht2, hl2⟩ := HOne.out W1 HB1.out
            have HB2 := Lib.hid hb2
            have HT2 := Lib.hid ht2
            have HO2 := Lib.hid (HO1.out.alloc (.cells #[.int .i64 m] 3))
            have HL2 := Lib.hid hl2
            have HN2 := Lib.hid (Nat.ne_of_gt HL1.out)
            clear hb2 ht2 hl2
            refine hK _ _ (fun _ => HKeep.out _ HB2.out) (fun hHeld => ?_)
            clear hK K
            try simp only [Act.put, List.setIfInBounds_toArray, List.set_cons_zero, List.set_cons_succ]
            replace hHeld := hHeld (by decide)
            refine readyZ (rs := [14]) (by kernel_rfl) (by simp) ?_
            refine AllZ.cons rfl (fun K hK => ?_) AllZ.nil
            refine step_append_src rfl (.tmp 51) (.tmp 59) 30 rfl w.heap.size 3 i0 (.int .i64 0) 1 8 Try.underlying30 hi0' hz0 hz1 hz2 rfl (by decide) (.slice (some ⟨w0.heap.size, 0, none⟩) 0 0) 0 [] rfl HO2.out aA len aC fl rfl Hfl.out (Hsrc.out _ HB2.out) Hnil.out Hone.out (by unfold maxLen; omega) (by omega) HB2.out.size len (by omega) ?_
            intro A3 c3 w3 ho3 hg3 hor3
            obtain ⟨hb3, ho3b⟩ := HGr.out _ _ _ _ _ _ HB2.out (fun b e => (HO2.out.lt b e).1) hg3 ho3
            have HB3 := Lib.hid hb3
            have HO3 := Lib.hid ho3b
            have HT3 := Lib.hid ((hg3.block _ HL2.out (fun e => HN2.out (Option.some.inj e))).trans HT2.out)
            clear ho3 hg3 hor3 hb3 ho3b
            refine hK _ _ (fun _ => HKeep.out _ HB3.out) (fun hHeld => ?_)
            clear hK K
            try simp only [Act.put, List.setIfInBounds_toArray, List.set_cons_zero, List.set_cons_succ]
            replace hHeld := hHeld (by decide)
            refine readyZ (rs := [17]) (by kernel_rfl) (by simp) ?_
            refine AllZ.cons rfl (fun K hK => ?_) AllZ.nil
            refine step_append_src rfl (.tmp 60) (.tmp 62) 30 rfl w.heap.size 3 i0 (.int .i64 0) 1 8 Try.underlying30 hi0' hz0 hz1 hz2 rfl (by decide) (.slice A3 len c3) len fl rfl HO3.out (some ⟨W1.heap.size, 0, none⟩) 1 1 [.int .i64 m] rfl rfl (HBs.out _ _ HT3.out) (fun e => by cases e) HoneB.out (by unfold maxLen; omega) (by omega) HB3.out.size (len + 1) rfl ?_
            intro A4 c4 w4 ho4 hg4 hor4
            have HO4 := Lib.hid ho4
            have HG4 := Lib.hid hg4
            clear ho4 hg4 hor4
            refine hK _ _ (fun _ => HKeep.out _ (HB3.out.grown HG4.out HB3.out.size (fun b e => (HO3.out.lt b e).1))) (fun hHeld => ?_)
            clear hK K
            try simp only [Act.put, List.setIfInBounds_toArray, List.set_cons_zero, List.set_cons_succ]
            replace hHeld := hHeld (by decide)
            refine takeZ 18 [19, 18] (some 64) (v := ?_) rfl rfl (by kernel_rfl) (by kernel_rfl) (by kernel_rfl) (by kernel_rfl) (by kernel_rfl) (fun _ _ _ h => h) (by rfl) ?_ (by assumption) ?_
            rotate_left
            · (intro w hSw; (try dsimp only at hSw); go_simp; try with_reducible rfl)
            simp only [Act.put, List.setIfInBounds_toArray, List.set_cons_zero, List.set_cons_succ]
            refine takeZ 19 [19] (some 65) (v := ?_) rfl rfl (by kernel_rfl) (by kernel_rfl) (by kernel_rfl) (by kernel_rfl) (by kernel_rfl) (fun _ _ _ h => h) (by rfl) ?_ (by assumption) ?_
            rotate_left
            · (intro w hSw; (try dsimp only at hSw); go_simp; try with_reducible rfl)
            simp only [Act.put, List.setIfInBounds_toArray, List.set_cons_zero, List.set_cons_succ]
            refine readyZ (rs := [20]) (by kernel_rfl) (by simp) ?_
            refine AllZ.cons rfl (fun K hK => ?_) AllZ.nil
            have HZ := Lib.hid (HFin.out w3 w4 A4 c4 (Value.slice A3 len c3).ownBlock HB3.out (fun b e => (World.ownsRow.lt HO3.out b e).1) HG4.out HO4.out)
            have d9 := HZ.out.2.1
            have f9 := HZ.out.2.2.1
            have l9 := HZ.out.2.2.2.1
            go_simp
            refine hK _ _ (fun e => absurd rfl e) (fun hHeld => ?_)
            clear hK K
            try simp only [Act.put, List.setIfInBounds_toArray, List.set_cons_zero, List.set_cons_succ]
            refine doneZ (by kernel_rfl) ?_ _
            have HE := Lib.hid HZ.out.2.2.2.2
            clear HZ d9 f9 l9
            generalize w4.setCell ⟨bb, i * 4 + 3, none⟩ (.slice A4 (len + 1) c4) = W at *
            go_wp2
            go_ret
            exact ⟨rfl, HE.out⟩
        · go_simp
          obtain ⟨hb1, ht1, hl1⟩ := HOne.out w0 B0.out
          generalize hW1 : w0.alloc (.cells #[.int .i64 m] 3) = W1 at *
          clear hW1
          have HB1 := Lib.hid hb1
          have HT1 := Lib.hid ht1
          have HL1 := Lib.hid hl1
          clear hb1 ht1 hl1
          refine hK _ _ (fun _ => HKeep.out _ HB1.out) (fun hHeld => ?_)
          clear hK K
          try simp only [Act.put, List.setIfInBounds_toArray, List.set_cons_zero, List.set_cons_succ]
          replace hHeld := hHeld (by decide)
          refine readyZ (rs := [5]) (by kernel_rfl) (by simp) ?_
          refine AllZ.cons rfl (fun K hK => ?_) AllZ.nil
          go_simp
          obtain ⟨hb2, ho2, hl2⟩ := HNew.out W1 HB1.out
          have HB2 := Lib.hid hb2
          have HO2 := Lib.hid ho2
          have HT2 := Lib.hid ((heap_alloc_old W1 (.cells #[] 3) HL1.out).trans HT1.out)
          have HL2 := Lib.hid (Nat.lt_trans HL1.out hl2)
          have HN2 := Lib.hid (Nat.ne_of_lt HL1.out)
          clear hb2 ho2 hl2
          refine hK _ _ (fun _ => HKeep.out _ HB2.out) (fun hHeld => ?_)
          clear hK K
          try simp only [Act.put, List.setIfInBounds_toArray, List.set_cons_zero, List.set_cons_succ]
          replace hHeld := hHeld (by decide)
          refine readyZ (rs := [14]) (by kernel_rfl) (by simp) ?_
          refine AllZ.cons rfl (fun K hK => ?_) AllZ.nil
          refine step_append_src rfl (.tmp 51) (.tmp 59) 30 rfl w.heap.size 3 i0 (.int .i64 0) 1 8 Try.underlying30 hi0' hz0 hz1 hz2 rfl (by decide) (.slice (some ⟨W1.heap.size, 0, none⟩) 0 0) 0 [] rfl HO2.out aA len aC fl rfl Hfl.out (Hsrc.out _ HB2.out) Hnil.out Hone.out (by unfold maxLen; omega) (by omega) HB2.out.size len (by omega) ?_
          intro A3 c3 w3 ho3 hg3 hor3
          obtain ⟨hb3, ho3b⟩ := HGr.out _ _ _ _ _ _ HB2.out (fun b e => (HO2.out.lt b e).1) hg3 ho3
          have HB3 := Lib.hid hb3
          have HO3 := Lib.hid ho3b
          have HT3 := Lib.hid ((hg3.block _ HL2.out (fun e => HN2.out (Option.some.inj e))).trans HT2.out)
          clear ho3 hg3 hor3 hb3 ho3b
          refine hK _ _ (fun _ => HKeep.out _ HB3.out) (fun hHeld => ?_)
          clear hK K
          try simp only [Act.put, List.setIfInBounds_toArray, List.set_cons_zero, List.set_cons_succ]
          replace hHeld := hHeld (by decide)
          refine readyZ (rs := [17]) (by kernel_rfl) (by simp) ?_
          refine AllZ.cons rfl (fun K hK => ?_) AllZ.nil
          refine step_append_src rfl (.tmp 60) (.tmp 62) 30 rfl w.heap.size 3 i0 (.int .i64 0) 1 8 Try.underlying30 hi0' hz0 hz1 hz2 rfl (by decide) (.slice A3 len c3) len fl rfl HO3.out (some ⟨w0.heap.size, 0, none⟩) 1 1 [.int .i64 m] rfl rfl (HBs.out _ _ HT3.out) (fun e => by cases e) HoneB.out (by unfold maxLen; omega) (by omega) HB3.out.size (len + 1) rfl ?_
          intro A4 c4 w4 ho4 hg4 hor4
          have HO4 := Lib.hid ho4
          have HG4 := Lib.hid hg4
          clear ho4 hg4 hor4
          refine hK _ _ (fun _ => HKeep.out _ (HB3.out.grown HG4.out HB3.out.size (fun b e => (HO3.out.lt b e).1))) (fun hHeld => ?_)
          clear hK K
          try simp only [Act.put, List.setIfInBounds_toArray, List.set_cons_zero, List.set_cons_succ]
          replace hHeld := hHeld (by decide)
          refine takeZ 18 [19, 18] (some 64) (v := ?_) rfl rfl (by kernel_rfl) (by kernel_rfl) (by kernel_rfl) (by kernel_rfl) (by kernel_rfl) (fun _ _ _ h => h) (by rfl) ?_ (by assumption) ?_
          rotate_left
          · (intro w hSw; (try dsimp only at hSw); go_simp; try with_reducible rfl)
          simp only [Act.put, List.setIfInBounds_toArray, List.set_cons_zero, List.set_cons_succ]
          refine takeZ 19 [19] (some 65) (v := ?_) rfl rfl (by kernel_rfl) (by kernel_rfl) (by kernel_rfl) (by kernel_rfl) (by kernel_rfl) (fun _ _ _ h => h) (by rfl) ?_ (by assumption) ?_
          rotate_left
          · (intro w hSw; (try dsimp only at hSw); go_simp; try with_reducible rfl)
          simp only [Act.put, List.setIfInBounds_toArray, List.set_cons_zero, List.set_cons_succ]
          refine readyZ (rs := [20]) (by kernel_rfl) (by simp) ?_
          refine AllZ.cons rfl (fun K hK => ?_) AllZ.nil
          have HZ := Lib.hid (HFin.out w3 w4 A4 c4 (Value.slice A3 len c3).ownBlock HB3.out (fun b e => (World.ownsRow.lt HO3.out b e).1) HG4.out HO4.out)
          have d9 := HZ.out.2.1
          have f9 := HZ.out.2.2.1
          have l9 := HZ.out.2.2.2.1
          go_simp
          refine hK _ _ (fun e => absurd rfl e) (fun hHeld => ?_)
          clear hK K
          try simp only [Act.put, List.setIfInBounds_toArray, List.set_cons_zero, List.set_cons_succ]
          refine doneZ (by kernel_rfl) ?_ _
          have HE := Lib.hid HZ.out.2.2.2.2
          clear HZ d9 f9 l9
          generalize w4.setCell ⟨bb, i * 4 + 3, none⟩ (.slice A4 (len + 1) c4) = W at *
          go_wp2
          go_ret
          exact ⟨rfl, HE.out⟩
      · have H0 : Hid (Gs.dependE ⟨gs L, k⟩ n m = 13) := by unfold Hid; rw [hE, if_pos (by by_cases q : (grn L i).g.s = 1; exact .inr (fun z => h0 ⟨q, z⟩); exact .inl q)]
        rw [H0.out, if_neg (by decide)]
        subst hA
        by_cases hs1 : (grn L i).g.s = 1
        · have hx : (((grn L i).g.s : Int) != 1) = false := by simp; omega
          have hy : (((grn L j).g.s : Int) != 4) = true := by have : (grn L j).g.s ≠ 4 := fun z => h0 ⟨hs1, z⟩; simp; omega
          clear hC hn hm hnd e1 e2 e3 e4 e5 hE h0 hs1
          generalize (grn L i).g.s = si at *
          generalize (grn L j).g.s = sj at *
          go_enter Try.func44, Try.ntmps44
          go_wp2_with (refine (HA.out _).mono ?_; rintro e w' ⟨rfl, rfl⟩; first | rw [E1.out] | rw [E4.out] | skip)
          go_ret
          exact ⟨rfl, HS.out⟩
        · have hx : (((grn L i).g.s : Int) != 1) = true := by simp; omega
          clear hC hn hm hnd e1 e2 e3 e4 e5 hE h0 hs1
          generalize (grn L i).g.s = si at *
          go_enter Try.func44, Try.ntmps44
          go_wp2_with (refine (HA.out _).mono ?_; rintro e w' ⟨rfl, rfl⟩; first | rw [E1.out] | rw [E4.out] | skip)
          go_ret
          exact ⟨rfl, HS.out⟩
    · have e4 := idxG_out hm
      have H0 : Hid (Gs.dependE ⟨gs L, k⟩ n m = 5) := by unfold Hid Gs.dependE; rw [if_pos (fun q => hm q.2)]
      have E4 := Lib.hid e4
      rw [H0.out, if_neg (by decide)]
      clear hC hn hm hnd e1 e2 e3 e4
      go_enter Try.func44, Try.ntmps44
      go_wp2_with (refine (HA.out _).mono ?_; rintro e w' ⟨rfl, rfl⟩; first | rw [E1.out] | rw [E4.out] | skip)
      go_ret
      exact ⟨rfl, HS.out⟩
  · have e1 := idxG_out hn
    have H0 : Hid (Gs.dependE ⟨gs L, k⟩ n m = 5) := by unfold Hid Gs.dependE; rw [if_pos (fun q => hn q.1)]
    have E1 := Lib.hid e1
    have E4 := E1
    rw [H0.out, if_neg (by decide)]
    clear hC hn hnd e1
    go_enter Try.func44, Try.ntmps44
    go_wp2_with (refine (HA.out _).mono ?_; rintro e w' ⟨rfl, rfl⟩; first | rw [E1.out] | rw [E4.out] | skip)
    go_ret
    exact ⟨rfl, HS.out⟩
end
end Go.Proofs.Ytdndchoghhllmaa
