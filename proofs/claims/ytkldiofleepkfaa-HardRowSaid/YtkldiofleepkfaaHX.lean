/- May patches be added: refuses. -/
import Derived.Test.YtkldiofleepkfaaHW
set_option linter.unusedVariables false
set_option linter.unusedSimpArgs false
namespace Go.Proofs.Ytkldiofleepkfaa.Hd
open Go.RowKit
open Go.Maps (Keyed)
/-- how many wait -/
theorem HAt.wsize {w : World} {g gd n cc : Nat} {S : Nat → Bk} {k jo id : Int} {l : List Hw} {sent : List Int} {m : Lay} {Fd : Nat → Prop} (h : HAt w g gd n S cc k jo id l sent m Fd) : ∃ D : DataW Value, w.ownsMap Try.prog 3 RV m.gw cc D ∧ Maps.size D = l.length := by
  obtain ⟨D, h1, h2, h3⟩ := h.wmap
  refine ⟨D, h1, ?_⟩
  rw [keys_sizeH (nodup_rise (nums_rise h.ok.asc)) h1 h2]; simp [nums]
/-- how many units -/
theorem HAt.usize {w : World} {g gd n cc : Nat} {S : Nat → Bk} {k jo id : Int} {l : List Hw} {sent : List Int} {m : Lay} {Fd : Nat → Prop} (h : HAt w g gd n S cc k jo id l sent m Fd) : ∃ D : DataW Value, w.ownsMap Try.prog 3 RV m.gu cc D ∧ Maps.size D = (units l).length := by
  obtain ⟨D, h1, h2, h3⟩ := h.umap
  exact ⟨D, h1, keys_sizeH (nodup_rise (units_rise h.ok.asc)) h1 h2⟩
set_option maxRecDepth 100000 in
set_option maxHeartbeats 4000000 in
theorem refuses_any {w : World} {g gd n cc : Nat} {S : Nat → Bk} {k jo id : Int} {l : List Hw} {sent : List Int} {m : Lay} {Fd : Nat → Prop} (hE : HAt w g gd n S cc k jo id l sent m Fd) (F : Nat → Prop) (AI : Option Addr) (cI : Nat) (its : List It) (hI : ItemsF w F AI its) (hs : SmallI its) (hl : its.length ≤ 1000) :
    Calls Try.prog 19 #[.pointer (some ⟨g, 0, none⟩), .slice AI its.length cI] w fun e w' => e = .returned (.int .i64 (refusesE n k l.length its)) ∧ Below w.heap.size w w' := by
  have HE := Lib.hid hE
  have HI := Lib.hid hI
  have HSm := Lib.hid hs
  have hfew : l.length ≤ 200 := hE.few
  clear hE hI hs
  go_enter Try.func19, Try.ntmps19
  go_wp2
  go_loopw [13] (fun q wr => ∃ j : Nat, j ≤ its.length ∧ q = .int .i64 j ∧ Below w.heap.size w wr ∧ Hid (∀ t, t < j → badForm n (itN its t) = false)) (fun q _ => its.length - (intOf q).toNat)
  case atStart => exact ⟨0, Nat.zero_le _, rfl, Below.refl _ _, fun t ht => absurd ht (by omega)⟩
  case round =>
    obtain ⟨j, hj, rfl, hB, hno⟩ := hrel
    rename World => wr
    have HB := Lib.hid hB
    have hsz := hB.size
    by_cases hlt : j < its.length
    · have hlti : (j : Int) < (its.length : Int) := by omega
      have hj0 : (0 : Int) ≤ (j : Int) := by omega
      obtain ⟨ib, io, Ak, ck, rfl, hib, _, hx⟩ := (HI.out.fresh hB).at_ hlt
      obtain ⟨c0, c1, c2, c3, _⟩ := hx
      have hsm := HSm.out _ (itN_mem hlt)
      have Hat := Lib.hid (@form_at n its j hlt)
      have Hn1 : Hid (badForm n (itN its j) = false → ∀ t, t < j + 1 → badForm n (itN its t) = false) := fun h t ht => by
        rcases Nat.lt_or_ge t j with q | q
        · exact hno.out t q
        · obtain rfl : t = j := by omega
          exact h
      obtain ⟨x, hx⟩ : ∃ x, x = itN its j := ⟨_, rfl⟩
      rw [← hx] at c0 c1 c2 c3 hsm Hat Hn1
      clear hx hB
      obtain ⟨⟨b, o, s⟩, d⟩ := x
      dsimp only at c0 c1 c2 c3
      have hok : (Pt.mk b o s).ok := hsm.1
      have HR := Lib.hid (fun W => right_any ⟨b, o, s⟩ W hok)
      have HBF : Hid (badForm n ⟨⟨b, o, s⟩, d⟩ = (!(Pt.mk b o s).right || decide ((n : Int) ≤ b))) := rfl
      obtain ⟨r, hr⟩ : ∃ r, r = (Pt.mk b o s).right := ⟨_, rfl⟩
      rw [← hr] at HR HBF
      clear hok hsm hr
      unfold Pt.v at HR
      dsimp only at HR
      generalize d.length = dl at c3
      cases r with
      | false =>
        have Hbad : Hid (refusesE n k l.length its = 3) := by unfold Hid refusesE; rw [Hat.out (by rw [HBF.out]; rfl)]; rfl
        clear Hat Hn1
        go_wp2
        have hB1 : Below wr.heap.size wr (wr.alloc (.cells #[.int .i64 b, .int .i64 o, .string s, .slice Ak dl ck] 35)) := (Below.refl _ _).alloc (Nat.le_refl _) _
        have hp1 : (wr.alloc (.cells #[.int .i64 b, .int .i64 o, .string s, .slice Ak dl ck] 35)).heap[wr.heap.size]? = some (.cells #[.int .i64 b, .int .i64 o, .string s, .slice Ak dl ck] 35 (0, 0)) := heap_alloc_new wr _
        generalize wr.alloc (.cells #[.int .i64 b, .int .i64 o, .string s, .slice Ak dl ck] 35) = W1 at hB1 hp1 ⊢
        obtain ⟨p, hp⟩ : ∃ p, p = wr.heap.size := ⟨_, rfl⟩
        rw [← hp] at hp1 ⊢
        have hpW : p < W1.heap.size := (Array.getElem?_eq_some_iff.1 hp1).1
        have HB1 := Lib.hid (HB.out.trans (hB1.mono hsz))
        have HX : Hid (∀ W, Below W1.heap.size W1 W → W.cell? ⟨p, 0, none⟩ = some (.int .i64 b) ∧ W.cell? ⟨p, 1, none⟩ = some (.int .i64 o) ∧ W.cell? ⟨p, 2, none⟩ = some (.string s)) := fun W hW => by
          have hh := (hW.block _ hpW).trans hp1
          exact ⟨cell_of_row W _ 0 _ 35 (0, 0) hh, cell_of_row W _ 1 _ 35 (0, 0) hh, cell_of_row W _ 2 _ 35 (0, 0) hh⟩
        have X0 := Lib.hid (HX.out _ ((Below.refl _ _).drew))
        clear hp1 hB1 hp
        refine wp_region_held_drew (S := (fun W => W.cell? ⟨p, 0, none⟩ = some (.int .i64 b) ∧ W.cell? ⟨p, 1, none⟩ = some (.int .i64 o) ∧ W.cell? ⟨p, 2, none⟩ = some (.string s))) (by kernel_rfl) (X0.out) (fun hHeld => ?_)
        refine takeH (i := 0) (some 17) (v := ?_) rfl rfl (by kernel_rfl) (by kernel_rfl) (by kernel_rfl) (fun _ _ _ h => h) (by rfl) ?_ (by assumption) ?_
        rotate_left
        · (intro w hSw; (try dsimp only at hSw); go_simp; try with_reducible rfl)
        simp only [Act.put, List.setIfInBounds_toArray, List.set_cons_zero, List.set_cons_succ]
        refine takeH (i := 1) (some 18) (v := ?_) rfl rfl (by kernel_rfl) (by kernel_rfl) (by kernel_rfl) (fun _ _ _ h => h) (by rfl) ?_ (by assumption) ?_
        rotate_left
        · (intro w hSw; (try dsimp only at hSw); go_simp; try with_reducible rfl)
        simp only [Act.put, List.setIfInBounds_toArray, List.set_cons_zero, List.set_cons_succ]
        refine wpAnyH_ready (rs := [2]) (by kernel_rfl) (by simp) ?_
        refine AllReadyH.cons rfl (fun K hK => ?_) AllReadyH.nil
        go_simp
        refine (HR.out _).mono ?_
        rintro e w2 ⟨rfl, hb2⟩
        have HB2 : Hid (Below W1.heap.size W1 w2) := ((Below.refl _ _).drew).trans hb2
        clear hb2
        refine hK _ _ (HX.out _ HB2.out) (fun hHeld => ?_)
        clear hK K
        try simp only [Act.put, List.setIfInBounds_toArray, List.set_cons_zero, List.set_cons_succ]
        refine takeH (i := 3) (some 20) (v := ?_) rfl rfl (by kernel_rfl) (by kernel_rfl) (by kernel_rfl) (fun _ _ _ h => h) (by rfl) ?_ (by assumption) ?_
        rotate_left
        · (intro w hSw; (try dsimp only at hSw); go_simp; try with_reducible rfl)
        simp only [Act.put, List.setIfInBounds_toArray, List.set_cons_zero, List.set_cons_succ]
        refine takeH (i := 4) (some 21) (v := ?_) rfl rfl (by kernel_rfl) (by kernel_rfl) (by kernel_rfl) (fun _ _ _ h => h) (by rfl) ?_ (by assumption) ?_
        rotate_left
        · (intro w hSw; (try dsimp only at hSw); go_simp; try with_reducible rfl)
        simp only [Act.put, List.setIfInBounds_toArray, List.set_cons_zero, List.set_cons_succ]
        refine skipH (i := 5) (some 22) rfl rfl (by kernel_rfl) (by kernel_rfl) (by kernel_rfl) (fun _ _ _ h => h) (by rfl) (by assumption) ?_
        simp only [Act.put, List.setIfInBounds_toArray, List.set_cons_zero, List.set_cons_succ]
        refine skipH (i := 6) (some 23) rfl rfl (by kernel_rfl) (by kernel_rfl) (by kernel_rfl) (fun _ _ _ h => h) (by rfl) (by assumption) ?_
        simp only [Act.put, List.setIfInBounds_toArray, List.set_cons_zero, List.set_cons_succ]
        refine skipH (i := 7) (some 24) rfl rfl (by kernel_rfl) (by kernel_rfl) (by kernel_rfl) (fun _ _ _ h => h) (by rfl) (by assumption) ?_
        simp only [Act.put, List.setIfInBounds_toArray, List.set_cons_zero, List.set_cons_succ]
        refine skipH (i := 8) (some 25) rfl rfl (by kernel_rfl) (by kernel_rfl) (by kernel_rfl) (fun _ _ _ h => h) (by rfl) (by assumption) ?_
        simp only [Act.put, List.setIfInBounds_toArray, List.set_cons_zero, List.set_cons_succ]
        refine skipH (i := 9) (some 26) rfl rfl (by kernel_rfl) (by kernel_rfl) (by kernel_rfl) (fun _ _ _ h => h) (by rfl) (by assumption) ?_
        simp only [Act.put, List.setIfInBounds_toArray, List.set_cons_zero, List.set_cons_succ]
        refine skipH (i := 10) (some 27) rfl rfl (by kernel_rfl) (by kernel_rfl) (by kernel_rfl) (fun _ _ _ h => h) (by rfl) (by assumption) ?_
        simp only [Act.put, List.setIfInBounds_toArray, List.set_cons_zero, List.set_cons_succ]
        refine takeH (i := 11) (some 28) (v := ?_) rfl rfl (by kernel_rfl) (by kernel_rfl) (by kernel_rfl) (fun _ _ _ h => h) (by rfl) ?_ (by assumption) ?_
        rotate_left
        · (intro w hSw; (try dsimp only at hSw); go_simp; try with_reducible rfl)
        simp only [Act.put, List.setIfInBounds_toArray, List.set_cons_zero, List.set_cons_succ]
        refine wpAnyH_done (by kernel_rfl) ?_ _
        go_wp2
        go_ret
        rw [Hbad.out]
        exact ⟨rfl, HB1.out.trans (HB2.out.mono HB1.out.size)⟩
      | true =>
        by_cases hnb : (n : Int) ≤ b
        · have Hbad : Hid (refusesE n k l.length its = 3) := by unfold Hid refusesE; rw [Hat.out (by rw [HBF.out, decide_eq_true hnb]; rfl)]; rfl
          clear Hat Hn1
          go_wp2
          have hB1 : Below wr.heap.size wr (wr.alloc (.cells #[.int .i64 b, .int .i64 o, .string s, .slice Ak dl ck] 35)) := (Below.refl _ _).alloc (Nat.le_refl _) _
          have hp1 : (wr.alloc (.cells #[.int .i64 b, .int .i64 o, .string s, .slice Ak dl ck] 35)).heap[wr.heap.size]? = some (.cells #[.int .i64 b, .int .i64 o, .string s, .slice Ak dl ck] 35 (0, 0)) := heap_alloc_new wr _
          generalize wr.alloc (.cells #[.int .i64 b, .int .i64 o, .string s, .slice Ak dl ck] 35) = W1 at hB1 hp1 ⊢
          obtain ⟨p, hp⟩ : ∃ p, p = wr.heap.size := ⟨_, rfl⟩
          rw [← hp] at hp1 ⊢
          have hpW : p < W1.heap.size := (Array.getElem?_eq_some_iff.1 hp1).1
          have HB1 := Lib.hid (HB.out.trans (hB1.mono hsz))
          have HX : Hid (∀ W, Below W1.heap.size W1 W → W.cell? ⟨p, 0, none⟩ = some (.int .i64 b) ∧ W.cell? ⟨p, 1, none⟩ = some (.int .i64 o) ∧ W.cell? ⟨p, 2, none⟩ = some (.string s)) := fun W hW => by
            have hh := (hW.block _ hpW).trans hp1
            exact ⟨cell_of_row W _ 0 _ 35 (0, 0) hh, cell_of_row W _ 1 _ 35 (0, 0) hh, cell_of_row W _ 2 _ 35 (0, 0) hh⟩
          have HSz := Lib.hid (fun W (hW : Below W1.heap.size W1 W) => hsize ⟨gd, m, Fd, HE.out.fresh (HB1.out.trans (hW.mono HB1.out.size)), rfl⟩)
          have X0 := Lib.hid (HX.out _ ((Below.refl _ _).drew))
          clear hp1 hB1 hp
          refine wp_region_held_drew (S := (fun W => W.cell? ⟨p, 0, none⟩ = some (.int .i64 b) ∧ W.cell? ⟨p, 1, none⟩ = some (.int .i64 o) ∧ W.cell? ⟨p, 2, none⟩ = some (.string s))) (by kernel_rfl) (X0.out) (fun hHeld => ?_)
          refine takeH (i := 0) (some 17) (v := ?_) rfl rfl (by kernel_rfl) (by kernel_rfl) (by kernel_rfl) (fun _ _ _ h => h) (by rfl) ?_ (by assumption) ?_
          rotate_left
          · (intro w hSw; (try dsimp only at hSw); go_simp; try with_reducible rfl)
          simp only [Act.put, List.setIfInBounds_toArray, List.set_cons_zero, List.set_cons_succ]
          refine takeH (i := 1) (some 18) (v := ?_) rfl rfl (by kernel_rfl) (by kernel_rfl) (by kernel_rfl) (fun _ _ _ h => h) (by rfl) ?_ (by assumption) ?_
          rotate_left
          · (intro w hSw; (try dsimp only at hSw); go_simp; try with_reducible rfl)
          simp only [Act.put, List.setIfInBounds_toArray, List.set_cons_zero, List.set_cons_succ]
          refine wpAnyH_ready (rs := [2]) (by kernel_rfl) (by simp) ?_
          refine AllReadyH.cons rfl (fun K hK => ?_) AllReadyH.nil
          go_simp
          refine (HR.out _).mono ?_
          rintro e w2 ⟨rfl, hb2⟩
          have HB2 : Hid (Below W1.heap.size W1 w2) := ((Below.refl _ _).drew).trans hb2
          clear hb2
          refine hK _ _ (HX.out _ HB2.out) (fun hHeld => ?_)
          clear hK K
          try simp only [Act.put, List.setIfInBounds_toArray, List.set_cons_zero, List.set_cons_succ]
          refine takeH (i := 3) (some 20) (v := ?_) rfl rfl (by kernel_rfl) (by kernel_rfl) (by kernel_rfl) (fun _ _ _ h => h) (by rfl) ?_ (by assumption) ?_
          rotate_left
          · (intro w hSw; (try dsimp only at hSw); go_simp; try with_reducible rfl)
          simp only [Act.put, List.setIfInBounds_toArray, List.set_cons_zero, List.set_cons_succ]
          refine takeH (i := 4) (some 21) (v := ?_) rfl rfl (by kernel_rfl) (by kernel_rfl) (by kernel_rfl) (fun _ _ _ h => h) (by rfl) ?_ (by assumption) ?_
          rotate_left
          · (intro w hSw; (try dsimp only at hSw); go_simp; try with_reducible rfl)
          simp only [Act.put, List.setIfInBounds_toArray, List.set_cons_zero, List.set_cons_succ]
          refine takeH (i := 5) (some 22) (v := ?_) rfl rfl (by kernel_rfl) (by kernel_rfl) (by kernel_rfl) (fun _ _ _ h => h) (by rfl) ?_ (by assumption) ?_
          rotate_left
          · (intro w hSw; (try dsimp only at hSw); go_simp; try with_reducible rfl)
          simp only [Act.put, List.setIfInBounds_toArray, List.set_cons_zero, List.set_cons_succ]
          refine takeH (i := 6) (some 23) (v := ?_) rfl rfl (by kernel_rfl) (by kernel_rfl) (by kernel_rfl) (fun _ _ _ h => h) (by rfl) ?_ (by assumption) ?_
          rotate_left
          · (intro w hSw; (try dsimp only at hSw); go_simp; try with_reducible rfl)
          simp only [Act.put, List.setIfInBounds_toArray, List.set_cons_zero, List.set_cons_succ]
          refine takeH (i := 7) (some 24) (v := ?_) rfl rfl (by kernel_rfl) (by kernel_rfl) (by kernel_rfl) (fun _ _ _ h => h) (by rfl) ?_ (by assumption) ?_
          rotate_left
          · (intro w hSw; (try dsimp only at hSw); go_simp; try with_reducible rfl)
          simp only [Act.put, List.setIfInBounds_toArray, List.set_cons_zero, List.set_cons_succ]
          refine takeH (i := 8) (some 25) (v := ?_) rfl rfl (by kernel_rfl) (by kernel_rfl) (by kernel_rfl) (fun _ _ _ h => h) (by rfl) ?_ (by assumption) ?_
          rotate_left
          · (intro w hSw; (try dsimp only at hSw); go_simp; try with_reducible rfl)
          simp only [Act.put, List.setIfInBounds_toArray, List.set_cons_zero, List.set_cons_succ]
          refine wpAnyH_ready (rs := [9]) (by kernel_rfl) (by simp) ?_
          refine AllReadyH.cons rfl (fun K hK => ?_) AllReadyH.nil
          go_simp
          refine (HSz.out _ HB2.out).mono ?_
          rintro e w3 ⟨rfl, rfl⟩
          refine hK _ _ (HX.out _ HB2.out) (fun hHeld => ?_)
          clear hK K
          try simp only [Act.put, List.setIfInBounds_toArray, List.set_cons_zero, List.set_cons_succ]
          refine takeH (i := 10) (some 27) (v := ?_) rfl rfl (by kernel_rfl) (by kernel_rfl) (by kernel_rfl) (fun _ _ _ h => h) (by rfl) ?_ (by assumption) ?_
          rotate_left
          · (intro w hSw; (try dsimp only at hSw); go_simp; try with_reducible rfl)
          simp only [Act.put, List.setIfInBounds_toArray, List.set_cons_zero, List.set_cons_succ]
          refine takeH (i := 11) (some 28) (v := ?_) rfl rfl (by kernel_rfl) (by kernel_rfl) (by kernel_rfl) (fun _ _ _ h => h) (by rfl) ?_ (by assumption) ?_
          rotate_left
          · (intro w hSw; (try dsimp only at hSw); go_simp; try with_reducible rfl)
          simp only [Act.put, List.setIfInBounds_toArray, List.set_cons_zero, List.set_cons_succ]
          refine wpAnyH_done (by kernel_rfl) ?_ _
          go_wp2
          go_ret
          rw [Hbad.out]
          exact ⟨rfl, HB1.out.trans (HB2.out.mono HB1.out.size)⟩
        · have Hn2 := Lib.hid (Hn1.out (by rw [HBF.out, decide_eq_false hnb]; rfl))
          have hnb2 : b < (n : Int) := by omega
          clear Hat Hn1 hnb
          go_wp2
          have hB1 : Below wr.heap.size wr (wr.alloc (.cells #[.int .i64 b, .int .i64 o, .string s, .slice Ak dl ck] 35)) := (Below.refl _ _).alloc (Nat.le_refl _) _
          have hp1 : (wr.alloc (.cells #[.int .i64 b, .int .i64 o, .string s, .slice Ak dl ck] 35)).heap[wr.heap.size]? = some (.cells #[.int .i64 b, .int .i64 o, .string s, .slice Ak dl ck] 35 (0, 0)) := heap_alloc_new wr _
          generalize wr.alloc (.cells #[.int .i64 b, .int .i64 o, .string s, .slice Ak dl ck] 35) = W1 at hB1 hp1 ⊢
          obtain ⟨p, hp⟩ : ∃ p, p = wr.heap.size := ⟨_, rfl⟩
          rw [← hp] at hp1 ⊢
          have hpW : p < W1.heap.size := (Array.getElem?_eq_some_iff.1 hp1).1
          have HB1 := Lib.hid (HB.out.trans (hB1.mono hsz))
          have HX : Hid (∀ W, Below W1.heap.size W1 W → W.cell? ⟨p, 0, none⟩ = some (.int .i64 b) ∧ W.cell? ⟨p, 1, none⟩ = some (.int .i64 o) ∧ W.cell? ⟨p, 2, none⟩ = some (.string s)) := fun W hW => by
            have hh := (hW.block _ hpW).trans hp1
            exact ⟨cell_of_row W _ 0 _ 35 (0, 0) hh, cell_of_row W _ 1 _ 35 (0, 0) hh, cell_of_row W _ 2 _ 35 (0, 0) hh⟩
          have HSz := Lib.hid (fun W (hW : Below W1.heap.size W1 W) => hsize ⟨gd, m, Fd, HE.out.fresh (HB1.out.trans (hW.mono HB1.out.size)), rfl⟩)
          have X0 := Lib.hid (HX.out _ ((Below.refl _ _).drew))
          clear hp1 hB1 hp
          refine wp_region_held_drew (S := (fun W => W.cell? ⟨p, 0, none⟩ = some (.int .i64 b) ∧ W.cell? ⟨p, 1, none⟩ = some (.int .i64 o) ∧ W.cell? ⟨p, 2, none⟩ = some (.string s))) (by kernel_rfl) (X0.out) (fun hHeld => ?_)
          refine takeH (i := 0) (some 17) (v := ?_) rfl rfl (by kernel_rfl) (by kernel_rfl) (by kernel_rfl) (fun _ _ _ h => h) (by rfl) ?_ (by assumption) ?_
          rotate_left
          · (intro w hSw; (try dsimp only at hSw); go_simp; try with_reducible rfl)
          simp only [Act.put, List.setIfInBounds_toArray, List.set_cons_zero, List.set_cons_succ]
          refine takeH (i := 1) (some 18) (v := ?_) rfl rfl (by kernel_rfl) (by kernel_rfl) (by kernel_rfl) (fun _ _ _ h => h) (by rfl) ?_ (by assumption) ?_
          rotate_left
          · (intro w hSw; (try dsimp only at hSw); go_simp; try with_reducible rfl)
          simp only [Act.put, List.setIfInBounds_toArray, List.set_cons_zero, List.set_cons_succ]
          refine wpAnyH_ready (rs := [2]) (by kernel_rfl) (by simp) ?_
          refine AllReadyH.cons rfl (fun K hK => ?_) AllReadyH.nil
          go_simp
          refine (HR.out _).mono ?_
          rintro e w2 ⟨rfl, hb2⟩
          have HB2 : Hid (Below W1.heap.size W1 w2) := ((Below.refl _ _).drew).trans hb2
          clear hb2
          refine hK _ _ (HX.out _ HB2.out) (fun hHeld => ?_)
          clear hK K
          try simp only [Act.put, List.setIfInBounds_toArray, List.set_cons_zero, List.set_cons_succ]
          refine takeH (i := 3) (some 20) (v := ?_) rfl rfl (by kernel_rfl) (by kernel_rfl) (by kernel_rfl) (fun _ _ _ h => h) (by rfl) ?_ (by assumption) ?_
          rotate_left
          · (intro w hSw; (try dsimp only at hSw); go_simp; try with_reducible rfl)
          simp only [Act.put, List.setIfInBounds_toArray, List.set_cons_zero, List.set_cons_succ]
          refine takeH (i := 4) (some 21) (v := ?_) rfl rfl (by kernel_rfl) (by kernel_rfl) (by kernel_rfl) (fun _ _ _ h => h) (by rfl) ?_ (by assumption) ?_
          rotate_left
          · (intro w hSw; (try dsimp only at hSw); go_simp; try with_reducible rfl)
          simp only [Act.put, List.setIfInBounds_toArray, List.set_cons_zero, List.set_cons_succ]
          refine takeH (i := 5) (some 22) (v := ?_) rfl rfl (by kernel_rfl) (by kernel_rfl) (by kernel_rfl) (fun _ _ _ h => h) (by rfl) ?_ (by assumption) ?_
          rotate_left
          · (intro w hSw; (try dsimp only at hSw); go_simp; try with_reducible rfl)
          simp only [Act.put, List.setIfInBounds_toArray, List.set_cons_zero, List.set_cons_succ]
          refine takeH (i := 6) (some 23) (v := ?_) rfl rfl (by kernel_rfl) (by kernel_rfl) (by kernel_rfl) (fun _ _ _ h => h) (by rfl) ?_ (by assumption) ?_
          rotate_left
          · (intro w hSw; (try dsimp only at hSw); go_simp; try with_reducible rfl)
          simp only [Act.put, List.setIfInBounds_toArray, List.set_cons_zero, List.set_cons_succ]
          refine takeH (i := 7) (some 24) (v := ?_) rfl rfl (by kernel_rfl) (by kernel_rfl) (by kernel_rfl) (fun _ _ _ h => h) (by rfl) ?_ (by assumption) ?_
          rotate_left
          · (intro w hSw; (try dsimp only at hSw); go_simp; try with_reducible rfl)
          simp only [Act.put, List.setIfInBounds_toArray, List.set_cons_zero, List.set_cons_succ]
          refine takeH (i := 8) (some 25) (v := ?_) rfl rfl (by kernel_rfl) (by kernel_rfl) (by kernel_rfl) (fun _ _ _ h => h) (by rfl) ?_ (by assumption) ?_
          rotate_left
          · (intro w hSw; (try dsimp only at hSw); go_simp; try with_reducible rfl)
          simp only [Act.put, List.setIfInBounds_toArray, List.set_cons_zero, List.set_cons_succ]
          refine wpAnyH_ready (rs := [9]) (by kernel_rfl) (by simp) ?_
          refine AllReadyH.cons rfl (fun K hK => ?_) AllReadyH.nil
          go_simp
          refine (HSz.out _ HB2.out).mono ?_
          rintro e w3 ⟨rfl, rfl⟩
          refine hK _ _ (HX.out _ HB2.out) (fun hHeld => ?_)
          clear hK K
          try simp only [Act.put, List.setIfInBounds_toArray, List.set_cons_zero, List.set_cons_succ]
          refine takeH (i := 10) (some 27) (v := ?_) rfl rfl (by kernel_rfl) (by kernel_rfl) (by kernel_rfl) (fun _ _ _ h => h) (by rfl) ?_ (by assumption) ?_
          rotate_left
          · (intro w hSw; (try dsimp only at hSw); go_simp; try with_reducible rfl)
          simp only [Act.put, List.setIfInBounds_toArray, List.set_cons_zero, List.set_cons_succ]
          refine takeH (i := 11) (some 28) (v := ?_) rfl rfl (by kernel_rfl) (by kernel_rfl) (by kernel_rfl) (fun _ _ _ h => h) (by rfl) ?_ (by assumption) ?_
          rotate_left
          · (intro w hSw; (try dsimp only at hSw); go_simp; try with_reducible rfl)
          simp only [Act.put, List.setIfInBounds_toArray, List.set_cons_zero, List.set_cons_succ]
          refine wpAnyH_done (by kernel_rfl) ?_ _
          go_wp2
          go_roundw
          case rel => exact ⟨j + 1, by omega, by go_num, HB1.out.trans (HB2.out.mono HB1.out.size), Hn2.out⟩
          case measure => simp [intOf]; omega
    · obtain rfl : j = its.length := by omega
      have hlti : ¬ (its.length : Int) < (its.length : Int) := by omega
      have HF0 := Lib.hid (form_none hno.out)
      clear hno hB
      go_wp2
      go_loopw [32] (fun q wr => ∃ j : Nat, j ≤ its.length ∧ q = .int .i64 j ∧ Below w.heap.size w wr ∧ Hid (∀ t, t < j → badDeps k t (itN its t) = false)) (fun q _ => its.length - (intOf q).toNat)
      case atStart => exact ⟨0, Nat.zero_le _, rfl, HB.out, fun t ht => absurd ht (by omega)⟩
      case round =>
        obtain ⟨j, hj, rfl, hB, hno⟩ := hrel
        rename World => wr
        have HBr := Lib.hid hB
        have hsz := hB.size
        by_cases hlt : j < its.length
        · have hlti : (j : Int) < (its.length : Int) := by omega
          have hj0 : (0 : Int) ≤ (j : Int) := by omega
          obtain ⟨ib, io, Ak, ck, rfl, hib, _, hx⟩ := (HI.out.fresh hB).at_ hlt
          obtain ⟨c0, c1, c2, c3, hints⟩ := hx
          have hsm := HSm.out _ (itN_mem hlt)
          have Hat : Hid (∀ m, j < its.length → ∀ (hm : m < (itN its j).d.length), badDep k j (itN its j).d[m] = true → badAll k its = true) := fun m => @badAll_at k its j m
          have Hn1 : Hid (badDeps k j (itN its j) = false → ∀ t, t < j + 1 → badDeps k t (itN its t) = false) := fun h t ht => by
            rcases Nat.lt_or_ge t j with q | q
            · exact hno.out t q
            · obtain rfl : t = j := by omega
              exact h
          have HIn := Lib.hid hints
          have HSj := Lib.hid hsm
          have hdl := hsm.2.1
          obtain ⟨dl, hdl2⟩ : ∃ dl, dl = (itN its j).d.length := ⟨_, rfl⟩
          have Hdl := Lib.hid hdl2
          rw [← hdl2] at c3 hdl
          clear hdl2 hints hsm hB
          generalize (itN its j).p.b = b at c0
          generalize (itN its j).p.o = o at c1
          generalize (itN its j).p.s = s at c2
          have HBa : Hid (Below wr.heap.size wr (wr.alloc (.cells #[.int .i64 b, .int .i64 o, .string s, .slice Ak dl ck] 35))) := (Below.refl _ _).alloc (Nat.le_refl _) _
          go_wp2
          go_loopw [40, 10] (fun q _ wi => ∃ m : Nat, m ≤ dl ∧ q = .int .i64 m ∧ Below (wr.heap.size + 1) (wr.alloc (.cells #[.int .i64 b, .int .i64 o, .string s, .slice Ak dl ck] 35)) wi ∧ Hid (∀ t (ht : t < (itN its j).d.length), t < m → badDep k j (itN its j).d[t] = false)) (fun q _ _ => dl - (intOf q).toNat)
          case atStart => exact ⟨0, Nat.zero_le _, rfl, Below.refl _ _, fun t _ ht => absurd ht (by omega)⟩
          case round =>
            obtain ⟨m, hm, rfl, hBi, hall⟩ := hrel
            rename World => wi
            have HBi : Hid (Below wr.heap.size wr wi) := HBa.out.trans (hBi.mono (by omega))
            have HBj := Lib.hid hBi
            by_cases hmd : m < dl
            · have hmi : (m : Int) < (dl : Int) := by omega
              have hm0 : (0 : Int) ≤ (m : Int) := by omega
              have hml : m < (itN its j).d.length := by rw [← Hdl.out]; exact hmd
              obtain ⟨db, doff, rfl, hdb, _, hdc⟩ := (HIn.out.keep (w' := wi) (F' := F) (G := fun _ => False) (Kept.fresh HBi.out) (fun _ q => q.elim) (fun _ q => .inl q)) (by rw [← Hdl.out]; omega)
              have e1 := (HE.out.fresh (HBr.out.trans (HBi.out.mono hsz))).c1
              have hgi := (HE.out.fresh (HBr.out.trans (HBi.out.mono hsz))).glt
              have hdcm := hdc m hml
              have hi64 := HSj.out.2.2 _ (List.getElem_mem hml)
              have Hst := Lib.hid (Hat.out m hlt hml)
              have Hnx : Hid (badDep k j (itN its j).d[m] = false → ∀ t (ht : t < (itN its j).d.length), t < m + 1 → badDep k j (itN its j).d[t] = false) := fun h t ht ht2 => by
                by_cases e : t = m
                · subst e; exact h
                · exact hall.out t ht (by omega)
              generalize (itN its j).d[m] = v at hdcm hi64 Hst Hnx
              have HPl := Lib.hid (fun W => place_any v hi64 W)
              clear hdc hBi
              by_cases h1 : k ≤ v
              · have Hbad : Hid (refusesE n k l.length its = 2) := by unfold Hid refusesE; rw [HF0.out, Hst.out (by unfold badDep; rw [decide_eq_true h1]; rfl)]; rfl
                clear Hst Hnx
                go_wp2
                go_ret
                rw [Hbad.out]
                exact ⟨rfl, HBr.out.trans (HBi.out.mono hsz)⟩
              · have h1' : v < k := by omega
                by_cases h2 : (j : Int) ≤ -1 - v
                · have Hbad : Hid (refusesE n k l.length its = 2) := by unfold Hid refusesE; rw [HF0.out, Hst.out (by unfold badDep; rw [decide_eq_false h1, decide_eq_true h2]; rfl)]; rfl
                  clear Hst Hnx h1
                  go_wp2_with (go_at_call 37; refine (HPl.out _).mono ?_; rintro e w5 ⟨rfl, rfl⟩)
                  go_ret
                  rw [Hbad.out]
                  exact ⟨rfl, HBr.out.trans (HBi.out.mono hsz)⟩
                · have Hn2 := Lib.hid (Hnx.out (by unfold badDep; rw [decide_eq_false h1, decide_eq_false h2]; rfl))
                  have h2' : -1 - v < (j : Int) := by omega
                  clear Hst Hnx h1 h2
                  go_wp2_with (go_at_call 37; refine (HPl.out _).mono ?_; rintro e w5 ⟨rfl, rfl⟩)
                  go_roundw
                  case rel => exact ⟨m + 1, by omega, by go_num, HBj.out, Hn2.out⟩
                  case measure => simp [intOf]; omega
            · obtain rfl : m = dl := by omega
              have hmi : ¬ (m : Int) < (m : Int) := by omega
              have Hn2 := Lib.hid (Hn1.out (by
                unfold badDeps
                rw [List.any_eq_false]
                intro y hy
                obtain ⟨t, ht, rfl⟩ := List.mem_iff_getElem.1 hy
                have := hall.out t ht (by rw [Hdl.out]; exact ht)
                simp [this]))
              clear hall hBi
              go_wp2
              go_roundw
              case rel => exact ⟨j + 1, by omega, by go_num, HBr.out.trans (HBi.out.mono hsz), Hn2.out⟩
              case measure => simp [intOf]; omega
        · obtain rfl : j = its.length := by omega
          have hlti : ¬ (its.length : Int) < (its.length : Int) := by omega
          have HA0 := Lib.hid (badAll_none hno.out)
          have e4 := (HE.out.fresh hB).c4
          have hgr := (HE.out.fresh hB).glt
          obtain ⟨Dl, hDl, hsz3⟩ := (HE.out.fresh hB).wsize
          have HDl := Lib.hid hDl
          have Hsz3 := Lib.hid hsz3
          clear hDl hsz3
          clear hno hB
          by_cases hfl : 200 < its.length + l.length
          · have Hbad : Hid (refusesE n k l.length its = 11) := by unfold Hid refusesE; rw [HF0.out, HA0.out]; simp [hfl]
            have hq : (200 : Int) - (l.length : Int) < (its.length : Int) := by omega
            clear hfl
            go_wp2_with (at_len; refine wpList_len_own _ rfl _ 42 rfl 3 82 Try.underlying42 RV m.gw cc Dl rfl HDl.out ?_; rw [Hsz3.out])
            go_ret
            rw [Hbad.out]
            exact ⟨rfl, HBr.out⟩
          · have Hbad : Hid (refusesE n k l.length its = 0) := by unfold Hid refusesE; rw [HF0.out, HA0.out]; simp [hfl]
            have hq : (its.length : Int) ≤ (200 : Int) - (l.length : Int) := by omega
            clear hfl
            go_wp2_with (at_len; refine wpList_len_own _ rfl _ 42 rfl 3 82 Try.underlying42 RV m.gw cc Dl rfl HDl.out ?_; rw [Hsz3.out])
            go_ret
            rw [Hbad.out]
            exact ⟨rfl, HBr.out⟩
end Go.Proofs.Ytkldiofleepkfaa.Hd
