/- The document's engine: Add, the walk. -/
import Derived.Test.YtegacggkdjgdiaaGreatQU
set_option linter.unusedVariables false
set_option linter.unusedSimpArgs false
namespace Go.Proofs.YtegacggkdjgdiaaGreat
open Go.RowKit

set_option maxRecDepth 100000 in
set_option maxHeartbeats 8000000 in
theorem qadd {w : World} {g n cc : Nat} {S : Nat → Bk} {k : Int} {l : List Vr} {t : List Tr} {F : Nat → Prop} (h : Qe w g n S cc k l t F) (hl : l.length ≤ 200) (hrl : ∀ x ∈ l, x.p.right = true) (AI : Option Addr) (cI : Nat) (its : List It) (hI : ItemsF w F AI its) (hs : SmallI its) (hil : its.length ≤ 1000) (hk0 : 0 ≤ k) (hk1 : k ≤ 900000) :
    Calls Tryz.prog 54 #[.pointer (some ⟨g, 0, none⟩), .slice AI its.length cI] w (QAddS w g n S cc k l t F its) := by
  obtain ⟨d, A, c, A2, c2, Fd, h, rfl⟩ := h
  have HQ := Lib.hid h
  have HI := Lib.hid hI
  have HSm := Lib.hid hs
  have HRl := Lib.hid hrl
  have hgl := h.head.lt
  clear h hI hs hrl
  go_enter Tryz.func54, Tryz.ntmps54
  go_wp2
  go_loopw [6] (fun q wr => ∃ j : Nat, j ≤ its.length ∧ q = .int .i64 j ∧ Hid (Below w.heap.size w wr) ∧ Hid (∀ t, t < j → badForm n (itN its t) = false)) (fun q _ => its.length - (intOf q).toNat)
  case atStart => exact ⟨0, Nat.zero_le _, rfl, Below.refl _ _, fun t ht => absurd ht (by omega)⟩
  case round =>
    obtain ⟨j, hj, rfl, HB, hno⟩ := hrel
    rename World => wr
    have hsz := HB.out.size
    by_cases hlt : j < its.length
    · have hlti : (j : Int) < (its.length : Int) := by omega
      have hj0 : (0 : Int) ≤ (j : Int) := by omega
      obtain ⟨ib, io, Ak, ck, rfl, hib, _, hx⟩ := (HI.out.fresh HB.out).at_ hlt
      obtain ⟨c0, c1, c2', c3, _⟩ := hx
      have hsm := HSm.out _ (itN_mem hlt)
      have Hat := Lib.hid (@form_at n its j hlt)
      have Hn1 : Hid (badForm n (itN its j) = false → ∀ t, t < j + 1 → badForm n (itN its t) = false) := fun h t ht => by
        rcases Nat.lt_or_ge t j with q | q
        · exact hno.out t q
        · obtain rfl : t = j := by omega
          exact h
      obtain ⟨x, hx⟩ : ∃ x, x = itN its j := ⟨_, rfl⟩
      rw [← hx] at c0 c1 c2' c3 hsm Hat Hn1
      clear hx
      obtain ⟨⟨b, o, s⟩, ds⟩ := x
      dsimp only at c0 c1 c2' c3
      have hok : (Pt.mk b o s).ok := hsm.1
      have HR := Lib.hid (fun W => refright_any ⟨b, o, s⟩ W hok)
      have HBF : Hid (badForm n ⟨⟨b, o, s⟩, ds⟩ = (!(Pt.mk b o s).right || decide ((n : Int) ≤ b))) := rfl
      obtain ⟨r, hr⟩ : ∃ r, r = (Pt.mk b o s).right := ⟨_, rfl⟩
      rw [← hr] at HR HBF
      clear hok hsm hr c3
      unfold Pt.v at HR
      dsimp only at HR
      have HX : Hid (∀ W, Below wr.heap.size wr W → W.cell? ⟨ib, io + j * 4, none⟩ = some (.int .i64 b) ∧ W.cell? ⟨ib, io + j * 4 + 1, none⟩ = some (.int .i64 o) ∧ W.cell? ⟨ib, io + j * 4 + 2, none⟩ = some (.string s) ∧ W.cell? ⟨g, 0, none⟩ = some (.pointer (some ⟨d, 0, none⟩))) := fun W hW =>
        ⟨(hW.cell (p := ⟨ib, io + j * 4, none⟩) hib).trans c0, (hW.cell (p := ⟨ib, io + j * 4 + 1, none⟩) hib).trans c1, (hW.cell (p := ⟨ib, io + j * 4 + 2, none⟩) hib).trans c2', (HQ.out.fresh (HB.out.trans (hW.mono hsz))).head.c0⟩
      have HSz := Lib.hid (fun W (hW : Below wr.heap.size wr W) => rsize (HQ.out.fresh (HB.out.trans (hW.mono hsz))).disk)
      have X0 := Lib.hid (HX.out _ ((Below.refl _ _).drew))
      cases r with
      | false =>
        have Hbad : Hid (refusesE n k l.length its = 3) := by unfold Hid refusesE; rw [Hat.out (by rw [HBF.out]; rfl)]; rfl
        clear Hat Hn1
        go_wp2
        refine wp_region_held_drew (S := (fun W => W.cell? ⟨ib, io + j * 4, none⟩ = some (.int .i64 b) ∧ W.cell? ⟨ib, io + j * 4 + 1, none⟩ = some (.int .i64 o) ∧ W.cell? ⟨ib, io + j * 4 + 2, none⟩ = some (.string s) ∧ W.cell? ⟨g, 0, none⟩ = some (.pointer (some ⟨d, 0, none⟩)))) (by kernel_rfl) (X0.out) (fun hHeld => ?_)
        refine takeH (i := 0) (some 24) (v := ?_) rfl rfl (by kernel_rfl) (by kernel_rfl) (by kernel_rfl) (fun _ _ _ h => h) (by rfl) ?_ (by assumption) ?_
        rotate_left
        · (intro w hSw; (try dsimp only at hSw); go_simp; try with_reducible rfl)
        simp only [Act.put, List.setIfInBounds_toArray, List.set_cons_zero, List.set_cons_succ]
        refine takeH (i := 1) (some 25) (v := ?_) rfl rfl (by kernel_rfl) (by kernel_rfl) (by kernel_rfl) (fun _ _ _ h => h) (by rfl) ?_ (by assumption) ?_
        rotate_left
        · (intro w hSw; (try dsimp only at hSw); go_simp; try with_reducible rfl)
        simp only [Act.put, List.setIfInBounds_toArray, List.set_cons_zero, List.set_cons_succ]
        refine takeH (i := 2) (some 26) (v := ?_) rfl rfl (by kernel_rfl) (by kernel_rfl) (by kernel_rfl) (fun _ _ _ h => h) (by rfl) ?_ (by assumption) ?_
        rotate_left
        · (intro w hSw; (try dsimp only at hSw); go_simp; try with_reducible rfl)
        simp only [Act.put, List.setIfInBounds_toArray, List.set_cons_zero, List.set_cons_succ]
        refine takeH (i := 3) (some 27) (v := ?_) rfl rfl (by kernel_rfl) (by kernel_rfl) (by kernel_rfl) (fun _ _ _ h => h) (by rfl) ?_ (by assumption) ?_
        rotate_left
        · (intro w hSw; (try dsimp only at hSw); go_simp; try with_reducible rfl)
        simp only [Act.put, List.setIfInBounds_toArray, List.set_cons_zero, List.set_cons_succ]
        refine takeH (i := 4) (some 28) (v := ?_) rfl rfl (by kernel_rfl) (by kernel_rfl) (by kernel_rfl) (fun _ _ _ h => h) (by rfl) ?_ (by assumption) ?_
        rotate_left
        · (intro w hSw; (try dsimp only at hSw); go_simp; try with_reducible rfl)
        simp only [Act.put, List.setIfInBounds_toArray, List.set_cons_zero, List.set_cons_succ]
        refine wpAnyH_ready (rs := [5]) (by kernel_rfl) (by simp) ?_
        refine AllReadyH.cons rfl (fun K hK => ?_) AllReadyH.nil
        go_simp
        refine (HR.out _).mono ?_
        rintro e w2 ⟨rfl, hb2⟩
        have HB2 : Hid (Below wr.heap.size wr w2) := ((Below.refl _ _).drew).trans hb2
        clear hb2
        refine hK _ _ (HX.out _ HB2.out) (fun hHeld => ?_)
        clear hK K
        try simp only [Act.put, List.setIfInBounds_toArray, List.set_cons_zero, List.set_cons_succ]
        refine takeH (i := 6) (some 30) (v := ?_) rfl rfl (by kernel_rfl) (by kernel_rfl) (by kernel_rfl) (fun _ _ _ h => h) (by rfl) ?_ (by assumption) ?_
        rotate_left
        · (intro w hSw; (try dsimp only at hSw); go_simp; try with_reducible rfl)
        simp only [Act.put, List.setIfInBounds_toArray, List.set_cons_zero, List.set_cons_succ]
        refine takeH (i := 7) (some 31) (v := ?_) rfl rfl (by kernel_rfl) (by kernel_rfl) (by kernel_rfl) (fun _ _ _ h => h) (by rfl) ?_ (by assumption) ?_
        rotate_left
        · (intro w hSw; (try dsimp only at hSw); go_simp; try with_reducible rfl)
        simp only [Act.put, List.setIfInBounds_toArray, List.set_cons_zero, List.set_cons_succ]
        refine skipH (i := 8) (some 32) rfl rfl (by kernel_rfl) (by kernel_rfl) (by kernel_rfl) (fun _ _ _ h => h) (by rfl) (by assumption) ?_
        simp only [Act.put, List.setIfInBounds_toArray, List.set_cons_zero, List.set_cons_succ]
        refine skipH (i := 9) (some 33) rfl rfl (by kernel_rfl) (by kernel_rfl) (by kernel_rfl) (fun _ _ _ h => h) (by rfl) (by assumption) ?_
        simp only [Act.put, List.setIfInBounds_toArray, List.set_cons_zero, List.set_cons_succ]
        refine skipH (i := 10) (some 34) rfl rfl (by kernel_rfl) (by kernel_rfl) (by kernel_rfl) (fun _ _ _ h => h) (by rfl) (by assumption) ?_
        simp only [Act.put, List.setIfInBounds_toArray, List.set_cons_zero, List.set_cons_succ]
        refine skipH (i := 11) (some 35) rfl rfl (by kernel_rfl) (by kernel_rfl) (by kernel_rfl) (fun _ _ _ h => h) (by rfl) (by assumption) ?_
        simp only [Act.put, List.setIfInBounds_toArray, List.set_cons_zero, List.set_cons_succ]
        refine skipH (i := 12) (some 36) rfl rfl (by kernel_rfl) (by kernel_rfl) (by kernel_rfl) (fun _ _ _ h => h) (by rfl) (by assumption) ?_
        simp only [Act.put, List.setIfInBounds_toArray, List.set_cons_zero, List.set_cons_succ]
        refine skipH (i := 13) (some 37) rfl rfl (by kernel_rfl) (by kernel_rfl) (by kernel_rfl) (fun _ _ _ h => h) (by rfl) (by assumption) ?_
        simp only [Act.put, List.setIfInBounds_toArray, List.set_cons_zero, List.set_cons_succ]
        refine skipH (i := 14) (some 38) rfl rfl (by kernel_rfl) (by kernel_rfl) (by kernel_rfl) (fun _ _ _ h => h) (by rfl) (by assumption) ?_
        simp only [Act.put, List.setIfInBounds_toArray, List.set_cons_zero, List.set_cons_succ]
        refine skipH (i := 15) (some 39) rfl rfl (by kernel_rfl) (by kernel_rfl) (by kernel_rfl) (fun _ _ _ h => h) (by rfl) (by assumption) ?_
        simp only [Act.put, List.setIfInBounds_toArray, List.set_cons_zero, List.set_cons_succ]
        refine skipH (i := 16) (some 40) rfl rfl (by kernel_rfl) (by kernel_rfl) (by kernel_rfl) (fun _ _ _ h => h) (by rfl) (by assumption) ?_
        simp only [Act.put, List.setIfInBounds_toArray, List.set_cons_zero, List.set_cons_succ]
        refine skipH (i := 17) (some 41) rfl rfl (by kernel_rfl) (by kernel_rfl) (by kernel_rfl) (fun _ _ _ h => h) (by rfl) (by assumption) ?_
        simp only [Act.put, List.setIfInBounds_toArray, List.set_cons_zero, List.set_cons_succ]
        refine skipH (i := 18) (some 42) rfl rfl (by kernel_rfl) (by kernel_rfl) (by kernel_rfl) (fun _ _ _ h => h) (by rfl) (by assumption) ?_
        simp only [Act.put, List.setIfInBounds_toArray, List.set_cons_zero, List.set_cons_succ]
        refine skipH (i := 19) (some 43) rfl rfl (by kernel_rfl) (by kernel_rfl) (by kernel_rfl) (fun _ _ _ h => h) (by rfl) (by assumption) ?_
        simp only [Act.put, List.setIfInBounds_toArray, List.set_cons_zero, List.set_cons_succ]
        refine takeH (i := 20) (some 44) (v := ?_) rfl rfl (by kernel_rfl) (by kernel_rfl) (by kernel_rfl) (fun _ _ _ h => h) (by rfl) ?_ (by assumption) ?_
        rotate_left
        · (intro w hSw; (try dsimp only at hSw); go_simp; try with_reducible rfl)
        simp only [Act.put, List.setIfInBounds_toArray, List.set_cons_zero, List.set_cons_succ]
        refine wpAnyH_done (by kernel_rfl) ?_ _
        go_wp2
        go_ret2
        exact QAddS.bad Hbad.out (by decide) (HB.out.trans (HB2.out.mono hsz))
      | true =>
        by_cases hnb : (n : Int) ≤ b
        · have Hbad : Hid (refusesE n k l.length its = 3) := by unfold Hid refusesE; rw [Hat.out (by rw [HBF.out, decide_eq_true hnb]; rfl)]; rfl
          clear Hat Hn1
          go_wp2
          refine wp_region_held_drew (S := (fun W => W.cell? ⟨ib, io + j * 4, none⟩ = some (.int .i64 b) ∧ W.cell? ⟨ib, io + j * 4 + 1, none⟩ = some (.int .i64 o) ∧ W.cell? ⟨ib, io + j * 4 + 2, none⟩ = some (.string s) ∧ W.cell? ⟨g, 0, none⟩ = some (.pointer (some ⟨d, 0, none⟩)))) (by kernel_rfl) (X0.out) (fun hHeld => ?_)
          refine takeH (i := 0) (some 24) (v := ?_) rfl rfl (by kernel_rfl) (by kernel_rfl) (by kernel_rfl) (fun _ _ _ h => h) (by rfl) ?_ (by assumption) ?_
          rotate_left
          · (intro w hSw; (try dsimp only at hSw); go_simp; try with_reducible rfl)
          simp only [Act.put, List.setIfInBounds_toArray, List.set_cons_zero, List.set_cons_succ]
          refine takeH (i := 1) (some 25) (v := ?_) rfl rfl (by kernel_rfl) (by kernel_rfl) (by kernel_rfl) (fun _ _ _ h => h) (by rfl) ?_ (by assumption) ?_
          rotate_left
          · (intro w hSw; (try dsimp only at hSw); go_simp; try with_reducible rfl)
          simp only [Act.put, List.setIfInBounds_toArray, List.set_cons_zero, List.set_cons_succ]
          refine takeH (i := 2) (some 26) (v := ?_) rfl rfl (by kernel_rfl) (by kernel_rfl) (by kernel_rfl) (fun _ _ _ h => h) (by rfl) ?_ (by assumption) ?_
          rotate_left
          · (intro w hSw; (try dsimp only at hSw); go_simp; try with_reducible rfl)
          simp only [Act.put, List.setIfInBounds_toArray, List.set_cons_zero, List.set_cons_succ]
          refine takeH (i := 3) (some 27) (v := ?_) rfl rfl (by kernel_rfl) (by kernel_rfl) (by kernel_rfl) (fun _ _ _ h => h) (by rfl) ?_ (by assumption) ?_
          rotate_left
          · (intro w hSw; (try dsimp only at hSw); go_simp; try with_reducible rfl)
          simp only [Act.put, List.setIfInBounds_toArray, List.set_cons_zero, List.set_cons_succ]
          refine takeH (i := 4) (some 28) (v := ?_) rfl rfl (by kernel_rfl) (by kernel_rfl) (by kernel_rfl) (fun _ _ _ h => h) (by rfl) ?_ (by assumption) ?_
          rotate_left
          · (intro w hSw; (try dsimp only at hSw); go_simp; try with_reducible rfl)
          simp only [Act.put, List.setIfInBounds_toArray, List.set_cons_zero, List.set_cons_succ]
          refine wpAnyH_ready (rs := [5]) (by kernel_rfl) (by simp) ?_
          refine AllReadyH.cons rfl (fun K hK => ?_) AllReadyH.nil
          go_simp
          refine (HR.out _).mono ?_
          rintro e w2 ⟨rfl, hb2⟩
          have HB2 : Hid (Below wr.heap.size wr w2) := ((Below.refl _ _).drew).trans hb2
          clear hb2
          refine hK _ _ (HX.out _ HB2.out) (fun hHeld => ?_)
          clear hK K
          try simp only [Act.put, List.setIfInBounds_toArray, List.set_cons_zero, List.set_cons_succ]
          refine takeH (i := 6) (some 30) (v := ?_) rfl rfl (by kernel_rfl) (by kernel_rfl) (by kernel_rfl) (fun _ _ _ h => h) (by rfl) ?_ (by assumption) ?_
          rotate_left
          · (intro w hSw; (try dsimp only at hSw); go_simp; try with_reducible rfl)
          simp only [Act.put, List.setIfInBounds_toArray, List.set_cons_zero, List.set_cons_succ]
          refine takeH (i := 7) (some 31) (v := ?_) rfl rfl (by kernel_rfl) (by kernel_rfl) (by kernel_rfl) (fun _ _ _ h => h) (by rfl) ?_ (by assumption) ?_
          rotate_left
          · (intro w hSw; (try dsimp only at hSw); go_simp; try with_reducible rfl)
          simp only [Act.put, List.setIfInBounds_toArray, List.set_cons_zero, List.set_cons_succ]
          refine takeH (i := 8) (some 32) (v := ?_) rfl rfl (by kernel_rfl) (by kernel_rfl) (by kernel_rfl) (fun _ _ _ h => h) (by rfl) ?_ (by assumption) ?_
          rotate_left
          · (intro w hSw; (try dsimp only at hSw); go_simp; try with_reducible rfl)
          simp only [Act.put, List.setIfInBounds_toArray, List.set_cons_zero, List.set_cons_succ]
          refine takeH (i := 9) (some 33) (v := ?_) rfl rfl (by kernel_rfl) (by kernel_rfl) (by kernel_rfl) (fun _ _ _ h => h) (by rfl) ?_ (by assumption) ?_
          rotate_left
          · (intro w hSw; (try dsimp only at hSw); go_simp; try with_reducible rfl)
          simp only [Act.put, List.setIfInBounds_toArray, List.set_cons_zero, List.set_cons_succ]
          refine takeH (i := 10) (some 34) (v := ?_) rfl rfl (by kernel_rfl) (by kernel_rfl) (by kernel_rfl) (fun _ _ _ h => h) (by rfl) ?_ (by assumption) ?_
          rotate_left
          · (intro w hSw; (try dsimp only at hSw); go_simp; try with_reducible rfl)
          simp only [Act.put, List.setIfInBounds_toArray, List.set_cons_zero, List.set_cons_succ]
          refine takeH (i := 11) (some 35) (v := ?_) rfl rfl (by kernel_rfl) (by kernel_rfl) (by kernel_rfl) (fun _ _ _ h => h) (by rfl) ?_ (by assumption) ?_
          rotate_left
          · (intro w hSw; (try dsimp only at hSw); go_simp; try with_reducible rfl)
          simp only [Act.put, List.setIfInBounds_toArray, List.set_cons_zero, List.set_cons_succ]
          refine takeH (i := 12) (some 36) (v := ?_) rfl rfl (by kernel_rfl) (by kernel_rfl) (by kernel_rfl) (fun _ _ _ h => h) (by rfl) ?_ (by assumption) ?_
          rotate_left
          · (intro w hSw; (try dsimp only at hSw); go_simp; try with_reducible rfl)
          simp only [Act.put, List.setIfInBounds_toArray, List.set_cons_zero, List.set_cons_succ]
          refine takeH (i := 13) (some 37) (v := ?_) rfl rfl (by kernel_rfl) (by kernel_rfl) (by kernel_rfl) (fun _ _ _ h => h) (by rfl) ?_ (by assumption) ?_
          rotate_left
          · (intro w hSw; (try dsimp only at hSw); go_simp; try with_reducible rfl)
          simp only [Act.put, List.setIfInBounds_toArray, List.set_cons_zero, List.set_cons_succ]
          refine takeH (i := 14) (some 38) (v := ?_) rfl rfl (by kernel_rfl) (by kernel_rfl) (by kernel_rfl) (fun _ _ _ h => h) (by rfl) ?_ (by assumption) ?_
          rotate_left
          · (intro w hSw; (try dsimp only at hSw); go_simp; try with_reducible rfl)
          simp only [Act.put, List.setIfInBounds_toArray, List.set_cons_zero, List.set_cons_succ]
          refine takeH (i := 15) (some 39) (v := ?_) rfl rfl (by kernel_rfl) (by kernel_rfl) (by kernel_rfl) (fun _ _ _ h => h) (by rfl) ?_ (by assumption) ?_
          rotate_left
          · (intro w hSw; (try dsimp only at hSw); go_simp; try with_reducible rfl)
          simp only [Act.put, List.setIfInBounds_toArray, List.set_cons_zero, List.set_cons_succ]
          refine takeH (i := 16) (some 40) (v := ?_) rfl rfl (by kernel_rfl) (by kernel_rfl) (by kernel_rfl) (fun _ _ _ h => h) (by rfl) ?_ (by assumption) ?_
          rotate_left
          · (intro w hSw; (try dsimp only at hSw); go_simp; try with_reducible rfl)
          simp only [Act.put, List.setIfInBounds_toArray, List.set_cons_zero, List.set_cons_succ]
          refine takeH (i := 17) (some 41) (v := ?_) rfl rfl (by kernel_rfl) (by kernel_rfl) (by kernel_rfl) (fun _ _ _ h => h) (by rfl) ?_ (by assumption) ?_
          rotate_left
          · (intro w hSw; (try dsimp only at hSw); go_simp; try with_reducible rfl)
          simp only [Act.put, List.setIfInBounds_toArray, List.set_cons_zero, List.set_cons_succ]
          refine wpAnyH_ready (rs := [18]) (by kernel_rfl) (by simp) ?_
          refine AllReadyH.cons rfl (fun K hK => ?_) AllReadyH.nil
          go_simp
          refine (HSz.out _ (HB2.out)).mono ?_
          rintro e w3 ⟨rfl, rfl⟩
          refine hK _ _ (HX.out _ HB2.out) (fun hHeld => ?_)
          clear hK K
          try simp only [Act.put, List.setIfInBounds_toArray, List.set_cons_zero, List.set_cons_succ]
          refine takeH (i := 19) (some 43) (v := ?_) rfl rfl (by kernel_rfl) (by kernel_rfl) (by kernel_rfl) (fun _ _ _ h => h) (by rfl) ?_ (by assumption) ?_
          rotate_left
          · (intro w hSw; (try dsimp only at hSw); go_simp; try with_reducible rfl)
          simp only [Act.put, List.setIfInBounds_toArray, List.set_cons_zero, List.set_cons_succ]
          refine takeH (i := 20) (some 44) (v := ?_) rfl rfl (by kernel_rfl) (by kernel_rfl) (by kernel_rfl) (fun _ _ _ h => h) (by rfl) ?_ (by assumption) ?_
          rotate_left
          · (intro w hSw; (try dsimp only at hSw); go_simp; try with_reducible rfl)
          simp only [Act.put, List.setIfInBounds_toArray, List.set_cons_zero, List.set_cons_succ]
          refine wpAnyH_done (by kernel_rfl) ?_ _
          go_wp2
          go_ret2
          exact QAddS.bad Hbad.out (by decide) (HB.out.trans (HB2.out.mono hsz))
        · have Hn2 := Lib.hid (Hn1.out (by rw [HBF.out, decide_eq_false hnb]; rfl))
          have hnb2 : b < (n : Int) := by omega
          clear Hat Hn1 hnb
          go_wp2
          refine wp_region_held_drew (S := (fun W => W.cell? ⟨ib, io + j * 4, none⟩ = some (.int .i64 b) ∧ W.cell? ⟨ib, io + j * 4 + 1, none⟩ = some (.int .i64 o) ∧ W.cell? ⟨ib, io + j * 4 + 2, none⟩ = some (.string s) ∧ W.cell? ⟨g, 0, none⟩ = some (.pointer (some ⟨d, 0, none⟩)))) (by kernel_rfl) (X0.out) (fun hHeld => ?_)
          refine takeH (i := 0) (some 24) (v := ?_) rfl rfl (by kernel_rfl) (by kernel_rfl) (by kernel_rfl) (fun _ _ _ h => h) (by rfl) ?_ (by assumption) ?_
          rotate_left
          · (intro w hSw; (try dsimp only at hSw); go_simp; try with_reducible rfl)
          simp only [Act.put, List.setIfInBounds_toArray, List.set_cons_zero, List.set_cons_succ]
          refine takeH (i := 1) (some 25) (v := ?_) rfl rfl (by kernel_rfl) (by kernel_rfl) (by kernel_rfl) (fun _ _ _ h => h) (by rfl) ?_ (by assumption) ?_
          rotate_left
          · (intro w hSw; (try dsimp only at hSw); go_simp; try with_reducible rfl)
          simp only [Act.put, List.setIfInBounds_toArray, List.set_cons_zero, List.set_cons_succ]
          refine takeH (i := 2) (some 26) (v := ?_) rfl rfl (by kernel_rfl) (by kernel_rfl) (by kernel_rfl) (fun _ _ _ h => h) (by rfl) ?_ (by assumption) ?_
          rotate_left
          · (intro w hSw; (try dsimp only at hSw); go_simp; try with_reducible rfl)
          simp only [Act.put, List.setIfInBounds_toArray, List.set_cons_zero, List.set_cons_succ]
          refine takeH (i := 3) (some 27) (v := ?_) rfl rfl (by kernel_rfl) (by kernel_rfl) (by kernel_rfl) (fun _ _ _ h => h) (by rfl) ?_ (by assumption) ?_
          rotate_left
          · (intro w hSw; (try dsimp only at hSw); go_simp; try with_reducible rfl)
          simp only [Act.put, List.setIfInBounds_toArray, List.set_cons_zero, List.set_cons_succ]
          refine takeH (i := 4) (some 28) (v := ?_) rfl rfl (by kernel_rfl) (by kernel_rfl) (by kernel_rfl) (fun _ _ _ h => h) (by rfl) ?_ (by assumption) ?_
          rotate_left
          · (intro w hSw; (try dsimp only at hSw); go_simp; try with_reducible rfl)
          simp only [Act.put, List.setIfInBounds_toArray, List.set_cons_zero, List.set_cons_succ]
          refine wpAnyH_ready (rs := [5]) (by kernel_rfl) (by simp) ?_
          refine AllReadyH.cons rfl (fun K hK => ?_) AllReadyH.nil
          go_simp
          refine (HR.out _).mono ?_
          rintro e w2 ⟨rfl, hb2⟩
          have HB2 : Hid (Below wr.heap.size wr w2) := ((Below.refl _ _).drew).trans hb2
          clear hb2
          refine hK _ _ (HX.out _ HB2.out) (fun hHeld => ?_)
          clear hK K
          try simp only [Act.put, List.setIfInBounds_toArray, List.set_cons_zero, List.set_cons_succ]
          refine takeH (i := 6) (some 30) (v := ?_) rfl rfl (by kernel_rfl) (by kernel_rfl) (by kernel_rfl) (fun _ _ _ h => h) (by rfl) ?_ (by assumption) ?_
          rotate_left
          · (intro w hSw; (try dsimp only at hSw); go_simp; try with_reducible rfl)
          simp only [Act.put, List.setIfInBounds_toArray, List.set_cons_zero, List.set_cons_succ]
          refine takeH (i := 7) (some 31) (v := ?_) rfl rfl (by kernel_rfl) (by kernel_rfl) (by kernel_rfl) (fun _ _ _ h => h) (by rfl) ?_ (by assumption) ?_
          rotate_left
          · (intro w hSw; (try dsimp only at hSw); go_simp; try with_reducible rfl)
          simp only [Act.put, List.setIfInBounds_toArray, List.set_cons_zero, List.set_cons_succ]
          refine takeH (i := 8) (some 32) (v := ?_) rfl rfl (by kernel_rfl) (by kernel_rfl) (by kernel_rfl) (fun _ _ _ h => h) (by rfl) ?_ (by assumption) ?_
          rotate_left
          · (intro w hSw; (try dsimp only at hSw); go_simp; try with_reducible rfl)
          simp only [Act.put, List.setIfInBounds_toArray, List.set_cons_zero, List.set_cons_succ]
          refine takeH (i := 9) (some 33) (v := ?_) rfl rfl (by kernel_rfl) (by kernel_rfl) (by kernel_rfl) (fun _ _ _ h => h) (by rfl) ?_ (by assumption) ?_
          rotate_left
          · (intro w hSw; (try dsimp only at hSw); go_simp; try with_reducible rfl)
          simp only [Act.put, List.setIfInBounds_toArray, List.set_cons_zero, List.set_cons_succ]
          refine takeH (i := 10) (some 34) (v := ?_) rfl rfl (by kernel_rfl) (by kernel_rfl) (by kernel_rfl) (fun _ _ _ h => h) (by rfl) ?_ (by assumption) ?_
          rotate_left
          · (intro w hSw; (try dsimp only at hSw); go_simp; try with_reducible rfl)
          simp only [Act.put, List.setIfInBounds_toArray, List.set_cons_zero, List.set_cons_succ]
          refine takeH (i := 11) (some 35) (v := ?_) rfl rfl (by kernel_rfl) (by kernel_rfl) (by kernel_rfl) (fun _ _ _ h => h) (by rfl) ?_ (by assumption) ?_
          rotate_left
          · (intro w hSw; (try dsimp only at hSw); go_simp; try with_reducible rfl)
          simp only [Act.put, List.setIfInBounds_toArray, List.set_cons_zero, List.set_cons_succ]
          refine takeH (i := 12) (some 36) (v := ?_) rfl rfl (by kernel_rfl) (by kernel_rfl) (by kernel_rfl) (fun _ _ _ h => h) (by rfl) ?_ (by assumption) ?_
          rotate_left
          · (intro w hSw; (try dsimp only at hSw); go_simp; try with_reducible rfl)
          simp only [Act.put, List.setIfInBounds_toArray, List.set_cons_zero, List.set_cons_succ]
          refine takeH (i := 13) (some 37) (v := ?_) rfl rfl (by kernel_rfl) (by kernel_rfl) (by kernel_rfl) (fun _ _ _ h => h) (by rfl) ?_ (by assumption) ?_
          rotate_left
          · (intro w hSw; (try dsimp only at hSw); go_simp; try with_reducible rfl)
          simp only [Act.put, List.setIfInBounds_toArray, List.set_cons_zero, List.set_cons_succ]
          refine takeH (i := 14) (some 38) (v := ?_) rfl rfl (by kernel_rfl) (by kernel_rfl) (by kernel_rfl) (fun _ _ _ h => h) (by rfl) ?_ (by assumption) ?_
          rotate_left
          · (intro w hSw; (try dsimp only at hSw); go_simp; try with_reducible rfl)
          simp only [Act.put, List.setIfInBounds_toArray, List.set_cons_zero, List.set_cons_succ]
          refine takeH (i := 15) (some 39) (v := ?_) rfl rfl (by kernel_rfl) (by kernel_rfl) (by kernel_rfl) (fun _ _ _ h => h) (by rfl) ?_ (by assumption) ?_
          rotate_left
          · (intro w hSw; (try dsimp only at hSw); go_simp; try with_reducible rfl)
          simp only [Act.put, List.setIfInBounds_toArray, List.set_cons_zero, List.set_cons_succ]
          refine takeH (i := 16) (some 40) (v := ?_) rfl rfl (by kernel_rfl) (by kernel_rfl) (by kernel_rfl) (fun _ _ _ h => h) (by rfl) ?_ (by assumption) ?_
          rotate_left
          · (intro w hSw; (try dsimp only at hSw); go_simp; try with_reducible rfl)
          simp only [Act.put, List.setIfInBounds_toArray, List.set_cons_zero, List.set_cons_succ]
          refine takeH (i := 17) (some 41) (v := ?_) rfl rfl (by kernel_rfl) (by kernel_rfl) (by kernel_rfl) (fun _ _ _ h => h) (by rfl) ?_ (by assumption) ?_
          rotate_left
          · (intro w hSw; (try dsimp only at hSw); go_simp; try with_reducible rfl)
          simp only [Act.put, List.setIfInBounds_toArray, List.set_cons_zero, List.set_cons_succ]
          refine wpAnyH_ready (rs := [18]) (by kernel_rfl) (by simp) ?_
          refine AllReadyH.cons rfl (fun K hK => ?_) AllReadyH.nil
          go_simp
          refine (HSz.out _ (HB2.out)).mono ?_
          rintro e w3 ⟨rfl, rfl⟩
          refine hK _ _ (HX.out _ HB2.out) (fun hHeld => ?_)
          clear hK K
          try simp only [Act.put, List.setIfInBounds_toArray, List.set_cons_zero, List.set_cons_succ]
          refine takeH (i := 19) (some 43) (v := ?_) rfl rfl (by kernel_rfl) (by kernel_rfl) (by kernel_rfl) (fun _ _ _ h => h) (by rfl) ?_ (by assumption) ?_
          rotate_left
          · (intro w hSw; (try dsimp only at hSw); go_simp; try with_reducible rfl)
          simp only [Act.put, List.setIfInBounds_toArray, List.set_cons_zero, List.set_cons_succ]
          refine takeH (i := 20) (some 44) (v := ?_) rfl rfl (by kernel_rfl) (by kernel_rfl) (by kernel_rfl) (fun _ _ _ h => h) (by rfl) ?_ (by assumption) ?_
          rotate_left
          · (intro w hSw; (try dsimp only at hSw); go_simp; try with_reducible rfl)
          simp only [Act.put, List.setIfInBounds_toArray, List.set_cons_zero, List.set_cons_succ]
          refine wpAnyH_done (by kernel_rfl) ?_ _
          go_wp2
          go_roundw
          case rel => exact ⟨j + 1, by omega, by go_num, HB.out.trans (HB2.out.mono hsz), Hn2.out⟩
          case measure => simp [intOf]; omega
    · obtain rfl : j = its.length := by omega
      have hlti : ¬ (its.length : Int) < (its.length : Int) := by omega
      have HF0 := Lib.hid (form_none hno.out)
      have Hfo : Hid (∀ x ∈ its, x.p.right = true ∧ x.p.b < n) := fun x hx => by
        have := List.any_eq_false.1 HF0.out x hx
        simp [badForm] at this
        exact this
      clear hno
      go_wp2
      go_loopw [7] (fun q wr => ∃ j : Nat, j ≤ its.length ∧ q = .int .i64 j ∧ Hid (Below w.heap.size w wr) ∧ Hid (∀ t, t < j → badDeps k t (itN its t) = false)) (fun q _ => its.length - (intOf q).toNat)
      case atStart => exact ⟨0, Nat.zero_le _, rfl, HB.out, fun t ht => absurd ht (by omega)⟩
      case round =>
        obtain ⟨j, hj, rfl, HBr, hno⟩ := hrel
        rename World => wr
        have hsz := HBr.out.size
        by_cases hlt : j < its.length
        · have hlti : (j : Int) < (its.length : Int) := by omega
          have hj0 : (0 : Int) ≤ (j : Int) := by omega
          obtain ⟨ib, io, Ak, ck, hAI, hib, _, hx⟩ := (HI.out.fresh HBr.out).at_ hlt
          subst hAI
          obtain ⟨_, _, _, c3, hints⟩ := hx
          have HC3 : Hid (∀ W, Below wr.heap.size wr W → W.cell? ⟨ib, io + j * 4 + 3, none⟩ = some (.slice Ak (itN its j).d.length ck)) := fun W hW => (hW.cell (p := ⟨ib, io + j * 4 + 3, none⟩) hib).trans c3
          have HIn := Lib.hid hints
          have HSj := Lib.hid (HSm.out _ (itN_mem hlt))
          have hdl : (itN its j).d.length ≤ 1000 := HSj.out.2.1
          have Hat := Lib.hid (fun (m : Nat) hm hh => @badAll_at k its j m hlt hm hh)
          have Hn1 : Hid (badDeps k j (itN its j) = false → ∀ t, t < j + 1 → badDeps k t (itN its t) = false) := fun h t ht => by
            rcases Nat.lt_or_ge t j with q | q
            · exact hno.out t q
            · obtain rfl : t = j := by omega
              exact h
          obtain ⟨dl, hdl2⟩ : ∃ dl, dl = (itN its j).d.length := ⟨_, rfl⟩
          have Hdl : Hid ((itN its j).d.length = dl) := hdl2.symm
          rw [← hdl2] at HC3 hdl
          clear hdl2 hints c3
          go_wp2
          go_loopw [8, 9] (fun q _ wi => ∃ m : Nat, m ≤ dl ∧ q = .int .i64 m ∧ Hid (Below wr.heap.size wr wi) ∧ Hid (∀ t (ht : t < (itN its j).d.length), t < m → badDep k j (itN its j).d[t] = false)) (fun q _ _ => dl - (intOf q).toNat)
          case atStart => exact ⟨0, Nat.zero_le _, rfl, Below.refl _ _, fun t _ ht => absurd ht (by omega)⟩
          case round =>
            obtain ⟨m, hm, rfl, HBi, hall⟩ := hrel
            rename World => wi
            have c3 := HC3.out wi HBi.out
            have hibw : ib < wi.heap.size := Nat.lt_of_lt_of_le hib HBi.out.size
            by_cases hmd : m < dl
            · have hmi : (m : Int) < (dl : Int) := by omega
              have hm0 : (0 : Int) ≤ (m : Int) := by omega
              have hml : m < (itN its j).d.length := by rw [Hdl.out]; exact hmd
              obtain ⟨db, doff, hAk, hdb, _, hdc⟩ := (HIn.out.keep (w' := wi) (F' := footQ g A A2 Fd) (G := fun _ => False) (Kept.fresh HBi.out) (fun _ q => q.elim) (fun _ q => .inl q)) (by rw [Hdl.out]; omega)
              subst hAk
              have e3 := (HQ.out.fresh (HBr.out.trans (HBi.out.mono hsz))).head.c3
              have hgw := (HQ.out.fresh (HBr.out.trans (HBi.out.mono hsz))).head.lt
              have hdcm := hdc m hml
              have hi64 := HSj.out.2.2 _ (List.getElem_mem hml)
              have Hst := Lib.hid (Hat.out m hml)
              have Hnx : Hid (badDep k j (itN its j).d[m] = false → ∀ t (ht : t < (itN its j).d.length), t < m + 1 → badDep k j (itN its j).d[t] = false) := fun h t ht ht2 => by
                by_cases e : t = m
                · subst e; exact h
                · exact hall.out t ht (by omega)
              generalize (itN its j).d[m] = v at hdcm hi64 Hst Hnx
              unfold I64 at hi64
              clear hdc
              by_cases h1 : k ≤ v
              · have Hbad : Hid (refusesE n k l.length its = 2) := by unfold Hid refusesE; rw [HF0.out, Hst.out (by unfold badDep; rw [decide_eq_true h1]; rfl)]; rfl
                clear Hst Hnx
                go_wp2
                go_ret2
                exact QAddS.bad Hbad.out (by decide) (HBr.out.trans (HBi.out.mono hsz))
              · have h1' : v < k := by omega
                by_cases h2 : (j : Int) ≤ -1 - v
                · have Hbad : Hid (refusesE n k l.length its = 2) := by unfold Hid refusesE; rw [HF0.out, Hst.out (by unfold badDep; rw [decide_eq_false h1, decide_eq_true h2]; rfl)]; rfl
                  have h2' : v < -(j : Int) := by omega
                  clear Hst Hnx h1 h2
                  go_wp2
                  go_ret2
                  exact QAddS.bad Hbad.out (by decide) (HBr.out.trans (HBi.out.mono hsz))
                · have Hn2 := Lib.hid (Hnx.out (by unfold badDep; rw [decide_eq_false h1, decide_eq_false h2]; rfl))
                  have h2' : -(j : Int) ≤ v := by omega
                  clear Hst Hnx h1 h2
                  go_wp2
                  go_roundw
                  case rel => exact ⟨m + 1, by omega, by go_num, HBi.out, Hn2.out⟩
                  case measure => simp [intOf]; omega
            · obtain rfl : m = dl := by omega
              have hmi : ¬ (m : Int) < (m : Int) := by omega
              have Hn2 := Lib.hid (Hn1.out (by
                unfold badDeps
                rw [List.any_eq_false]
                intro y hy
                obtain ⟨t, ht, rfl⟩ := List.mem_iff_getElem.1 hy
                have := hall.out t ht (by rw [← Hdl.out]; exact ht)
                simp [this]))
              clear hall
              go_wp2
              go_roundw
              case rel => exact ⟨j + 1, by omega, by go_num, HBr.out.trans (HBi.out.mono hsz), Hn2.out⟩
              case measure => simp [intOf]; omega
        · obtain rfl : j = its.length := by omega
          have hlti : ¬ (its.length : Int) < (its.length : Int) := by omega
          have HA0 := Lib.hid (badAll_none hno.out)
          have Hdo : Hid (∀ j, j < its.length → ∀ v ∈ (itN its j).d, v < k ∧ -(j : Int) ≤ v) := fun j hj v hv => by
            have h := hno.out j hj
            unfold badDeps at h
            have := List.any_eq_false.1 h v hv
            simp [badDep] at this
            omega
          have e1 := (HQ.out.fresh HBr.out).head.c1
          have e3 := (HQ.out.fresh HBr.out).head.c3
          have hgr := (HQ.out.fresh HBr.out).head.lt
          clear hno
          by_cases hfl : 200 < its.length + l.length
          · have Hbad : Hid (refusesE n k l.length its = 11) := by unfold Hid refusesE; rw [HF0.out, HA0.out]; simp [hfl]
            have hq : (200 : Int) - (l.length : Int) < (its.length : Int) := by omega
            clear hfl
            go_wp2
            go_ret2
            exact QAddS.bad Hbad.out (by decide) HBr.out
          · have Hbad : Hid (refusesE n k l.length its = 0) := by unfold Hid refusesE; rw [HF0.out, HA0.out]; simp [hfl]
            have hq : (its.length : Int) ≤ (200 : Int) - (l.length : Int) := by omega
            have hsum : its.length + l.length ≤ 200 := by omega
            clear hfl
            go_wp2
            go_loopw [11] (fun q wr => ∃ (j : Nat) (l' : List Vr) (F' : Nat → Prop), j ≤ its.length ∧ q = .int .i64 j ∧ Hid (QAdded k l k (its.take j) l') ∧ Hid (Qe wr g n S cc (k + (j : Int)) l' t F') ∧ Hid (∀ x ∈ l', x.p.right = true) ∧ Hid (Kept w wr (footQ g A A2 Fd)) ∧ Hid (∀ b, F' b → footQ g A A2 Fd b ∨ w.heap.size ≤ b)) (fun q _ => its.length - (intOf q).toNat)
            case atStart => exact ⟨0, l, footQ g A A2 Fd, Nat.zero_le _, rfl, by rw [List.take_zero]; exact QAdded.nil, by rw [show k + ((0 : Nat) : Int) = k by simp]; exact ⟨d, A, c, A2, c2, Fd, HQ.out.fresh HBr.out, rfl⟩, HRl.out, Kept.fresh HBr.out, fun b q => .inl q⟩
            case round =>
              obtain ⟨j, l', F', hj, rfl, hadd, hE, hrl, hK, hF⟩ := hrel
              rename World => w5
              by_cases hlt : j < its.length
              · have hlti : (j : Int) < (its.length : Int) := by omega
                have hj0 : (0 : Int) ≤ (j : Int) := by omega
                obtain ⟨d', A1, c1, A3, c3x, Fd', hqa, hFe⟩ := hE.out
                have HQ5 := Lib.hid hqa
                have HFe := Lib.hid hFe
                obtain ⟨ib, io, Ak, ck, hAI, hib, hnf, hx⟩ := (HI.out.keep hK.out (fun _ q => q) hF.out).at_ hlt
                subst hAI
                obtain ⟨c0, c1', c2', c3, hints⟩ := hx
                have hgib : ib ≠ g := fun e => hnf (by rw [e, hFe]; exact .inl rfl)
                have hll := hadd.out.length
                rw [List.length_take, Nat.min_eq_left (by omega)] at hll
                have hl200 : l'.length ≤ 200 := by omega
                have Hll := Lib.hid hll
                clear hll
                have hmem := itN_mem hlt
                have hsm := HSm.out _ hmem
                have ho1 := Hfo.out _ hmem
                have ho2 := Hdo.out j hlt
                have Htk := Lib.hid (itN_take hlt)
                obtain ⟨x, hx⟩ : ∃ x, x = itN its j := ⟨_, rfl⟩
                rw [← hx] at c0 c1' c2' c3 hints hsm ho1 ho2 Htk
                clear hx hmem hqa hFe hnf
                obtain ⟨⟨b, o, s⟩, ds⟩ := x
                dsimp only at c0 c1' c2' c3 hints ho1 ho2
                have Hxr : Hid ((Pt.mk b o s).right = true) := ho1.1
                have hokx : Hid ((Pt.mk b o s).ok) := hsm.1
                have hdl1 : ds.length ≤ 1000 := hsm.2.1
                have hd64 := Lib.hid hsm.2.2
                have Ho2 := Lib.hid ho2
                have HIn := Lib.hid hints
                clear hsm ho1 ho2 hints
                obtain ⟨D, hD⟩ : ∃ D, D = ds.map (depN k) := ⟨_, rfl⟩
                have HDe := Lib.hid hD
                obtain ⟨dl, hdl2⟩ : ∃ dl, dl = ds.length := ⟨_, rfl⟩
                have Hdl : Hid (ds.length = dl) := hdl2.symm
                have HDl : Hid (D.length = dl) := by unfold Hid; rw [hD, List.length_map, hdl2]
                rw [← hdl2] at c3 hdl1
                clear hD hdl2
                have HC3 : Hid (∀ W, Below w5.heap.size w5 W → W.cell? ⟨ib, io + j * 4 + 3, none⟩ = some (.slice Ak dl ck)) := fun W hW => (hW.cell (p := ⟨ib, io + j * 4 + 3, none⟩) hib).trans c3
                have HC0 : Hid (∀ W, Below w5.heap.size w5 W → W.cell? ⟨ib, io + j * 4, none⟩ = some (.int .i64 b) ∧ W.cell? ⟨ib, io + j * 4 + 1, none⟩ = some (.int .i64 o) ∧ W.cell? ⟨ib, io + j * 4 + 2, none⟩ = some (.string s)) := fun W hW => ⟨(hW.cell (p := ⟨ib, io + j * 4, none⟩) hib).trans c0, (hW.cell (p := ⟨ib, io + j * 4 + 1, none⟩) hib).trans c1', (hW.cell (p := ⟨ib, io + j * 4 + 2, none⟩) hib).trans c2'⟩
                clear c0 c1' c2' c3
                obtain ⟨j0, hj0i, hj0z, hj01, hj02⟩ := info_parts infoI
                go_wp2
                go_loopw [12, 13, 14] (fun v q _ wq => ∃ (m : Nat) (A5 : Option Addr) (c5 : Nat), m ≤ dl ∧ q = .int .i64 m ∧ v = .slice A5 m c5 ∧ Hid (wq.ownsRow w5.heap.size 3 1 (.slice A5 m c5) m (intsI (D.take m))) ∧ Hid (Below w5.heap.size w5 wq)) (fun _ q _ _ => dl - (intOf q).toNat)
                case atStart => exact ⟨0, none, 0, Nat.zero_le _, rfl, rfl, World.ownsRow_nil _ _ _ _, Below.refl _ _⟩
                case round =>
                  obtain ⟨m, A5, c5, hm, rfl, rfl, hrow, hBq⟩ := hrel
                  rename World => wq
                  have c3q := HC3.out wq hBq.out
                  have hibq : ib < wq.heap.size := Nat.lt_of_lt_of_le hib hBq.out.size
                  have hsq := hBq.out.size
                  by_cases hmd : m < dl
                  · have hmi : (m : Int) < (dl : Int) := by omega
                    have hm0 : (0 : Int) ≤ (m : Int) := by omega
                    have hml : m < ds.length := by rw [Hdl.out]; exact hmd
                    obtain ⟨db, doff, hAk, hdb, _, hdc⟩ := HIn.out (by rw [Hdl.out]; omega)
                    subst hAk
                    have hdcm := (hBq.out.cell (p := ⟨db, doff + m, none⟩) hdb).trans (hdc m hml)
                    have hdbq : db < wq.heap.size := Nat.lt_of_lt_of_le hdb hsq
                    have hb64 := hd64.out _ (List.getElem_mem hml)
                    obtain ⟨hv1, hv2⟩ := Ho2.out _ (List.getElem_mem hml)
                    have HDm : Hid (D.take (m + 1) = D.take m ++ [depN k ds[m]]) := by
                      have hmD : m < D.length := by rw [HDl.out]; exact hmd
                      unfold Hid
                      rw [List.take_succ_eq_append_getElem hmD]
                      congr 2
                      have := HDe.out
                      subst this
                      simp
                    generalize ds[m] = v at hdcm hb64 hv1 hv2 HDm
                    unfold I64 at hb64
                    have hw1 : IntKind.i64.wrap (k - v) = k - v := by simp [IntKind.wrap, IntKind.bits, IntKind.signed]; omega
                    have hw2 : IntKind.i64.wrap (k - v - 1) = k - v - 1 := by simp [IntKind.wrap, IntKind.bits, IntKind.signed]; omega
                    have Hold : Hid (∀ j, (Value.slice A5 m c5).ownBlock = some j → w5.heap.size ≤ j) := fun j e => (hrow.out.lt j e).1
                    clear hdc
                    by_cases hneg : v < 0
                    all_goals
                      first
                        | (have HDm2 : Hid (D.take (m + 1) = D.take m ++ [k - v - 1]) := by (unfold Hid; rw [HDm.out]; unfold depN; rw [if_pos hneg]; congr 2; omega)
                           obtain ⟨u, hu⟩ : ∃ u, u = k - v - 1 := ⟨_, rfl⟩)
                        | (have HDm2 : Hid (D.take (m + 1) = D.take m ++ [v]) := by (unfold Hid; rw [HDm.out]; unfold depN; rw [if_neg hneg])
                           have hneg2 : 0 ≤ v := by omega
                           obtain ⟨u, hu⟩ : ∃ u, u = v := ⟨_, rfl⟩)
                      have Hrow : Hid (∀ u : Int, (wq.alloc (.cells #[.int .i64 u] 3)).ownsRow w5.heap.size 3 1 (.slice A5 m c5) m (intsI (D.take m))) := fun u => hrow.out.alloc _
                      have Hnew : Hid (∀ u : Int, ∀ ad, some (⟨wq.heap.size, 0, none⟩ : Addr) = some ad → ∀ j x, ([.int .i64 u] : List Value)[j]? = some x → (wq.alloc (.cells #[.int .i64 u] 3)).cell? (ad.add j) = some x) := fun u ad e j x hx => by
                        cases e
                        exact World.news_of_block (heap_alloc_new wq _) j x hx
                      rw [← hu] at HDm2
                      have Hys : Hid (intsI (D.take m) ++ [.int .i64 u] = intsI (D.take (m + 1))) := by unfold Hid; rw [HDm2.out]; simp [intsI]
                      clear HDm HDm2
                      first
                        | (have hu2 : k - v - 1 = u := hu.symm
                           have hw3 : IntKind.i64.wrap (k - v - 1) = u := by rw [hw2, hu]
                           clear hw2 hu)
                        | (subst hu)
                      go_wp2_with (at_builtin; go_loud (refine wpList_append_src rfl (.tmp 124) (.tmp 126) 23 rfl w5.heap.size 3 j0 (.int .i64 0) 1 8 Tryz.underlying23 hj0i hj0z hj01 hj02 rfl (by decide) (.slice A5 m c5) m (intsI (D.take m)) rfl (Hrow.out _) (some ⟨wq.heap.size, 0, none⟩) 1 1 _ rfl rfl (Hnew.out _) (fun e => by cases e) (by intro u hu; rw [List.mem_singleton] at hu; rw [hu]; rfl) (by unfold maxLen; omega) (by omega) (by simp; omega) (m + 1) rfl ?_; intro A7 c7 w7 ho7 hg7 hor7; have HB7 : Hid (Below w5.heap.size w5 w7) := (hBq.out.alloc hsq _).grown hg7 (by simp; omega) Hold.out; have HO7 := Lib.hid ho7; clear ho7 hg7 hor7))
                      go_roundw
                      case rel => exact ⟨m + 1, A7, c7, by omega, by go_num, rfl, by have h := HO7.out; rw [Hys.out] at h; exact h, HB7.out⟩
                      case measure => simp [intOf]; omega
                  · obtain rfl : m = dl := by omega
                    have hmi : ¬ (m : Int) < (m : Int) := by omega
                    rw [List.take_of_length_le (by rw [HDl.out]; exact Nat.le_refl _)] at hrow
                    have HB5 := hBq
                    clear hBq
                    go_wp2
                    go_loopw [12, 15] (fun v q wq => ∃ (m n2 : Nat) (A5 : Option Addr) (c5 : Nat), m ≤ l'.length ∧ q = .int .i64 m ∧ v = .slice A5 n2 c5 ∧ Hid ((D ++ overV (l'.take m) ⟨b, o, s⟩).length = n2) ∧ Hid (wq.ownsRow w5.heap.size 3 1 (.slice A5 n2 c5) n2 (intsI (D ++ overV (l'.take m) ⟨b, o, s⟩))) ∧ Hid (Below w5.heap.size w5 wq)) (fun _ q _ => l'.length - (intOf q).toNat)
                    case atStart => exact ⟨0, m, A5, c5, Nat.zero_le _, rfl, rfl, by unfold Hid; rw [List.take_zero]; show (D ++ []).length = m; rw [List.append_nil]; exact HDl.out, by unfold Hid; rw [List.take_zero]; show World.ownsRow _ _ _ _ _ _ (intsI (D ++ [])); rw [List.append_nil]; exact hrow.out, HB5.out⟩
                    case round =>
                      obtain ⟨m6, n5, A5, c5, hm6, rfl, rfl, hn5, hrow, hBq⟩ := hrel
                      rename World => wq
                      have hsq := hBq.out.size
                      have hibq : ib < wq.heap.size := Nat.lt_of_lt_of_le hib hsq
                      have HQq := Lib.hid (HQ5.out.fresh hBq.out)
                      have hgq := HQq.out.head.lt
                      have e1q := HQq.out.head.c1
                      have hol := overV_len (l'.take m6) ⟨b, o, s⟩
                      have hn5' : n5 ≤ m + 200 := by
                        have h1 := hn5.out
                        rw [List.length_append, HDl.out] at h1
                        rw [List.length_take] at hol
                        omega
                      clear hol
                      by_cases hml : m6 < l'.length
                      · have hmi : (m6 : Int) < (l'.length : Int) := by omega
                        have hm0 : (0 : Int) ≤ (m6 : Int) := by omega
                        obtain ⟨ab, hA1, ha3, ha4, hab, hcs, _⟩ := HQq.out.row.at_ hml
                        subst hA1
                        unfold maxLen at ha4
                        have hyr := hrl.out _ (vn_mem hml)
                        have Hst := Lib.hid (overV_step hml ⟨b, o, s⟩)
                        have d0 := hcs 0 (by omega)
                        have d1 := hcs 1 (by omega)
                        have d2 := hcs 2 (by omega)
                        have d3 := hcs 3 (by omega)
                        clear hcs
                        obtain ⟨y, hy⟩ : ∃ y, y = vn l' m6 := ⟨_, rfl⟩
                        rw [← hy] at d0 d1 d2 d3 hyr Hst
                        clear hy
                        obtain ⟨ny, ⟨yb, yo, ys⟩, yds, ya, yc⟩ := y
                        simp [Vr.cs] at d0 d1 d2 d3
                        dsimp only at hyr Hst
                        have HO := Lib.hid (fun W => refoverlap_any ⟨yb, yo, ys⟩ ⟨b, o, s⟩ W (Pt.ok_of_right hyr) hokx.out)
                        unfold Pt.v at HO
                        dsimp only at HO
                        generalize (Pt.mk yb yo ys).over ⟨b, o, s⟩ = tt at HO Hst
                        clear hyr
                        have HX34 : Hid (∀ W, Below wq.heap.size wq W → W.cell? ⟨g, 1, none⟩ = some (.slice (some ⟨ab, 0, none⟩) l'.length c1) ∧ W.cell? ⟨ab, m6 * 5 + 1, none⟩ = some (.int .i64 yb) ∧ W.cell? ⟨ab, m6 * 5 + 2, none⟩ = some (.int .i64 yo) ∧ W.cell? ⟨ab, m6 * 5 + 3, none⟩ = some (.string ys) ∧ W.cell? ⟨ib, io + j * 4, none⟩ = some (.int .i64 b) ∧ W.cell? ⟨ib, io + j * 4 + 1, none⟩ = some (.int .i64 o) ∧ W.cell? ⟨ib, io + j * 4 + 2, none⟩ = some (.string s)) := fun W hW =>
                          ⟨(hW.cell (p := ⟨g, 1, none⟩) hgq).trans e1q, (hW.cell (p := ⟨ab, m6 * 5 + 1, none⟩) hab).trans d1, (hW.cell (p := ⟨ab, m6 * 5 + 2, none⟩) hab).trans d2, (hW.cell (p := ⟨ab, m6 * 5 + 3, none⟩) hab).trans d3, (HC0.out W (hBq.out.trans (hW.mono hsq))).1, (HC0.out W (hBq.out.trans (hW.mono hsq))).2.1, (HC0.out W (hBq.out.trans (hW.mono hsq))).2.2⟩
                        have HD0 : Hid (∀ W, Below wq.heap.size wq W → W.cell? ⟨ab, m6 * 5, none⟩ = some (.int .i64 ny)) := fun W hW => (hW.cell (p := ⟨ab, m6 * 5, none⟩) hab).trans d0
                        have X0 := Lib.hid (HX34.out _ ((Below.refl _ _).drew))
                        clear d0 d1 d2 d3
                        go_wp2
                        refine wp_region_held_drew (S := (fun W => W.cell? ⟨g, 1, none⟩ = some (.slice (some ⟨ab, 0, none⟩) l'.length c1) ∧ W.cell? ⟨ab, m6 * 5 + 1, none⟩ = some (.int .i64 yb) ∧ W.cell? ⟨ab, m6 * 5 + 2, none⟩ = some (.int .i64 yo) ∧ W.cell? ⟨ab, m6 * 5 + 3, none⟩ = some (.string ys) ∧ W.cell? ⟨ib, io + j * 4, none⟩ = some (.int .i64 b) ∧ W.cell? ⟨ib, io + j * 4 + 1, none⟩ = some (.int .i64 o) ∧ W.cell? ⟨ib, io + j * 4 + 2, none⟩ = some (.string s))) (by kernel_rfl) (X0.out) (fun hHeld => ?_)
                        refine takeH (i := 0) (some 137) (v := ?_) rfl rfl (by kernel_rfl) (by kernel_rfl) (by kernel_rfl) (fun _ _ _ h => h) (by rfl) ?_ (by assumption) ?_
                        rotate_left
                        · (intro w hSw; (try dsimp only at hSw); go_simp; try with_reducible rfl)
                        simp only [Act.put, List.setIfInBounds_toArray, List.set_cons_zero, List.set_cons_succ]
                        refine takeH (i := 1) (some 138) (v := ?_) rfl rfl (by kernel_rfl) (by kernel_rfl) (by kernel_rfl) (fun _ _ _ h => h) (by rfl) ?_ (by assumption) ?_
                        rotate_left
                        · (intro w hSw; (try dsimp only at hSw); go_simp; try with_reducible rfl)
                        simp only [Act.put, List.setIfInBounds_toArray, List.set_cons_zero, List.set_cons_succ]
                        refine takeH (i := 2) (some 139) (v := ?_) rfl rfl (by kernel_rfl) (by kernel_rfl) (by kernel_rfl) (fun _ _ _ h => h) (by rfl) ?_ (by assumption) ?_
                        rotate_left
                        · (intro w hSw; (try dsimp only at hSw); go_simp; try with_reducible rfl)
                        simp only [Act.put, List.setIfInBounds_toArray, List.set_cons_zero, List.set_cons_succ]
                        refine takeH (i := 3) (some 140) (v := ?_) rfl rfl (by kernel_rfl) (by kernel_rfl) (by kernel_rfl) (fun _ _ _ h => h) (by rfl) ?_ (by assumption) ?_
                        rotate_left
                        · (intro w hSw; (try dsimp only at hSw); go_simp; try with_reducible rfl)
                        simp only [Act.put, List.setIfInBounds_toArray, List.set_cons_zero, List.set_cons_succ]
                        refine takeH (i := 4) (some 141) (v := ?_) rfl rfl (by kernel_rfl) (by kernel_rfl) (by kernel_rfl) (fun _ _ _ h => h) (by rfl) ?_ (by assumption) ?_
                        rotate_left
                        · (intro w hSw; (try dsimp only at hSw); go_simp; try with_reducible rfl)
                        simp only [Act.put, List.setIfInBounds_toArray, List.set_cons_zero, List.set_cons_succ]
                        refine takeH (i := 5) (some 142) (v := ?_) rfl rfl (by kernel_rfl) (by kernel_rfl) (by kernel_rfl) (fun _ _ _ h => h) (by rfl) ?_ (by assumption) ?_
                        rotate_left
                        · (intro w hSw; (try dsimp only at hSw); go_simp; try with_reducible rfl)
                        simp only [Act.put, List.setIfInBounds_toArray, List.set_cons_zero, List.set_cons_succ]
                        refine takeH (i := 6) (some 143) (v := ?_) rfl rfl (by kernel_rfl) (by kernel_rfl) (by kernel_rfl) (fun _ _ _ h => h) (by rfl) ?_ (by assumption) ?_
                        rotate_left
                        · (intro w hSw; (try dsimp only at hSw); go_simp; try with_reducible rfl)
                        simp only [Act.put, List.setIfInBounds_toArray, List.set_cons_zero, List.set_cons_succ]
                        refine takeH (i := 7) (some 144) (v := ?_) rfl rfl (by kernel_rfl) (by kernel_rfl) (by kernel_rfl) (fun _ _ _ h => h) (by rfl) ?_ (by assumption) ?_
                        rotate_left
                        · (intro w hSw; (try dsimp only at hSw); go_simp; try with_reducible rfl)
                        simp only [Act.put, List.setIfInBounds_toArray, List.set_cons_zero, List.set_cons_succ]
                        refine takeH (i := 8) (some 145) (v := ?_) rfl rfl (by kernel_rfl) (by kernel_rfl) (by kernel_rfl) (fun _ _ _ h => h) (by rfl) ?_ (by assumption) ?_
                        rotate_left
                        · (intro w hSw; (try dsimp only at hSw); go_simp; try with_reducible rfl)
                        simp only [Act.put, List.setIfInBounds_toArray, List.set_cons_zero, List.set_cons_succ]
                        refine takeH (i := 9) (some 146) (v := ?_) rfl rfl (by kernel_rfl) (by kernel_rfl) (by kernel_rfl) (fun _ _ _ h => h) (by rfl) ?_ (by assumption) ?_
                        rotate_left
                        · (intro w hSw; (try dsimp only at hSw); go_simp; try with_reducible rfl)
                        simp only [Act.put, List.setIfInBounds_toArray, List.set_cons_zero, List.set_cons_succ]
                        refine takeH (i := 10) (some 147) (v := ?_) rfl rfl (by kernel_rfl) (by kernel_rfl) (by kernel_rfl) (fun _ _ _ h => h) (by rfl) ?_ (by assumption) ?_
                        rotate_left
                        · (intro w hSw; (try dsimp only at hSw); go_simp; try with_reducible rfl)
                        simp only [Act.put, List.setIfInBounds_toArray, List.set_cons_zero, List.set_cons_succ]
                        refine takeH (i := 11) (some 148) (v := ?_) rfl rfl (by kernel_rfl) (by kernel_rfl) (by kernel_rfl) (fun _ _ _ h => h) (by rfl) ?_ (by assumption) ?_
                        rotate_left
                        · (intro w hSw; (try dsimp only at hSw); go_simp; try with_reducible rfl)
                        simp only [Act.put, List.setIfInBounds_toArray, List.set_cons_zero, List.set_cons_succ]
                        refine takeH (i := 12) (some 149) (v := ?_) rfl rfl (by kernel_rfl) (by kernel_rfl) (by kernel_rfl) (fun _ _ _ h => h) (by rfl) ?_ (by assumption) ?_
                        rotate_left
                        · (intro w hSw; (try dsimp only at hSw); go_simp; try with_reducible rfl)
                        simp only [Act.put, List.setIfInBounds_toArray, List.set_cons_zero, List.set_cons_succ]
                        refine wpAnyH_ready (rs := [13]) (by kernel_rfl) (by simp) ?_
                        refine AllReadyH.cons rfl (fun K hK => ?_) AllReadyH.nil
                        go_simp
                        refine (HO.out _).mono ?_
                        rintro e wc ⟨rfl, hbc⟩
                        have HC : Hid (Below wq.heap.size wq wc) := ((Below.refl _ _).drew).trans hbc
                        clear hbc
                        refine hK _ _ (HX34.out _ HC.out) (fun hHeld => ?_)
                        clear hK K
                        try simp only [Act.put, List.setIfInBounds_toArray, List.set_cons_zero, List.set_cons_succ]
                        refine wpAnyH_done (by kernel_rfl) ?_ _
                        have hsz2 := HC.out.size
                        have hgw : g < wc.heap.size := by omega
                        have habw : ab < wc.heap.size := by omega
                        have ew := (HX34.out wc HC.out).1
                        have dw := HD0.out wc HC.out
                        cases tt with
                        | true =>
                          have Hst2 : Hid (overV (l'.take (m6 + 1)) ⟨b, o, s⟩ = overV (l'.take m6) ⟨b, o, s⟩ ++ [ny]) := by unfold Hid; rw [Hst.out]; simp
                          have Hys : Hid (intsI (D ++ overV (l'.take m6) ⟨b, o, s⟩) ++ [.int .i64 ny] = intsI (D ++ overV (l'.take (m6 + 1)) ⟨b, o, s⟩)) := by unfold Hid; rw [Hst2.out]; simp [intsI]
                          have Hrow : Hid ((wc.alloc (.cells #[.int .i64 ny] 3)).ownsRow w5.heap.size 3 1 (.slice A5 n5 c5) n5 (intsI (D ++ overV (l'.take m6) ⟨b, o, s⟩))) := ((Kept.fresh (S := fun _ => False) HC.out).row hrow.out (fun _ _ q => q)).alloc _
                          have Hnew : Hid (∀ ad, some (⟨wc.heap.size, 0, none⟩ : Addr) = some ad → ∀ j x, ([.int .i64 ny] : List Value)[j]? = some x → (wc.alloc (.cells #[.int .i64 ny] 3)).cell? (ad.add j) = some x) := fun ad e j x hx => by
                            cases e
                            exact World.news_of_block (heap_alloc_new wc _) j x hx
                          have Hold : Hid (∀ j, (Value.slice A5 n5 c5).ownBlock = some j → w5.heap.size ≤ j) := fun j e => (hrow.out.lt j e).1
                          have HB6 : Hid (Below w5.heap.size w5 wc) := hBq.out.trans (HC.out.mono hsq)
                          clear Hst
                          go_wp2_with (at_builtin; go_loud (refine wpList_append_src rfl (.tmp 151) (.tmp 160) 23 rfl w5.heap.size 3 j0 (.int .i64 0) 1 8 Tryz.underlying23 hj0i hj0z hj01 hj02 rfl (by decide) (.slice A5 n5 c5) n5 (intsI (D ++ overV (l'.take m6) ⟨b, o, s⟩)) rfl Hrow.out (some ⟨wc.heap.size, 0, none⟩) 1 1 _ rfl rfl Hnew.out (fun e => by cases e) (by intro u hu; rw [List.mem_singleton] at hu; rw [hu]; rfl) (by unfold maxLen; omega) (by omega) (by simp; omega) (n5 + 1) rfl ?_; intro A7 c7 w7 ho7 hg7 hor7; have HB7 : Hid (Below w5.heap.size w5 w7) := (HB6.out.alloc HB6.out.size _).grown hg7 (by simp; omega) Hold.out; have HO7 := Lib.hid ho7; clear ho7 hg7 hor7))
                          go_roundw
                          case rel => exact ⟨m6 + 1, n5 + 1, A7, c7, by omega, by go_num, rfl, by unfold Hid; rw [Hst2.out, ← List.append_assoc, List.length_append, hn5.out]; rfl, by have h := HO7.out; rw [Hys.out] at h; exact h, HB7.out⟩
                          case measure => simp [intOf]; omega
                        | false =>
                          have Hst2 : Hid (overV (l'.take (m6 + 1)) ⟨b, o, s⟩ = overV (l'.take m6) ⟨b, o, s⟩) := by unfold Hid; rw [Hst.out]; simp
                          have HB6 : Hid (Below w5.heap.size w5 wc) := hBq.out.trans (HC.out.mono hsq)
                          have Hrow : Hid (wc.ownsRow w5.heap.size 3 1 (.slice A5 n5 c5) n5 (intsI (D ++ overV (l'.take m6) ⟨b, o, s⟩))) := (Kept.fresh (S := fun _ => False) HC.out).row hrow.out (fun _ _ q => q)
                          clear Hst
                          go_wp2
                          go_roundw
                          case rel => exact ⟨m6 + 1, n5, A5, c5, by omega, by go_num, rfl, by unfold Hid; rw [Hst2.out]; exact hn5.out, by unfold Hid; rw [Hst2.out]; exact Hrow.out, HB6.out⟩
                          case measure => simp [intOf]; omega
                      · obtain rfl : m6 = l'.length := by omega
                        have hmi : ¬ (l'.length : Int) < (l'.length : Int) := by omega
                        rw [List.take_length] at hn5 hrow
                        obtain ⟨i0, hi0, hz0, hz1, hz2⟩ := info_parts infoV
                        have e3q := HQq.out.head.c3
                        have hg1 : wq.cell? ⟨g, 1, none⟩ = some (.slice A1 l'.length c1) := e1q
                        have HV : Hid (NumVAt wq ⟨k + (j : Int), ⟨b, o, s⟩, D ++ overV l' ⟨b, o, s⟩, A5, c5⟩) := by
                          unfold Hid NumVAt
                          dsimp only
                          rw [hn5.out]
                          exact row_zero hrow.out
                        have HBa : Hid (Below wq.heap.size wq (wq.alloc (.cells #[] 114)).drew) := ((Below.refl _ _).alloc (Nat.le_refl _) _).drew
                        have HBb : Hid (Below wq.heap.size wq ((wq.alloc (.cells #[] 114)).alloc (.cells #[.int .i64 (k + (j : Int)), .int .i64 b, .int .i64 o, .string s, .slice A5 n5 c5] 114)).drew) := (((Below.refl _ _).alloc (Nat.le_refl _) _).alloc (by simp) _).drew
                        have HBc : Hid (Below wq.heap.size wq ((wq.alloc (.cells #[.int .i64 (k + (j : Int)), .int .i64 b, .int .i64 o, .string s, .slice A5 n5 c5] 114)).alloc (.cells #[] 114)).drew) := (((Below.refl _ _).alloc (Nat.le_refl _) _).alloc (by simp) _).drew
                        have F1 : Hid ((wq.alloc (.cells #[] 114)).drew.ownsRow wq.heap.size 114 5 (.slice (some ⟨wq.heap.size, 0, none⟩) 0 0) 0 []) := (own_made0 wq rfl (Nat.le_refl _)).drew
                        have F2 : Hid (((wq.alloc (.cells #[] 114)).alloc (.cells #[.int .i64 (k + (j : Int)), .int .i64 b, .int .i64 o, .string s, .slice A5 n5 c5] 114)).drew.ownsRow wq.heap.size 114 5 (.slice (some ⟨wq.heap.size, 0, none⟩) 0 0) 0 []) := ((own_made0 wq rfl (Nat.le_refl _)).alloc _).drew
                        have F3 : Hid (((wq.alloc (.cells #[.int .i64 (k + (j : Int)), .int .i64 b, .int .i64 o, .string s, .slice A5 n5 c5] 114)).alloc (.cells #[] 114)).drew.ownsRow wq.heap.size 114 5 (.slice (some ⟨wq.heap.size + 1, 0, none⟩) 0 0) 0 []) := (own_made0 _ (by simp) (by simp)).drew
                        have G2 : Hid (((wq.alloc (.cells #[] 114)).alloc (.cells #[.int .i64 (k + (j : Int)), .int .i64 b, .int .i64 o, .string s, .slice A5 n5 c5] 114)).drew.heap[wq.heap.size + 1]? = some (.cells #[.int .i64 (k + (j : Int)), .int .i64 b, .int .i64 o, .string s, .slice A5 n5 c5] 114 (0, 0))) := by have := heap_alloc_new (wq.alloc (.cells #[] 114)) (.cells #[.int .i64 (k + (j : Int)), .int .i64 b, .int .i64 o, .string s, .slice A5 n5 c5] 114); rw [World.size_alloc] at this; exact this
                        have G3 : Hid (((wq.alloc (.cells #[.int .i64 (k + (j : Int)), .int .i64 b, .int .i64 o, .string s, .slice A5 n5 c5] 114)).alloc (.cells #[] 114)).drew.heap[wq.heap.size]? = some (.cells #[.int .i64 (k + (j : Int)), .int .i64 b, .int .i64 o, .string s, .slice A5 n5 c5] 114 (0, 0))) := by have := heap_alloc_old (wq.alloc (.cells #[.int .i64 (k + (j : Int)), .int .i64 b, .int .i64 o, .string s, .slice A5 n5 c5] 114)) (.cells #[] 114) (show wq.heap.size < (wq.alloc (.cells #[.int .i64 (k + (j : Int)), .int .i64 b, .int .i64 o, .string s, .slice A5 n5 c5] 114)).heap.size by simp); exact this.trans (heap_alloc_new wq _)
                        have HL : Hid (∀ W, Below wq.heap.size wq W → W.cell? ⟨ib, io + j * 4, none⟩ = some (.int .i64 b) ∧ W.cell? ⟨ib, io + j * 4 + 1, none⟩ = some (.int .i64 o) ∧ W.cell? ⟨ib, io + j * 4 + 2, none⟩ = some (.string s) ∧ W.cell? ⟨g, 3, none⟩ = some (.int .i64 (k + (j : Int)))) := fun W hW => ⟨(HC0.out W (hBq.out.trans (hW.mono hsq))).1, (HC0.out W (hBq.out.trans (hW.mono hsq))).2.1, (HC0.out W (hBq.out.trans (hW.mono hsq))).2.2, (hW.cell (p := ⟨g, 3, none⟩) hgq).trans e3q⟩
                        have HX8 : Hid (∀ (W : World) v, (W.cell? ⟨ib, io + j * 4, none⟩ = some (.int .i64 b) ∧ W.cell? ⟨ib, io + j * 4 + 1, none⟩ = some (.int .i64 o) ∧ W.cell? ⟨ib, io + j * 4 + 2, none⟩ = some (.string s) ∧ W.cell? ⟨g, 3, none⟩ = some (.int .i64 (k + (j : Int)))) → (W.setCell ⟨g, 1, none⟩ v).cell? ⟨ib, io + j * 4, none⟩ = some (.int .i64 b) ∧ (W.setCell ⟨g, 1, none⟩ v).cell? ⟨ib, io + j * 4 + 1, none⟩ = some (.int .i64 o) ∧ (W.setCell ⟨g, 1, none⟩ v).cell? ⟨ib, io + j * 4 + 2, none⟩ = some (.string s) ∧ (W.setCell ⟨g, 1, none⟩ v).cell? ⟨g, 3, none⟩ = some (.int .i64 (k + (j : Int)))) := fun W v h => by
                          have e : ∀ q, (W.setCell ⟨g, 1, none⟩ v).cell? ⟨ib, q, none⟩ = W.cell? ⟨ib, q, none⟩ := fun q => World.cell?_of_block (heap_setCell_other W ⟨g, 1, none⟩ ib v hgib)
                          refine ⟨(e _).trans h.1, (e _).trans h.2.1, (e _).trans h.2.2.1, ?_⟩
                          have := h.2.2.2
                          rw [← this]
                          exact World.cell?_setCell_other _ _ _ _ (by simp)
                        have HX2 : Hid (∀ W, Below wq.heap.size wq W → (∀ ad, A1 = some ad → ∀ j u, (flatV l')[j]? = some u → W.cell? (ad.add j) = some u) ∧ (A1 = none → l'.length = 0)) := fun W hW => rowV_src (HQq.out.fresh hW).row
                        have Hlf := Lib.hid (length_flatV l')
                        have Hone := Lib.hid (flatV_cells l')
                        have Hone1 : Hid (∀ u ∈ [Value.int .i64 (k + (j : Int)), .int .i64 b, .int .i64 o, .string s, .slice A5 n5 c5], u.oneCell' = true) := by
                          intro u hu
                          simp at hu
                          rcases hu with rfl | rfl | rfl | rfl | rfl <;> rfl
                        obtain ⟨Y, hY⟩ : ∃ Y : Vr, Y = ⟨k + (j : Int), ⟨b, o, s⟩, D ++ overV l' ⟨b, o, s⟩, A5, c5⟩ := ⟨_, rfl⟩
                        have HY := Lib.hid hY
                        have Hend : Hid (flatV l' ++ [Value.int .i64 (k + (j : Int)), .int .i64 b, .int .i64 o, .string s, .slice A5 n5 c5] = flatV (l' ++ [Y])) := by
                          unfold Hid
                          rw [flatV_append, flatV_one, hY]
                          simp only [Vr.cs]
                          rw [hn5.out]
                        have Hlen : Hid ((l' ++ [Y]).length = l'.length + 1) := by simp [Hid]
                        have HPu : Hid (∀ (A7 : Option Addr) (c7 : Nat) (w7 : World), Below wq.heap.size wq w7 → w7.ownsRow wq.heap.size 114 5 (.slice A7 (l'.length + 1) c7) (l'.length + 1) (flatV (l' ++ [Y])) → (w7.cell? ⟨g, 1, none⟩ = some (.slice A1 l'.length c1) ∧ w7.frozen? ⟨g, 1, none⟩ = false ∧ g < w7.heap.size) ∧
                            ∀ w3, w3 = w7.setCell ⟨g, 1, none⟩ (.slice A7 (l'.length + 1) c7) → (w3.cell? ⟨g, 3, none⟩ = some (.int .i64 (k + (j : Int))) ∧ w3.frozen? ⟨g, 3, none⟩ = false ∧ g < w3.heap.size) ∧
                              QAt (w3.setCell ⟨g, 3, none⟩ (.int .i64 (k + (j : Int) + 1))) g d' n S cc (k + (j : Int) + 1) (l' ++ [Y]) t A7 c7 A3 c3x Fd' ∧ Kept wq (w3.setCell ⟨g, 3, none⟩ (.int .i64 (k + (j : Int) + 1))) (footQ g A1 A3 Fd') ∧ ∀ b, footQ g A7 A3 Fd' b → footQ g A1 A3 Fd' b ∨ wq.heap.size ≤ b) := fun A7 c7 w7 hb ho => by
                          have hrv : RowV w7 wq.heap.size A7 c7 (l' ++ [Y]) := by
                            refine ⟨by rw [Hlen.out]; exact ho, fun y hy => ?_⟩
                            rcases List.mem_append.1 hy with hy | hy
                            · exact (HQq.out.row.ah y hy).keep (F := fun _ => False) (Kept.fresh hb) (NI.none _)
                            · rw [List.mem_singleton] at hy
                              rw [hy, HY.out]
                              exact HV.out.keep (F := fun _ => False) (Kept.fresh hb) (NI.none _)
                          have := HQq.out.pushed hb hrv
                          rw [Hlen.out] at this
                          exact this
                        have hs0 : wq.cell? ⟨g, 1, none⟩ = some (.slice A1 l'.length c1) := hg1
                        have hne1 := World.new_ne wq ⟨g, 1, none⟩ hs0
                        have hne3 := World.new_ne wq ⟨g, 3, none⟩ e3q
                        obtain ⟨ic0, ic1, ic2⟩ := HC0.out wq hBq.out
                        have hnei := World.new_ne wq ⟨ib, io + j * 4, none⟩ ic0
                        have HAdd : Hid (QAdded k l k (its.take (j + 1)) (l' ++ [Y])) := by
                          unfold Hid
                          rw [Htk.out]
                          refine QAdded.snoc hadd.out ?_
                          rw [HY.out, List.length_take, Nat.min_eq_left (by omega)]
                          exact ⟨rfl, rfl, by rw [← HDe.out]; rfl⟩
                        have Hrl2 : Hid (∀ x ∈ l' ++ [Y], x.p.right = true) := fun x hx => by
                          rcases List.mem_append.1 hx with hx | hx
                          · exact hrl.out x hx
                          · rw [List.mem_singleton] at hx; rw [hx, HY.out]; exact Hxr.out
                        have hwk : IntKind.i64.wrap (k + (j : Int) + 1) = k + (j : Int) + 1 := by simp [IntKind.wrap, IntKind.bits, IntKind.signed]; omega
                        have HBq5 := hBq
                        clear hY hBq hn5 hrow hadd hrl e1q hnei
                        go_wp2
                        have XS := Lib.hid (HL.out wq.drew ((Below.refl _ _).drew))
                        refine wp_region_held_drew (S := (fun W => W.cell? ⟨ib, io + j * 4, none⟩ = some (.int .i64 b) ∧ W.cell? ⟨ib, io + j * 4 + 1, none⟩ = some (.int .i64 o) ∧ W.cell? ⟨ib, io + j * 4 + 2, none⟩ = some (.string s) ∧ W.cell? ⟨g, 3, none⟩ = some (.int .i64 (k + (j : Int))))) (by kernel_rfl) (XS.out) (fun hHeld => ?_)
                        refine takeH (i := 0) (some 162) (v := ?_) rfl rfl (by kernel_rfl) (by kernel_rfl) (by kernel_rfl) (fun _ _ _ h => h) (by rfl) ?_ (by assumption) ?_
                        rotate_left
                        · (intro w hSw; (try dsimp only at hSw); go_simp; try with_reducible rfl)
                        simp only [Act.put, List.setIfInBounds_toArray, List.set_cons_zero, List.set_cons_succ]
                        refine takeH (i := 2) (some 164) (v := ?_) rfl rfl (by kernel_rfl) (by kernel_rfl) (by kernel_rfl) (fun _ _ _ h => h) (by rfl) ?_ (by assumption) ?_
                        rotate_left
                        · (intro w hSw; (try dsimp only at hSw); go_simp; try with_reducible rfl)
                        simp only [Act.put, List.setIfInBounds_toArray, List.set_cons_zero, List.set_cons_succ]
                        refine takeH (i := 3) (some 165) (v := ?_) rfl rfl (by kernel_rfl) (by kernel_rfl) (by kernel_rfl) (fun _ _ _ h => h) (by rfl) ?_ (by assumption) ?_
                        rotate_left
                        · (intro w hSw; (try dsimp only at hSw); go_simp; try with_reducible rfl)
                        simp only [Act.put, List.setIfInBounds_toArray, List.set_cons_zero, List.set_cons_succ]
                        refine takeH (i := 4) (some 166) (v := ?_) rfl rfl (by kernel_rfl) (by kernel_rfl) (by kernel_rfl) (fun _ _ _ h => h) (by rfl) ?_ (by assumption) ?_
                        rotate_left
                        · (intro w hSw; (try dsimp only at hSw); go_simp; try with_reducible rfl)
                        simp only [Act.put, List.setIfInBounds_toArray, List.set_cons_zero, List.set_cons_succ]
                        refine takeH (i := 7) (some 169) (v := ?_) rfl rfl (by kernel_rfl) (by kernel_rfl) (by kernel_rfl) (fun _ _ _ h => h) (by rfl) ?_ (by assumption) ?_
                        rotate_left
                        · (intro w hSw; (try dsimp only at hSw); go_simp; try with_reducible rfl)
                        simp only [Act.put, List.setIfInBounds_toArray, List.set_cons_zero, List.set_cons_succ]
                        refine takeH (i := 8) (some 170) (v := ?_) rfl rfl (by kernel_rfl) (by kernel_rfl) (by kernel_rfl) (fun _ _ _ h => h) (by rfl) ?_ (by assumption) ?_
                        rotate_left
                        · (intro w hSw; (try dsimp only at hSw); go_simp; try with_reducible rfl)
                        simp only [Act.put, List.setIfInBounds_toArray, List.set_cons_zero, List.set_cons_succ]
                        refine takeH (i := 9) (some 171) (v := ?_) rfl rfl (by kernel_rfl) (by kernel_rfl) (by kernel_rfl) (fun _ _ _ h => h) (by rfl) ?_ (by assumption) ?_
                        rotate_left
                        · (intro w hSw; (try dsimp only at hSw); go_simp; try with_reducible rfl)
                        simp only [Act.put, List.setIfInBounds_toArray, List.set_cons_zero, List.set_cons_succ]
                        refine takeH (i := 10) (some 172) (v := ?_) rfl rfl (by kernel_rfl) (by kernel_rfl) (by kernel_rfl) (fun _ _ _ h => h) (by rfl) ?_ (by assumption) ?_
                        rotate_left
                        · (intro w hSw; (try dsimp only at hSw); go_simp; try with_reducible rfl)
                        simp only [Act.put, List.setIfInBounds_toArray, List.set_cons_zero, List.set_cons_succ]
                        refine takeH (i := 11) (some 173) (v := ?_) rfl rfl (by kernel_rfl) (by kernel_rfl) (by kernel_rfl) (fun _ _ _ h => h) (by rfl) ?_ (by assumption) ?_
                        rotate_left
                        · (intro w hSw; (try dsimp only at hSw); go_simp; try with_reducible rfl)
                        simp only [Act.put, List.setIfInBounds_toArray, List.set_cons_zero, List.set_cons_succ]
                        refine takeH (i := 12) (some 174) (v := ?_) rfl rfl (by kernel_rfl) (by kernel_rfl) (by kernel_rfl) (fun _ _ _ h => h) (by rfl) ?_ (by assumption) ?_
                        rotate_left
                        · (intro w hSw; (try dsimp only at hSw); go_simp; try with_reducible rfl)
                        simp only [Act.put, List.setIfInBounds_toArray, List.set_cons_zero, List.set_cons_succ]
                        refine takeH (i := 13) (some 175) (v := ?_) rfl rfl (by kernel_rfl) (by kernel_rfl) (by kernel_rfl) (fun _ _ _ h => h) (by rfl) ?_ (by assumption) ?_
                        rotate_left
                        · (intro w hSw; (try dsimp only at hSw); go_simp; try with_reducible rfl)
                        simp only [Act.put, List.setIfInBounds_toArray, List.set_cons_zero, List.set_cons_succ]
                        refine takeH (i := 14) (some 176) (v := ?_) rfl rfl (by kernel_rfl) (by kernel_rfl) (by kernel_rfl) (fun _ _ _ h => h) (by rfl) ?_ (by assumption) ?_
                        rotate_left
                        · (intro w hSw; (try dsimp only at hSw); go_simp; try with_reducible rfl)
                        simp only [Act.put, List.setIfInBounds_toArray, List.set_cons_zero, List.set_cons_succ]
                        refine takeH (i := 15) (some 177) (v := ?_) rfl rfl (by kernel_rfl) (by kernel_rfl) (by kernel_rfl) (fun _ _ _ h => h) (by rfl) ?_ (by assumption) ?_
                        rotate_left
                        · (intro w hSw; (try dsimp only at hSw); go_simp; try with_reducible rfl)
                        simp only [Act.put, List.setIfInBounds_toArray, List.set_cons_zero, List.set_cons_succ]
                        refine takeH (i := 16) (some 178) (v := ?_) rfl rfl (by kernel_rfl) (by kernel_rfl) (by kernel_rfl) (fun _ _ _ h => h) (by rfl) ?_ (by assumption) ?_
                        rotate_left
                        · (intro w hSw; (try dsimp only at hSw); go_simp; try with_reducible rfl)
                        simp only [Act.put, List.setIfInBounds_toArray, List.set_cons_zero, List.set_cons_succ]
                        refine takeH (i := 17) (some 179) (v := ?_) rfl rfl (by kernel_rfl) (by kernel_rfl) (by kernel_rfl) (fun _ _ _ h => h) (by rfl) ?_ (by assumption) ?_
                        rotate_left
                        · (intro w hSw; (try dsimp only at hSw); go_simp; try with_reducible rfl)
                        simp only [Act.put, List.setIfInBounds_toArray, List.set_cons_zero, List.set_cons_succ]
                        obtain ⟨v0, hv0⟩ : ∃ x, x = wq.drew := ⟨_, rfl⟩
                        have Bv0 : Hid (Below wq.heap.size wq v0) := by rw [hv0]; exact (Below.refl _ _).drew
                        rw [← hv0] at hHeld ⊢
                        clear hv0
                        refine wpAnyH_ready (rs := [1, 5, 18]) (by kernel_rfl) (by simp) ?_
                        refine (AllReadyH.cons rfl (fun K hK => ?_) (AllReadyH.cons rfl (fun K hK => ?_) (AllReadyH.cons rfl (fun K hK => ?_) AllReadyH.nil)))
                        · skip
                          go_simp
                          obtain ⟨eb, heb⟩ : ∃ x, x = v0.heap.size := ⟨_, rfl⟩
                          obtain ⟨v0e, hX⟩ : ∃ x, x = v0.alloc (.cells #[] 114) := ⟨_, rfl⟩
                          have Bv0e : Hid (Below wq.heap.size wq v0e) := by rw [hX]; exact Bv0.out.alloc Bv0.out.size _
                          have OE : Hid (v0e.ownsRow wq.heap.size 114 5 (.slice (some ⟨eb, 0, none⟩) 0 0) 0 []) := by rw [hX, heb]; exact World.ownsRow_made _ #[] 0 Bv0.out.size (by simp) (by simp)
                          have ebl : Hid (wq.heap.size ≤ eb) := by rw [heb]; exact Bv0.out.size
                          have ebw : Hid (eb < v0e.heap.size) := by rw [hX, heb]; simp [Hid]
                          rw [← heb, ← hX]
                          clear hX heb
                          refine hK _ _ (HL.out _ Bv0e.out) (fun hHeld => ?_)
                          clear hK K
                          try simp only [Act.put, List.setIfInBounds_toArray, List.set_cons_zero, List.set_cons_succ]
                          try simp only [List.getElem_toArray, List.getElem_cons_zero, List.getElem_cons_succ, Act.put, List.setIfInBounds_toArray, List.set_cons_zero, List.set_cons_succ]
                          refine wpAnyH_ready (rs := [5, 18]) (by kernel_rfl) (by simp) ?_
                          refine (AllReadyH.cons rfl (fun K hK => ?_) (AllReadyH.cons rfl (fun K hK => ?_) AllReadyH.nil))
                          · skip
                            have hcv := (HQq.out.fresh Bv0e.out).head.c1
                            go_simp
                            clear hcv
                            refine hK _ _ (HL.out _ Bv0e.out) (fun hHeld => ?_)
                            clear hK K
                            try simp only [Act.put, List.setIfInBounds_toArray, List.set_cons_zero, List.set_cons_succ]
                            try simp only [List.getElem_toArray, List.getElem_cons_zero, List.getElem_cons_succ, Act.put, List.setIfInBounds_toArray, List.set_cons_zero, List.set_cons_succ]
                            refine wpAnyH_ready (rs := [6, 18]) (by kernel_rfl) (by simp) ?_
                            refine (AllReadyH.cons rfl (fun K hK => ?_) (AllReadyH.cons rfl (fun K hK => ?_) AllReadyH.nil))
                            · skip
                              refine step_append_src rfl (.tmp 163) (.tmp 167) 96 rfl wq.heap.size 114 i0 _ 5 64 Tryz.underlying96 hi0 hz0 hz1 hz2 rfl (by decide) (.slice (some ⟨eb, 0, none⟩) 0 0) 0 [] rfl OE.out A1 l'.length c1 (flatV l') rfl Hlf.out (HX2.out _ Bv0e.out).1 (HX2.out _ Bv0e.out).2 Hone.out (by unfold maxLen; omega) (by omega) Bv0e.out.size l'.length (by omega) ?_
                              intro A6 c6 v0ea ho hg hor
                              have Bv0ea : Hid (Below wq.heap.size wq v0ea) := Bv0e.out.grown hg Bv0e.out.size (fun j e => by cases e; exact ebl.out)
                              have OA : Hid (v0ea.ownsRow wq.heap.size 114 5 (.slice A6 l'.length c6) l'.length (flatV l')) := by rw [List.nil_append] at ho; exact ho
                              clear ho hg hor
                              refine hK _ _ (HL.out _ Bv0ea.out) (fun hHeld => ?_)
                              clear hK K
                              try simp only [Act.put, List.setIfInBounds_toArray, List.set_cons_zero, List.set_cons_succ]
                              try simp only [List.getElem_toArray, List.getElem_cons_zero, List.getElem_cons_succ, Act.put, List.setIfInBounds_toArray, List.set_cons_zero, List.set_cons_succ]
                              refine wpAnyH_ready (rs := [18]) (by kernel_rfl) (by simp) ?_
                              refine (AllReadyH.cons rfl (fun K hK => ?_) AllReadyH.nil)
                              go_simp
                              obtain ⟨xb, hxb⟩ : ∃ x, x = v0ea.heap.size := ⟨_, rfl⟩
                              obtain ⟨v0eax, hX⟩ : ∃ x, x = v0ea.alloc (.cells #[.int .i64 (k + (j : Int)), .int .i64 b, .int .i64 o, .string s, .slice A5 n5 c5] 114) := ⟨_, rfl⟩
                              have Bv0eax : Hid (Below wq.heap.size wq v0eax) := by rw [hX]; exact Bv0ea.out.alloc Bv0ea.out.size _
                              have HXB : Hid (v0eax.heap[xb]? = some (.cells #[.int .i64 (k + (j : Int)), .int .i64 b, .int .i64 o, .string s, .slice A5 n5 c5] 114 (0, 0))) := by rw [hX, hxb]; exact heap_alloc_new _ _
                              have xbw : Hid (xb < v0eax.heap.size) := by rw [hX, hxb]; simp [Hid]
                              have OA : Hid (v0eax.ownsRow wq.heap.size 114 5 (.slice A6 l'.length c6) l'.length (flatV l')) := by rw [hX]; exact OA.out.alloc _
                              rw [← hxb, ← hX]
                              clear hX hxb
                              refine hK _ _ (HL.out _ Bv0eax.out) (fun hHeld => ?_)
                              clear hK K
                              try simp only [Act.put, List.setIfInBounds_toArray, List.set_cons_zero, List.set_cons_succ]
                              try simp only [List.getElem_toArray, List.getElem_cons_zero, List.getElem_cons_succ, Act.put, List.setIfInBounds_toArray, List.set_cons_zero, List.set_cons_succ]
                              refine wpAnyH_ready (rs := [19]) (by kernel_rfl) (by simp) ?_
                              refine (AllReadyH.cons rfl (fun K hK => ?_) AllReadyH.nil)
                              refine step_append_src rfl (.tmp 168) (.tmp 180) 96 rfl wq.heap.size 114 i0 _ 5 64 Tryz.underlying96 hi0 hz0 hz1 hz2 rfl (by decide) (.slice A6 l'.length c6) l'.length (flatV l') rfl OA.out (some ⟨xb, 0, none⟩) 1 1 [Value.int .i64 (k + (j : Int)), .int .i64 b, .int .i64 o, .string s, .slice A5 n5 c5] rfl rfl (src_at HXB.out) (fun e => by cases e) Hone1.out (by unfold maxLen; omega) (by omega) Bv0eax.out.size (l'.length + 1) rfl ?_
                              intro A7 c7 w7 ho hg hor
                              have B7 : Hid (Below wq.heap.size wq w7) := Bv0eax.out.grown hg Bv0eax.out.size (fun j e => (OA.out.lt j e).1)
                              have hpu := HPu.out A7 c7 w7 B7.out (by have h := ho; rw [Hend.out] at h; exact h)
                              obtain ⟨⟨t0, t1, t2⟩, hpu⟩ := hpu
                              have HP := Lib.hid hpu
                              clear ho hg hor hpu
                              refine hK _ _ (HL.out _ B7.out) (fun hHeld => ?_)
                              clear hK K
                              try simp only [Act.put, List.setIfInBounds_toArray, List.set_cons_zero, List.set_cons_succ]
                              try simp only [List.getElem_toArray, List.getElem_cons_zero, List.getElem_cons_succ, Act.put, List.setIfInBounds_toArray, List.set_cons_zero, List.set_cons_succ]
                              refine takeH (i := 20) (some 182) (v := ?_) rfl rfl (by kernel_rfl) (by kernel_rfl) (by kernel_rfl) (fun _ _ _ h => h) (by rfl) ?_ (by assumption) ?_
                              rotate_left
                              · (intro w hSw; (try dsimp only at hSw); go_simp; try with_reducible rfl)
                              simp only [Act.put, List.setIfInBounds_toArray, List.set_cons_zero, List.set_cons_succ]
                              refine takeH (i := 21) (some 183) (v := ?_) rfl rfl (by kernel_rfl) (by kernel_rfl) (by kernel_rfl) (fun _ _ _ h => h) (by rfl) ?_ (by assumption) ?_
                              rotate_left
                              · (intro w hSw; (try dsimp only at hSw); go_simp; try with_reducible rfl)
                              simp only [Act.put, List.setIfInBounds_toArray, List.set_cons_zero, List.set_cons_succ]
                              refine wpAnyH_ready (rs := [22]) (by kernel_rfl) (by simp) ?_
                              refine AllReadyH.cons rfl (fun K hK => ?_) AllReadyH.nil
                              go_simp
                              refine hK _ _ (HX8.out _ _ (HL.out _ B7.out)) (fun hHeld => ?_)
                              clear hK K
                              try simp only [Act.put, List.setIfInBounds_toArray, List.set_cons_zero, List.set_cons_succ]
                              try simp only [List.getElem_toArray, List.getElem_cons_zero, List.getElem_cons_succ, Act.put, List.setIfInBounds_toArray, List.set_cons_zero, List.set_cons_succ]
                              refine wpAnyH_done (by kernel_rfl) ?_ _
                              have hv := HP.out _ rfl
                              generalize w7.setCell ⟨g, 1, none⟩ (.slice A7 (l'.length + 1) c7) = w8 at hv ⊢
                              obtain ⟨⟨u1, u2, u3⟩, hE5, hK5, hF5⟩ := hv
                              have HE5 := Lib.hid hE5
                              have HK5 := Lib.hid hK5
                              have HF5 := Lib.hid hF5
                              clear hE5 hK5 hF5 t0 t1 t2 HP
                              go_wp2
                              go_roundw
                              case rel =>
                                have hFe := HFe.out
                                refine ⟨j + 1, l' ++ [Y], footQ g A7 A3 Fd', by omega, by go_num, HAdd.out, ?_, Hrl2.out, ?_, ?_⟩
                                · unfold Hid
                                  rw [show k + ((j + 1 : Nat) : Int) = k + (j : Int) + 1 by omega]
                                  exact ⟨d', A7, c7, A3, c3x, Fd', HE5.out, rfl⟩
                                · subst hFe
                                  exact (hK.out.trans (Kept.fresh (S := footQ g A1 A3 Fd') HBq5.out) hF.out).trans HK5.out (fun b q => (hF.out b q).imp id id)
                                · subst hFe
                                  intro b' q
                                  have := hK.out.size
                                  have := HBq5.out.size
                                  rcases HF5.out b' q with q | q
                                  · exact hF.out b' q
                                  · exact .inr (by omega)
                              case measure => simp [intOf]; omega
                            · skip
                              go_simp
                              obtain ⟨xb, hxb⟩ : ∃ x, x = v0e.heap.size := ⟨_, rfl⟩
                              obtain ⟨v0ex, hX⟩ : ∃ x, x = v0e.alloc (.cells #[.int .i64 (k + (j : Int)), .int .i64 b, .int .i64 o, .string s, .slice A5 n5 c5] 114) := ⟨_, rfl⟩
                              have Bv0ex : Hid (Below wq.heap.size wq v0ex) := by rw [hX]; exact Bv0e.out.alloc Bv0e.out.size _
                              have HXB : Hid (v0ex.heap[xb]? = some (.cells #[.int .i64 (k + (j : Int)), .int .i64 b, .int .i64 o, .string s, .slice A5 n5 c5] 114 (0, 0))) := by rw [hX, hxb]; exact heap_alloc_new _ _
                              have xbw : Hid (xb < v0ex.heap.size) := by rw [hX, hxb]; simp [Hid]
                              have OE : Hid (v0ex.ownsRow wq.heap.size 114 5 (.slice (some ⟨eb, 0, none⟩) 0 0) 0 []) := by rw [hX]; exact OE.out.alloc _
                              have xe : Hid (xb ≠ eb) := by rw [hxb]; exact Nat.ne_of_gt ebw.out
                              rw [← hxb, ← hX]
                              clear hX hxb
                              refine hK _ _ (HL.out _ Bv0ex.out) (fun hHeld => ?_)
                              clear hK K
                              try simp only [Act.put, List.setIfInBounds_toArray, List.set_cons_zero, List.set_cons_succ]
                              try simp only [List.getElem_toArray, List.getElem_cons_zero, List.getElem_cons_succ, Act.put, List.setIfInBounds_toArray, List.set_cons_zero, List.set_cons_succ]
                              refine wpAnyH_ready (rs := [6]) (by kernel_rfl) (by simp) ?_
                              refine (AllReadyH.cons rfl (fun K hK => ?_) AllReadyH.nil)
                              refine step_append_src rfl (.tmp 163) (.tmp 167) 96 rfl wq.heap.size 114 i0 _ 5 64 Tryz.underlying96 hi0 hz0 hz1 hz2 rfl (by decide) (.slice (some ⟨eb, 0, none⟩) 0 0) 0 [] rfl OE.out A1 l'.length c1 (flatV l') rfl Hlf.out (HX2.out _ Bv0ex.out).1 (HX2.out _ Bv0ex.out).2 Hone.out (by unfold maxLen; omega) (by omega) Bv0ex.out.size l'.length (by omega) ?_
                              intro A6 c6 v0exa ho hg hor
                              have Bv0exa : Hid (Below wq.heap.size wq v0exa) := Bv0ex.out.grown hg Bv0ex.out.size (fun j e => by cases e; exact ebl.out)
                              have OA : Hid (v0exa.ownsRow wq.heap.size 114 5 (.slice A6 l'.length c6) l'.length (flatV l')) := by rw [List.nil_append] at ho; exact ho
                              have HXB : Hid (v0exa.heap[xb]? = some (.cells #[.int .i64 (k + (j : Int)), .int .i64 b, .int .i64 o, .string s, .slice A5 n5 c5] 114 (0, 0))) := (hg.block xb xbw.out (fun e => xe.out (by have e1 : some xb = some eb := e; injection e1))).trans HXB.out
                              clear ho hg hor
                              refine hK _ _ (HL.out _ Bv0exa.out) (fun hHeld => ?_)
                              clear hK K
                              try simp only [Act.put, List.setIfInBounds_toArray, List.set_cons_zero, List.set_cons_succ]
                              try simp only [List.getElem_toArray, List.getElem_cons_zero, List.getElem_cons_succ, Act.put, List.setIfInBounds_toArray, List.set_cons_zero, List.set_cons_succ]
                              refine wpAnyH_ready (rs := [19]) (by kernel_rfl) (by simp) ?_
                              refine (AllReadyH.cons rfl (fun K hK => ?_) AllReadyH.nil)
                              refine step_append_src rfl (.tmp 168) (.tmp 180) 96 rfl wq.heap.size 114 i0 _ 5 64 Tryz.underlying96 hi0 hz0 hz1 hz2 rfl (by decide) (.slice A6 l'.length c6) l'.length (flatV l') rfl OA.out (some ⟨xb, 0, none⟩) 1 1 [Value.int .i64 (k + (j : Int)), .int .i64 b, .int .i64 o, .string s, .slice A5 n5 c5] rfl rfl (src_at HXB.out) (fun e => by cases e) Hone1.out (by unfold maxLen; omega) (by omega) Bv0exa.out.size (l'.length + 1) rfl ?_
                              intro A7 c7 w7 ho hg hor
                              have B7 : Hid (Below wq.heap.size wq w7) := Bv0exa.out.grown hg Bv0exa.out.size (fun j e => (OA.out.lt j e).1)
                              have hpu := HPu.out A7 c7 w7 B7.out (by have h := ho; rw [Hend.out] at h; exact h)
                              obtain ⟨⟨t0, t1, t2⟩, hpu⟩ := hpu
                              have HP := Lib.hid hpu
                              clear ho hg hor hpu
                              refine hK _ _ (HL.out _ B7.out) (fun hHeld => ?_)
                              clear hK K
                              try simp only [Act.put, List.setIfInBounds_toArray, List.set_cons_zero, List.set_cons_succ]
                              try simp only [List.getElem_toArray, List.getElem_cons_zero, List.getElem_cons_succ, Act.put, List.setIfInBounds_toArray, List.set_cons_zero, List.set_cons_succ]
                              refine takeH (i := 20) (some 182) (v := ?_) rfl rfl (by kernel_rfl) (by kernel_rfl) (by kernel_rfl) (fun _ _ _ h => h) (by rfl) ?_ (by assumption) ?_
                              rotate_left
                              · (intro w hSw; (try dsimp only at hSw); go_simp; try with_reducible rfl)
                              simp only [Act.put, List.setIfInBounds_toArray, List.set_cons_zero, List.set_cons_succ]
                              refine takeH (i := 21) (some 183) (v := ?_) rfl rfl (by kernel_rfl) (by kernel_rfl) (by kernel_rfl) (fun _ _ _ h => h) (by rfl) ?_ (by assumption) ?_
                              rotate_left
                              · (intro w hSw; (try dsimp only at hSw); go_simp; try with_reducible rfl)
                              simp only [Act.put, List.setIfInBounds_toArray, List.set_cons_zero, List.set_cons_succ]
                              refine wpAnyH_ready (rs := [22]) (by kernel_rfl) (by simp) ?_
                              refine AllReadyH.cons rfl (fun K hK => ?_) AllReadyH.nil
                              go_simp
                              refine hK _ _ (HX8.out _ _ (HL.out _ B7.out)) (fun hHeld => ?_)
                              clear hK K
                              try simp only [Act.put, List.setIfInBounds_toArray, List.set_cons_zero, List.set_cons_succ]
                              try simp only [List.getElem_toArray, List.getElem_cons_zero, List.getElem_cons_succ, Act.put, List.setIfInBounds_toArray, List.set_cons_zero, List.set_cons_succ]
                              refine wpAnyH_done (by kernel_rfl) ?_ _
                              have hv := HP.out _ rfl
                              generalize w7.setCell ⟨g, 1, none⟩ (.slice A7 (l'.length + 1) c7) = w8 at hv ⊢
                              obtain ⟨⟨u1, u2, u3⟩, hE5, hK5, hF5⟩ := hv
                              have HE5 := Lib.hid hE5
                              have HK5 := Lib.hid hK5
                              have HF5 := Lib.hid hF5
                              clear hE5 hK5 hF5 t0 t1 t2 HP
                              go_wp2
                              go_roundw
                              case rel =>
                                have hFe := HFe.out
                                refine ⟨j + 1, l' ++ [Y], footQ g A7 A3 Fd', by omega, by go_num, HAdd.out, ?_, Hrl2.out, ?_, ?_⟩
                                · unfold Hid
                                  rw [show k + ((j + 1 : Nat) : Int) = k + (j : Int) + 1 by omega]
                                  exact ⟨d', A7, c7, A3, c3x, Fd', HE5.out, rfl⟩
                                · subst hFe
                                  exact (hK.out.trans (Kept.fresh (S := footQ g A1 A3 Fd') HBq5.out) hF.out).trans HK5.out (fun b q => (hF.out b q).imp id id)
                                · subst hFe
                                  intro b' q
                                  have := hK.out.size
                                  have := HBq5.out.size
                                  rcases HF5.out b' q with q | q
                                  · exact hF.out b' q
                                  · exact .inr (by omega)
                              case measure => simp [intOf]; omega
                          · skip
                            go_simp
                            obtain ⟨xb, hxb⟩ : ∃ x, x = v0e.heap.size := ⟨_, rfl⟩
                            obtain ⟨v0ex, hX⟩ : ∃ x, x = v0e.alloc (.cells #[.int .i64 (k + (j : Int)), .int .i64 b, .int .i64 o, .string s, .slice A5 n5 c5] 114) := ⟨_, rfl⟩
                            have Bv0ex : Hid (Below wq.heap.size wq v0ex) := by rw [hX]; exact Bv0e.out.alloc Bv0e.out.size _
                            have HXB : Hid (v0ex.heap[xb]? = some (.cells #[.int .i64 (k + (j : Int)), .int .i64 b, .int .i64 o, .string s, .slice A5 n5 c5] 114 (0, 0))) := by rw [hX, hxb]; exact heap_alloc_new _ _
                            have xbw : Hid (xb < v0ex.heap.size) := by rw [hX, hxb]; simp [Hid]
                            have OE : Hid (v0ex.ownsRow wq.heap.size 114 5 (.slice (some ⟨eb, 0, none⟩) 0 0) 0 []) := by rw [hX]; exact OE.out.alloc _
                            have xe : Hid (xb ≠ eb) := by rw [hxb]; exact Nat.ne_of_gt ebw.out
                            rw [← hxb, ← hX]
                            clear hX hxb
                            refine hK _ _ (HL.out _ Bv0ex.out) (fun hHeld => ?_)
                            clear hK K
                            try simp only [Act.put, List.setIfInBounds_toArray, List.set_cons_zero, List.set_cons_succ]
                            try simp only [List.getElem_toArray, List.getElem_cons_zero, List.getElem_cons_succ, Act.put, List.setIfInBounds_toArray, List.set_cons_zero, List.set_cons_succ]
                            refine wpAnyH_ready (rs := [5]) (by kernel_rfl) (by simp) ?_
                            refine (AllReadyH.cons rfl (fun K hK => ?_) AllReadyH.nil)
                            have hcv := (HQq.out.fresh Bv0ex.out).head.c1
                            go_simp
                            clear hcv
                            refine hK _ _ (HL.out _ Bv0ex.out) (fun hHeld => ?_)
                            clear hK K
                            try simp only [Act.put, List.setIfInBounds_toArray, List.set_cons_zero, List.set_cons_succ]
                            try simp only [List.getElem_toArray, List.getElem_cons_zero, List.getElem_cons_succ, Act.put, List.setIfInBounds_toArray, List.set_cons_zero, List.set_cons_succ]
                            refine wpAnyH_ready (rs := [6]) (by kernel_rfl) (by simp) ?_
                            refine (AllReadyH.cons rfl (fun K hK => ?_) AllReadyH.nil)
                            refine step_append_src rfl (.tmp 163) (.tmp 167) 96 rfl wq.heap.size 114 i0 _ 5 64 Tryz.underlying96 hi0 hz0 hz1 hz2 rfl (by decide) (.slice (some ⟨eb, 0, none⟩) 0 0) 0 [] rfl OE.out A1 l'.length c1 (flatV l') rfl Hlf.out (HX2.out _ Bv0ex.out).1 (HX2.out _ Bv0ex.out).2 Hone.out (by unfold maxLen; omega) (by omega) Bv0ex.out.size l'.length (by omega) ?_
                            intro A6 c6 v0exa ho hg hor
                            have Bv0exa : Hid (Below wq.heap.size wq v0exa) := Bv0ex.out.grown hg Bv0ex.out.size (fun j e => by cases e; exact ebl.out)
                            have OA : Hid (v0exa.ownsRow wq.heap.size 114 5 (.slice A6 l'.length c6) l'.length (flatV l')) := by rw [List.nil_append] at ho; exact ho
                            have HXB : Hid (v0exa.heap[xb]? = some (.cells #[.int .i64 (k + (j : Int)), .int .i64 b, .int .i64 o, .string s, .slice A5 n5 c5] 114 (0, 0))) := (hg.block xb xbw.out (fun e => xe.out (by have e1 : some xb = some eb := e; injection e1))).trans HXB.out
                            clear ho hg hor
                            refine hK _ _ (HL.out _ Bv0exa.out) (fun hHeld => ?_)
                            clear hK K
                            try simp only [Act.put, List.setIfInBounds_toArray, List.set_cons_zero, List.set_cons_succ]
                            try simp only [List.getElem_toArray, List.getElem_cons_zero, List.getElem_cons_succ, Act.put, List.setIfInBounds_toArray, List.set_cons_zero, List.set_cons_succ]
                            refine wpAnyH_ready (rs := [19]) (by kernel_rfl) (by simp) ?_
                            refine (AllReadyH.cons rfl (fun K hK => ?_) AllReadyH.nil)
                            refine step_append_src rfl (.tmp 168) (.tmp 180) 96 rfl wq.heap.size 114 i0 _ 5 64 Tryz.underlying96 hi0 hz0 hz1 hz2 rfl (by decide) (.slice A6 l'.length c6) l'.length (flatV l') rfl OA.out (some ⟨xb, 0, none⟩) 1 1 [Value.int .i64 (k + (j : Int)), .int .i64 b, .int .i64 o, .string s, .slice A5 n5 c5] rfl rfl (src_at HXB.out) (fun e => by cases e) Hone1.out (by unfold maxLen; omega) (by omega) Bv0exa.out.size (l'.length + 1) rfl ?_
                            intro A7 c7 w7 ho hg hor
                            have B7 : Hid (Below wq.heap.size wq w7) := Bv0exa.out.grown hg Bv0exa.out.size (fun j e => (OA.out.lt j e).1)
                            have hpu := HPu.out A7 c7 w7 B7.out (by have h := ho; rw [Hend.out] at h; exact h)
                            obtain ⟨⟨t0, t1, t2⟩, hpu⟩ := hpu
                            have HP := Lib.hid hpu
                            clear ho hg hor hpu
                            refine hK _ _ (HL.out _ B7.out) (fun hHeld => ?_)
                            clear hK K
                            try simp only [Act.put, List.setIfInBounds_toArray, List.set_cons_zero, List.set_cons_succ]
                            try simp only [List.getElem_toArray, List.getElem_cons_zero, List.getElem_cons_succ, Act.put, List.setIfInBounds_toArray, List.set_cons_zero, List.set_cons_succ]
                            refine takeH (i := 20) (some 182) (v := ?_) rfl rfl (by kernel_rfl) (by kernel_rfl) (by kernel_rfl) (fun _ _ _ h => h) (by rfl) ?_ (by assumption) ?_
                            rotate_left
                            · (intro w hSw; (try dsimp only at hSw); go_simp; try with_reducible rfl)
                            simp only [Act.put, List.setIfInBounds_toArray, List.set_cons_zero, List.set_cons_succ]
                            refine takeH (i := 21) (some 183) (v := ?_) rfl rfl (by kernel_rfl) (by kernel_rfl) (by kernel_rfl) (fun _ _ _ h => h) (by rfl) ?_ (by assumption) ?_
                            rotate_left
                            · (intro w hSw; (try dsimp only at hSw); go_simp; try with_reducible rfl)
                            simp only [Act.put, List.setIfInBounds_toArray, List.set_cons_zero, List.set_cons_succ]
                            refine wpAnyH_ready (rs := [22]) (by kernel_rfl) (by simp) ?_
                            refine AllReadyH.cons rfl (fun K hK => ?_) AllReadyH.nil
                            go_simp
                            refine hK _ _ (HX8.out _ _ (HL.out _ B7.out)) (fun hHeld => ?_)
                            clear hK K
                            try simp only [Act.put, List.setIfInBounds_toArray, List.set_cons_zero, List.set_cons_succ]
                            try simp only [List.getElem_toArray, List.getElem_cons_zero, List.getElem_cons_succ, Act.put, List.setIfInBounds_toArray, List.set_cons_zero, List.set_cons_succ]
                            refine wpAnyH_done (by kernel_rfl) ?_ _
                            have hv := HP.out _ rfl
                            generalize w7.setCell ⟨g, 1, none⟩ (.slice A7 (l'.length + 1) c7) = w8 at hv ⊢
                            obtain ⟨⟨u1, u2, u3⟩, hE5, hK5, hF5⟩ := hv
                            have HE5 := Lib.hid hE5
                            have HK5 := Lib.hid hK5
                            have HF5 := Lib.hid hF5
                            clear hE5 hK5 hF5 t0 t1 t2 HP
                            go_wp2
                            go_roundw
                            case rel =>
                              have hFe := HFe.out
                              refine ⟨j + 1, l' ++ [Y], footQ g A7 A3 Fd', by omega, by go_num, HAdd.out, ?_, Hrl2.out, ?_, ?_⟩
                              · unfold Hid
                                rw [show k + ((j + 1 : Nat) : Int) = k + (j : Int) + 1 by omega]
                                exact ⟨d', A7, c7, A3, c3x, Fd', HE5.out, rfl⟩
                              · subst hFe
                                exact (hK.out.trans (Kept.fresh (S := footQ g A1 A3 Fd') HBq5.out) hF.out).trans HK5.out (fun b q => (hF.out b q).imp id id)
                              · subst hFe
                                intro b' q
                                have := hK.out.size
                                have := HBq5.out.size
                                rcases HF5.out b' q with q | q
                                · exact hF.out b' q
                                · exact .inr (by omega)
                            case measure => simp [intOf]; omega
                        · skip
                          have hcv := (HQq.out.fresh Bv0.out).head.c1
                          go_simp
                          clear hcv
                          refine hK _ _ (HL.out _ Bv0.out) (fun hHeld => ?_)
                          clear hK K
                          try simp only [Act.put, List.setIfInBounds_toArray, List.set_cons_zero, List.set_cons_succ]
                          try simp only [List.getElem_toArray, List.getElem_cons_zero, List.getElem_cons_succ, Act.put, List.setIfInBounds_toArray, List.set_cons_zero, List.set_cons_succ]
                          refine wpAnyH_ready (rs := [1, 18]) (by kernel_rfl) (by simp) ?_
                          refine (AllReadyH.cons rfl (fun K hK => ?_) (AllReadyH.cons rfl (fun K hK => ?_) AllReadyH.nil))
                          · skip
                            go_simp
                            obtain ⟨eb, heb⟩ : ∃ x, x = v0.heap.size := ⟨_, rfl⟩
                            obtain ⟨v0e, hX⟩ : ∃ x, x = v0.alloc (.cells #[] 114) := ⟨_, rfl⟩
                            have Bv0e : Hid (Below wq.heap.size wq v0e) := by rw [hX]; exact Bv0.out.alloc Bv0.out.size _
                            have OE : Hid (v0e.ownsRow wq.heap.size 114 5 (.slice (some ⟨eb, 0, none⟩) 0 0) 0 []) := by rw [hX, heb]; exact World.ownsRow_made _ #[] 0 Bv0.out.size (by simp) (by simp)
                            have ebl : Hid (wq.heap.size ≤ eb) := by rw [heb]; exact Bv0.out.size
                            have ebw : Hid (eb < v0e.heap.size) := by rw [hX, heb]; simp [Hid]
                            rw [← heb, ← hX]
                            clear hX heb
                            refine hK _ _ (HL.out _ Bv0e.out) (fun hHeld => ?_)
                            clear hK K
                            try simp only [Act.put, List.setIfInBounds_toArray, List.set_cons_zero, List.set_cons_succ]
                            try simp only [List.getElem_toArray, List.getElem_cons_zero, List.getElem_cons_succ, Act.put, List.setIfInBounds_toArray, List.set_cons_zero, List.set_cons_succ]
                            refine wpAnyH_ready (rs := [6, 18]) (by kernel_rfl) (by simp) ?_
                            refine (AllReadyH.cons rfl (fun K hK => ?_) (AllReadyH.cons rfl (fun K hK => ?_) AllReadyH.nil))
                            · skip
                              refine step_append_src rfl (.tmp 163) (.tmp 167) 96 rfl wq.heap.size 114 i0 _ 5 64 Tryz.underlying96 hi0 hz0 hz1 hz2 rfl (by decide) (.slice (some ⟨eb, 0, none⟩) 0 0) 0 [] rfl OE.out A1 l'.length c1 (flatV l') rfl Hlf.out (HX2.out _ Bv0e.out).1 (HX2.out _ Bv0e.out).2 Hone.out (by unfold maxLen; omega) (by omega) Bv0e.out.size l'.length (by omega) ?_
                              intro A6 c6 v0ea ho hg hor
                              have Bv0ea : Hid (Below wq.heap.size wq v0ea) := Bv0e.out.grown hg Bv0e.out.size (fun j e => by cases e; exact ebl.out)
                              have OA : Hid (v0ea.ownsRow wq.heap.size 114 5 (.slice A6 l'.length c6) l'.length (flatV l')) := by rw [List.nil_append] at ho; exact ho
                              clear ho hg hor
                              refine hK _ _ (HL.out _ Bv0ea.out) (fun hHeld => ?_)
                              clear hK K
                              try simp only [Act.put, List.setIfInBounds_toArray, List.set_cons_zero, List.set_cons_succ]
                              try simp only [List.getElem_toArray, List.getElem_cons_zero, List.getElem_cons_succ, Act.put, List.setIfInBounds_toArray, List.set_cons_zero, List.set_cons_succ]
                              refine wpAnyH_ready (rs := [18]) (by kernel_rfl) (by simp) ?_
                              refine (AllReadyH.cons rfl (fun K hK => ?_) AllReadyH.nil)
                              go_simp
                              obtain ⟨xb, hxb⟩ : ∃ x, x = v0ea.heap.size := ⟨_, rfl⟩
                              obtain ⟨v0eax, hX⟩ : ∃ x, x = v0ea.alloc (.cells #[.int .i64 (k + (j : Int)), .int .i64 b, .int .i64 o, .string s, .slice A5 n5 c5] 114) := ⟨_, rfl⟩
                              have Bv0eax : Hid (Below wq.heap.size wq v0eax) := by rw [hX]; exact Bv0ea.out.alloc Bv0ea.out.size _
                              have HXB : Hid (v0eax.heap[xb]? = some (.cells #[.int .i64 (k + (j : Int)), .int .i64 b, .int .i64 o, .string s, .slice A5 n5 c5] 114 (0, 0))) := by rw [hX, hxb]; exact heap_alloc_new _ _
                              have xbw : Hid (xb < v0eax.heap.size) := by rw [hX, hxb]; simp [Hid]
                              have OA : Hid (v0eax.ownsRow wq.heap.size 114 5 (.slice A6 l'.length c6) l'.length (flatV l')) := by rw [hX]; exact OA.out.alloc _
                              rw [← hxb, ← hX]
                              clear hX hxb
                              refine hK _ _ (HL.out _ Bv0eax.out) (fun hHeld => ?_)
                              clear hK K
                              try simp only [Act.put, List.setIfInBounds_toArray, List.set_cons_zero, List.set_cons_succ]
                              try simp only [List.getElem_toArray, List.getElem_cons_zero, List.getElem_cons_succ, Act.put, List.setIfInBounds_toArray, List.set_cons_zero, List.set_cons_succ]
                              refine wpAnyH_ready (rs := [19]) (by kernel_rfl) (by simp) ?_
                              refine (AllReadyH.cons rfl (fun K hK => ?_) AllReadyH.nil)
                              refine step_append_src rfl (.tmp 168) (.tmp 180) 96 rfl wq.heap.size 114 i0 _ 5 64 Tryz.underlying96 hi0 hz0 hz1 hz2 rfl (by decide) (.slice A6 l'.length c6) l'.length (flatV l') rfl OA.out (some ⟨xb, 0, none⟩) 1 1 [Value.int .i64 (k + (j : Int)), .int .i64 b, .int .i64 o, .string s, .slice A5 n5 c5] rfl rfl (src_at HXB.out) (fun e => by cases e) Hone1.out (by unfold maxLen; omega) (by omega) Bv0eax.out.size (l'.length + 1) rfl ?_
                              intro A7 c7 w7 ho hg hor
                              have B7 : Hid (Below wq.heap.size wq w7) := Bv0eax.out.grown hg Bv0eax.out.size (fun j e => (OA.out.lt j e).1)
                              have hpu := HPu.out A7 c7 w7 B7.out (by have h := ho; rw [Hend.out] at h; exact h)
                              obtain ⟨⟨t0, t1, t2⟩, hpu⟩ := hpu
                              have HP := Lib.hid hpu
                              clear ho hg hor hpu
                              refine hK _ _ (HL.out _ B7.out) (fun hHeld => ?_)
                              clear hK K
                              try simp only [Act.put, List.setIfInBounds_toArray, List.set_cons_zero, List.set_cons_succ]
                              try simp only [List.getElem_toArray, List.getElem_cons_zero, List.getElem_cons_succ, Act.put, List.setIfInBounds_toArray, List.set_cons_zero, List.set_cons_succ]
                              refine takeH (i := 20) (some 182) (v := ?_) rfl rfl (by kernel_rfl) (by kernel_rfl) (by kernel_rfl) (fun _ _ _ h => h) (by rfl) ?_ (by assumption) ?_
                              rotate_left
                              · (intro w hSw; (try dsimp only at hSw); go_simp; try with_reducible rfl)
                              simp only [Act.put, List.setIfInBounds_toArray, List.set_cons_zero, List.set_cons_succ]
                              refine takeH (i := 21) (some 183) (v := ?_) rfl rfl (by kernel_rfl) (by kernel_rfl) (by kernel_rfl) (fun _ _ _ h => h) (by rfl) ?_ (by assumption) ?_
                              rotate_left
                              · (intro w hSw; (try dsimp only at hSw); go_simp; try with_reducible rfl)
                              simp only [Act.put, List.setIfInBounds_toArray, List.set_cons_zero, List.set_cons_succ]
                              refine wpAnyH_ready (rs := [22]) (by kernel_rfl) (by simp) ?_
                              refine AllReadyH.cons rfl (fun K hK => ?_) AllReadyH.nil
                              go_simp
                              refine hK _ _ (HX8.out _ _ (HL.out _ B7.out)) (fun hHeld => ?_)
                              clear hK K
                              try simp only [Act.put, List.setIfInBounds_toArray, List.set_cons_zero, List.set_cons_succ]
                              try simp only [List.getElem_toArray, List.getElem_cons_zero, List.getElem_cons_succ, Act.put, List.setIfInBounds_toArray, List.set_cons_zero, List.set_cons_succ]
                              refine wpAnyH_done (by kernel_rfl) ?_ _
                              have hv := HP.out _ rfl
                              generalize w7.setCell ⟨g, 1, none⟩ (.slice A7 (l'.length + 1) c7) = w8 at hv ⊢
                              obtain ⟨⟨u1, u2, u3⟩, hE5, hK5, hF5⟩ := hv
                              have HE5 := Lib.hid hE5
                              have HK5 := Lib.hid hK5
                              have HF5 := Lib.hid hF5
                              clear hE5 hK5 hF5 t0 t1 t2 HP
                              go_wp2
                              go_roundw
                              case rel =>
                                have hFe := HFe.out
                                refine ⟨j + 1, l' ++ [Y], footQ g A7 A3 Fd', by omega, by go_num, HAdd.out, ?_, Hrl2.out, ?_, ?_⟩
                                · unfold Hid
                                  rw [show k + ((j + 1 : Nat) : Int) = k + (j : Int) + 1 by omega]
                                  exact ⟨d', A7, c7, A3, c3x, Fd', HE5.out, rfl⟩
                                · subst hFe
                                  exact (hK.out.trans (Kept.fresh (S := footQ g A1 A3 Fd') HBq5.out) hF.out).trans HK5.out (fun b q => (hF.out b q).imp id id)
                                · subst hFe
                                  intro b' q
                                  have := hK.out.size
                                  have := HBq5.out.size
                                  rcases HF5.out b' q with q | q
                                  · exact hF.out b' q
                                  · exact .inr (by omega)
                              case measure => simp [intOf]; omega
                            · skip
                              go_simp
                              obtain ⟨xb, hxb⟩ : ∃ x, x = v0e.heap.size := ⟨_, rfl⟩
                              obtain ⟨v0ex, hX⟩ : ∃ x, x = v0e.alloc (.cells #[.int .i64 (k + (j : Int)), .int .i64 b, .int .i64 o, .string s, .slice A5 n5 c5] 114) := ⟨_, rfl⟩
                              have Bv0ex : Hid (Below wq.heap.size wq v0ex) := by rw [hX]; exact Bv0e.out.alloc Bv0e.out.size _
                              have HXB : Hid (v0ex.heap[xb]? = some (.cells #[.int .i64 (k + (j : Int)), .int .i64 b, .int .i64 o, .string s, .slice A5 n5 c5] 114 (0, 0))) := by rw [hX, hxb]; exact heap_alloc_new _ _
                              have xbw : Hid (xb < v0ex.heap.size) := by rw [hX, hxb]; simp [Hid]
                              have OE : Hid (v0ex.ownsRow wq.heap.size 114 5 (.slice (some ⟨eb, 0, none⟩) 0 0) 0 []) := by rw [hX]; exact OE.out.alloc _
                              have xe : Hid (xb ≠ eb) := by rw [hxb]; exact Nat.ne_of_gt ebw.out
                              rw [← hxb, ← hX]
                              clear hX hxb
                              refine hK _ _ (HL.out _ Bv0ex.out) (fun hHeld => ?_)
                              clear hK K
                              try simp only [Act.put, List.setIfInBounds_toArray, List.set_cons_zero, List.set_cons_succ]
                              try simp only [List.getElem_toArray, List.getElem_cons_zero, List.getElem_cons_succ, Act.put, List.setIfInBounds_toArray, List.set_cons_zero, List.set_cons_succ]
                              refine wpAnyH_ready (rs := [6]) (by kernel_rfl) (by simp) ?_
                              refine (AllReadyH.cons rfl (fun K hK => ?_) AllReadyH.nil)
                              refine step_append_src rfl (.tmp 163) (.tmp 167) 96 rfl wq.heap.size 114 i0 _ 5 64 Tryz.underlying96 hi0 hz0 hz1 hz2 rfl (by decide) (.slice (some ⟨eb, 0, none⟩) 0 0) 0 [] rfl OE.out A1 l'.length c1 (flatV l') rfl Hlf.out (HX2.out _ Bv0ex.out).1 (HX2.out _ Bv0ex.out).2 Hone.out (by unfold maxLen; omega) (by omega) Bv0ex.out.size l'.length (by omega) ?_
                              intro A6 c6 v0exa ho hg hor
                              have Bv0exa : Hid (Below wq.heap.size wq v0exa) := Bv0ex.out.grown hg Bv0ex.out.size (fun j e => by cases e; exact ebl.out)
                              have OA : Hid (v0exa.ownsRow wq.heap.size 114 5 (.slice A6 l'.length c6) l'.length (flatV l')) := by rw [List.nil_append] at ho; exact ho
                              have HXB : Hid (v0exa.heap[xb]? = some (.cells #[.int .i64 (k + (j : Int)), .int .i64 b, .int .i64 o, .string s, .slice A5 n5 c5] 114 (0, 0))) := (hg.block xb xbw.out (fun e => xe.out (by have e1 : some xb = some eb := e; injection e1))).trans HXB.out
                              clear ho hg hor
                              refine hK _ _ (HL.out _ Bv0exa.out) (fun hHeld => ?_)
                              clear hK K
                              try simp only [Act.put, List.setIfInBounds_toArray, List.set_cons_zero, List.set_cons_succ]
                              try simp only [List.getElem_toArray, List.getElem_cons_zero, List.getElem_cons_succ, Act.put, List.setIfInBounds_toArray, List.set_cons_zero, List.set_cons_succ]
                              refine wpAnyH_ready (rs := [19]) (by kernel_rfl) (by simp) ?_
                              refine (AllReadyH.cons rfl (fun K hK => ?_) AllReadyH.nil)
                              refine step_append_src rfl (.tmp 168) (.tmp 180) 96 rfl wq.heap.size 114 i0 _ 5 64 Tryz.underlying96 hi0 hz0 hz1 hz2 rfl (by decide) (.slice A6 l'.length c6) l'.length (flatV l') rfl OA.out (some ⟨xb, 0, none⟩) 1 1 [Value.int .i64 (k + (j : Int)), .int .i64 b, .int .i64 o, .string s, .slice A5 n5 c5] rfl rfl (src_at HXB.out) (fun e => by cases e) Hone1.out (by unfold maxLen; omega) (by omega) Bv0exa.out.size (l'.length + 1) rfl ?_
                              intro A7 c7 w7 ho hg hor
                              have B7 : Hid (Below wq.heap.size wq w7) := Bv0exa.out.grown hg Bv0exa.out.size (fun j e => (OA.out.lt j e).1)
                              have hpu := HPu.out A7 c7 w7 B7.out (by have h := ho; rw [Hend.out] at h; exact h)
                              obtain ⟨⟨t0, t1, t2⟩, hpu⟩ := hpu
                              have HP := Lib.hid hpu
                              clear ho hg hor hpu
                              refine hK _ _ (HL.out _ B7.out) (fun hHeld => ?_)
                              clear hK K
                              try simp only [Act.put, List.setIfInBounds_toArray, List.set_cons_zero, List.set_cons_succ]
                              try simp only [List.getElem_toArray, List.getElem_cons_zero, List.getElem_cons_succ, Act.put, List.setIfInBounds_toArray, List.set_cons_zero, List.set_cons_succ]
                              refine takeH (i := 20) (some 182) (v := ?_) rfl rfl (by kernel_rfl) (by kernel_rfl) (by kernel_rfl) (fun _ _ _ h => h) (by rfl) ?_ (by assumption) ?_
                              rotate_left
                              · (intro w hSw; (try dsimp only at hSw); go_simp; try with_reducible rfl)
                              simp only [Act.put, List.setIfInBounds_toArray, List.set_cons_zero, List.set_cons_succ]
                              refine takeH (i := 21) (some 183) (v := ?_) rfl rfl (by kernel_rfl) (by kernel_rfl) (by kernel_rfl) (fun _ _ _ h => h) (by rfl) ?_ (by assumption) ?_
                              rotate_left
                              · (intro w hSw; (try dsimp only at hSw); go_simp; try with_reducible rfl)
                              simp only [Act.put, List.setIfInBounds_toArray, List.set_cons_zero, List.set_cons_succ]
                              refine wpAnyH_ready (rs := [22]) (by kernel_rfl) (by simp) ?_
                              refine AllReadyH.cons rfl (fun K hK => ?_) AllReadyH.nil
                              go_simp
                              refine hK _ _ (HX8.out _ _ (HL.out _ B7.out)) (fun hHeld => ?_)
                              clear hK K
                              try simp only [Act.put, List.setIfInBounds_toArray, List.set_cons_zero, List.set_cons_succ]
                              try simp only [List.getElem_toArray, List.getElem_cons_zero, List.getElem_cons_succ, Act.put, List.setIfInBounds_toArray, List.set_cons_zero, List.set_cons_succ]
                              refine wpAnyH_done (by kernel_rfl) ?_ _
                              have hv := HP.out _ rfl
                              generalize w7.setCell ⟨g, 1, none⟩ (.slice A7 (l'.length + 1) c7) = w8 at hv ⊢
                              obtain ⟨⟨u1, u2, u3⟩, hE5, hK5, hF5⟩ := hv
                              have HE5 := Lib.hid hE5
                              have HK5 := Lib.hid hK5
                              have HF5 := Lib.hid hF5
                              clear hE5 hK5 hF5 t0 t1 t2 HP
                              go_wp2
                              go_roundw
                              case rel =>
                                have hFe := HFe.out
                                refine ⟨j + 1, l' ++ [Y], footQ g A7 A3 Fd', by omega, by go_num, HAdd.out, ?_, Hrl2.out, ?_, ?_⟩
                                · unfold Hid
                                  rw [show k + ((j + 1 : Nat) : Int) = k + (j : Int) + 1 by omega]
                                  exact ⟨d', A7, c7, A3, c3x, Fd', HE5.out, rfl⟩
                                · subst hFe
                                  exact (hK.out.trans (Kept.fresh (S := footQ g A1 A3 Fd') HBq5.out) hF.out).trans HK5.out (fun b q => (hF.out b q).imp id id)
                                · subst hFe
                                  intro b' q
                                  have := hK.out.size
                                  have := HBq5.out.size
                                  rcases HF5.out b' q with q | q
                                  · exact hF.out b' q
                                  · exact .inr (by omega)
                              case measure => simp [intOf]; omega
                          · skip
                            go_simp
                            obtain ⟨xb, hxb⟩ : ∃ x, x = v0.heap.size := ⟨_, rfl⟩
                            obtain ⟨v0x, hX⟩ : ∃ x, x = v0.alloc (.cells #[.int .i64 (k + (j : Int)), .int .i64 b, .int .i64 o, .string s, .slice A5 n5 c5] 114) := ⟨_, rfl⟩
                            have Bv0x : Hid (Below wq.heap.size wq v0x) := by rw [hX]; exact Bv0.out.alloc Bv0.out.size _
                            have HXB : Hid (v0x.heap[xb]? = some (.cells #[.int .i64 (k + (j : Int)), .int .i64 b, .int .i64 o, .string s, .slice A5 n5 c5] 114 (0, 0))) := by rw [hX, hxb]; exact heap_alloc_new _ _
                            have xbw : Hid (xb < v0x.heap.size) := by rw [hX, hxb]; simp [Hid]
                            rw [← hxb, ← hX]
                            clear hX hxb
                            refine hK _ _ (HL.out _ Bv0x.out) (fun hHeld => ?_)
                            clear hK K
                            try simp only [Act.put, List.setIfInBounds_toArray, List.set_cons_zero, List.set_cons_succ]
                            try simp only [List.getElem_toArray, List.getElem_cons_zero, List.getElem_cons_succ, Act.put, List.setIfInBounds_toArray, List.set_cons_zero, List.set_cons_succ]
                            refine wpAnyH_ready (rs := [1]) (by kernel_rfl) (by simp) ?_
                            refine (AllReadyH.cons rfl (fun K hK => ?_) AllReadyH.nil)
                            go_simp
                            obtain ⟨eb, heb⟩ : ∃ x, x = v0x.heap.size := ⟨_, rfl⟩
                            obtain ⟨v0xe, hX⟩ : ∃ x, x = v0x.alloc (.cells #[] 114) := ⟨_, rfl⟩
                            have Bv0xe : Hid (Below wq.heap.size wq v0xe) := by rw [hX]; exact Bv0x.out.alloc Bv0x.out.size _
                            have OE : Hid (v0xe.ownsRow wq.heap.size 114 5 (.slice (some ⟨eb, 0, none⟩) 0 0) 0 []) := by rw [hX, heb]; exact World.ownsRow_made _ #[] 0 Bv0x.out.size (by simp) (by simp)
                            have ebl : Hid (wq.heap.size ≤ eb) := by rw [heb]; exact Bv0x.out.size
                            have ebw : Hid (eb < v0xe.heap.size) := by rw [hX, heb]; simp [Hid]
                            have HXB : Hid (v0xe.heap[xb]? = some (.cells #[.int .i64 (k + (j : Int)), .int .i64 b, .int .i64 o, .string s, .slice A5 n5 c5] 114 (0, 0))) := by rw [hX]; exact (heap_alloc_old _ _ xbw.out).trans HXB.out
                            have xe : Hid (xb ≠ eb) := by rw [heb]; exact Nat.ne_of_lt xbw.out
                            have xbw : Hid (xb < v0xe.heap.size) := by rw [hX]; have := xbw.out; simp [Hid]; omega
                            rw [← heb, ← hX]
                            clear hX heb
                            refine hK _ _ (HL.out _ Bv0xe.out) (fun hHeld => ?_)
                            clear hK K
                            try simp only [Act.put, List.setIfInBounds_toArray, List.set_cons_zero, List.set_cons_succ]
                            try simp only [List.getElem_toArray, List.getElem_cons_zero, List.getElem_cons_succ, Act.put, List.setIfInBounds_toArray, List.set_cons_zero, List.set_cons_succ]
                            refine wpAnyH_ready (rs := [6]) (by kernel_rfl) (by simp) ?_
                            refine (AllReadyH.cons rfl (fun K hK => ?_) AllReadyH.nil)
                            refine step_append_src rfl (.tmp 163) (.tmp 167) 96 rfl wq.heap.size 114 i0 _ 5 64 Tryz.underlying96 hi0 hz0 hz1 hz2 rfl (by decide) (.slice (some ⟨eb, 0, none⟩) 0 0) 0 [] rfl OE.out A1 l'.length c1 (flatV l') rfl Hlf.out (HX2.out _ Bv0xe.out).1 (HX2.out _ Bv0xe.out).2 Hone.out (by unfold maxLen; omega) (by omega) Bv0xe.out.size l'.length (by omega) ?_
                            intro A6 c6 v0xea ho hg hor
                            have Bv0xea : Hid (Below wq.heap.size wq v0xea) := Bv0xe.out.grown hg Bv0xe.out.size (fun j e => by cases e; exact ebl.out)
                            have OA : Hid (v0xea.ownsRow wq.heap.size 114 5 (.slice A6 l'.length c6) l'.length (flatV l')) := by rw [List.nil_append] at ho; exact ho
                            have HXB : Hid (v0xea.heap[xb]? = some (.cells #[.int .i64 (k + (j : Int)), .int .i64 b, .int .i64 o, .string s, .slice A5 n5 c5] 114 (0, 0))) := (hg.block xb xbw.out (fun e => xe.out (by have e1 : some xb = some eb := e; injection e1))).trans HXB.out
                            clear ho hg hor
                            refine hK _ _ (HL.out _ Bv0xea.out) (fun hHeld => ?_)
                            clear hK K
                            try simp only [Act.put, List.setIfInBounds_toArray, List.set_cons_zero, List.set_cons_succ]
                            try simp only [List.getElem_toArray, List.getElem_cons_zero, List.getElem_cons_succ, Act.put, List.setIfInBounds_toArray, List.set_cons_zero, List.set_cons_succ]
                            refine wpAnyH_ready (rs := [19]) (by kernel_rfl) (by simp) ?_
                            refine (AllReadyH.cons rfl (fun K hK => ?_) AllReadyH.nil)
                            refine step_append_src rfl (.tmp 168) (.tmp 180) 96 rfl wq.heap.size 114 i0 _ 5 64 Tryz.underlying96 hi0 hz0 hz1 hz2 rfl (by decide) (.slice A6 l'.length c6) l'.length (flatV l') rfl OA.out (some ⟨xb, 0, none⟩) 1 1 [Value.int .i64 (k + (j : Int)), .int .i64 b, .int .i64 o, .string s, .slice A5 n5 c5] rfl rfl (src_at HXB.out) (fun e => by cases e) Hone1.out (by unfold maxLen; omega) (by omega) Bv0xea.out.size (l'.length + 1) rfl ?_
                            intro A7 c7 w7 ho hg hor
                            have B7 : Hid (Below wq.heap.size wq w7) := Bv0xea.out.grown hg Bv0xea.out.size (fun j e => (OA.out.lt j e).1)
                            have hpu := HPu.out A7 c7 w7 B7.out (by have h := ho; rw [Hend.out] at h; exact h)
                            obtain ⟨⟨t0, t1, t2⟩, hpu⟩ := hpu
                            have HP := Lib.hid hpu
                            clear ho hg hor hpu
                            refine hK _ _ (HL.out _ B7.out) (fun hHeld => ?_)
                            clear hK K
                            try simp only [Act.put, List.setIfInBounds_toArray, List.set_cons_zero, List.set_cons_succ]
                            try simp only [List.getElem_toArray, List.getElem_cons_zero, List.getElem_cons_succ, Act.put, List.setIfInBounds_toArray, List.set_cons_zero, List.set_cons_succ]
                            refine takeH (i := 20) (some 182) (v := ?_) rfl rfl (by kernel_rfl) (by kernel_rfl) (by kernel_rfl) (fun _ _ _ h => h) (by rfl) ?_ (by assumption) ?_
                            rotate_left
                            · (intro w hSw; (try dsimp only at hSw); go_simp; try with_reducible rfl)
                            simp only [Act.put, List.setIfInBounds_toArray, List.set_cons_zero, List.set_cons_succ]
                            refine takeH (i := 21) (some 183) (v := ?_) rfl rfl (by kernel_rfl) (by kernel_rfl) (by kernel_rfl) (fun _ _ _ h => h) (by rfl) ?_ (by assumption) ?_
                            rotate_left
                            · (intro w hSw; (try dsimp only at hSw); go_simp; try with_reducible rfl)
                            simp only [Act.put, List.setIfInBounds_toArray, List.set_cons_zero, List.set_cons_succ]
                            refine wpAnyH_ready (rs := [22]) (by kernel_rfl) (by simp) ?_
                            refine AllReadyH.cons rfl (fun K hK => ?_) AllReadyH.nil
                            go_simp
                            refine hK _ _ (HX8.out _ _ (HL.out _ B7.out)) (fun hHeld => ?_)
                            clear hK K
                            try simp only [Act.put, List.setIfInBounds_toArray, List.set_cons_zero, List.set_cons_succ]
                            try simp only [List.getElem_toArray, List.getElem_cons_zero, List.getElem_cons_succ, Act.put, List.setIfInBounds_toArray, List.set_cons_zero, List.set_cons_succ]
                            refine wpAnyH_done (by kernel_rfl) ?_ _
                            have hv := HP.out _ rfl
                            generalize w7.setCell ⟨g, 1, none⟩ (.slice A7 (l'.length + 1) c7) = w8 at hv ⊢
                            obtain ⟨⟨u1, u2, u3⟩, hE5, hK5, hF5⟩ := hv
                            have HE5 := Lib.hid hE5
                            have HK5 := Lib.hid hK5
                            have HF5 := Lib.hid hF5
                            clear hE5 hK5 hF5 t0 t1 t2 HP
                            go_wp2
                            go_roundw
                            case rel =>
                              have hFe := HFe.out
                              refine ⟨j + 1, l' ++ [Y], footQ g A7 A3 Fd', by omega, by go_num, HAdd.out, ?_, Hrl2.out, ?_, ?_⟩
                              · unfold Hid
                                rw [show k + ((j + 1 : Nat) : Int) = k + (j : Int) + 1 by omega]
                                exact ⟨d', A7, c7, A3, c3x, Fd', HE5.out, rfl⟩
                              · subst hFe
                                exact (hK.out.trans (Kept.fresh (S := footQ g A1 A3 Fd') HBq5.out) hF.out).trans HK5.out (fun b q => (hF.out b q).imp id id)
                              · subst hFe
                                intro b' q
                                have := hK.out.size
                                have := HBq5.out.size
                                rcases HF5.out b' q with q | q
                                · exact hF.out b' q
                                · exact .inr (by omega)
                            case measure => simp [intOf]; omega
                        · skip
                          go_simp
                          obtain ⟨xb, hxb⟩ : ∃ x, x = v0.heap.size := ⟨_, rfl⟩
                          obtain ⟨v0x, hX⟩ : ∃ x, x = v0.alloc (.cells #[.int .i64 (k + (j : Int)), .int .i64 b, .int .i64 o, .string s, .slice A5 n5 c5] 114) := ⟨_, rfl⟩
                          have Bv0x : Hid (Below wq.heap.size wq v0x) := by rw [hX]; exact Bv0.out.alloc Bv0.out.size _
                          have HXB : Hid (v0x.heap[xb]? = some (.cells #[.int .i64 (k + (j : Int)), .int .i64 b, .int .i64 o, .string s, .slice A5 n5 c5] 114 (0, 0))) := by rw [hX, hxb]; exact heap_alloc_new _ _
                          have xbw : Hid (xb < v0x.heap.size) := by rw [hX, hxb]; simp [Hid]
                          rw [← hxb, ← hX]
                          clear hX hxb
                          refine hK _ _ (HL.out _ Bv0x.out) (fun hHeld => ?_)
                          clear hK K
                          try simp only [Act.put, List.setIfInBounds_toArray, List.set_cons_zero, List.set_cons_succ]
                          try simp only [List.getElem_toArray, List.getElem_cons_zero, List.getElem_cons_succ, Act.put, List.setIfInBounds_toArray, List.set_cons_zero, List.set_cons_succ]
                          refine wpAnyH_ready (rs := [1, 5]) (by kernel_rfl) (by simp) ?_
                          refine (AllReadyH.cons rfl (fun K hK => ?_) (AllReadyH.cons rfl (fun K hK => ?_) AllReadyH.nil))
                          · skip
                            go_simp
                            obtain ⟨eb, heb⟩ : ∃ x, x = v0x.heap.size := ⟨_, rfl⟩
                            obtain ⟨v0xe, hX⟩ : ∃ x, x = v0x.alloc (.cells #[] 114) := ⟨_, rfl⟩
                            have Bv0xe : Hid (Below wq.heap.size wq v0xe) := by rw [hX]; exact Bv0x.out.alloc Bv0x.out.size _
                            have OE : Hid (v0xe.ownsRow wq.heap.size 114 5 (.slice (some ⟨eb, 0, none⟩) 0 0) 0 []) := by rw [hX, heb]; exact World.ownsRow_made _ #[] 0 Bv0x.out.size (by simp) (by simp)
                            have ebl : Hid (wq.heap.size ≤ eb) := by rw [heb]; exact Bv0x.out.size
                            have ebw : Hid (eb < v0xe.heap.size) := by rw [hX, heb]; simp [Hid]
                            have HXB : Hid (v0xe.heap[xb]? = some (.cells #[.int .i64 (k + (j : Int)), .int .i64 b, .int .i64 o, .string s, .slice A5 n5 c5] 114 (0, 0))) := by rw [hX]; exact (heap_alloc_old _ _ xbw.out).trans HXB.out
                            have xe : Hid (xb ≠ eb) := by rw [heb]; exact Nat.ne_of_lt xbw.out
                            have xbw : Hid (xb < v0xe.heap.size) := by rw [hX]; have := xbw.out; simp [Hid]; omega
                            rw [← heb, ← hX]
                            clear hX heb
                            refine hK _ _ (HL.out _ Bv0xe.out) (fun hHeld => ?_)
                            clear hK K
                            try simp only [Act.put, List.setIfInBounds_toArray, List.set_cons_zero, List.set_cons_succ]
                            try simp only [List.getElem_toArray, List.getElem_cons_zero, List.getElem_cons_succ, Act.put, List.setIfInBounds_toArray, List.set_cons_zero, List.set_cons_succ]
                            refine wpAnyH_ready (rs := [5]) (by kernel_rfl) (by simp) ?_
                            refine (AllReadyH.cons rfl (fun K hK => ?_) AllReadyH.nil)
                            have hcv := (HQq.out.fresh Bv0xe.out).head.c1
                            go_simp
                            clear hcv
                            refine hK _ _ (HL.out _ Bv0xe.out) (fun hHeld => ?_)
                            clear hK K
                            try simp only [Act.put, List.setIfInBounds_toArray, List.set_cons_zero, List.set_cons_succ]
                            try simp only [List.getElem_toArray, List.getElem_cons_zero, List.getElem_cons_succ, Act.put, List.setIfInBounds_toArray, List.set_cons_zero, List.set_cons_succ]
                            refine wpAnyH_ready (rs := [6]) (by kernel_rfl) (by simp) ?_
                            refine (AllReadyH.cons rfl (fun K hK => ?_) AllReadyH.nil)
                            refine step_append_src rfl (.tmp 163) (.tmp 167) 96 rfl wq.heap.size 114 i0 _ 5 64 Tryz.underlying96 hi0 hz0 hz1 hz2 rfl (by decide) (.slice (some ⟨eb, 0, none⟩) 0 0) 0 [] rfl OE.out A1 l'.length c1 (flatV l') rfl Hlf.out (HX2.out _ Bv0xe.out).1 (HX2.out _ Bv0xe.out).2 Hone.out (by unfold maxLen; omega) (by omega) Bv0xe.out.size l'.length (by omega) ?_
                            intro A6 c6 v0xea ho hg hor
                            have Bv0xea : Hid (Below wq.heap.size wq v0xea) := Bv0xe.out.grown hg Bv0xe.out.size (fun j e => by cases e; exact ebl.out)
                            have OA : Hid (v0xea.ownsRow wq.heap.size 114 5 (.slice A6 l'.length c6) l'.length (flatV l')) := by rw [List.nil_append] at ho; exact ho
                            have HXB : Hid (v0xea.heap[xb]? = some (.cells #[.int .i64 (k + (j : Int)), .int .i64 b, .int .i64 o, .string s, .slice A5 n5 c5] 114 (0, 0))) := (hg.block xb xbw.out (fun e => xe.out (by have e1 : some xb = some eb := e; injection e1))).trans HXB.out
                            clear ho hg hor
                            refine hK _ _ (HL.out _ Bv0xea.out) (fun hHeld => ?_)
                            clear hK K
                            try simp only [Act.put, List.setIfInBounds_toArray, List.set_cons_zero, List.set_cons_succ]
                            try simp only [List.getElem_toArray, List.getElem_cons_zero, List.getElem_cons_succ, Act.put, List.setIfInBounds_toArray, List.set_cons_zero, List.set_cons_succ]
                            refine wpAnyH_ready (rs := [19]) (by kernel_rfl) (by simp) ?_
                            refine (AllReadyH.cons rfl (fun K hK => ?_) AllReadyH.nil)
                            refine step_append_src rfl (.tmp 168) (.tmp 180) 96 rfl wq.heap.size 114 i0 _ 5 64 Tryz.underlying96 hi0 hz0 hz1 hz2 rfl (by decide) (.slice A6 l'.length c6) l'.length (flatV l') rfl OA.out (some ⟨xb, 0, none⟩) 1 1 [Value.int .i64 (k + (j : Int)), .int .i64 b, .int .i64 o, .string s, .slice A5 n5 c5] rfl rfl (src_at HXB.out) (fun e => by cases e) Hone1.out (by unfold maxLen; omega) (by omega) Bv0xea.out.size (l'.length + 1) rfl ?_
                            intro A7 c7 w7 ho hg hor
                            have B7 : Hid (Below wq.heap.size wq w7) := Bv0xea.out.grown hg Bv0xea.out.size (fun j e => (OA.out.lt j e).1)
                            have hpu := HPu.out A7 c7 w7 B7.out (by have h := ho; rw [Hend.out] at h; exact h)
                            obtain ⟨⟨t0, t1, t2⟩, hpu⟩ := hpu
                            have HP := Lib.hid hpu
                            clear ho hg hor hpu
                            refine hK _ _ (HL.out _ B7.out) (fun hHeld => ?_)
                            clear hK K
                            try simp only [Act.put, List.setIfInBounds_toArray, List.set_cons_zero, List.set_cons_succ]
                            try simp only [List.getElem_toArray, List.getElem_cons_zero, List.getElem_cons_succ, Act.put, List.setIfInBounds_toArray, List.set_cons_zero, List.set_cons_succ]
                            refine takeH (i := 20) (some 182) (v := ?_) rfl rfl (by kernel_rfl) (by kernel_rfl) (by kernel_rfl) (fun _ _ _ h => h) (by rfl) ?_ (by assumption) ?_
                            rotate_left
                            · (intro w hSw; (try dsimp only at hSw); go_simp; try with_reducible rfl)
                            simp only [Act.put, List.setIfInBounds_toArray, List.set_cons_zero, List.set_cons_succ]
                            refine takeH (i := 21) (some 183) (v := ?_) rfl rfl (by kernel_rfl) (by kernel_rfl) (by kernel_rfl) (fun _ _ _ h => h) (by rfl) ?_ (by assumption) ?_
                            rotate_left
                            · (intro w hSw; (try dsimp only at hSw); go_simp; try with_reducible rfl)
                            simp only [Act.put, List.setIfInBounds_toArray, List.set_cons_zero, List.set_cons_succ]
                            refine wpAnyH_ready (rs := [22]) (by kernel_rfl) (by simp) ?_
                            refine AllReadyH.cons rfl (fun K hK => ?_) AllReadyH.nil
                            go_simp
                            refine hK _ _ (HX8.out _ _ (HL.out _ B7.out)) (fun hHeld => ?_)
                            clear hK K
                            try simp only [Act.put, List.setIfInBounds_toArray, List.set_cons_zero, List.set_cons_succ]
                            try simp only [List.getElem_toArray, List.getElem_cons_zero, List.getElem_cons_succ, Act.put, List.setIfInBounds_toArray, List.set_cons_zero, List.set_cons_succ]
                            refine wpAnyH_done (by kernel_rfl) ?_ _
                            have hv := HP.out _ rfl
                            generalize w7.setCell ⟨g, 1, none⟩ (.slice A7 (l'.length + 1) c7) = w8 at hv ⊢
                            obtain ⟨⟨u1, u2, u3⟩, hE5, hK5, hF5⟩ := hv
                            have HE5 := Lib.hid hE5
                            have HK5 := Lib.hid hK5
                            have HF5 := Lib.hid hF5
                            clear hE5 hK5 hF5 t0 t1 t2 HP
                            go_wp2
                            go_roundw
                            case rel =>
                              have hFe := HFe.out
                              refine ⟨j + 1, l' ++ [Y], footQ g A7 A3 Fd', by omega, by go_num, HAdd.out, ?_, Hrl2.out, ?_, ?_⟩
                              · unfold Hid
                                rw [show k + ((j + 1 : Nat) : Int) = k + (j : Int) + 1 by omega]
                                exact ⟨d', A7, c7, A3, c3x, Fd', HE5.out, rfl⟩
                              · subst hFe
                                exact (hK.out.trans (Kept.fresh (S := footQ g A1 A3 Fd') HBq5.out) hF.out).trans HK5.out (fun b q => (hF.out b q).imp id id)
                              · subst hFe
                                intro b' q
                                have := hK.out.size
                                have := HBq5.out.size
                                rcases HF5.out b' q with q | q
                                · exact hF.out b' q
                                · exact .inr (by omega)
                            case measure => simp [intOf]; omega
                          · skip
                            have hcv := (HQq.out.fresh Bv0x.out).head.c1
                            go_simp
                            clear hcv
                            refine hK _ _ (HL.out _ Bv0x.out) (fun hHeld => ?_)
                            clear hK K
                            try simp only [Act.put, List.setIfInBounds_toArray, List.set_cons_zero, List.set_cons_succ]
                            try simp only [List.getElem_toArray, List.getElem_cons_zero, List.getElem_cons_succ, Act.put, List.setIfInBounds_toArray, List.set_cons_zero, List.set_cons_succ]
                            refine wpAnyH_ready (rs := [1]) (by kernel_rfl) (by simp) ?_
                            refine (AllReadyH.cons rfl (fun K hK => ?_) AllReadyH.nil)
                            go_simp
                            obtain ⟨eb, heb⟩ : ∃ x, x = v0x.heap.size := ⟨_, rfl⟩
                            obtain ⟨v0xe, hX⟩ : ∃ x, x = v0x.alloc (.cells #[] 114) := ⟨_, rfl⟩
                            have Bv0xe : Hid (Below wq.heap.size wq v0xe) := by rw [hX]; exact Bv0x.out.alloc Bv0x.out.size _
                            have OE : Hid (v0xe.ownsRow wq.heap.size 114 5 (.slice (some ⟨eb, 0, none⟩) 0 0) 0 []) := by rw [hX, heb]; exact World.ownsRow_made _ #[] 0 Bv0x.out.size (by simp) (by simp)
                            have ebl : Hid (wq.heap.size ≤ eb) := by rw [heb]; exact Bv0x.out.size
                            have ebw : Hid (eb < v0xe.heap.size) := by rw [hX, heb]; simp [Hid]
                            have HXB : Hid (v0xe.heap[xb]? = some (.cells #[.int .i64 (k + (j : Int)), .int .i64 b, .int .i64 o, .string s, .slice A5 n5 c5] 114 (0, 0))) := by rw [hX]; exact (heap_alloc_old _ _ xbw.out).trans HXB.out
                            have xe : Hid (xb ≠ eb) := by rw [heb]; exact Nat.ne_of_lt xbw.out
                            have xbw : Hid (xb < v0xe.heap.size) := by rw [hX]; have := xbw.out; simp [Hid]; omega
                            rw [← heb, ← hX]
                            clear hX heb
                            refine hK _ _ (HL.out _ Bv0xe.out) (fun hHeld => ?_)
                            clear hK K
                            try simp only [Act.put, List.setIfInBounds_toArray, List.set_cons_zero, List.set_cons_succ]
                            try simp only [List.getElem_toArray, List.getElem_cons_zero, List.getElem_cons_succ, Act.put, List.setIfInBounds_toArray, List.set_cons_zero, List.set_cons_succ]
                            refine wpAnyH_ready (rs := [6]) (by kernel_rfl) (by simp) ?_
                            refine (AllReadyH.cons rfl (fun K hK => ?_) AllReadyH.nil)
                            refine step_append_src rfl (.tmp 163) (.tmp 167) 96 rfl wq.heap.size 114 i0 _ 5 64 Tryz.underlying96 hi0 hz0 hz1 hz2 rfl (by decide) (.slice (some ⟨eb, 0, none⟩) 0 0) 0 [] rfl OE.out A1 l'.length c1 (flatV l') rfl Hlf.out (HX2.out _ Bv0xe.out).1 (HX2.out _ Bv0xe.out).2 Hone.out (by unfold maxLen; omega) (by omega) Bv0xe.out.size l'.length (by omega) ?_
                            intro A6 c6 v0xea ho hg hor
                            have Bv0xea : Hid (Below wq.heap.size wq v0xea) := Bv0xe.out.grown hg Bv0xe.out.size (fun j e => by cases e; exact ebl.out)
                            have OA : Hid (v0xea.ownsRow wq.heap.size 114 5 (.slice A6 l'.length c6) l'.length (flatV l')) := by rw [List.nil_append] at ho; exact ho
                            have HXB : Hid (v0xea.heap[xb]? = some (.cells #[.int .i64 (k + (j : Int)), .int .i64 b, .int .i64 o, .string s, .slice A5 n5 c5] 114 (0, 0))) := (hg.block xb xbw.out (fun e => xe.out (by have e1 : some xb = some eb := e; injection e1))).trans HXB.out
                            clear ho hg hor
                            refine hK _ _ (HL.out _ Bv0xea.out) (fun hHeld => ?_)
                            clear hK K
                            try simp only [Act.put, List.setIfInBounds_toArray, List.set_cons_zero, List.set_cons_succ]
                            try simp only [List.getElem_toArray, List.getElem_cons_zero, List.getElem_cons_succ, Act.put, List.setIfInBounds_toArray, List.set_cons_zero, List.set_cons_succ]
                            refine wpAnyH_ready (rs := [19]) (by kernel_rfl) (by simp) ?_
                            refine (AllReadyH.cons rfl (fun K hK => ?_) AllReadyH.nil)
                            refine step_append_src rfl (.tmp 168) (.tmp 180) 96 rfl wq.heap.size 114 i0 _ 5 64 Tryz.underlying96 hi0 hz0 hz1 hz2 rfl (by decide) (.slice A6 l'.length c6) l'.length (flatV l') rfl OA.out (some ⟨xb, 0, none⟩) 1 1 [Value.int .i64 (k + (j : Int)), .int .i64 b, .int .i64 o, .string s, .slice A5 n5 c5] rfl rfl (src_at HXB.out) (fun e => by cases e) Hone1.out (by unfold maxLen; omega) (by omega) Bv0xea.out.size (l'.length + 1) rfl ?_
                            intro A7 c7 w7 ho hg hor
                            have B7 : Hid (Below wq.heap.size wq w7) := Bv0xea.out.grown hg Bv0xea.out.size (fun j e => (OA.out.lt j e).1)
                            have hpu := HPu.out A7 c7 w7 B7.out (by have h := ho; rw [Hend.out] at h; exact h)
                            obtain ⟨⟨t0, t1, t2⟩, hpu⟩ := hpu
                            have HP := Lib.hid hpu
                            clear ho hg hor hpu
                            refine hK _ _ (HL.out _ B7.out) (fun hHeld => ?_)
                            clear hK K
                            try simp only [Act.put, List.setIfInBounds_toArray, List.set_cons_zero, List.set_cons_succ]
                            try simp only [List.getElem_toArray, List.getElem_cons_zero, List.getElem_cons_succ, Act.put, List.setIfInBounds_toArray, List.set_cons_zero, List.set_cons_succ]
                            refine takeH (i := 20) (some 182) (v := ?_) rfl rfl (by kernel_rfl) (by kernel_rfl) (by kernel_rfl) (fun _ _ _ h => h) (by rfl) ?_ (by assumption) ?_
                            rotate_left
                            · (intro w hSw; (try dsimp only at hSw); go_simp; try with_reducible rfl)
                            simp only [Act.put, List.setIfInBounds_toArray, List.set_cons_zero, List.set_cons_succ]
                            refine takeH (i := 21) (some 183) (v := ?_) rfl rfl (by kernel_rfl) (by kernel_rfl) (by kernel_rfl) (fun _ _ _ h => h) (by rfl) ?_ (by assumption) ?_
                            rotate_left
                            · (intro w hSw; (try dsimp only at hSw); go_simp; try with_reducible rfl)
                            simp only [Act.put, List.setIfInBounds_toArray, List.set_cons_zero, List.set_cons_succ]
                            refine wpAnyH_ready (rs := [22]) (by kernel_rfl) (by simp) ?_
                            refine AllReadyH.cons rfl (fun K hK => ?_) AllReadyH.nil
                            go_simp
                            refine hK _ _ (HX8.out _ _ (HL.out _ B7.out)) (fun hHeld => ?_)
                            clear hK K
                            try simp only [Act.put, List.setIfInBounds_toArray, List.set_cons_zero, List.set_cons_succ]
                            try simp only [List.getElem_toArray, List.getElem_cons_zero, List.getElem_cons_succ, Act.put, List.setIfInBounds_toArray, List.set_cons_zero, List.set_cons_succ]
                            refine wpAnyH_done (by kernel_rfl) ?_ _
                            have hv := HP.out _ rfl
                            generalize w7.setCell ⟨g, 1, none⟩ (.slice A7 (l'.length + 1) c7) = w8 at hv ⊢
                            obtain ⟨⟨u1, u2, u3⟩, hE5, hK5, hF5⟩ := hv
                            have HE5 := Lib.hid hE5
                            have HK5 := Lib.hid hK5
                            have HF5 := Lib.hid hF5
                            clear hE5 hK5 hF5 t0 t1 t2 HP
                            go_wp2
                            go_roundw
                            case rel =>
                              have hFe := HFe.out
                              refine ⟨j + 1, l' ++ [Y], footQ g A7 A3 Fd', by omega, by go_num, HAdd.out, ?_, Hrl2.out, ?_, ?_⟩
                              · unfold Hid
                                rw [show k + ((j + 1 : Nat) : Int) = k + (j : Int) + 1 by omega]
                                exact ⟨d', A7, c7, A3, c3x, Fd', HE5.out, rfl⟩
                              · subst hFe
                                exact (hK.out.trans (Kept.fresh (S := footQ g A1 A3 Fd') HBq5.out) hF.out).trans HK5.out (fun b q => (hF.out b q).imp id id)
                              · subst hFe
                                intro b' q
                                have := hK.out.size
                                have := HBq5.out.size
                                rcases HF5.out b' q with q | q
                                · exact hF.out b' q
                                · exact .inr (by omega)
                            case measure => simp [intOf]; omega
              · obtain rfl : j = its.length := by omega
                have hlti : ¬ (its.length : Int) < (its.length : Int) := by omega
                rw [List.take_length] at hadd
                go_wp2
                go_ret2
                exact .inr ⟨Hbad.out, rfl, F', ⟨l', hadd.out, hE.out⟩, hK.out, hF.out⟩
end Go.Proofs.YtegacggkdjgdiaaGreat
