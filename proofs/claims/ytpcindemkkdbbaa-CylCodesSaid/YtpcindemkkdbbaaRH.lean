/- The document's set: what it answers lies outside all that was there before. -/
import Derived.Test.YtpcindemkkdbbaaRC
namespace Go.Proofs.Ytpcindemkkdbbaa
set_option linter.unusedVariables false
set_option linter.unusedSimpArgs false
open Go.RowKit

theorem cyls_far {B : Nat} {wr : World} {L : List Cy} {k : Nat} {v : Value} {R : Nat → Option Addr} {C : Nat → Nat} (hgrp : wr.ownsRow B 24 7 v k (flat7 k (cellsC L R C))) (hrows : ∀ t, t < 2 * k → RowI wr B (R t) (C t) (rowC L t)) (hk : k = L.length) : ∃ A c, v = .slice A L.length c ∧ Cyls wr wr.heap.size A L := by
  subst hk
  rcases hgrp.2 with ⟨rfl, h0⟩ | ⟨g, cap, cur, rfl, hb, hg, hnc, hcm, hs, ht⟩
  · exact ⟨none, 0, by rw [h0], fun h1 => by omega⟩
  · refine ⟨_, cap, rfl, fun _ => ⟨g, 0, fun j => R (2 * j), fun j => C (2 * j), fun j => R (2 * j + 1), fun j => C (2 * j + 1), rfl, lt_heap hg, fun j hj => ?_⟩⟩
    have e : ∀ i, i < 7 → wr.cell? ⟨g, 0 + j * 7 + i, none⟩ = (cellsC L R C j)[i]? := fun i hi => by
      rw [Nat.zero_add, hgrp.cellAt (j * 7 + i) (by omega), at_flat7 (length_cellsC L R C) hj hi]
    have r1 := (hrows (2 * j) (by omega)).ints
    have r2 := (hrows (2 * j + 1) (by omega)).ints
    rw [rowC_us] at r1
    rw [rowC_is] at r2
    exact ⟨e 0 (by omega), e 1 (by omega), e 2 (by omega), e 3 (by omega), e 4 (by omega), e 5 (by omega), e 6 (by omega), r1, r2⟩
theorem Grow.far {w wr : World} {L : List Cy} {k : Nat} {v : Value} {R : Nat → Option Addr} {C : Nat → Nat} (h : Grow w wr L k v R C) (hk : k = L.length) : ∃ A c, v = .slice A L.length c ∧ ∀ w2, Kept wr w2 (fun b => b < w.heap.size) → Cyls w2 w2.heap.size A L := by
  obtain ⟨A, c, hv, _⟩ := h.cyls hk
  refine ⟨A, c, hv, fun w2 hK => ?_⟩
  obtain ⟨A2, c2, hv2, hC⟩ := cyls_far (hK.row h.grp (fun b e q => by have := (h.grp.lt b e).1; omega)) (fun t ht => (h.rows t ht).keep hK (fun b e q => by have := ((h.rows t ht).lt e).1; omega)) hk
  rw [hv] at hv2
  obtain ⟨e, _, _⟩ := Value.slice.inj hv2
  rw [e]; exact hC
/-- groups that the document answers, far from what was there -/
def SetFar (w : World) (L : List Cy) (e : Ending) (w' : World) : Prop := ∃ A c, e = .returned (.slice A L.length c) ∧ (∀ w2, Kept w' w2 (fun b => b < w.heap.size) → Cyls w2 w2.heap.size A L) ∧ Below w.heap.size w w'

set_option maxRecDepth 100000 in
set_option maxHeartbeats 4000000 in
theorem refset_far (A : Option Addr) (c n : Nat) (l : List Cy) (x : Cy) (Ax : Option Addr) (cx : Nat) (A2 : Option Addr) (d g : Nat) (hn : n = l.length) (w : World) (hs : SmallL l) (hI : Cyls w w.heap.size A l) (hsx : SmallC x) (hg : x.ix = g) (hgl : g < l.length) (hb : 1 ≤ x.bl ∧ x.bl ≤ 64) (hU : Ints w w.heap.size Ax x.us) (hV : Ints w w.heap.size A2 x.is) :
    Calls Try.prog 59 #[.slice A n c, x.v Ax cx A2 d] w (SetFar w (l.set g (recount x))) := by
  obtain ⟨i0, hi, hz0, hz1, hz2⟩ := info_parts info24
  have hn1 : n ≤ 1000 := by have := hs.1; omega
  have Hn := Lib.hid hn
  have HI := Lib.hid hI
  have HS := Lib.hid hs.2
  have HLg : Hid (cyN (l.set g (recount x)) g = recount x) := by unfold Hid; rw [cyN_set hgl, if_pos rfl]
  have HLo : Hid (∀ j, j ≠ g → cyN (l.set g (recount x)) j = cyN l j) := fun j hj => by rw [cyN_set hgl, if_neg hj]
  have HLl : Hid ((l.set g (recount x)).length = n) := by unfold Hid; rw [List.length_set]; exact hn.symm
  have HCx : Hid (∀ W, Below w.heap.size w W → Calls Try.prog 45 #[(recount x).v Ax cx A2 d] W (ForkSays W (recount x))) := fun W hW => refcopy_any (recount x) Ax cx A2 d W hsx.1 hsx.2 (hU.next hW) (hV.next hW)
  have HNb : Hid (∀ (R : Nat → Option Addr) (C : Nat → Nat), Grow w (w.alloc (.cells #[.int .i64 x.ix, .int .i64 x.bl, .int .i64 x.fb, .int .i64 x.fi, .int .i64 x.ro, .slice Ax x.us.length cx, .slice A2 x.is.length d] 24)) (l.set g (recount x)) 0 (.slice none 0 0) R C) := fun R C => ⟨World.ownsRow_nil _ _ _ _, fun t ht => absurd ht (Nat.not_lt_zero _), (Below.refl _ w).alloc (Nat.le_refl _) _⟩
  obtain ⟨L, hL⟩ : ∃ L, L = l.set g (recount x) := ⟨_, rfl⟩
  rw [← hL] at HLg HLo HLl HNb ⊢
  have hsx1 := hsx.1
  have hsx2 := hsx.2
  have hr : recount x = ⟨x.ix, x.bl, x.bl - x.us.length, 16 - x.is.length, x.ro, x.us, x.is⟩ := rfl
  rw [hr] at HCx HLg
  clear hL hs hI hn hsx hU hV hr
  obtain ⟨ix, bl, fb, fi, ro, us, is⟩ := x
  unfold Cy.v at HCx ⊢
  simp only at HCx HLg HNb hb hg hsx1 hsx2 ⊢
  subst hg
  obtain ⟨n1, h1⟩ : ∃ n1, n1 = us.length := ⟨_, rfl⟩
  obtain ⟨n2, h2⟩ : ∃ n2, n2 = is.length := ⟨_, rfl⟩
  have H1 := Lib.hid h1
  have H2 := Lib.hid h2
  rw [← h1] at HCx HNb hsx1
  rw [← h2] at HCx HNb hsx2
  rw [← h1] at HLg
  rw [← h2] at HLg
  rw [← h1, ← h2]
  clear h1 h2
  obtain ⟨hb1, hb2⟩ := hb
  have hgi : (0 : Int) ≤ (g : Int) := by omega
  go_enter Try.func59, Try.ntmps59
  go_wp2_with fail
  go_loopw [5, 6] (fun v i wr => ∃ k : Nat, k ≤ n ∧ i = .int .i64 k ∧ ∃ R C, Grow w wr L k v R C ∧ ∃ fb' fi' : Int, wr.heap[w.heap.size]? = some (.cells #[.int .i64 g, .int .i64 bl, .int .i64 fb', .int .i64 fi', .int .i64 ro, .slice Ax n1 cx, .slice A2 n2 d] 24 (0, 0))) (fun _ i _ => n - (intOf i).toNat)
  case atStart => exact ⟨0, Nat.zero_le _, rfl, fun _ => none, fun _ => 0, HNb.out _ _, fb, fi, Go.heap_alloc_new w _⟩
  case round =>
    obtain ⟨k, hk, rfl, R, C, hG, fb', fi', hbx⟩ := hrel
    rename World => wr
    have hB := hG.below
    have hsz : w.heap.size < wr.heap.size := lt_heap hbx
    have hbw := hB.size
    by_cases hlt : k < n
    · have hlti : (k : Int) < (n : Int) := by omega
      have hk0 : (0 : Int) ≤ (k : Int) := by omega
      have hkl : k < l.length := by rw [← Hn.out]; exact hlt
      obtain ⟨c0, d1, d2, d3, d4, c5, c6⟩ := seven hbx
      have f2 := frozen_of_row wr _ 2 _ 24 hbx
      have f3 := frozen_of_row wr _ 3 _ 24 hbx
      by_cases hkg : k = g
      · subst hkg
        have HWp : Hid (Below w.heap.size w ((wr.setCell ⟨w.heap.size, 2, none⟩ (.int .i64 (bl - (n1 : Int)))).setCell ⟨w.heap.size, 3, none⟩ (.int .i64 (16 - (n2 : Int))))) := (hB.setCell (p := ⟨w.heap.size, 2, none⟩) (Nat.le_refl _) (.int .i64 (bl - (n1 : Int)))).setCell (p := ⟨w.heap.size, 3, none⟩) (Nat.le_refl _) (.int .i64 (16 - (n2 : Int)))
        have HGk := Lib.hid (hG.keep (((Kept.refl wr (fun b => b = w.heap.size)).set (g := w.heap.size) (o := 2) (v := .int .i64 (bl - (n1 : Int))) (.inl rfl)).set (g := w.heap.size) (o := 3) (v := .int .i64 (16 - (n2 : Int))) (.inl rfl)))
        have Hbx2 := Lib.hid (set_heap (set_heap hbx (o := 2) (.int .i64 (bl - (n1 : Int)))) (o := 3) (.int .i64 (16 - (n2 : Int))))
        clear hG hB hbx
        go_wp2_with fail
        refine (HCx.out _ HWp.out).mono ?_
        rintro e w3 ⟨A1, c1, A3, d1', rfl, hr1, hr2, hap, hB3⟩
        have Hrow : Hid (cy7 (cyN L k) A1 c1 A3 d1' = [.int .i64 k, .int .i64 bl, .int .i64 (bl - (n1 : Int)), .int .i64 (16 - (n2 : Int)), .int .i64 ro, .slice A1 n1 c1, .slice A3 n2 d1']) := by unfold Hid; rw [HLg.out]; simp only [cy7]; rw [H1.out, H2.out]
        have hz3 : wr.heap.size ≤ w3.heap.size := by have := hB3.size; simpa using this
        have HPu := Lib.hid (fun (w4 : World) (v' : Value) (o : Obj) ho hg => HGk.out.push (w3 := w3) (w4 := w4) (v' := v') (o := o) (A := A1) (A2 := A3) (c := c1) (d := d1') hB3 (h0 := ((wr.setCell ⟨w.heap.size, 2, none⟩ (.int .i64 (bl - (n1 : Int)))).setCell ⟨w.heap.size, 3, none⟩ (.int .i64 (16 - (n2 : Int)))).heap.size) (by simp; omega) (by rw [HLg.out]; exact hr1) (by rw [HLg.out]; exact hr2) ho hg)
        rw [Hrow.out] at HPu
        have hown3 := (Kept.fresh (S := fun _ => False) hB3).row HGk.out.grp (fun _ _ q => q)
        have hbx3 := (hB3.block w.heap.size (by simp; omega)).trans Hbx2.out
        have Hbx3 := Lib.hid hbx3
        clear hr1 hr2 hap hB3 Hrow hbx3
        unfold Cy.v
        simp only
        rw [← H1.out, ← H2.out]
        go_wp2_with (at_builtin; refine wpList_append_own _ rfl _ _ 39 rfl (w.heap.size + 1) 24 i0 _ 7 88 Try.underlying39 hi hz0 hz1 hz2 rfl (by decide) _ _ _ rfl (hown3.alloc _) ⟨w3.heap.size, 0, none⟩ 1 1 [.int .i64 k, .int .i64 bl, .int .i64 (bl - (n1 : Int)), .int .i64 (16 - (n2 : Int)), .int .i64 ro, .slice A1 n1 c1, .slice A3 n2 d1'] rfl rfl (fun j u h => seven_at j u h) (by simp [Value.oneCell']) (by unfold maxLen; omega) (by omega) (by simp; omega) ?_)
        intro v' w4 hown4 hgrow _
        obtain ⟨R', C', hG4⟩ := HPu.out w4 v' _ hown4 hgrow
        have HG4 := Lib.hid hG4
        have hkb := Kept.grown (S := fun b => w.heap.size + 1 ≤ b) hgrow (fun j e => .inl (hown3.lt j e).1)
        have Hbx4 := Lib.hid ((hkb.block w.heap.size (by simp; omega) (by omega)).trans ((Below.heap_alloc w3 _ w.heap.size (by omega)).trans Hbx3.out))
        clear hown4 hgrow hG4 hkb hown3 HPu
        go_wp2_with fail
        go_roundw
        case rel => exact ⟨k + 1, by omega, by go_num, R', C', HG4.out, (bl - (n1 : Int)), (16 - (n2 : Int)), by have := Hbx4.out; simpa using this⟩
        case measure => simp [intOf]; omega
      · have hkg' : ((k : Int) == (g : Int)) = false := by simp; omega
        obtain ⟨b, off, Ak, ck, A2k, c2k, rfl, hbb, hcy⟩ := HI.out.at_ hkl
        replace hcy := (hcy.keep (w' := wr) hbb (fun p hp => hB.cell hp)).more hB.size
        obtain ⟨e0, e1, e2, e3, e4, e5, e6, hU, hV⟩ := hcy
        obtain ⟨s1, s2⟩ := HS.out k hkl
        have HF : Hid (∀ W, Below wr.heap.size wr W → Calls Try.prog 45 #[(cyN l k).v Ak ck A2k c2k] W (ForkSays W (cyN l k))) := fun W hW => refcopy_any (cyN l k) Ak ck A2k c2k W s1 s2 (hU.next hW) (hV.next hW)
        have HLk := Lib.hid (HLo.out k hkg)
        have HGk := Lib.hid hG
        have Hbx2 := Lib.hid hbx
        obtain ⟨y, hy⟩ : ∃ y, y = cyN l k := ⟨_, rfl⟩
        rw [← hy] at e0 e1 e2 e3 e4 e5 e6 HF HLk
        clear hy hU hV s1 s2 hG hB hbx hkg
        obtain ⟨jx, jbl, jfb, jfi, jro, jus, jis⟩ := y
        unfold Cy.v at HF
        simp only at e0 e1 e2 e3 e4 e5 e6 HF
        obtain ⟨m1, h1⟩ : ∃ m1, m1 = jus.length := ⟨_, rfl⟩
        obtain ⟨m2, h2⟩ : ∃ m2, m2 = jis.length := ⟨_, rfl⟩
        have G1 := Lib.hid h1
        have G2 := Lib.hid h2
        rw [← h1] at e5 HF
        rw [← h2] at e6 HF
        clear h1 h2
        go_wp2_with fail
        refine (HF.out _ (Below.refl _ _)).mono ?_
        rintro e w3 ⟨A1, c1, A3, d1', rfl, hr1, hr2, hap, hB3⟩
        have Hrow : Hid (cy7 (cyN L k) A1 c1 A3 d1' = [.int .i64 jx, .int .i64 jbl, .int .i64 jfb, .int .i64 jfi, .int .i64 jro, .slice A1 m1 c1, .slice A3 m2 d1']) := by unfold Hid; rw [HLk.out]; simp only [cy7]; rw [G1.out, G2.out]
        have hz3 : wr.heap.size ≤ w3.heap.size := by have := hB3.size; simpa using this
        have HPu := Lib.hid (fun (w4 : World) (v' : Value) (o : Obj) ho hg => HGk.out.push (w3 := w3) (w4 := w4) (v' := v') (o := o) (A := A1) (A2 := A3) (c := c1) (d := d1') hB3 (h0 := wr.heap.size) (by omega) (by rw [HLk.out]; exact hr1) (by rw [HLk.out]; exact hr2) ho hg)
        rw [Hrow.out] at HPu
        have hown3 := (Kept.fresh (S := fun _ => False) hB3).row HGk.out.grp (fun _ _ q => q)
        have hbx3 := (hB3.block w.heap.size (by omega)).trans Hbx2.out
        have Hbx3 := Lib.hid hbx3
        clear hr1 hr2 hap hB3 Hrow hbx3
        unfold Cy.v
        simp only
        rw [← G1.out, ← G2.out]
        go_wp2_with (at_builtin; refine wpList_append_own _ rfl _ _ 39 rfl (w.heap.size + 1) 24 i0 _ 7 88 Try.underlying39 hi hz0 hz1 hz2 rfl (by decide) _ _ _ rfl (hown3.alloc _) ⟨w3.heap.size, 0, none⟩ 1 1 [.int .i64 jx, .int .i64 jbl, .int .i64 jfb, .int .i64 jfi, .int .i64 jro, .slice A1 m1 c1, .slice A3 m2 d1'] rfl rfl (fun j u h => seven_at j u h) (by simp [Value.oneCell']) (by unfold maxLen; omega) (by omega) (by simp; omega) ?_)
        intro v' w4 hown4 hgrow _
        obtain ⟨R', C', hG4⟩ := HPu.out w4 v' _ hown4 hgrow
        have HG4 := Lib.hid hG4
        have hkb := Kept.grown (S := fun b => w.heap.size + 1 ≤ b) hgrow (fun j e => .inl (hown3.lt j e).1)
        have Hbx4 := Lib.hid ((hkb.block w.heap.size (by simp; omega) (by omega)).trans ((Below.heap_alloc w3 _ w.heap.size (by omega)).trans Hbx3.out))
        clear hown4 hgrow hG4 hkb hown3 HPu
        go_wp2_with fail
        go_roundw
        case rel => exact ⟨k + 1, by omega, by go_num, R', C', HG4.out, fb', fi', by have := Hbx4.out; simpa using this⟩
        case measure => simp [intOf]; omega
    · have hlti : ¬ (k : Int) < (n : Int) := by omega
      obtain rfl : k = n := by omega
      obtain ⟨A1, c1, rfl, hC⟩ := hG.far HLl.out.symm
      have HC := Lib.hid hC
      have HB := Lib.hid hB
      clear hG hC hB hbx
      go_wp2_with fail
      go_ret
      exact ⟨A1, c1, rfl, HC.out, HB.out⟩
end Go.Proofs.Ytpcindemkkdbbaa
