/- The document's set. -/
import Derived.Test.YtpcindemkkdbbaaRB
import Derived.Test.YtpcindemkkdbbaaBE
namespace Go.Proofs.Ytpcindemkkdbbaa
set_option linter.unusedVariables false
set_option linter.unusedSimpArgs false
open Go.RowKit

theorem flat7_snoc (n : Nat) (f : Nat → List Value) : flat7 (n + 1) f = flat7 n f ++ f n := by unfold flat7; rw [List.range_succ, List.flatMap_append]; simp
theorem seven_at {W : World} {o : List Value} (j : Nat) (u : Value) (h : o[j]? = some u) : (W.alloc (.cells o.toArray 24)).cell? ((⟨W.heap.size, 0, none⟩ : Addr).add j) = some u := by
  rw [Addr.add_lit, Nat.zero_add, cellAt_of (Go.heap_alloc_new W _)]
  simpa using h
/-- groups that are laid one behind the other, with rows of their own -/
structure Grow (w wr : World) (L : List Cy) (k : Nat) (v : Value) (R : Nat → Option Addr) (C : Nat → Nat) : Prop where
  grp : wr.ownsRow (w.heap.size + 1) 24 7 v k (flat7 k (cellsC L R C))
  rows : ∀ t, t < 2 * k → RowI wr (w.heap.size + 1) (R t) (C t) (rowC L t)
  below : Below w.heap.size w wr
theorem row_apart {w : World} {B B' c n size : Nat} {A : Option Addr} {q : List Int} {e : TypeId} {v : Value} {xs : List Value} (h : RowI w B A c q) (ho : w.ownsRow B' e size v n xs) (he : e ≠ 3) : ∀ b, own A = some b → v.ownBlock ≠ some b := fun b hb q => by
  rcases ho.2 with ⟨rfl, _⟩ | ⟨g, cap, cur, rfl, _, hg, _⟩
  · cases q
  · cases q
    exact h.typed hg he hb
theorem Grow.push {w wr w3 w4 : World} {L : List Cy} {k : Nat} {v v' : Value} {R : Nat → Option Addr} {C : Nat → Nat} (h : Grow w wr L k v R C) {A A2 : Option Addr} {c d h0 : Nat} {o : Obj} (hB : Below wr.heap.size wr w3) (hh : w.heap.size + 1 ≤ h0)
    (hr1 : RowI w3 h0 A c (cyN L k).us) (hr2 : RowI w3 h0 A2 d (cyN L k).is) (hown : w4.ownsRow (w.heap.size + 1) 24 7 v' (k + 1) (flat7 k (cellsC L R C) ++ cy7 (cyN L k) A c A2 d)) (hg : (w3.alloc o).grownBy w4 v.ownBlock) :
    ∃ R' C', Grow w w4 L (k + 1) v' R' C' := by
  have hgrp3 := (Kept.fresh (S := fun _ => False) hB).row h.grp (fun _ _ q => q)
  have hgrp4 := hgrp3.alloc o
  have hkeep : ∀ {B0 c0 : Nat} {A0 : Option Addr} {q : List Int}, RowI w3 B0 A0 c0 q → RowI w4 B0 A0 c0 q := fun {B0 c0 A0 q} hr => by
    have h1 := hr.next ((Below.refl _ w3).alloc (Nat.le_refl _) o)
    exact h1.keep (Kept.grown (S := fun b => v.ownBlock = some b) hg (fun k e => .inl e)) (fun b hb q => row_apart h1 hgrp4 (by decide) b hb q)
  refine ⟨fun t => if t = 2 * k then A else if t = 2 * k + 1 then A2 else R t, fun t => if t = 2 * k then c else if t = 2 * k + 1 then d else C t, ⟨?_, fun t ht => ?_, ?_⟩⟩
  · rw [flat7_snoc]
    have e1 : flat7 k (cellsC L (fun t => if t = 2 * k then A else if t = 2 * k + 1 then A2 else R t) (fun t => if t = 2 * k then c else if t = 2 * k + 1 then d else C t)) = flat7 k (cellsC L R C) := flat7_congr fun j hj => by
      unfold cellsC
      dsimp only
      rw [if_neg (by omega), if_neg (by omega), if_neg (by omega), if_neg (by omega), if_neg (by omega), if_neg (by omega), if_neg (by omega), if_neg (by omega)]
    have e2 : cellsC L (fun t => if t = 2 * k then A else if t = 2 * k + 1 then A2 else R t) (fun t => if t = 2 * k then c else if t = 2 * k + 1 then d else C t) k = cy7 (cyN L k) A c A2 d := by
      unfold cellsC
      dsimp only
      rw [if_pos rfl, if_pos rfl, if_neg (by omega), if_pos rfl, if_neg (by omega), if_pos rfl]
    rw [e1, e2]; exact hown
  · by_cases e : t = 2 * k
    · simp only [if_pos e]
      rw [e, rowC_us]; exact (hkeep hr1).more hh
    · simp only [if_neg e]
      by_cases e2 : t = 2 * k + 1
      · simp only [if_pos e2]
        rw [e2, rowC_is]; exact (hkeep hr2).more hh
      · simp only [if_neg e2]
        exact hkeep ((h.rows t (by omega)).next hB)
  · exact (h.below.trans (hB.mono h.below.size)).trans ((((Below.refl _ w3).alloc (by have := hB.size; have := h.below.size; omega) o)).grown hg (by have := hB.size; have := h.below.size; simp; omega) (fun j e => by have := (hgrp3.lt j e).1; omega))
theorem Grow.keep {w wr w1 : World} {L : List Cy} {k : Nat} {v : Value} {R : Nat → Option Addr} {C : Nat → Nat} (h : Grow w wr L k v R C) (hk : Kept wr w1 (fun b => b = w.heap.size)) : Grow w w1 L k v R C :=
  ⟨hk.row h.grp (fun b e q => by have := (h.grp.lt b e).1; omega), fun t ht => (h.rows t ht).keep hk (fun b e q => by have := ((h.rows t ht).lt e).1; omega), h.below.trans (hk.below (fun b q => by omega) h.below.size)⟩
theorem Grow.cyls {w wr : World} {L : List Cy} {k : Nat} {v : Value} {R : Nat → Option Addr} {C : Nat → Nat} (h : Grow w wr L k v R C) (hk : k = L.length) : ∃ A c, v = .slice A L.length c ∧ Cyls wr wr.heap.size A L := by
  subst hk
  rcases h.grp.2 with ⟨rfl, h0⟩ | ⟨g, cap, cur, rfl, hb, hg, hnc, hcm, hs, ht⟩
  · exact ⟨none, 0, by rw [h0], fun h1 => by omega⟩
  · refine ⟨_, cap, rfl, fun _ => ⟨g, 0, fun j => R (2 * j), fun j => C (2 * j), fun j => R (2 * j + 1), fun j => C (2 * j + 1), rfl, lt_heap hg, fun j hj => ?_⟩⟩
    have e : ∀ i, i < 7 → wr.cell? ⟨g, 0 + j * 7 + i, none⟩ = (cellsC L R C j)[i]? := fun i hi => by
      rw [Nat.zero_add, h.grp.cellAt (j * 7 + i) (by omega), at_flat7 (length_cellsC L R C) hj hi]
    have r1 := (h.rows (2 * j) (by omega)).ints
    have r2 := (h.rows (2 * j + 1) (by omega)).ints
    rw [rowC_us] at r1
    rw [rowC_is] at r2
    exact ⟨e 0 (by omega), e 1 (by omega), e 2 (by omega), e 3 (by omega), e 4 (by omega), e 5 (by omega), e 6 (by omega), r1, r2⟩
/-- groups that the document answers -/
def SetSays (w : World) (L : List Cy) (e : Ending) (w' : World) : Prop := ∃ A c, e = .returned (.slice A L.length c) ∧ Cyls w' w'.heap.size A L ∧ Below w.heap.size w w'

set_option maxRecDepth 100000 in
set_option maxHeartbeats 4000000 in
theorem refset_any (A : Option Addr) (c n : Nat) (l : List Cy) (x : Cy) (Ax : Option Addr) (cx : Nat) (A2 : Option Addr) (d g : Nat) (hn : n = l.length) (w : World) (hs : SmallL l) (hI : Cyls w w.heap.size A l) (hsx : SmallC x) (hg : x.ix = g) (hgl : g < l.length) (hb : 1 ≤ x.bl ∧ x.bl ≤ 64) (hU : Ints w w.heap.size Ax x.us) (hV : Ints w w.heap.size A2 x.is) :
    Calls Try.prog 59 #[.slice A n c, x.v Ax cx A2 d] w (SetSays w (l.set g (recount x))) := by
  obtain ⟨i0, hi, hz0, hz1, hz2⟩ := info_parts info24
  have hn1 : n ≤ 1000 := by have := hs.1; omega
  have Hn := Lib.hid hn
  have HI := Lib.hid hI
  have HS := Lib.hid hs.2
  have HLg : Hid (cyN (l.set g (recount x)) g = recount x) := by unfold Hid; rw [cyN_set hgl, if_pos rfl]
  have HLo : Hid (∀ j, j ≠ g → cyN (l.set g (recount x)) j = cyN l j) := fun j hj => by rw [cyN_set hgl, if_neg hj]
  have HLl : Hid ((l.set g (recount x)).length = n) := by unfold Hid; rw [List.length_set]; exact hn.symm
  have HCx : Hid (∀ W, Below w.heap.size w W → Calls Try.prog 45 #[(recount x).v Ax cx A2 d] W (ForkSays W (recount x))) := fun W hW => refcopy_any (recount x) Ax cx A2 d W hsx.1 hsx.2 (hU.next hW) (hV.next hW)
  have HNb : Hid (∀ (R : Nat → Option Addr) (C : Nat → Nat), Grow w (w.alloc (.cells #[.int .i64 x.ix, .int .i64 x.bl, .int .i64 x.fb, .int .i64 x.fi, .int .i64 x.ro, .slice Ax x.us.length cx, .slice A2 x.is.length d] 24)) (l.set g (recount x)) 0 (.slice none 0 0) R C) := fun R C => ⟨World.ownsRow_nil _ _ _ _, fun t ht => absurd ht (Nat.not_lt_zero _), (Below.refl _ w).alloc (Nat.le_refl _) _⟩
  obtain ⟨L, hL⟩ : ∃ L, L = l.set g (recount x) := ⟨_, rfl⟩
  rw [← hL] at HLg HLo HLl HNb ⊢
  have hsx1 := hsx.1
  have hsx2 := hsx.2
  have hr : recount x = ⟨x.ix, x.bl, x.bl - x.us.length, 16 - x.is.length, x.ro, x.us, x.is⟩ := rfl
  rw [hr] at HCx HLg
  clear hL hs hI hn hsx hU hV hr
  obtain ⟨ix, bl, fb, fi, ro, us, is⟩ := x
  unfold Cy.v at HCx ⊢
  simp only at HCx HLg HNb hb hg hsx1 hsx2 ⊢
  subst hg
  obtain ⟨n1, h1⟩ : ∃ n1, n1 = us.length := ⟨_, rfl⟩
  obtain ⟨n2, h2⟩ : ∃ n2, n2 = is.length := ⟨_, rfl⟩
  have H1 := Lib.hid h1
  have H2 := Lib.hid h2
  rw [← h1] at HCx HNb hsx1
  rw [← h2] at HCx HNb hsx2
  rw [← h1] at HLg
  rw [← h2] at HLg
  rw [← h1, ← h2]
  clear h1 h2
  obtain ⟨hb1, hb2⟩ := hb
  have hgi : (0 : Int) ≤ (g : Int) := by omega
  go_enter Try.func59, Try.ntmps59
  go_wp2_with fail
  go_loopw [5, 6] (fun v i wr => ∃ k : Nat, k ≤ n ∧ i = .int .i64 k ∧ ∃ R C, Grow w wr L k v R C ∧ ∃ fb' fi' : Int, wr.heap[w.heap.size]? = some (.cells #[.int .i64 g, .int .i64 bl, .int .i64 fb', .int .i64 fi', .int .i64 ro, .slice Ax n1 cx, .slice A2 n2 d] 24 (0, 0))) (fun _ i _ => n - (intOf i).toNat)
  case atStart => exact ⟨0, Nat.zero_le _, rfl, fun _ => none, fun _ => 0, HNb.out _ _, fb, fi, Go.heap_alloc_new w _⟩
  case round =>
    obtain ⟨k, hk, rfl, R, C, hG, fb', fi', hbx⟩ := hrel
    rename World => wr
    have hB := hG.below
    have hsz : w.heap.size < wr.heap.size := lt_heap hbx
    have hbw := hB.size
    by_cases hlt : k < n
    · have hlti : (k : Int) < (n : Int) := by omega
      have hk0 : (0 : Int) ≤ (k : Int) := by omega
      have hkl : k < l.length := by rw [← Hn.out]; exact hlt
      obtain ⟨c0, d1, d2, d3, d4, c5, c6⟩ := seven hbx
      have f2 := frozen_of_row wr _ 2 _ 24 hbx
      have f3 := frozen_of_row wr _ 3 _ 24 hbx
      by_cases hkg : k = g
      · subst hkg
        have HWp : Hid (Below w.heap.size w ((wr.setCell ⟨w.heap.size, 2, none⟩ (.int .i64 (bl - (n1 : Int)))).setCell ⟨w.heap.size, 3, none⟩ (.int .i64 (16 - (n2 : Int))))) := (hB.setCell (p := ⟨w.heap.size, 2, none⟩) (Nat.le_refl _) (.int .i64 (bl - (n1 : Int)))).setCell (p := ⟨w.heap.size, 3, none⟩) (Nat.le_refl _) (.int .i64 (16 - (n2 : Int)))
        have HGk := Lib.hid (hG.keep (((Kept.refl wr (fun b => b = w.heap.size)).set (g := w.heap.size) (o := 2) (v := .int .i64 (bl - (n1 : Int))) (.inl rfl)).set (g := w.heap.size) (o := 3) (v := .int .i64 (16 - (n2 : Int))) (.inl rfl)))
        have Hbx2 := Lib.hid (set_heap (set_heap hbx (o := 2) (.int .i64 (bl - (n1 : Int)))) (o := 3) (.int .i64 (16 - (n2 : Int))))
        clear hG hB hbx
        go_wp2_with fail
        refine (HCx.out _ HWp.out).mono ?_
        rintro e w3 ⟨A1, c1, A3, d1', rfl, hr1, hr2, hap, hB3⟩
        have Hrow : Hid (cy7 (cyN L k) A1 c1 A3 d1' = [.int .i64 k, .int .i64 bl, .int .i64 (bl - (n1 : Int)), .int .i64 (16 - (n2 : Int)), .int .i64 ro, .slice A1 n1 c1, .slice A3 n2 d1']) := by unfold Hid; rw [HLg.out]; simp only [cy7]; rw [H1.out, H2.out]
        have hz3 : wr.heap.size ≤ w3.heap.size := by have := hB3.size; simpa using this
        have HPu := Lib.hid (fun (w4 : World) (v' : Value) (o : Obj) ho hg => HGk.out.push (w3 := w3) (w4 := w4) (v' := v') (o := o) (A := A1) (A2 := A3) (c := c1) (d := d1') hB3 (h0 := ((wr.setCell ⟨w.heap.size, 2, none⟩ (.int .i64 (bl - (n1 : Int)))).setCell ⟨w.heap.size, 3, none⟩ (.int .i64 (16 - (n2 : Int)))).heap.size) (by simp; omega) (by rw [HLg.out]; exact hr1) (by rw [HLg.out]; exact hr2) ho hg)
        rw [Hrow.out] at HPu
        have hown3 := (Kept.fresh (S := fun _ => False) hB3).row HGk.out.grp (fun _ _ q => q)
        have hbx3 := (hB3.block w.heap.size (by simp; omega)).trans Hbx2.out
        have Hbx3 := Lib.hid hbx3
        clear hr1 hr2 hap hB3 Hrow hbx3
        unfold Cy.v
        simp only
        rw [← H1.out, ← H2.out]
        go_wp2_with (at_builtin; refine wpList_append_own _ rfl _ _ 39 rfl (w.heap.size + 1) 24 i0 _ 7 88 Try.underlying39 hi hz0 hz1 hz2 rfl (by decide) _ _ _ rfl (hown3.alloc _) ⟨w3.heap.size, 0, none⟩ 1 1 [.int .i64 k, .int .i64 bl, .int .i64 (bl - (n1 : Int)), .int .i64 (16 - (n2 : Int)), .int .i64 ro, .slice A1 n1 c1, .slice A3 n2 d1'] rfl rfl (fun j u h => seven_at j u h) (by simp [Value.oneCell']) (by unfold maxLen; omega) (by omega) (by simp; omega) ?_)
        intro v' w4 hown4 hgrow _
        obtain ⟨R', C', hG4⟩ := HPu.out w4 v' _ hown4 hgrow
        have HG4 := Lib.hid hG4
        have hkb := Kept.grown (S := fun b => w.heap.size + 1 ≤ b) hgrow (fun j e => .inl (hown3.lt j e).1)
        have Hbx4 := Lib.hid ((hkb.block w.heap.size (by simp; omega) (by omega)).trans ((Below.heap_alloc w3 _ w.heap.size (by omega)).trans Hbx3.out))
        clear hown4 hgrow hG4 hkb hown3 HPu
        go_wp2_with fail
        go_roundw
        case rel => exact ⟨k + 1, by omega, by go_num, R', C', HG4.out, (bl - (n1 : Int)), (16 - (n2 : Int)), by have := Hbx4.out; simpa using this⟩
        case measure => simp [intOf]; omega
      · have hkg' : ((k : Int) == (g : Int)) = false := by simp; omega
        obtain ⟨b, off, Ak, ck, A2k, c2k, rfl, hbb, hcy⟩ := HI.out.at_ hkl
        replace hcy := (hcy.keep (w' := wr) hbb (fun p hp => hB.cell hp)).more hB.size
        obtain ⟨e0, e1, e2, e3, e4, e5, e6, hU, hV⟩ := hcy
        obtain ⟨s1, s2⟩ := HS.out k hkl
        have HF : Hid (∀ W, Below wr.heap.size wr W → Calls Try.prog 45 #[(cyN l k).v Ak ck A2k c2k] W (ForkSays W (cyN l k))) := fun W hW => refcopy_any (cyN l k) Ak ck A2k c2k W s1 s2 (hU.next hW) (hV.next hW)
        have HLk := Lib.hid (HLo.out k hkg)
        have HGk := Lib.hid hG
        have Hbx2 := Lib.hid hbx
        obtain ⟨y, hy⟩ : ∃ y, y = cyN l k := ⟨_, rfl⟩
        rw [← hy] at e0 e1 e2 e3 e4 e5 e6 HF HLk
        clear hy hU hV s1 s2 hG hB hbx hkg
        obtain ⟨jx, jbl, jfb, jfi, jro, jus, jis⟩ := y
        unfold Cy.v at HF
        simp only at e0 e1 e2 e3 e4 e5 e6 HF
        obtain ⟨m1, h1⟩ : ∃ m1, m1 = jus.length := ⟨_, rfl⟩
        obtain ⟨m2, h2⟩ : ∃ m2, m2 = jis.length := ⟨_, rfl⟩
        have G1 := Lib.hid h1
        have G2 := Lib.hid h2
        rw [← h1] at e5 HF
        rw [← h2] at e6 HF
        clear h1 h2
        go_wp2_with fail
        refine (HF.out _ (Below.refl _ _)).mono ?_
        rintro e w3 ⟨A1, c1, A3, d1', rfl, hr1, hr2, hap, hB3⟩
        have Hrow : Hid (cy7 (cyN L k) A1 c1 A3 d1' = [.int .i64 jx, .int .i64 jbl, .int .i64 jfb, .int .i64 jfi, .int .i64 jro, .slice A1 m1 c1, .slice A3 m2 d1']) := by unfold Hid; rw [HLk.out]; simp only [cy7]; rw [G1.out, G2.out]
        have hz3 : wr.heap.size ≤ w3.heap.size := by have := hB3.size; simpa using this
        have HPu := Lib.hid (fun (w4 : World) (v' : Value) (o : Obj) ho hg => HGk.out.push (w3 := w3) (w4 := w4) (v' := v') (o := o) (A := A1) (A2 := A3) (c := c1) (d := d1') hB3 (h0 := wr.heap.size) (by omega) (by rw [HLk.out]; exact hr1) (by rw [HLk.out]; exact hr2) ho hg)
        rw [Hrow.out] at HPu
        have hown3 := (Kept.fresh (S := fun _ => False) hB3).row HGk.out.grp (fun _ _ q => q)
        have hbx3 := (hB3.block w.heap.size (by omega)).trans Hbx2.out
        have Hbx3 := Lib.hid hbx3
        clear hr1 hr2 hap hB3 Hrow hbx3
        unfold Cy.v
        simp only
        rw [← G1.out, ← G2.out]
        go_wp2_with (at_builtin; refine wpList_append_own _ rfl _ _ 39 rfl (w.heap.size + 1) 24 i0 _ 7 88 Try.underlying39 hi hz0 hz1 hz2 rfl (by decide) _ _ _ rfl (hown3.alloc _) ⟨w3.heap.size, 0, none⟩ 1 1 [.int .i64 jx, .int .i64 jbl, .int .i64 jfb, .int .i64 jfi, .int .i64 jro, .slice A1 m1 c1, .slice A3 m2 d1'] rfl rfl (fun j u h => seven_at j u h) (by simp [Value.oneCell']) (by unfold maxLen; omega) (by omega) (by simp; omega) ?_)
        intro v' w4 hown4 hgrow _
        obtain ⟨R', C', hG4⟩ := HPu.out w4 v' _ hown4 hgrow
        have HG4 := Lib.hid hG4
        have hkb := Kept.grown (S := fun b => w.heap.size + 1 ≤ b) hgrow (fun j e => .inl (hown3.lt j e).1)
        have Hbx4 := Lib.hid ((hkb.block w.heap.size (by simp; omega) (by omega)).trans ((Below.heap_alloc w3 _ w.heap.size (by omega)).trans Hbx3.out))
        clear hown4 hgrow hG4 hkb hown3 HPu
        go_wp2_with fail
        go_roundw
        case rel => exact ⟨k + 1, by omega, by go_num, R', C', HG4.out, fb', fi', by have := Hbx4.out; simpa using this⟩
        case measure => simp [intOf]; omega
    · have hlti : ¬ (k : Int) < (n : Int) := by omega
      obtain rfl : k = n := by omega
      obtain ⟨A1, c1, rfl, hC⟩ := hG.cyls HLl.out.symm
      have HC := Lib.hid hC
      have HB := Lib.hid hB
      clear hG hC hB hbx
      go_wp2_with fail
      go_ret
      exact ⟨A1, c1, rfl, HC.out, HB.out⟩
end Go.Proofs.Ytpcindemkkdbbaa
