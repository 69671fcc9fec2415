/- At most so many groups, each with at most so many numbers. -/
import Derived.Test.YtpcindemkkdbbaaCE
namespace Go.Proofs.Ytpcindemkkdbbaa
set_option linter.unusedVariables false
set_option linter.unusedSimpArgs false
open Go.RowKit

/-- groups that are laid one behind the other, with rows of their own -/
structure Heap0 (w wr : World) (L : List Cy) (k : Nat) (v : Value) (R : Nat → Option Addr) (C : Nat → Nat) : Prop where
  grp : wr.ownsRow (w.heap.size) 24 7 v k (flat7 k (cellsC L R C))
  rows : ∀ t, t < 2 * k → RowI wr (w.heap.size) (R t) (C t) (rowC L t)
  below : Below w.heap.size w wr
theorem Heap0.push {w wr w3 w4 : World} {L : List Cy} {k : Nat} {v v' : Value} {R : Nat → Option Addr} {C : Nat → Nat} (h : Heap0 w wr L k v R C) {A A2 : Option Addr} {c d h0 : Nat} {o : Obj} (hB : Below wr.heap.size wr w3) (hh : w.heap.size ≤ h0)
    (hr1 : RowI w3 h0 A c (cyN L k).us) (hr2 : RowI w3 h0 A2 d (cyN L k).is) (hown : w4.ownsRow (w.heap.size) 24 7 v' (k + 1) (flat7 k (cellsC L R C) ++ cy7 (cyN L k) A c A2 d)) (hg : (w3.alloc o).grownBy w4 v.ownBlock) :
    ∃ R' C', Heap0 w w4 L (k + 1) v' R' C' := by
  have hgrp3 := (Kept.fresh (S := fun _ => False) hB).row h.grp (fun _ _ q => q)
  have hgrp4 := hgrp3.alloc o
  have hkeep : ∀ {B0 c0 : Nat} {A0 : Option Addr} {q : List Int}, RowI w3 B0 A0 c0 q → RowI w4 B0 A0 c0 q := fun {B0 c0 A0 q} hr => by
    have h1 := hr.next ((Below.refl _ w3).alloc (Nat.le_refl _) o)
    exact h1.keep (Kept.grown (S := fun b => v.ownBlock = some b) hg (fun k e => .inl e)) (fun b hb q => row_apart h1 hgrp4 (by decide) b hb q)
  refine ⟨fun t => if t = 2 * k then A else if t = 2 * k + 1 then A2 else R t, fun t => if t = 2 * k then c else if t = 2 * k + 1 then d else C t, ⟨?_, fun t ht => ?_, ?_⟩⟩
  · rw [flat7_snoc]
    have e1 : flat7 k (cellsC L (fun t => if t = 2 * k then A else if t = 2 * k + 1 then A2 else R t) (fun t => if t = 2 * k then c else if t = 2 * k + 1 then d else C t)) = flat7 k (cellsC L R C) := flat7_congr fun j hj => by
      unfold cellsC
      dsimp only
      rw [if_neg (by omega), if_neg (by omega), if_neg (by omega), if_neg (by omega), if_neg (by omega), if_neg (by omega), if_neg (by omega), if_neg (by omega)]
    have e2 : cellsC L (fun t => if t = 2 * k then A else if t = 2 * k + 1 then A2 else R t) (fun t => if t = 2 * k then c else if t = 2 * k + 1 then d else C t) k = cy7 (cyN L k) A c A2 d := by
      unfold cellsC
      dsimp only
      rw [if_pos rfl, if_pos rfl, if_neg (by omega), if_pos rfl, if_neg (by omega), if_pos rfl]
    rw [e1, e2]; exact hown
  · by_cases e : t = 2 * k
    · simp only [if_pos e]
      rw [e, rowC_us]; exact (hkeep hr1).more hh
    · simp only [if_neg e]
      by_cases e2 : t = 2 * k + 1
      · simp only [if_pos e2]
        rw [e2, rowC_is]; exact (hkeep hr2).more hh
      · simp only [if_neg e2]
        exact hkeep ((h.rows t (by omega)).next hB)
  · exact (h.below.trans (hB.mono h.below.size)).trans ((((Below.refl _ w3).alloc (by have := hB.size; have := h.below.size; omega) o)).grown hg (by have := hB.size; have := h.below.size; simp; omega) (fun j e => by have := (hgrp3.lt j e).1; omega))
theorem Heap0.cyls {w wr : World} {L : List Cy} {k : Nat} {v : Value} {R : Nat → Option Addr} {C : Nat → Nat} (h : Heap0 w wr L k v R C) (hk : k = L.length) : ∃ A c, v = .slice A L.length c ∧ Cyls wr wr.heap.size A L := by
  subst hk
  rcases h.grp.2 with ⟨rfl, h0⟩ | ⟨g, cap, cur, rfl, hb, hg, hnc, hcm, hs, ht⟩
  · exact ⟨none, 0, by rw [h0], fun h1 => by omega⟩
  · refine ⟨_, cap, rfl, fun _ => ⟨g, 0, fun j => R (2 * j), fun j => C (2 * j), fun j => R (2 * j + 1), fun j => C (2 * j + 1), rfl, lt_heap hg, fun j hj => ?_⟩⟩
    have e : ∀ i, i < 7 → wr.cell? ⟨g, 0 + j * 7 + i, none⟩ = (cellsC L R C j)[i]? := fun i hi => by
      rw [Nat.zero_add, h.grp.cellAt (j * 7 + i) (by omega), at_flat7 (length_cellsC L R C) hj hi]
    have r1 := (h.rows (2 * j) (by omega)).ints
    have r2 := (h.rows (2 * j + 1) (by omega)).ints
    rw [rowC_us] at r1
    rw [rowC_is] at r2
    exact ⟨e 0 (by omega), e 1 (by omega), e 2 (by omega), e 3 (by omega), e 4 (by omega), e 5 (by omega), e 6 (by omega), r1, r2⟩
def fewC (l : List Cy) : List Cy := (l.take 18).map capC
theorem fewC_length (l : List Cy) : (fewC l).length = min 18 l.length := by simp [fewC]
theorem fewC_at {l : List Cy} {k : Nat} (h : k < l.length) (h18 : k < 18) : cyN (fewC l) k = capC (cyN l k) := by
  rw [cyN_lt (by rw [fewC_length]; omega), cyN_lt h]
  simp [fewC]
theorem fewC_small (l : List Cy) : SmallL (fewC l) := by
  refine ⟨by rw [fewC_length]; omega, fun j hj => ?_⟩
  rw [fewC_length] at hj
  rw [fewC_at (by omega) (by omega)]
  exact capC_small _
/-- groups that came in -/
def CylsIn (w : World) (A : Option Addr) (l : List Cy) : Prop :=
  0 < l.length → ∃ (b off : Nat) (Af : Nat → Option Addr) (Cf : Nat → Nat) (Ag : Nat → Option Addr) (Cg : Nat → Nat), A = some ⟨b, off, none⟩ ∧ b < w.heap.size ∧ ∀ j, j < l.length → CyAt w w.heap.size b (off + j * 7) (cyN l j) (Af j) (Cf j) (Ag j) (Cg j) ∧ ((cyN l j).us.length ≤ Cf j ∧ Cf j ≤ maxLen) ∧ ((cyN l j).is.length ≤ Cg j ∧ Cg j ≤ maxLen)
theorem CylsIn.next {w w' : World} {A : Option Addr} {l : List Cy} (h : CylsIn w A l) (hB : Below w.heap.size w w') : CylsIn w' A l := fun hn => by
  obtain ⟨b, off, Af, Cf, Ag, Cg, e, hb, hc⟩ := h hn
  exact ⟨b, off, Af, Cf, Ag, Cg, e, Nat.lt_of_lt_of_le hb hB.size, fun j hj => ⟨((hc j hj).1.keep hb fun p hp => hB.cell hp).more hB.size, (hc j hj).2⟩⟩

set_option maxRecDepth 100000 in
set_option maxHeartbeats 4000000 in
theorem few_any (A : Option Addr) (c n : Nat) (l : List Cy) (hn : n = l.length) (w : World) (hc : n ≤ c ∧ c ≤ maxLen) (hI : CylsIn w A l) :
    Calls Try.prog 25 #[.slice A n c] w (SetSays w (fewC l)) := by
  obtain ⟨i0, hi, hz0, hz1, hz2⟩ := info_parts info24
  have Hn := Lib.hid hn
  have HI := Lib.hid hI
  have HLk : Hid (∀ k, k < n → k < 18 → cyN (fewC l) k = capC (cyN l k)) := fun k h h18 => fewC_at (by rw [← hn]; exact h) h18
  have HLl : Hid ((fewC l).length = min 18 n) := by unfold Hid; rw [fewC_length, hn]
  have HNb : Hid (∀ (R : Nat → Option Addr) (C : Nat → Nat), Heap0 w w (fewC l) 0 (.slice none 0 0) R C) := fun R C => ⟨World.ownsRow_nil _ _ _ _, fun t ht => absurd ht (Nat.not_lt_zero _), Below.refl _ w⟩
  obtain ⟨L, hL⟩ : ∃ L, L = fewC l := ⟨_, rfl⟩
  rw [← hL] at HLk HLl HNb ⊢
  obtain ⟨hc1, hc2⟩ := hc
  have hmx : maxLen = 9223372036854775807 := rfl
  rw [hmx] at hc2
  obtain ⟨Q, hQ⟩ : ∃ Q, Q = SetSays w L := ⟨_, rfl⟩
  have HQ : Hid (∀ e w', SetSays w L e w' → Q e w') := by unfold Hid; rw [hQ]; exact fun _ _ h => h
  rw [← hQ]
  clear hL hI hn hmx hQ
  by_cases h1 : 18 < n
  · have h1i : (18 : Int) < (n : Int) := by omega
    have h1c : 18 ≤ c := by omega
    have h1d : (18 : Int) ≤ (c : Int) := by omega
    have HM : Hid (L.length = 18) := HLl.out.trans (by omega)
    have hMn : 18 ≤ n := by omega
    have hM18 : 18 ≤ 18 := by omega
    go_enter Try.func25, Try.ntmps25
    go_wp2_with fail
    go_loopw [3, 4] (fun v i wr => ∃ k : Nat, k ≤ 18 ∧ i = .int .i64 k ∧ ∃ R C, Heap0 w wr L k v R C) (fun _ i _ => 18 - (intOf i).toNat)
    case atStart => exact ⟨0, Nat.zero_le _, rfl, fun _ => none, fun _ => 0, HNb.out _ _⟩
    case round =>
      obtain ⟨k, hk, rfl, R, C, hG⟩ := hrel
      rename World => wr
      have hB := hG.below
      have hbw := hB.size
      by_cases hlt : k < 18
      · have hlti : (k : Int) < (18 : Int) := by omega
        have hk0 : (0 : Int) ≤ (k : Int) := by omega
        have hkl : k < l.length := by rw [← Hn.out]; omega
        obtain ⟨b, off, Af, Cf, Ag, Cg, rfl, hbb, hall⟩ := HI.out (by omega)
        obtain ⟨hcy, hk1, hk2⟩ := hall k hkl
        replace hcy := (hcy.keep (w' := wr) hbb (fun p hp => hB.cell hp)).more hB.size
        obtain ⟨e0, e1, e2, e3, e4, e5, e6, hU, hV⟩ := hcy
        have HF : Hid (Calls Try.prog 12 #[(cyN l k).v (Af k) (Cf k) (Ag k) (Cg k)] wr (ForkSays wr (capC (cyN l k)))) := one_any (cyN l k) (Af k) (Cf k) (Ag k) (Cg k) wr hk1 hk2 hU hV
        have HLkk := Lib.hid (HLk.out k (by omega) (by omega))
        have HGk := Lib.hid hG
        obtain ⟨y, hy⟩ : ∃ y, y = cyN l k := ⟨_, rfl⟩
        rw [← hy] at e0 e1 e2 e3 e4 e5 e6 HF HLkk
        obtain ⟨z, hz⟩ : ∃ z, z = capC y := ⟨_, rfl⟩
        rw [← hz] at HF HLkk
        clear hy hz hU hV hG hall hk1 hk2
        generalize Af k = Ak at e5 HF
        generalize Cf k = ck at e5 HF
        generalize Ag k = A2k at e6 HF
        generalize Cg k = c2k at e6 HF
        obtain ⟨jx, jbl, jfb, jfi, jro, jus, jis⟩ := y
        unfold Cy.v at HF
        simp only at e0 e1 e2 e3 e4 e5 e6 HF
        generalize jus.length = m1 at e5 HF
        generalize jis.length = m2 at e6 HF
        obtain ⟨ix, bl, fb, fi, ro, us, is⟩ := z
        go_wp2_with fail
        refine HF.out.mono ?_
        rintro e w3 ⟨A1, c1, A3, d1', rfl, hr1, hr2, hap, hB3⟩
        have Hrow : Hid (cy7 (cyN L k) A1 c1 A3 d1' = [.int .i64 ix, .int .i64 bl, .int .i64 fb, .int .i64 fi, .int .i64 ro, .slice A1 us.length c1, .slice A3 is.length d1']) := by unfold Hid; rw [HLkk.out]; rfl
        have hz3 : wr.heap.size ≤ w3.heap.size := hB3.size
        have HPu := Lib.hid (fun (w4 : World) (v' : Value) (o : Obj) ho hg => HGk.out.push (w3 := w3) (w4 := w4) (v' := v') (o := o) (A := A1) (A2 := A3) (c := c1) (d := d1') hB3 (h0 := wr.heap.size) (by omega) (by rw [HLkk.out]; exact hr1) (by rw [HLkk.out]; exact hr2) ho hg)
        rw [Hrow.out] at HPu
        have hown3 := (Kept.fresh (S := fun _ => False) hB3).row HGk.out.grp (fun _ _ q => q)
        clear hr1 hr2 hap hB3 Hrow
        unfold Cy.v
        simp only
        generalize us.length = m3 at HPu ⊢
        generalize is.length = m4 at HPu ⊢
        go_wp2_with (at_builtin; refine wpList_append_own _ rfl _ _ 39 rfl w.heap.size 24 i0 _ 7 88 Try.underlying39 hi hz0 hz1 hz2 rfl (by decide) _ _ _ rfl (hown3.alloc _) ⟨w3.heap.size, 0, none⟩ 1 1 [.int .i64 ix, .int .i64 bl, .int .i64 fb, .int .i64 fi, .int .i64 ro, .slice A1 m3 c1, .slice A3 m4 d1'] rfl rfl (fun j u h => seven_at j u h) (by simp [Value.oneCell']) (by unfold maxLen; omega) (by omega) (by simp; omega) ?_)
        intro v' w4 hown4 hgrow _
        obtain ⟨R', C', hG4⟩ := HPu.out w4 v' _ hown4 hgrow
        have HG4 := Lib.hid hG4
        clear hown4 hgrow hG4 hown3 HPu
        go_wp2_with fail
        go_roundw
        case rel => exact ⟨k + 1, by omega, by go_num, R', C', HG4.out⟩
        case measure => simp [intOf]; omega
      · have hlti : ¬ (k : Int) < (18 : Int) := by omega
        have hkM : k = 18 := by omega
        obtain ⟨A1, c1, rfl, hC⟩ := hG.cyls (hkM.trans HM.out.symm)
        have HC := Lib.hid hC
        have HB := Lib.hid hB
        clear hG hC hB
        go_wp2_with fail
        exact HQ.out _ _ ⟨A1, c1, rfl, HC.out, HB.out⟩
  · have h1i : ¬ (18 : Int) < (n : Int) := by omega
    have HM : Hid (L.length = n) := HLl.out.trans (by omega)
    have hMn : n ≤ n := by omega
    have hM18 : n ≤ 18 := by omega
    go_enter Try.func25, Try.ntmps25
    go_wp2_with fail
    go_loopw [3, 4] (fun v i wr => ∃ k : Nat, k ≤ n ∧ i = .int .i64 k ∧ ∃ R C, Heap0 w wr L k v R C) (fun _ i _ => n - (intOf i).toNat)
    case atStart => exact ⟨0, Nat.zero_le _, rfl, fun _ => none, fun _ => 0, HNb.out _ _⟩
    case round =>
      obtain ⟨k, hk, rfl, R, C, hG⟩ := hrel
      rename World => wr
      have hB := hG.below
      have hbw := hB.size
      by_cases hlt : k < n
      · have hlti : (k : Int) < (n : Int) := by omega
        have hk0 : (0 : Int) ≤ (k : Int) := by omega
        have hkl : k < l.length := by rw [← Hn.out]; omega
        obtain ⟨b, off, Af, Cf, Ag, Cg, rfl, hbb, hall⟩ := HI.out (by omega)
        obtain ⟨hcy, hk1, hk2⟩ := hall k hkl
        replace hcy := (hcy.keep (w' := wr) hbb (fun p hp => hB.cell hp)).more hB.size
        obtain ⟨e0, e1, e2, e3, e4, e5, e6, hU, hV⟩ := hcy
        have HF : Hid (Calls Try.prog 12 #[(cyN l k).v (Af k) (Cf k) (Ag k) (Cg k)] wr (ForkSays wr (capC (cyN l k)))) := one_any (cyN l k) (Af k) (Cf k) (Ag k) (Cg k) wr hk1 hk2 hU hV
        have HLkk := Lib.hid (HLk.out k (by omega) (by omega))
        have HGk := Lib.hid hG
        obtain ⟨y, hy⟩ : ∃ y, y = cyN l k := ⟨_, rfl⟩
        rw [← hy] at e0 e1 e2 e3 e4 e5 e6 HF HLkk
        obtain ⟨z, hz⟩ : ∃ z, z = capC y := ⟨_, rfl⟩
        rw [← hz] at HF HLkk
        clear hy hz hU hV hG hall hk1 hk2
        generalize Af k = Ak at e5 HF
        generalize Cf k = ck at e5 HF
        generalize Ag k = A2k at e6 HF
        generalize Cg k = c2k at e6 HF
        obtain ⟨jx, jbl, jfb, jfi, jro, jus, jis⟩ := y
        unfold Cy.v at HF
        simp only at e0 e1 e2 e3 e4 e5 e6 HF
        generalize jus.length = m1 at e5 HF
        generalize jis.length = m2 at e6 HF
        obtain ⟨ix, bl, fb, fi, ro, us, is⟩ := z
        go_wp2_with fail
        refine HF.out.mono ?_
        rintro e w3 ⟨A1, c1, A3, d1', rfl, hr1, hr2, hap, hB3⟩
        have Hrow : Hid (cy7 (cyN L k) A1 c1 A3 d1' = [.int .i64 ix, .int .i64 bl, .int .i64 fb, .int .i64 fi, .int .i64 ro, .slice A1 us.length c1, .slice A3 is.length d1']) := by unfold Hid; rw [HLkk.out]; rfl
        have hz3 : wr.heap.size ≤ w3.heap.size := hB3.size
        have HPu := Lib.hid (fun (w4 : World) (v' : Value) (o : Obj) ho hg => HGk.out.push (w3 := w3) (w4 := w4) (v' := v') (o := o) (A := A1) (A2 := A3) (c := c1) (d := d1') hB3 (h0 := wr.heap.size) (by omega) (by rw [HLkk.out]; exact hr1) (by rw [HLkk.out]; exact hr2) ho hg)
        rw [Hrow.out] at HPu
        have hown3 := (Kept.fresh (S := fun _ => False) hB3).row HGk.out.grp (fun _ _ q => q)
        clear hr1 hr2 hap hB3 Hrow
        unfold Cy.v
        simp only
        generalize us.length = m3 at HPu ⊢
        generalize is.length = m4 at HPu ⊢
        go_wp2_with (at_builtin; refine wpList_append_own _ rfl _ _ 39 rfl w.heap.size 24 i0 _ 7 88 Try.underlying39 hi hz0 hz1 hz2 rfl (by decide) _ _ _ rfl (hown3.alloc _) ⟨w3.heap.size, 0, none⟩ 1 1 [.int .i64 ix, .int .i64 bl, .int .i64 fb, .int .i64 fi, .int .i64 ro, .slice A1 m3 c1, .slice A3 m4 d1'] rfl rfl (fun j u h => seven_at j u h) (by simp [Value.oneCell']) (by unfold maxLen; omega) (by omega) (by simp; omega) ?_)
        intro v' w4 hown4 hgrow _
        obtain ⟨R', C', hG4⟩ := HPu.out w4 v' _ hown4 hgrow
        have HG4 := Lib.hid hG4
        clear hown4 hgrow hG4 hown3 HPu
        go_wp2_with fail
        go_roundw
        case rel => exact ⟨k + 1, by omega, by go_num, R', C', HG4.out⟩
        case measure => simp [intOf]; omega
      · have hlti : ¬ (k : Int) < (n : Int) := by omega
        have hkM : k = n := by omega
        obtain ⟨A1, c1, rfl, hC⟩ := hG.cyls (hkM.trans HM.out.symm)
        have HC := Lib.hid hC
        have HB := Lib.hid hB
        clear hG hC hB
        go_wp2_with fail
        exact HQ.out _ _ ⟨A1, c1, rfl, HC.out, HB.out⟩
end Go.Proofs.Ytpcindemkkdbbaa
