/- The program's arm: where a block stands among the requests, a block forgotten, Cancel, Age, At, Moved, Up, Set. -/
import Derived.Test.YtpelocpjfmmceaaE
set_option linter.unusedVariables false
set_option linter.unusedSimpArgs false
namespace Go.Proofs.Ytpelocpjfmmceaa
open Go.RowKit

theorem eq_find (r : Rq) (x : Int) (c : Nat) (w : World) (hc : w.cell? ⟨c, 0, none⟩ = some (.int .i64 x)) : Calls Try.prog 67 #[r.v, .pointer (some ⟨c, 0, none⟩)] w fun e w' => e = .returned (.bool (isB x r)) ∧ Below w.heap.size w w' := by
  obtain ⟨b, a⟩ := r
  unfold Rq.v isB
  have hlt := World.block_lt_of_cell? w _ hc
  have hne : c ≠ w.heap.size := by simp at hlt; omega
  go_enter Try.func67, Try.ntmps67
  go_wp2
  go_ret
  exact ⟨rfl, (Below.refl _ _).alloc (Nat.le_refl _) _⟩
theorem eq_forget (r : Rq) (x : Int) (c : Nat) (w : World) (hc : w.cell? ⟨c, 0, none⟩ = some (.int .i64 x)) : Calls Try.prog 64 #[r.v, .pointer (some ⟨c, 0, none⟩)] w fun e w' => e = .returned (.bool (isB x r)) ∧ Below w.heap.size w w' := by
  obtain ⟨b, a⟩ := r
  unfold Rq.v isB
  have hlt := World.block_lt_of_cell? w _ hc
  have hne : c ≠ w.heap.size := by simp at hlt; omega
  go_enter Try.func64, Try.ntmps64
  go_wp2
  go_ret
  exact ⟨rfl, (Below.refl _ _).alloc (Nat.le_refl _) _⟩
section
variable (B g : Nat) (A : Option Addr) (c : Nat) (x : Ar) (b : Int) (w : World)
theorem find_any (hC : PAt B w g A c x) (hl : x.l.length ≤ 1000) :
    Calls Try.prog 45 #[.pointer (some ⟨g, 0, none⟩), .int .i64 b] w fun e w' => e = .returned (.int .i64 (idxR x.l b)) ∧ Below w.heap.size w w' := by
  obtain ⟨_, _, _, _, _, hs⟩ := pcells hC
  have hg := hC.glt
  obtain ⟨W, hW⟩ : ∃ W, W = w.alloc (.cells #[.int .i64 b] 3) := ⟨_, rfl⟩
  have hC1 : PAt B W g A c x := by rw [hW]; exact hC.fresh ((Below.refl _ _).alloc (Nat.le_refl _) _)
  have HI := Lib.hid (index_find B A c x.l w.heap.size (isB b) W hC1.row hl (fun r W2 h2 => eq_find r b _ W2 (by rw [h2.cell (p := ⟨w.heap.size, 0, none⟩) (by rw [hW]; simp), hW]; simp)))
  rw [hW] at HI
  have hne : g ≠ w.heap.size := by omega
  unfold idxR
  clear hC hC1 hW
  go_enter Try.func45, Try.ntmps45
  go_wp2_with (refine HI.out.mono ?_; rintro e w1 ⟨rfl, hb1⟩)
  go_ret
  exact ⟨rfl, ((Below.refl _ _).alloc (Nat.le_refl _) _).trans (hb1.mono (by simp))⟩
theorem find_nil : Calls Try.prog 45 #[.pointer none, .int .i64 b] w fun e w' => e = .returned (.int .i64 (-1)) ∧ Below w.heap.size w w' := by
  go_enter Try.func45, Try.ntmps45
  go_wp2
  go_ret
  exact ⟨rfl, (Below.refl _ _).alloc (Nat.le_refl _) _⟩
/-- the requests laid anew into an arm -/
theorem laid {hd : Ar → Value → Array Value} {T E : TypeId} {w2 : World} {v : Value} {A' : Option Addr} {c' : Nat} {l' : List Rq} {y : Ar} (hy : y.l = l') (hh : w2.heap[g]? = some (.cells (hd x v) T (0, 0))) (hset : ∀ v', (hd x v).setIfInBounds 5 v' = hd y v')
    (hr : RowQ E w2 B A' c' l') (hne : T ≠ E) (hlo : B ≤ g) :
    ArmAt hd T E B (w2.setCell ⟨g, 5, none⟩ (.slice A' l'.length c')) g A' c' y ∧ Kept w2 (w2.setCell ⟨g, 5, none⟩ (.slice A' l'.length c')) (fun k => k = g) := by
  subst hy
  have ha : own A' ≠ some g := by
    intro q
    rcases hr.2 with ⟨e, _⟩ | ⟨k, cap, cur, e, _, hk, _⟩
    · obtain ⟨rfl, _⟩ := Value.slice.inj e; cases q
    · obtain ⟨rfl, _⟩ := Value.slice.inj e
      obtain rfl : k = g := by simpa [own] using q
      have := hh.symm.trans hk
      simp at this
      exact hne this.2
  have hk := Kept.set w2 g 5 (.slice A' y.l.length c')
  refine ⟨⟨?_, hr.keep hk (fun k e q => ha (by rw [e, q])), hne, hlo⟩, hk⟩
  have := heap_setCell_same w2 g 5 _ T (.slice A' y.l.length c') hh
  rw [this, hset]
theorem forget_any (hC : PAt B w g A c x) (hl : x.l.length ≤ 1000) :
    Calls Try.prog 43 #[.pointer (some ⟨g, 0, none⟩), .int .i64 b] w fun e w' => e = .returned (.tuple #[]) ∧ PWent B w g A (x.cancel b) w' := by
  obtain ⟨_, _, _, _, _, hs⟩ := pcells hC
  have hg := hC.glt
  obtain ⟨W, hW⟩ : ∃ W, W = w.alloc (.cells #[.int .i64 b] 3) := ⟨_, rfl⟩
  have hB1 : Below w.heap.size w W := by rw [hW]; exact (Below.refl _ _).alloc (Nat.le_refl _) _
  have hC1 : PAt B W g A c x := hC.fresh hB1
  have hbox : W.cell? ⟨w.heap.size, 0, none⟩ = some (.int .i64 b) := by rw [hW]; simp
  have HI := Lib.hid (delete_forget B A c x.l w.heap.size (isB b) W hC1.row hl (fun r W2 h2 => eq_forget r b _ W2 (by
    rw [h2.cell (a := ⟨w.heap.size, 0, none⟩) (by rw [hW]; simp) (fun q => by have := (hC.row.lt _ q).2; simp at this)]; exact hbox)))
  have Hfin : Hid (∀ w2, RowQ 74 w2 B A c (dropL x.l b) → Kept W w2 (fun k => own A = some k) → w2.cell? ⟨g, 5, none⟩ = some (.slice A x.l.length c) ∧ w2.frozen? ⟨g, 5, none⟩ = false ∧ g < w2.heap.size ∧ PWent B w g A (x.cancel b) (w2.setCell ⟨g, 5, none⟩ (.slice A (dropL x.l b).length c))) := fun w2 hr hk => by
    have ha := hC.apart
    have hh : w2.heap[g]? = some (.cells (hP x (.slice A x.l.length c)) 67 (0, 0)) := by rw [hk.block g hC1.glt ha]; exact hC1.head
    obtain ⟨r, kp⟩ := laid (hd := hP) (y := x.cancel b) B g x rfl hh (fun _ => rfl) hr (by decide) hC.lo
    refine ⟨cell_of_row w2 g 5 _ _ (0, 0) hh, frozen_of_row w2 g 5 _ _ hh, (Array.getElem?_eq_some_iff.1 hh).1, A, c, r, ?_, fun k e => .inl e⟩
    exact ((Kept.fresh (S := Of g A) hB1).trans hk (fun k q => .inl (.inr q))).trans kp (fun k q => .inl (.inl q))
  rw [hW] at HI Hfin
  have hne : g ≠ w.heap.size := by omega
  clear hC hC1 hW hbox hB1
  unfold dropL at Hfin
  generalize x.l.filter (fun r => !(isB b r)) = L2 at HI Hfin
  go_enter Try.func43, Try.ntmps43
  go_wp2_with (refine HI.out.mono ?_; rintro e w2 ⟨rfl, hr2, hk2⟩; obtain ⟨hs2, hf2, hg2, hfin⟩ := Hfin.out w2 hr2 hk2; have HF2 := Lib.hid hfin; clear hfin hr2 hk2)
  go_end0
  exact ⟨rfl, HF2.out⟩
theorem cancel_any (hC : PAt B w g A c x) (hl : x.l.length ≤ 1000) :
    Calls Try.prog 27 #[.pointer (some ⟨g, 0, none⟩), .int .i64 b] w fun e w' => e = .returned (.int .i64 (x.cancelE b)) ∧ PWent B w g A (x.cancel b) w' := by
  have HF := Lib.hid (find_any B g A c x b w hC hl)
  have hi := idxR_ge x.l b
  unfold Ar.cancelE
  cases hh : hasR x.l b with
  | false =>
    have e : x.cancel b = x := by
      unfold Ar.cancel dropL
      have : x.l.filter (fun r => !(isB b r)) = x.l := by
        rw [List.filter_eq_self]
        intro r hr
        have := List.any_eq_false.1 hh r hr
        simpa using this
      rw [this]
    rw [e]
    have HC := Lib.hid hC
    have hlt : idxR x.l b < 0 := by rw [hh] at hi; simpa using hi
    generalize idxR x.l b = q at *
    clear hi hh e hC
    go_enter Try.func27, Try.ntmps27
    go_wp2_with (refine HF.out.mono ?_; rintro e w1 ⟨rfl, hb1⟩)
    go_ret
    exact ⟨rfl, A, c, HC.out.fresh hb1, Kept.fresh hb1, fun k e => .inl e⟩
  | true =>
    have hlt : 0 ≤ idxR x.l b := by rw [hh] at hi; simpa using hi
    have HG : Hid (∀ W, Below w.heap.size w W → Calls Try.prog 43 #[.pointer (some ⟨g, 0, none⟩), .int .i64 b] W fun e w' => e = .returned (.tuple #[]) ∧ PWent B w g A (x.cancel b) w') := fun W hW =>
      (forget_any B g A c x b W (hC.fresh hW) hl).mono fun e w' ⟨h1, A', c', h2, h3, h4⟩ => ⟨h1, A', c', h2, (Kept.fresh hW).trans h3 (fun k q => .inl q), fun k e => by rcases h4 k e with q | q; exact .inl q; exact .inr (Nat.le_trans hW.size q)⟩
    generalize idxR x.l b = q at *
    clear hi hh hC
    go_enter Try.func27, Try.ntmps27
    go_wp2_with (first
      | (go_at_call 45; refine HF.out.mono ?_; rintro e w1 ⟨rfl, hb1⟩; have HB1 := Lib.hid hb1; clear hb1)
      | (go_at_call 43; refine (HG.out _ HB1.out).mono ?_; rintro e w2 ⟨rfl, hwn⟩; have HW2 := Lib.hid hwn; clear hwn))
    go_ret
    exact ⟨rfl, HW2.out⟩
theorem age_any (hC : PAt B w g A c x) (hl : x.l.length ≤ 1000) :
    Calls Try.prog 21 #[.pointer (some ⟨g, 0, none⟩), .int .i64 b] w fun e w' => e = .returned (.int .i64 (x.age b)) ∧ Below w.heap.size w w' := by
  have HF := Lib.hid (find_any B g A c x b w hC hl)
  obtain ⟨_, _, _, _, _, hs⟩ := pcells hC
  have hg := hC.glt
  unfold Ar.age
  cases hh : hasR x.l b with
  | false =>
    have hi := idxR_ge x.l b
    have hlt : idxR x.l b < 0 := by rw [hh] at hi; simpa using hi
    generalize idxR x.l b = q at *
    clear hi hh hC
    go_enter Try.func21, Try.ntmps21
    go_wp2_with (refine HF.out.mono ?_; rintro e w1 ⟨rfl, hb1⟩)
    go_ret
    exact ⟨rfl, hb1⟩
  | true =>
    have hk : x.l.findIdx (isB b) < x.l.length := find_of_any hh
    have e : idxR x.l b = (x.l.findIdx (isB b) : Int) := by unfold idxR idxF; rw [show x.l.any (isB b) = true from hh]; rfl
    rw [e] at HF
    generalize x.l.findIdx (isB b) = k at *
    obtain ⟨ab, rfl, h3, h4, hb, _, c0, c1, _⟩ := hC.row.at_ hk
    have hk0 : (0 : Int) ≤ (k : Int) := by omega
    have hki : (k : Int) < (x.l.length : Int) := by omega
    unfold maxLen at h4
    clear hh hC e
    generalize (rn x.l k).a = ra at *
    generalize x.l.length = n at *
    go_enter Try.func21, Try.ntmps21
    go_wp2_with (refine HF.out.mono ?_; rintro e w1 ⟨rfl, hb1⟩; obtain ⟨hcl, hfr⟩ := bcell hb1; have HB1 := Lib.hid hb1; clear hb1)
    go_ret
    exact ⟨rfl, HB1.out⟩
theorem age_nil : Calls Try.prog 21 #[.pointer none, .int .i64 b] w fun e w' => e = .returned (.int .i64 (-1)) ∧ Below w.heap.size w w' := by
  have HF := Lib.hid (find_nil b w)
  go_enter Try.func21, Try.ntmps21
  go_wp2_with (refine HF.out.mono ?_; rintro e w1 ⟨rfl, hb1⟩)
  go_ret
  exact ⟨rfl, hb1⟩
theorem cancel_nil : Calls Try.prog 27 #[.pointer none, .int .i64 b] w fun e w' => e = .returned (.int .i64 1) ∧ w = w' := by
  go_enter Try.func27, Try.ntmps27
  go_wp2
  go_ret
  exact ⟨rfl, rfl⟩
theorem at_any (hC : PAt B w g A c x) : Calls Try.prog 29 #[.pointer (some ⟨g, 0, none⟩)] w fun e w' => e = .returned (.int .i64 x.s) ∧ w = w' := by
  obtain ⟨_, _, h2, h3, h4, hs⟩ := pcells hC
  clear hC
  generalize (x.s : Int) = q at *
  go_enter Try.func29, Try.ntmps29
  go_wp2
  go_ret
  exact ⟨rfl, rfl⟩
theorem at_nil : Calls Try.prog 29 #[.pointer none] w fun e w' => e = .returned (.int .i64 0) ∧ w = w' := by
  go_enter Try.func29, Try.ntmps29
  go_wp2
  go_ret
  exact ⟨rfl, rfl⟩
theorem moved_any (hC : PAt B w g A c x) : Calls Try.prog 30 #[.pointer (some ⟨g, 0, none⟩)] w fun e w' => e = .returned (.int .i64 x.m) ∧ w = w' := by
  obtain ⟨_, _, h2, h3, h4, hs⟩ := pcells hC
  clear hC
  generalize (x.m : Int) = q at *
  go_enter Try.func30, Try.ntmps30
  go_wp2
  go_ret
  exact ⟨rfl, rfl⟩
theorem moved_nil : Calls Try.prog 30 #[.pointer none] w fun e w' => e = .returned (.int .i64 0) ∧ w = w' := by
  go_enter Try.func30, Try.ntmps30
  go_wp2
  go_ret
  exact ⟨rfl, rfl⟩
theorem up_any (hC : PAt B w g A c x) : Calls Try.prog 31 #[.pointer (some ⟨g, 0, none⟩)] w fun e w' => e = .returned (.bool x.u) ∧ w = w' := by
  obtain ⟨_, _, h2, h3, h4, hs⟩ := pcells hC
  clear hC
  generalize x.u = q at *
  go_enter Try.func31, Try.ntmps31
  go_wp2
  go_ret
  exact ⟨rfl, rfl⟩
theorem up_nil : Calls Try.prog 31 #[.pointer none] w fun e w' => e = .returned (.bool false) ∧ w = w' := by
  go_enter Try.func31, Try.ntmps31
  go_wp2
  go_ret
  exact ⟨rfl, rfl⟩
theorem known_any (p : Nat) (hp : p < 256) : Calls Try.prog 51 #[.int .u8 p] w fun e w' => e = .returned (.bool (decide (1 ≤ p ∧ p ≤ 4))) ∧ w = w' := by
  by_cases h1 : 1 ≤ p
  · by_cases h2 : p ≤ 4
    · have h1i : (1 : Int) ≤ (p : Int) := by omega
      have h2i : (p : Int) ≤ 4 := by omega
      have hd : decide (1 ≤ p ∧ p ≤ 4) = true := by simp [h1, h2]
      rw [hd]
      clear hd
      go_enter Try.func51, Try.ntmps51
      go_wp2
      go_ret
      exact ⟨rfl, rfl⟩
    · have h1i : (1 : Int) ≤ (p : Int) := by omega
      have h2i : (4 : Int) < (p : Int) := by omega
      have hd : decide (1 ≤ p ∧ p ≤ 4) = false := by simp [h1, h2]
      rw [hd]
      clear hd
      go_enter Try.func51, Try.ntmps51
      go_wp2
      go_ret
      exact ⟨ret_bool (decide_eq_false (by omega)), rfl⟩
  · obtain rfl : p = 0 := by omega
    go_enter Try.func51, Try.ntmps51
    go_wp2
    go_ret
    exact ⟨rfl, rfl⟩
/-- one field of an arm stored over -/
theorem field {hd : Ar → Value → Array Value} {T E : TypeId} {y : Ar} {j : Nat} {v : Value} (h : ArmAt hd T E B w g A c x) (hl : y.l = x.l) (hset : ∀ u, (hd x u).setIfInBounds j v = hd y u) :
    ArmAt hd T E B (w.setCell ⟨g, j, none⟩ v) g A c y ∧ Kept w (w.setCell ⟨g, j, none⟩ v) (fun k => k = g) := by
  have hk := Kept.set w g j v
  have := heap_setCell_same w g j _ T v h.head
  rw [hset] at this
  exact ⟨⟨by rw [hl]; exact this, by rw [hl]; exact h.row.keep hk (fun k e q => h.apart (by rw [e, q])), h.ne, h.lo⟩, hk⟩
theorem set_any (p : Nat) (hp : p < 256) (hC : PAt B w g A c x) : Calls Try.prog 28 #[.pointer (some ⟨g, 0, none⟩), .int .u8 p] w fun e w' => e = .returned (.int .i64 (Ar.setE p)) ∧ PWent B w g A (x.setP p) w' := by
  have HK := Lib.hid (fun W => known_any W p hp)
  obtain ⟨c0, _, h2, h3, h4, hs⟩ := pcells hC
  have hg := hC.glt
  have hf := hC.free 0
  have Hfin : Hid (PWent B w g A { x with p := p } (w.setCell ⟨g, 0, none⟩ (.int .u8 p))) := by
    obtain ⟨r, kp⟩ := field B g A c x w (y := { x with p := p }) (j := 0) (v := .int .u8 p) hC rfl (fun _ => rfl)
    exact ⟨A, c, r, kp.more (fun k q => .inl (.inl q)), fun k e => .inl e⟩
  unfold Ar.setE Ar.setP
  have HC := Lib.hid hC
  clear hC
  by_cases h : 1 ≤ p ∧ p ≤ 4
  · rw [if_pos h, if_pos h]
    rw [decide_eq_true h] at HK
    clear h
    go_enter Try.func28, Try.ntmps28
    go_wp2_with (refine (HK.out _).mono ?_; rintro e w1 ⟨rfl, rfl⟩)
    go_ret
    exact ⟨rfl, Hfin.out⟩
  · rw [if_neg h, if_neg h]
    rw [decide_eq_false h] at HK
    clear h
    go_enter Try.func28, Try.ntmps28
    go_wp2_with (refine (HK.out _).mono ?_; rintro e w1 ⟨rfl, rfl⟩)
    go_ret
    exact ⟨rfl, A, c, HC.out, Kept.refl _ _, fun k e => .inl e⟩
theorem set_nil (p : Nat) : Calls Try.prog 28 #[.pointer none, .int .u8 p] w fun e w' => e = .returned (.int .i64 1) ∧ w = w' := by
  go_enter Try.func28, Try.ntmps28
  go_wp2
  go_ret
  exact ⟨rfl, rfl⟩
end
end Go.Proofs.Ytpelocpjfmmceaa
