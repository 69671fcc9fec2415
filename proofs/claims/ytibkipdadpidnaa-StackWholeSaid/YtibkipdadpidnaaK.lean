/- The document's Pop. -/
import Derived.Test.YtibkipdadpidnaaJ
set_option linter.unusedVariables false
set_option linter.unusedSimpArgs false
namespace Go.Proofs.Ytibkipdadpidnaa
open Go.RowKit
open Pat (Pt AllB undoP nth)
def popS (s : Sk) : Sk := ⟨s.f, s.l.dropLast, s.k⟩
theorem box_set {W : World} {g : Nat} {q : Pt} (h : Pat.Boxed W g q) (p : Pt) : Pat.Boxed (((W.setCell ⟨g, 0, none⟩ (.int .i64 p.b)).setCell ⟨g, 1, none⟩ (.int .i64 p.o)).setCell ⟨g, 2, none⟩ (.string p.s)) g p := ((Pat.BlkIs.set_ h 0 _).set_ 1 _).set_ 2 _
/-- a box filled over leaves the stack -/
theorem RW.box {B : Nat} {w W : World} {r : Nat} {s : Sk} {q : Pt} (h : RW B w r s W) (hq : Pat.Boxed W w.heap.size q) (p : Pt) (hr : r < w.heap.size) :
    RW B w r s (((W.setCell ⟨w.heap.size, 0, none⟩ (.int .i64 p.b)).setCell ⟨w.heap.size, 1, none⟩ (.int .i64 p.o)).setCell ⟨w.heap.size, 2, none⟩ (.string p.s)) := by
  obtain ⟨⟨bA, bc, A, c, h1⟩, h2⟩ := h
  have hk : Kept W (((W.setCell ⟨w.heap.size, 0, none⟩ (.int .i64 p.b)).setCell ⟨w.heap.size, 1, none⟩ (.int .i64 p.o)).setCell ⟨w.heap.size, 2, none⟩ (.string p.s)) (fun b => b = w.heap.size) :=
    ((Kept.set W w.heap.size 0 _).trans (Kept.set _ w.heap.size 1 _) (fun b e => .inl e)).trans (Kept.set _ w.heap.size 2 _) (fun b e => .inl e)
  have hnh : ∀ {t : TypeId} {size n c : Nat} {A : Option Addr} {xs : List Value}, W.ownsRow 0 t size (.slice A n c) n xs → t ≠ 38 → ∀ b, (Value.slice A n c).ownBlock = some b → ¬ b = w.heap.size := fun {t size n c A xs} ho ht b e z => by
    rcases ho.2 with ⟨y, _⟩ | ⟨k2, cap, cur2, y, _, hk2, _⟩
    · obtain ⟨rfl, _⟩ := Value.slice.inj y; cases e
    · obtain ⟨rfl, _⟩ := Value.slice.inj y
      obtain rfl : k2 = b := by simpa [Value.ownBlock] using e
      rw [z] at hk2
      have := hk2.symm.trans hq
      simp only [Option.some.injEq, Obj.cells.injEq] at this
      exact ht this.2.1
  exact ⟨⟨bA, bc, A, c, (hk.block r h1.glt (by omega)).trans h1.head, hk.row h1.base (hnh h1.base (by decide)), hk.row h1.row (hnh h1.row (by decide)), h1.lo, h1.all⟩, h2.trans hk (fun b e => .inr (by omega))⟩
section
variable (B r : Nat) (bA A : Option Addr) (bc c : Nat) (s : Sk) (w : World)
set_option maxRecDepth 100000 in
set_option maxHeartbeats 1000000 in
theorem rpop_none (hC : RefAt B w r bA bc A c s) (hn : s.l = []) : Calls Try.prog 60 #[.pointer (some ⟨r, 0, none⟩)] w fun e w' => e = .returned (.tuple #[Pat.zeroP.v, .int .i64 5]) ∧ RW B w r s w' := by
  have HF : Hid (∀ w', Below w.heap.size w w' → RW B w r s w') := fun w' h => hC.rw h
  have h0 : s.l.length = 0 := by rw [hn]; rfl
  have HB1 : Hid (Below w.heap.size w (w.alloc (.cells #[.int .i64 0, .int .i64 0, .string ⟨#[]⟩] 38))) := (Below.refl _ _).alloc (Nat.le_refl _) _
  have HX : Hid (Pat.Boxed (w.alloc (.cells #[.int .i64 0, .int .i64 0, .string ⟨#[]⟩] 38)) w.heap.size Pat.zeroP) := Pat.boxed1 w Pat.zeroP
  have c1 := hC.hcells.2.1
  have hr1 := hC.glt
  rw [h0] at c1
  clear hC hn h0
  go_enter Try.func60, Try.ntmps60
  go_wp2
  refine bodyPost_ret (v := .tuple #[Pat.zeroP.v, .int .i64 5]) ?_ rfl ⟨rfl, HF.out _ HB1.out⟩
  exact Pat.results_cell_row_tmp rfl _ _ w.heap.size 38 Pat.zeroP.cs.toArray (0, 0) _ rfl HX.out Try.underlying38 rfl Pat.info38 _ rfl
set_option maxRecDepth 100000 in
set_option maxHeartbeats 2000000 in
theorem rpop_yes (x : On) (hC : RefAt B w r bA bc A c s) (n : Nat) (hn : s.l.length = n + 1) (hx : onn s.l n = x) (hl : n ≤ 900) : Calls Try.prog 60 #[.pointer (some ⟨r, 0, none⟩)] w fun e w' => e = .returned (.tuple #[x.p.v, .int .i64 0]) ∧ RW B w r (popS s) w' := by
  obtain ⟨b, rfl, h1, h2, hb, d0, d1, d2, d3⟩ := hC.at_ (i := n) (by omega)
  rw [hx] at d0 d1 d2 d3
  have c1 := hC.hcells.2.1
  have hr1 := hC.glt
  rw [hn] at c1 h1
  unfold maxLen at h2
  have hw : IntKind.i64.wrap ((n : Int) + 1 - 1) = (n : Int) := by rw [IntWalk.i64_in _ (by omega)]; omega
  have hw2 : IntKind.i64.wrap (n : Int) = (n : Int) := IntWalk.i64_in _ (by omega)
  have hn0 : (0 : Int) ≤ (n : Int) := by omega
  have hne : ((n : Int) + 1 == 0) = false := by simp; omega
  have hlt : (n : Int) < (n : Int) + 1 := by omega
  have hnc : n ≤ c := by omega
  have HC := Lib.hid hC
  have Hlen := Lib.hid hn
  obtain ⟨y, pb, po, ps⟩ := x
  simp only at d0 d1 d2 d3
  clear hC hn hx
  unfold Pat.Pt.v
  obtain ⟨i0, hi0, hz0, hz1, hz2⟩ := info_parts infoO
  obtain ⟨W1, hW1⟩ : ∃ W1, W1 = w.alloc (.cells #[.int .i64 0, .int .i64 0, .string ⟨#[]⟩] 38) := ⟨_, rfl⟩
  have hB1 : Below w.heap.size w W1 := by rw [hW1]; exact (Below.refl _ _).alloc (Nat.le_refl _) _
  have HX := Lib.hid (show Pat.Boxed W1 w.heap.size Pat.zeroP by rw [hW1]; exact Pat.boxed1 w Pat.zeroP)
  have HB1 := Lib.hid hB1
  have HD : Hid (∀ V, Below w.heap.size w V → V.cell? ⟨r, 1, none⟩ = some (.slice (some ⟨b, 0, none⟩) (n + 1) c) ∧ V.cell? ⟨b, n * 4, none⟩ = some (.int .i64 y) ∧ V.cell? ⟨b, n * 4 + 1, none⟩ = some (.int .i64 pb) ∧ V.cell? ⟨b, n * 4 + 2, none⟩ = some (.int .i64 po) ∧ V.cell? ⟨b, n * 4 + 3, none⟩ = some (.string ps) ∧ r < V.heap.size ∧ b < V.heap.size) := fun V hV =>
    ⟨(hV.cell (p := ⟨r, 1, none⟩) hr1).trans c1, (hV.cell (p := ⟨b, n * 4, none⟩) hb).trans d0, (hV.cell (p := ⟨b, n * 4 + 1, none⟩) hb).trans d1, (hV.cell (p := ⟨b, n * 4 + 2, none⟩) hb).trans d2, (hV.cell (p := ⟨b, n * 4 + 3, none⟩) hb).trans d3, Nat.lt_of_lt_of_le hr1 hV.size, Nat.lt_of_lt_of_le hb hV.size⟩
  go_enter Try.func60, Try.ntmps60
  go_wp2_with fail
  rw [← hW1]
  have hs1 : W1.heap.size = w.heap.size + 1 := by rw [hW1]; simp
  clear hW1 hB1 c1 hr1 hb d0 d1 d2 d3
  obtain ⟨c1, d0, d1, d2, d3, hr1, hb⟩ := HD.out W1 HB1.out
  have X0 := Lib.hid (HD.out W1.drew HB1.out.drew)
  have X1 := Lib.hid (HD.out W1 HB1.out)
  have XA := Lib.hid (HD.out (W1.alloc (.cells #[.int .i64 0, .int .i64 0, .string ⟨#[]⟩] 38)).drew (HB1.out.alloc HB1.out.size _).drew)
  have XB := Lib.hid (HD.out (W1.alloc (.cells #[.int .i64 pb, .int .i64 po, .string ps] 38)).drew (HB1.out.alloc HB1.out.size _).drew)
  go_region_held3 (fun V => V.cell? ⟨r, 1, none⟩ = some (.slice (some ⟨b, 0, none⟩) (n + 1) c) ∧ V.cell? ⟨b, n * 4, none⟩ = some (.int .i64 y) ∧ V.cell? ⟨b, n * 4 + 1, none⟩ = some (.int .i64 pb) ∧ V.cell? ⟨b, n * 4 + 2, none⟩ = some (.int .i64 po) ∧ V.cell? ⟨b, n * 4 + 3, none⟩ = some (.string ps) ∧ r < V.heap.size ∧ b < V.heap.size) (first | exact X0.out | exact X1.out | exact XA.out | exact XB.out) (fail)
  clear c1 d0 d1 d2 d3 hr1 hb
  obtain ⟨W2, hW2⟩ : ∃ W2, W2 = (W1.alloc (.cells #[.int .i64 pb, .int .i64 po, .string ps] 38)).drew := ⟨_, rfl⟩
  have hB2 : Below w.heap.size w W2 := by rw [hW2]; exact (HB1.out.alloc HB1.out.size _).drew
  have HX2 := Lib.hid (show Pat.Boxed W2 w.heap.size Pat.zeroP by rw [hW2]; exact (HX.out.below ((Below.refl W1.heap.size W1).alloc (Nat.le_refl _) _).drew (by omega)))
  have HP2 := Lib.hid (show Pat.Boxed W2 W1.heap.size ⟨pb, po, ps⟩ by rw [hW2]; exact Pat.boxed1 W1 ⟨pb, po, ps⟩)
  have HB2 := Lib.hid hB2
  go_wp2_with fail
  rw [← hW2]
  have hs2 : W2.heap.size = W1.heap.size + 1 := by rw [hW2]; simp
  clear hW2 hB2 HX
  have C2 := Lib.hid (HC.out.fresh HB2.out)
  have B0 : Hid (Below W2.heap.size W2 W2.drew) := (Below.refl _ _).drew
  have HKeep : Hid (∀ V, Below W2.heap.size W2 V → V.cell? ⟨r, 1, none⟩ = some (.slice (some ⟨b, 0, none⟩) (n + 1) c)) := fun V hV => by have := (C2.out.fresh hV).hcells.2.1; rwa [Hlen.out] at this
  have HTake : Hid (flatO (s.l.take n) = (flatO s.l).take (n * 4)) := (flatO_take _ _).symm
  have Hfl : Hid ((flatO (s.l.take n)).length = n * 4) := by unfold Hid; rw [length_flatO, List.length_take, Hlen.out]; omega
  have Hsrc : Hid (∀ V, Below W2.heap.size W2 V → ∀ ad, some (⟨b, 0, none⟩ : Addr) = some ad → ∀ j u, (flatO (s.l.take n))[j]? = some u → V.cell? (ad.add j) = some u) := fun V hV ad e j u hu => by
    refine (row_src (C2.out.fresh hV).row).1 ad e j u ?_
    have hj := (List.getElem?_eq_some_iff.1 hu).1
    rw [Hfl.out] at hj
    rw [HTake.out, List.getElem?_take_of_lt hj] at hu
    exact hu
  have Hone := Lib.hid (flatO_one (s.l.take n))
  have HNew : Hid (∀ V, Below W2.heap.size W2 V → Below W2.heap.size W2 (V.alloc (.cells #[] 97)) ∧ (V.alloc (.cells #[] 97)).ownsRow W2.heap.size 97 4 (.slice (some ⟨V.heap.size, 0, none⟩) 0 0) 0 []) := fun V hV =>
    ⟨hV.alloc hV.size _, World.ownsRow_made V #[] 0 hV.size (by simp) (by simp)⟩
  have HFin : Hid (∀ V V' A2 c2 (row : Option Nat), Below W2.heap.size W2 V → (∀ b, row = some b → W2.heap.size ≤ b) → V.grownBy V' row → V'.ownsRow W2.heap.size 97 4 (.slice A2 n c2) n (([] : List Value) ++ flatO (s.l.take n)) →
      Below W2.heap.size W2 V' ∧ V'.cell? ⟨r, 1, none⟩ = some (.slice (some ⟨b, 0, none⟩) (n + 1) c) ∧ V'.frozen? ⟨r, 1, none⟩ = false ∧ r < V'.heap.size ∧ Pat.Boxed (V'.setCell ⟨r, 1, none⟩ (.slice A2 n c2)) w.heap.size Pat.zeroP ∧ Pat.Boxed (V'.setCell ⟨r, 1, none⟩ (.slice A2 n c2)) W1.heap.size ⟨pb, po, ps⟩ ∧ RW B w r (popS s) (V'.setCell ⟨r, 1, none⟩ (.slice A2 n c2)) ∧ w.heap.size ≤ (V'.setCell ⟨r, 1, none⟩ (.slice A2 n c2)).heap.size) := fun V V' A2 c2 row hV hrow hg ho => by
    have hb := hV.grown hg hV.size hrow
    have h4 := C2.out.fresh hb
    have hN := new_row (l2 := s.l.take n) C2.out hb (by simpa using ho) (by rw [List.length_take, Hlen.out]; omega)
    have hd : s.l.dropLast = s.l.take n := by rw [List.dropLast_eq_take, Hlen.out]; rfl
    have hrr : r < w.heap.size := HC.out.glt
    refine ⟨hb, (by have := h4.hcells.2.1; rwa [Hlen.out] at this), h4.free 1, h4.glt, ?_, ?_, ⟨⟨_, _, _, _, by unfold popS; rw [hd]; exact hN.1⟩, (Kept.fresh HB2.out).trans hN.2 (fun b e => .inl e)⟩, ?_⟩
    · exact Pat.BlkIs.far (HX2.out.below hb (by omega)) (by omega) 1 _
    · exact Pat.BlkIs.far (HP2.out.below hb (by omega)) (by omega) 1 _
    · rw [World.size_setCell]; have := hb.size; omega
  have X := Lib.hid (HKeep.out _ B0.out)
  have HRr := Lib.hid (HC.out.glt)
  clear HC C2 HX2 HP2 HD
  generalize flatO (s.l.take n) = fl at *
  refine beginZ (fun V => V.cell? ⟨r, 1, none⟩ = some (.slice (some ⟨b, 0, none⟩) (n + 1) c)) 16 (by kernel_rfl) (X.out) (fun hHeld => ?_)
  generalize W2.drew = w0 at *
  refine takeZ 0 [15, 14, 0] (some 30) (v := ?_) rfl rfl (by kernel_rfl) (by kernel_rfl) (by kernel_rfl) (by kernel_rfl) (by kernel_rfl) (fun _ _ _ h => h) (by rfl) ?_ (by assumption) ?_
  rotate_left
  · (intro w hSw; (try dsimp only at hSw); go_simp; try with_reducible rfl)
  simp only [Act.put, List.setIfInBounds_toArray, List.set_cons_zero, List.set_cons_succ]
  refine takeZ 2 [13, 12, 5, 4, 3, 2] (some 32) (v := ?_) rfl rfl (by kernel_rfl) (by kernel_rfl) (by kernel_rfl) (by kernel_rfl) (by kernel_rfl) (fun _ _ _ h => h) (by rfl) ?_ (by assumption) ?_
  rotate_left
  · (intro w hSw; (try dsimp only at hSw); go_simp; try with_reducible rfl)
  simp only [Act.put, List.setIfInBounds_toArray, List.set_cons_zero, List.set_cons_succ]
  refine takeZ 3 [13, 12, 5, 4, 3] (some 33) (v := ?_) rfl rfl (by kernel_rfl) (by kernel_rfl) (by kernel_rfl) (by kernel_rfl) (by kernel_rfl) (fun _ _ _ h => h) (by rfl) ?_ (by assumption) ?_
  rotate_left
  · (intro w hSw; (try dsimp only at hSw); go_simp; try with_reducible rfl)
  simp only [Act.put, List.setIfInBounds_toArray, List.set_cons_zero, List.set_cons_succ]
  refine takeZ 4 [13, 12, 5, 4] (some 34) (v := ?_) rfl rfl (by kernel_rfl) (by kernel_rfl) (by kernel_rfl) (by kernel_rfl) (by kernel_rfl) (fun _ _ _ h => h) (by rfl) ?_ (by assumption) ?_
  rotate_left
  · (intro w hSw; (try dsimp only at hSw); go_simp; try with_reducible rfl)
  simp only [Act.put, List.setIfInBounds_toArray, List.set_cons_zero, List.set_cons_succ]
  refine takeZ 5 [13, 12, 5] (some 35) (v := ?_) rfl rfl (by kernel_rfl) (by kernel_rfl) (by kernel_rfl) (by kernel_rfl) (by kernel_rfl) (fun _ _ _ h => h) (by rfl) ?_ (by assumption) ?_
  rotate_left
  · (intro w hSw; (try dsimp only at hSw); go_simp; try with_reducible rfl)
  simp only [Act.put, List.setIfInBounds_toArray, List.set_cons_zero, List.set_cons_succ]
  refine takeZ 6 [13, 12, 11, 10, 9, 8, 7, 6] (some 36) (v := ?_) rfl rfl (by kernel_rfl) (by kernel_rfl) (by kernel_rfl) (by kernel_rfl) (by kernel_rfl) (fun _ _ _ h => h) (by rfl) ?_ (by assumption) ?_
  rotate_left
  · (intro w hSw; (try dsimp only at hSw); go_simp; try with_reducible rfl)
  simp only [Act.put, List.setIfInBounds_toArray, List.set_cons_zero, List.set_cons_succ]
  refine takeZ 7 [13, 12, 11, 10, 9, 8, 7] (some 37) (v := ?_) rfl rfl (by kernel_rfl) (by kernel_rfl) (by kernel_rfl) (by kernel_rfl) (by kernel_rfl) (fun _ _ _ h => h) (by rfl) ?_ (by assumption) ?_
  rotate_left
  · (intro w hSw; (try dsimp only at hSw); go_simp; try with_reducible rfl)
  simp only [Act.put, List.setIfInBounds_toArray, List.set_cons_zero, List.set_cons_succ]
  refine takeZ 8 [13, 12, 11, 10, 9, 8] (some 38) (v := ?_) rfl rfl (by kernel_rfl) (by kernel_rfl) (by kernel_rfl) (by kernel_rfl) (by kernel_rfl) (fun _ _ _ h => h) (by rfl) ?_ (by assumption) ?_
  rotate_left
  · (intro w hSw; (try dsimp only at hSw); go_simp; try with_reducible rfl)
  simp only [Act.put, List.setIfInBounds_toArray, List.set_cons_zero, List.set_cons_succ]
  refine takeZ 9 [13, 12, 11, 10, 9] (some 39) (v := ?_) rfl rfl (by kernel_rfl) (by kernel_rfl) (by kernel_rfl) (by kernel_rfl) (by kernel_rfl) (fun _ _ _ h => h) (by rfl) ?_ (by assumption) ?_
  rotate_left
  · (intro w hSw; (try dsimp only at hSw); go_simp; try with_reducible rfl)
  simp only [Act.put, List.setIfInBounds_toArray, List.set_cons_zero, List.set_cons_succ]
  refine takeZ 10 [13, 12, 11, 10] (some 40) (v := ?_) rfl rfl (by kernel_rfl) (by kernel_rfl) (by kernel_rfl) (by kernel_rfl) (by kernel_rfl) (fun _ _ _ h => h) (by rfl) ?_ (by assumption) ?_
  rotate_left
  · (intro w hSw; (try dsimp only at hSw); go_simp; try with_reducible rfl)
  simp only [Act.put, List.setIfInBounds_toArray, List.set_cons_zero, List.set_cons_succ]
  refine takeZ 11 [13, 12, 11] (some 41) (v := ?_) rfl rfl (by kernel_rfl) (by kernel_rfl) (by kernel_rfl) (by kernel_rfl) (by kernel_rfl) (fun _ _ _ h => h) (by rfl) ?_ (by assumption) ?_
  rotate_left
  · (intro w hSw; (try dsimp only at hSw); go_simp; try with_reducible rfl)
  simp only [Act.put, List.setIfInBounds_toArray, List.set_cons_zero, List.set_cons_succ]
  refine takeZ 12 [13, 12] (some 42) (v := ?_) rfl rfl (by kernel_rfl) (by kernel_rfl) (by kernel_rfl) (by kernel_rfl) (by kernel_rfl) (fun _ _ _ h => h) (by rfl) ?_ (by assumption) ?_
  rotate_left
  · (intro w hSw; (try dsimp only at hSw); go_simp; try with_reducible rfl)
  simp only [Act.put, List.setIfInBounds_toArray, List.set_cons_zero, List.set_cons_succ]
  refine readyZ (rs := [1]) (by kernel_rfl) (by simp) ?_
  refine AllZ.cons rfl (fun K hK => ?_) AllZ.nil
  go_simp
  obtain ⟨hb1, ho1⟩ := HNew.out w0 B0.out
  have HB1b := Lib.hid hb1
  have HO1 := Lib.hid ho1
  clear hb1 ho1
  refine hK _ _ (fun _ => HKeep.out _ HB1b.out) (fun hHeld => ?_)
  clear hK K
  try simp only [Act.put, List.setIfInBounds_toArray, List.set_cons_zero, List.set_cons_succ]
  replace hHeld := hHeld (by decide)
  refine readyZ (rs := [13]) (by kernel_rfl) (by simp) ?_
  refine AllZ.cons rfl (fun K hK => ?_) AllZ.nil
  refine step_append_src rfl (.tmp 31) (.tmp 42) 93 rfl W2.heap.size 97 i0 zeroO 4 40 Try.underlying93 hi0 hz0 hz1 hz2 rfl (by decide) (.slice (some ⟨w0.heap.size, 0, none⟩) 0 0) 0 [] rfl HO1.out (some ⟨b, 0, none⟩) n c fl rfl Hfl.out (Hsrc.out _ HB1b.out) (fun e => by cases e) Hone.out (by unfold maxLen; omega) (by omega) HB1b.out.size n (by omega) ?_
  intro A4 c4 w4 ho4 hg4 hor4
  have HO4 := Lib.hid ho4
  have HG4 := Lib.hid hg4
  clear ho4 hg4 hor4
  refine hK _ _ (fun _ => HKeep.out _ (HB1b.out.grown HG4.out HB1b.out.size (fun b e => (HO1.out.lt b e).1))) (fun hHeld => ?_)
  clear hK K
  try simp only [Act.put, List.setIfInBounds_toArray, List.set_cons_zero, List.set_cons_succ]
  replace hHeld := hHeld (by decide)
  refine takeZ 14 [15, 14] (some 44) (v := ?_) rfl rfl (by kernel_rfl) (by kernel_rfl) (by kernel_rfl) (by kernel_rfl) (by kernel_rfl) (fun _ _ _ h => h) (by rfl) ?_ (by assumption) ?_
  rotate_left
  · (intro w hSw; (try dsimp only at hSw); go_simp; try with_reducible rfl)
  simp only [Act.put, List.setIfInBounds_toArray, List.set_cons_zero, List.set_cons_succ]
  refine takeZ 15 [15] (some 45) (v := ?_) rfl rfl (by kernel_rfl) (by kernel_rfl) (by kernel_rfl) (by kernel_rfl) (by kernel_rfl) (fun _ _ _ h => h) (by rfl) ?_ (by assumption) ?_
  rotate_left
  · (intro w hSw; (try dsimp only at hSw); go_simp; try with_reducible rfl)
  simp only [Act.put, List.setIfInBounds_toArray, List.set_cons_zero, List.set_cons_succ]
  refine readyZ (rs := [16]) (by kernel_rfl) (by simp) ?_
  refine AllZ.cons rfl (fun K hK => ?_) AllZ.nil
  have HZ := Lib.hid (HFin.out _ w4 A4 c4 (some w0.heap.size) HB1b.out (fun b e => by cases e; exact B0.out.size) HG4.out HO4.out)
  have e0 := HZ.out.2.1
  have f0 := HZ.out.2.2.1
  have l0 := HZ.out.2.2.2.1
  go_simp
  refine hK _ _ (fun e => absurd rfl e) (fun hHeld => ?_)
  clear hK K
  try simp only [Act.put, List.setIfInBounds_toArray, List.set_cons_zero, List.set_cons_succ]
  refine doneZ (by kernel_rfl) ?_ _
  obtain ⟨z0, z1, z2⟩ := HZ.out.2.2.2.2.1.cells
  have hfz := HZ.out.2.2.2.2.1.frozen
  obtain ⟨y0, y1, y2⟩ := HZ.out.2.2.2.2.2.1.cells
  have HQ := Lib.hid HZ.out.2.2.2.2.1
  have HE := Lib.hid HZ.out.2.2.2.2.2.2
  simp only [Pat.zeroP] at z0 z1 z2
  clear HZ e0 f0 l0
  generalize w4.setCell ⟨r, 1, none⟩ (.slice A4 n c4) = W at *
  rw [hs1] at y0 y1 y2
  go_wp2
  refine bodyPost_ret (v := .tuple #[(⟨pb, po, ps⟩ : Pt).v, .int .i64 0]) ?_ rfl ⟨rfl, RW.box HE.out.1 HQ.out ⟨pb, po, ps⟩ HRr.out⟩
  exact Pat.results_cell_row_tmp rfl _ _ w.heap.size 38 (⟨pb, po, ps⟩ : Pt).cs.toArray (0, 0) _ rfl (box_set HQ.out ⟨pb, po, ps⟩) Try.underlying38 rfl Pat.info38 _ rfl
end
end Go.Proofs.Ytibkipdadpidnaa
