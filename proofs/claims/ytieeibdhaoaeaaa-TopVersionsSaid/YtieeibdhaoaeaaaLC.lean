/- A deed on both disks: the walk of 'do'. -/
import Derived.Test.YtieeibdhaoaeaaaLB
set_option linter.unusedVariables false
set_option linter.unusedSimpArgs false
namespace Go.Proofs.Ytieeibdhaoaeaaa
open Go.RowKit

/-- a deed -/
structure Dd where
  kind : Int
  i : Int
  c : Int
  P : Option Addr
  pick : List Int
  pc : Nat
  bad : Bool
def Dd.cs (x : Dd) : List Value := [.int .i64 x.kind, .int .i64 x.i, .int .u8 x.c, .slice x.P x.pick.length x.pc, .bool x.bad]
def Dd.v (x : Dd) : Value := .agg #[.int .i64 x.kind, .int .i64 x.i, .int .u8 x.c, .slice x.P x.pick.length x.pc, .bool x.bad]
/-- a deed in a block of its own -/
def InBox (W : World) (bx : Nat) (x : Dd) : Prop := W.cell? ⟨bx, 1, none⟩ = some (.int .i64 x.i) ∧ W.cell? ⟨bx, 2, none⟩ = some (.int .u8 x.c) ∧ W.cell? ⟨bx, 3, none⟩ = some (.slice x.P x.pick.length x.pc) ∧ W.cell? ⟨bx, 4, none⟩ = some (.bool x.bad)
theorem inBox_new (w : World) (x : Dd) : InBox (w.alloc (.cells x.cs.toArray 41)) w.heap.size x := by
  have h : ∀ j, (w.alloc (.cells x.cs.toArray 41)).cell? ⟨w.heap.size, j, none⟩ = x.cs[j]? := fun j => by rw [cell_of_row _ w.heap.size j x.cs.toArray 41 (0, 0) (heap_alloc_new w _)]; simp
  exact ⟨by rw [h]; rfl, by rw [h]; rfl, by rw [h]; rfl, by rw [h]; rfl⟩
theorem InBox.same {W W' : World} {bx : Nat} {x : Dd} (h : InBox W bx x) (e : W'.heap[bx]? = W.heap[bx]?) : InBox W' bx x :=
  ⟨(World.cell?_of_block e).trans h.1, (World.cell?_of_block e).trans h.2.1, (World.cell?_of_block e).trans h.2.2.1, (World.cell?_of_block e).trans h.2.2.2⟩
/-- what a deed's two calls leave: cw the program's, rw the document's -/
structure DoH (fc fr : Nat) (w : World) (d r : Nat) (x : Dd) (ac ar : Array Value) (e0 : Int) (M Q : World → Prop) : Prop where
  cw : ∀ W, Below (w.alloc (.cells x.cs.toArray 41)).heap.size (w.alloc (.cells x.cs.toArray 41)) W → Calls Try.prog fc (#[.pointer (some ⟨d, 0, none⟩)] ++ ac) W fun e w' => e = .returned (.int .i64 e0) ∧ InBox w' w.heap.size x ∧ M w'
  mf : ∀ W W', (InBox W w.heap.size x ∧ M W) → Below W.heap.size W W' → InBox W' w.heap.size x ∧ M W'
  rw : ∀ W, (InBox W w.heap.size x ∧ M W) → Calls Try.prog fr (#[.pointer (some ⟨r, 0, none⟩)] ++ ar) W fun e w' => e = .returned (.int .i64 e0) ∧ InBox w' w.heap.size x ∧ Q w'
set_option maxRecDepth 100000 in
set_option linter.unusedSimpArgs false in
set_option maxHeartbeats 1000000 in
theorem do_walk0 (w : World) (d r : Nat) (x : Dd) (e0 : Int) (M Q : World → Prop) (hx : x.kind = 0)
    (HW : DoH 17 43 w d r x #[.int .i64 x.i, secV (uniS x.c)] #[.int .i64 x.i, secV (uniS x.c)] e0 M Q) : Calls Try.prog 28 #[.pointer (some ⟨d, 0, none⟩), .pointer (some ⟨r, 0, none⟩), x.v] w fun e w' => e = .returned (.bool true) ∧ Q w' := by
  obtain ⟨bx, hbx⟩ : ∃ bx, bx = w.heap.size := ⟨_, rfl⟩
  obtain ⟨w1, hw1⟩ : ∃ w1, w1 = w.alloc (.cells x.cs.toArray 41) := ⟨_, rfl⟩
  have Hw1 : Hid (w.alloc (.cells #[.int .i64 0, .int .i64 x.i, .int .u8 x.c, .slice x.P x.pick.length x.pc, .bool x.bad] 41) = w1) := by rw [hw1, ← hx]; rfl
  have X1 : InBox w1 bx x := by rw [hw1, hbx]; exact inBox_new w x
  have hbl : bx < w1.heap.size := by rw [hw1, hbx]; simp
  have HX : Hid (∀ W, Below w1.heap.size w1 W → InBox W bx x) := fun W hB => X1.same (hB.block bx hbl)
  have B1d : Hid (Below w1.heap.size w1 w1.drew) := (Below.refl _ _).drew
  have X1d : Hid (InBox w1.drew bx x) := HX.out _ B1d.out
  have B1r : Hid (Below w1.heap.size w1 w1) := Below.refl _ _
  have X1r : Hid (InBox w1 bx x) := X1
  have CW := Lib.hid HW.cw
  have RW := Lib.hid HW.rw
  have MF := Lib.hid HW.mf
  rw [← hw1, ← hbx] at CW
  rw [← hbx] at RW MF
  simp only [List.push_toArray, List.append_toArray, List.nil_append, List.cons_append] at CW RW
  have SX : Hid (∀ W, Calls Try.prog 18 #[.int .u8 x.c] W fun e w' => e = .returned (secV (uniS x.c)) ∧ Below W.heap.size W w') := fun W => sector_any x.c W
  obtain ⟨U, hU⟩ : ∃ U, U = secV (uniS x.c) := ⟨_, rfl⟩
  rw [← hU] at CW RW SX
  clear hU
  unfold Dd.v
  rw [hx]
  unfold InBox at X1 HX X1d X1r CW RW MF
  obtain ⟨x1, x2, x3, x4⟩ := X1
  have Hbx := Lib.hid hbx
  clear HW hx hw1 hbl hbx
  go_enter Try.func28, Try.ntmps28
  go_wp2_with fail
  rw [Hw1.out, ← Hbx.out]
  refine wp_region_held_drew (S := (fun W => W.cell? ⟨bx, 1, none⟩ = some (.int .i64 x.i) ∧ W.cell? ⟨bx, 2, none⟩ = some (.int .u8 x.c) ∧ W.cell? ⟨bx, 3, none⟩ = some (.slice x.P x.pick.length x.pc) ∧ W.cell? ⟨bx, 4, none⟩ = some (.bool x.bad))) (by kernel_rfl) (X1d.out) (fun hHeld => ?_)
  refine takeH (i := 0) (some 11) (v := ?_) rfl rfl (by kernel_rfl) (by kernel_rfl) (by kernel_rfl) (fun _ _ _ h => h) (by rfl) ?_ (by assumption) ?_
  rotate_left
  · (intro w hSw; (try dsimp only at hSw); obtain ⟨hS1, hS2, hS3, hS4⟩ := hSw; go_simp; try with_reducible rfl)
  simp only [Act.put, List.setIfInBounds_toArray, List.set_cons_zero, List.set_cons_succ]
  refine takeH (i := 1) (some 12) (v := ?_) rfl rfl (by kernel_rfl) (by kernel_rfl) (by kernel_rfl) (fun _ _ _ h => h) (by rfl) ?_ (by assumption) ?_
  rotate_left
  · (intro w hSw; (try dsimp only at hSw); obtain ⟨hS1, hS2, hS3, hS4⟩ := hSw; go_simp; try with_reducible rfl)
  simp only [Act.put, List.setIfInBounds_toArray, List.set_cons_zero, List.set_cons_succ]
  refine takeH (i := 2) (some 13) (v := ?_) rfl rfl (by kernel_rfl) (by kernel_rfl) (by kernel_rfl) (fun _ _ _ h => h) (by rfl) ?_ (by assumption) ?_
  rotate_left
  · (intro w hSw; (try dsimp only at hSw); obtain ⟨hS1, hS2, hS3, hS4⟩ := hSw; go_simp; try with_reducible rfl)
  simp only [Act.put, List.setIfInBounds_toArray, List.set_cons_zero, List.set_cons_succ]
  refine takeH (i := 3) (some 14) (v := ?_) rfl rfl (by kernel_rfl) (by kernel_rfl) (by kernel_rfl) (fun _ _ _ h => h) (by rfl) ?_ (by assumption) ?_
  rotate_left
  · (intro w hSw; (try dsimp only at hSw); obtain ⟨hS1, hS2, hS3, hS4⟩ := hSw; go_simp; try with_reducible rfl)
  simp only [Act.put, List.setIfInBounds_toArray, List.set_cons_zero, List.set_cons_succ]
  refine takeH (i := 4) (some 15) (v := ?_) rfl rfl (by kernel_rfl) (by kernel_rfl) (by kernel_rfl) (fun _ _ _ h => h) (by rfl) ?_ (by assumption) ?_
  rotate_left
  · (intro w hSw; (try dsimp only at hSw); obtain ⟨hS1, hS2, hS3, hS4⟩ := hSw; go_simp; try with_reducible rfl)
  simp only [Act.put, List.setIfInBounds_toArray, List.set_cons_zero, List.set_cons_succ]
  refine takeH (i := 7) (some 18) (v := ?_) rfl rfl (by kernel_rfl) (by kernel_rfl) (by kernel_rfl) (fun _ _ _ h => h) (by rfl) ?_ (by assumption) ?_
  rotate_left
  · (intro w hSw; (try dsimp only at hSw); obtain ⟨hS1, hS2, hS3, hS4⟩ := hSw; go_simp; try with_reducible rfl)
  simp only [Act.put, List.setIfInBounds_toArray, List.set_cons_zero, List.set_cons_succ]
  refine takeH (i := 8) (some 19) (v := ?_) rfl rfl (by kernel_rfl) (by kernel_rfl) (by kernel_rfl) (fun _ _ _ h => h) (by rfl) ?_ (by assumption) ?_
  rotate_left
  · (intro w hSw; (try dsimp only at hSw); obtain ⟨hS1, hS2, hS3, hS4⟩ := hSw; go_simp; try with_reducible rfl)
  simp only [Act.put, List.setIfInBounds_toArray, List.set_cons_zero, List.set_cons_succ]
  refine takeH (i := 9) (some 20) (v := ?_) rfl rfl (by kernel_rfl) (by kernel_rfl) (by kernel_rfl) (fun _ _ _ h => h) (by rfl) ?_ (by assumption) ?_
  rotate_left
  · (intro w hSw; (try dsimp only at hSw); obtain ⟨hS1, hS2, hS3, hS4⟩ := hSw; go_simp; try with_reducible rfl)
  simp only [Act.put, List.setIfInBounds_toArray, List.set_cons_zero, List.set_cons_succ]
  refine takeH (i := 10) (some 21) (v := ?_) rfl rfl (by kernel_rfl) (by kernel_rfl) (by kernel_rfl) (fun _ _ _ h => h) (by rfl) ?_ (by assumption) ?_
  rotate_left
  · (intro w hSw; (try dsimp only at hSw); obtain ⟨hS1, hS2, hS3, hS4⟩ := hSw; go_simp; try with_reducible rfl)
  simp only [Act.put, List.setIfInBounds_toArray, List.set_cons_zero, List.set_cons_succ]
  refine takeH (i := 11) (some 22) (v := ?_) rfl rfl (by kernel_rfl) (by kernel_rfl) (by kernel_rfl) (fun _ _ _ h => h) (by rfl) ?_ (by assumption) ?_
  rotate_left
  · (intro w hSw; (try dsimp only at hSw); obtain ⟨hS1, hS2, hS3, hS4⟩ := hSw; go_simp; try with_reducible rfl)
  simp only [Act.put, List.setIfInBounds_toArray, List.set_cons_zero, List.set_cons_succ]
  refine wpAnyH_ready (rs := [5]) (by kernel_rfl) (by simp) ?_
  refine AllReadyH.cons rfl (fun K hK => ?_) AllReadyH.nil
  go_simp
  refine (SX.out _).mono ?_
  rintro e w2 ⟨rfl, hB⟩
  have B2 : Hid (Below w1.heap.size w1 w2) := ((Below.refl w1.heap.size w1).drew).trans hB
  have X2 := Lib.hid (HX.out _ B2.out)
  clear hB
  refine hK _ _ (X2.out) (fun hHeld => ?_)
  clear hK K
  try simp only [Act.put, List.setIfInBounds_toArray, List.set_cons_zero, List.set_cons_succ]
  refine wpAnyH_ready (rs := [6]) (by kernel_rfl) (by simp) ?_
  refine AllReadyH.cons rfl (fun K hK => ?_) AllReadyH.nil
  go_simp
  refine (CW.out _ B2.out).mono ?_
  rintro e w3 ⟨rfl, hx, hm⟩
  have X3 := Lib.hid hx
  have M3 := Lib.hid hm
  clear hx hm
  refine hK _ _ (X3.out) (fun hHeld => ?_)
  clear hK K
  try simp only [Act.put, List.setIfInBounds_toArray, List.set_cons_zero, List.set_cons_succ]
  refine wpAnyH_ready (rs := [12]) (by kernel_rfl) (by simp) ?_
  refine AllReadyH.cons rfl (fun K hK => ?_) AllReadyH.nil
  go_simp
  refine (SX.out _).mono ?_
  rintro e w4 ⟨rfl, hB⟩
  have M4 := Lib.hid (MF.out _ _ ⟨X3.out, M3.out⟩ hB)
  clear hB
  refine hK _ _ (M4.out.1) (fun hHeld => ?_)
  clear hK K
  try simp only [Act.put, List.setIfInBounds_toArray, List.set_cons_zero, List.set_cons_succ]
  refine wpAnyH_ready (rs := [13]) (by kernel_rfl) (by simp) ?_
  refine AllReadyH.cons rfl (fun K hK => ?_) AllReadyH.nil
  go_simp
  refine (RW.out _ M4.out).mono ?_
  rintro e w5 ⟨rfl, hx, hw⟩
  have X5 := Lib.hid hx
  have W5 := Lib.hid hw
  clear hx hw
  refine hK _ _ (X5.out) (fun hHeld => ?_)
  clear hK K
  try simp only [Act.put, List.setIfInBounds_toArray, List.set_cons_zero, List.set_cons_succ]
  refine takeH (i := 14) (some 25) (v := ?_) rfl rfl (by kernel_rfl) (by kernel_rfl) (by kernel_rfl) (fun _ _ _ h => h) (by rfl) ?_ (by assumption) ?_
  rotate_left
  · (intro w hSw; (try dsimp only at hSw); obtain ⟨hS1, hS2, hS3, hS4⟩ := hSw; go_simp; try with_reducible rfl)
  simp only [Act.put, List.setIfInBounds_toArray, List.set_cons_zero, List.set_cons_succ]
  refine takeH (i := 15) (some 6) (v := ?_) rfl rfl (by kernel_rfl) (by kernel_rfl) (by kernel_rfl) (fun _ _ _ h => h) (by rfl) ?_ (by assumption) ?_
  rotate_left
  · (intro w hSw; (try dsimp only at hSw); obtain ⟨hS1, hS2, hS3, hS4⟩ := hSw; go_simp; try with_reducible rfl)
  simp only [Act.put, List.setIfInBounds_toArray, List.set_cons_zero, List.set_cons_succ]
  refine wpAnyH_done (by kernel_rfl) ?_ _
  go_wp2
  go_ret
  exact ⟨rfl, W5.out⟩
set_option maxRecDepth 100000 in
set_option linter.unusedSimpArgs false in
set_option maxHeartbeats 1000000 in
theorem do_walk1 (w : World) (d r : Nat) (x : Dd) (e0 : Int) (M Q : World → Prop) (hx : x.kind = 1)
    (HW : DoH 15 44 w d r x #[] #[] e0 M Q) : Calls Try.prog 28 #[.pointer (some ⟨d, 0, none⟩), .pointer (some ⟨r, 0, none⟩), x.v] w fun e w' => e = .returned (.bool true) ∧ Q w' := by
  obtain ⟨bx, hbx⟩ : ∃ bx, bx = w.heap.size := ⟨_, rfl⟩
  obtain ⟨w1, hw1⟩ : ∃ w1, w1 = w.alloc (.cells x.cs.toArray 41) := ⟨_, rfl⟩
  have Hw1 : Hid (w.alloc (.cells #[.int .i64 1, .int .i64 x.i, .int .u8 x.c, .slice x.P x.pick.length x.pc, .bool x.bad] 41) = w1) := by rw [hw1, ← hx]; rfl
  have X1 : InBox w1 bx x := by rw [hw1, hbx]; exact inBox_new w x
  have hbl : bx < w1.heap.size := by rw [hw1, hbx]; simp
  have HX : Hid (∀ W, Below w1.heap.size w1 W → InBox W bx x) := fun W hB => X1.same (hB.block bx hbl)
  have B1d : Hid (Below w1.heap.size w1 w1.drew) := (Below.refl _ _).drew
  have X1d : Hid (InBox w1.drew bx x) := HX.out _ B1d.out
  have B1r : Hid (Below w1.heap.size w1 w1) := Below.refl _ _
  have X1r : Hid (InBox w1 bx x) := X1
  have CW := Lib.hid HW.cw
  have RW := Lib.hid HW.rw
  have MF := Lib.hid HW.mf
  rw [← hw1, ← hbx] at CW
  rw [← hbx] at RW MF
  simp only [List.push_toArray, List.append_toArray, List.nil_append, List.cons_append] at CW RW
  unfold Dd.v
  rw [hx]
  unfold InBox at X1 HX X1d X1r CW RW MF
  obtain ⟨x1, x2, x3, x4⟩ := X1
  have Hbx := Lib.hid hbx
  clear HW hx hw1 hbl hbx
  go_enter Try.func28, Try.ntmps28
  go_wp2_with fail
  rw [Hw1.out, ← Hbx.out]
  refine (CW.out _ B1r.out).mono ?_
  rintro e w3 ⟨rfl, hx, hm⟩
  have X3 := Lib.hid hx
  have M3 := Lib.hid hm
  clear hx hm
  go_wp2_with fail
  refine (RW.out _ ⟨X3.out, M3.out⟩).mono ?_
  rintro e w5 ⟨rfl, hx, hw⟩
  have X5 := Lib.hid hx
  have W5 := Lib.hid hw
  clear hx hw
  go_wp2
  go_ret
  exact ⟨rfl, W5.out⟩
set_option maxRecDepth 100000 in
set_option linter.unusedSimpArgs false in
set_option maxHeartbeats 1000000 in
theorem do_walk2 (w : World) (d r : Nat) (x : Dd) (e0 : Int) (M Q : World → Prop) (hx : x.kind = 2)
    (HW : DoH 19 45 w d r x #[.slice x.P x.pick.length x.pc] #[.slice x.P x.pick.length x.pc] e0 M Q) : Calls Try.prog 28 #[.pointer (some ⟨d, 0, none⟩), .pointer (some ⟨r, 0, none⟩), x.v] w fun e w' => e = .returned (.bool true) ∧ Q w' := by
  obtain ⟨bx, hbx⟩ : ∃ bx, bx = w.heap.size := ⟨_, rfl⟩
  obtain ⟨w1, hw1⟩ : ∃ w1, w1 = w.alloc (.cells x.cs.toArray 41) := ⟨_, rfl⟩
  have Hw1 : Hid (w.alloc (.cells #[.int .i64 2, .int .i64 x.i, .int .u8 x.c, .slice x.P x.pick.length x.pc, .bool x.bad] 41) = w1) := by rw [hw1, ← hx]; rfl
  have X1 : InBox w1 bx x := by rw [hw1, hbx]; exact inBox_new w x
  have hbl : bx < w1.heap.size := by rw [hw1, hbx]; simp
  have HX : Hid (∀ W, Below w1.heap.size w1 W → InBox W bx x) := fun W hB => X1.same (hB.block bx hbl)
  have B1d : Hid (Below w1.heap.size w1 w1.drew) := (Below.refl _ _).drew
  have X1d : Hid (InBox w1.drew bx x) := HX.out _ B1d.out
  have B1r : Hid (Below w1.heap.size w1 w1) := Below.refl _ _
  have X1r : Hid (InBox w1 bx x) := X1
  have CW := Lib.hid HW.cw
  have RW := Lib.hid HW.rw
  have MF := Lib.hid HW.mf
  rw [← hw1, ← hbx] at CW
  rw [← hbx] at RW MF
  simp only [List.push_toArray, List.append_toArray, List.nil_append, List.cons_append] at CW RW
  unfold Dd.v
  rw [hx]
  unfold InBox at X1 HX X1d X1r CW RW MF
  obtain ⟨x1, x2, x3, x4⟩ := X1
  have Hbx := Lib.hid hbx
  clear HW hx hw1 hbl hbx
  go_enter Try.func28, Try.ntmps28
  go_wp2_with fail
  rw [Hw1.out, ← Hbx.out]
  refine wp_region_held_drew (S := (fun W => W.cell? ⟨bx, 1, none⟩ = some (.int .i64 x.i) ∧ W.cell? ⟨bx, 2, none⟩ = some (.int .u8 x.c) ∧ W.cell? ⟨bx, 3, none⟩ = some (.slice x.P x.pick.length x.pc) ∧ W.cell? ⟨bx, 4, none⟩ = some (.bool x.bad))) (by kernel_rfl) (X1d.out) (fun hHeld => ?_)
  refine takeH (i := 0) (some 35) (v := ?_) rfl rfl (by kernel_rfl) (by kernel_rfl) (by kernel_rfl) (fun _ _ _ h => h) (by rfl) ?_ (by assumption) ?_
  rotate_left
  · (intro w hSw; (try dsimp only at hSw); obtain ⟨hS1, hS2, hS3, hS4⟩ := hSw; go_simp; try with_reducible rfl)
  simp only [Act.put, List.setIfInBounds_toArray, List.set_cons_zero, List.set_cons_succ]
  refine takeH (i := 1) (some 36) (v := ?_) rfl rfl (by kernel_rfl) (by kernel_rfl) (by kernel_rfl) (fun _ _ _ h => h) (by rfl) ?_ (by assumption) ?_
  rotate_left
  · (intro w hSw; (try dsimp only at hSw); obtain ⟨hS1, hS2, hS3, hS4⟩ := hSw; go_simp; try with_reducible rfl)
  simp only [Act.put, List.setIfInBounds_toArray, List.set_cons_zero, List.set_cons_succ]
  refine takeH (i := 2) (some 37) (v := ?_) rfl rfl (by kernel_rfl) (by kernel_rfl) (by kernel_rfl) (fun _ _ _ h => h) (by rfl) ?_ (by assumption) ?_
  rotate_left
  · (intro w hSw; (try dsimp only at hSw); obtain ⟨hS1, hS2, hS3, hS4⟩ := hSw; go_simp; try with_reducible rfl)
  simp only [Act.put, List.setIfInBounds_toArray, List.set_cons_zero, List.set_cons_succ]
  refine takeH (i := 4) (some 39) (v := ?_) rfl rfl (by kernel_rfl) (by kernel_rfl) (by kernel_rfl) (fun _ _ _ h => h) (by rfl) ?_ (by assumption) ?_
  rotate_left
  · (intro w hSw; (try dsimp only at hSw); obtain ⟨hS1, hS2, hS3, hS4⟩ := hSw; go_simp; try with_reducible rfl)
  simp only [Act.put, List.setIfInBounds_toArray, List.set_cons_zero, List.set_cons_succ]
  refine takeH (i := 5) (some 40) (v := ?_) rfl rfl (by kernel_rfl) (by kernel_rfl) (by kernel_rfl) (fun _ _ _ h => h) (by rfl) ?_ (by assumption) ?_
  rotate_left
  · (intro w hSw; (try dsimp only at hSw); obtain ⟨hS1, hS2, hS3, hS4⟩ := hSw; go_simp; try with_reducible rfl)
  simp only [Act.put, List.setIfInBounds_toArray, List.set_cons_zero, List.set_cons_succ]
  refine takeH (i := 6) (some 41) (v := ?_) rfl rfl (by kernel_rfl) (by kernel_rfl) (by kernel_rfl) (fun _ _ _ h => h) (by rfl) ?_ (by assumption) ?_
  rotate_left
  · (intro w hSw; (try dsimp only at hSw); obtain ⟨hS1, hS2, hS3, hS4⟩ := hSw; go_simp; try with_reducible rfl)
  simp only [Act.put, List.setIfInBounds_toArray, List.set_cons_zero, List.set_cons_succ]
  refine wpAnyH_ready (rs := [3]) (by kernel_rfl) (by simp) ?_
  refine AllReadyH.cons rfl (fun K hK => ?_) AllReadyH.nil
  go_simp
  refine (CW.out _ B1d.out).mono ?_
  rintro e w3 ⟨rfl, hx, hm⟩
  have X3 := Lib.hid hx
  have M3 := Lib.hid hm
  clear hx hm
  refine hK _ _ (X3.out) (fun hHeld => ?_)
  clear hK K
  try simp only [Act.put, List.setIfInBounds_toArray, List.set_cons_zero, List.set_cons_succ]
  refine wpAnyH_ready (rs := [7]) (by kernel_rfl) (by simp) ?_
  refine AllReadyH.cons rfl (fun K hK => ?_) AllReadyH.nil
  go_simp
  refine (RW.out _ ⟨X3.out, M3.out⟩).mono ?_
  rintro e w5 ⟨rfl, hx, hw⟩
  have X5 := Lib.hid hx
  have W5 := Lib.hid hw
  clear hx hw
  refine hK _ _ (X5.out) (fun hHeld => ?_)
  clear hK K
  try simp only [Act.put, List.setIfInBounds_toArray, List.set_cons_zero, List.set_cons_succ]
  refine takeH (i := 8) (some 43) (v := ?_) rfl rfl (by kernel_rfl) (by kernel_rfl) (by kernel_rfl) (fun _ _ _ h => h) (by rfl) ?_ (by assumption) ?_
  rotate_left
  · (intro w hSw; (try dsimp only at hSw); obtain ⟨hS1, hS2, hS3, hS4⟩ := hSw; go_simp; try with_reducible rfl)
  simp only [Act.put, List.setIfInBounds_toArray, List.set_cons_zero, List.set_cons_succ]
  refine takeH (i := 9) (some 6) (v := ?_) rfl rfl (by kernel_rfl) (by kernel_rfl) (by kernel_rfl) (fun _ _ _ h => h) (by rfl) ?_ (by assumption) ?_
  rotate_left
  · (intro w hSw; (try dsimp only at hSw); obtain ⟨hS1, hS2, hS3, hS4⟩ := hSw; go_simp; try with_reducible rfl)
  simp only [Act.put, List.setIfInBounds_toArray, List.set_cons_zero, List.set_cons_succ]
  refine wpAnyH_done (by kernel_rfl) ?_ _
  go_wp2
  go_ret
  exact ⟨rfl, W5.out⟩
set_option maxRecDepth 100000 in
set_option linter.unusedSimpArgs false in
set_option maxHeartbeats 1000000 in
theorem do_walk3 (w : World) (d r : Nat) (x : Dd) (e0 : Int) (M Q : World → Prop) (hx : x.kind = 3)
    (HW : DoH 23 46 w d r x #[.int .i64 x.i, .bool x.bad] #[.int .i64 x.i, .bool x.bad] e0 M Q) : Calls Try.prog 28 #[.pointer (some ⟨d, 0, none⟩), .pointer (some ⟨r, 0, none⟩), x.v] w fun e w' => e = .returned (.bool true) ∧ Q w' := by
  obtain ⟨bx, hbx⟩ : ∃ bx, bx = w.heap.size := ⟨_, rfl⟩
  obtain ⟨w1, hw1⟩ : ∃ w1, w1 = w.alloc (.cells x.cs.toArray 41) := ⟨_, rfl⟩
  have Hw1 : Hid (w.alloc (.cells #[.int .i64 3, .int .i64 x.i, .int .u8 x.c, .slice x.P x.pick.length x.pc, .bool x.bad] 41) = w1) := by rw [hw1, ← hx]; rfl
  have X1 : InBox w1 bx x := by rw [hw1, hbx]; exact inBox_new w x
  have hbl : bx < w1.heap.size := by rw [hw1, hbx]; simp
  have HX : Hid (∀ W, Below w1.heap.size w1 W → InBox W bx x) := fun W hB => X1.same (hB.block bx hbl)
  have B1d : Hid (Below w1.heap.size w1 w1.drew) := (Below.refl _ _).drew
  have X1d : Hid (InBox w1.drew bx x) := HX.out _ B1d.out
  have B1r : Hid (Below w1.heap.size w1 w1) := Below.refl _ _
  have X1r : Hid (InBox w1 bx x) := X1
  have CW := Lib.hid HW.cw
  have RW := Lib.hid HW.rw
  have MF := Lib.hid HW.mf
  rw [← hw1, ← hbx] at CW
  rw [← hbx] at RW MF
  simp only [List.push_toArray, List.append_toArray, List.nil_append, List.cons_append] at CW RW
  unfold Dd.v
  rw [hx]
  unfold InBox at X1 HX X1d X1r CW RW MF
  obtain ⟨x1, x2, x3, x4⟩ := X1
  have Hbx := Lib.hid hbx
  clear HW hx hw1 hbl hbx
  go_enter Try.func28, Try.ntmps28
  go_wp2_with fail
  rw [Hw1.out, ← Hbx.out]
  refine wp_region_held_drew (S := (fun W => W.cell? ⟨bx, 1, none⟩ = some (.int .i64 x.i) ∧ W.cell? ⟨bx, 2, none⟩ = some (.int .u8 x.c) ∧ W.cell? ⟨bx, 3, none⟩ = some (.slice x.P x.pick.length x.pc) ∧ W.cell? ⟨bx, 4, none⟩ = some (.bool x.bad))) (by kernel_rfl) (X1d.out) (fun hHeld => ?_)
  refine takeH (i := 0) (some 46) (v := ?_) rfl rfl (by kernel_rfl) (by kernel_rfl) (by kernel_rfl) (fun _ _ _ h => h) (by rfl) ?_ (by assumption) ?_
  rotate_left
  · (intro w hSw; (try dsimp only at hSw); obtain ⟨hS1, hS2, hS3, hS4⟩ := hSw; go_simp; try with_reducible rfl)
  simp only [Act.put, List.setIfInBounds_toArray, List.set_cons_zero, List.set_cons_succ]
  refine takeH (i := 1) (some 47) (v := ?_) rfl rfl (by kernel_rfl) (by kernel_rfl) (by kernel_rfl) (fun _ _ _ h => h) (by rfl) ?_ (by assumption) ?_
  rotate_left
  · (intro w hSw; (try dsimp only at hSw); obtain ⟨hS1, hS2, hS3, hS4⟩ := hSw; go_simp; try with_reducible rfl)
  simp only [Act.put, List.setIfInBounds_toArray, List.set_cons_zero, List.set_cons_succ]
  refine takeH (i := 2) (some 48) (v := ?_) rfl rfl (by kernel_rfl) (by kernel_rfl) (by kernel_rfl) (fun _ _ _ h => h) (by rfl) ?_ (by assumption) ?_
  rotate_left
  · (intro w hSw; (try dsimp only at hSw); obtain ⟨hS1, hS2, hS3, hS4⟩ := hSw; go_simp; try with_reducible rfl)
  simp only [Act.put, List.setIfInBounds_toArray, List.set_cons_zero, List.set_cons_succ]
  refine takeH (i := 3) (some 49) (v := ?_) rfl rfl (by kernel_rfl) (by kernel_rfl) (by kernel_rfl) (fun _ _ _ h => h) (by rfl) ?_ (by assumption) ?_
  rotate_left
  · (intro w hSw; (try dsimp only at hSw); obtain ⟨hS1, hS2, hS3, hS4⟩ := hSw; go_simp; try with_reducible rfl)
  simp only [Act.put, List.setIfInBounds_toArray, List.set_cons_zero, List.set_cons_succ]
  refine takeH (i := 4) (some 50) (v := ?_) rfl rfl (by kernel_rfl) (by kernel_rfl) (by kernel_rfl) (fun _ _ _ h => h) (by rfl) ?_ (by assumption) ?_
  rotate_left
  · (intro w hSw; (try dsimp only at hSw); obtain ⟨hS1, hS2, hS3, hS4⟩ := hSw; go_simp; try with_reducible rfl)
  simp only [Act.put, List.setIfInBounds_toArray, List.set_cons_zero, List.set_cons_succ]
  refine takeH (i := 6) (some 52) (v := ?_) rfl rfl (by kernel_rfl) (by kernel_rfl) (by kernel_rfl) (fun _ _ _ h => h) (by rfl) ?_ (by assumption) ?_
  rotate_left
  · (intro w hSw; (try dsimp only at hSw); obtain ⟨hS1, hS2, hS3, hS4⟩ := hSw; go_simp; try with_reducible rfl)
  simp only [Act.put, List.setIfInBounds_toArray, List.set_cons_zero, List.set_cons_succ]
  refine takeH (i := 7) (some 53) (v := ?_) rfl rfl (by kernel_rfl) (by kernel_rfl) (by kernel_rfl) (fun _ _ _ h => h) (by rfl) ?_ (by assumption) ?_
  rotate_left
  · (intro w hSw; (try dsimp only at hSw); obtain ⟨hS1, hS2, hS3, hS4⟩ := hSw; go_simp; try with_reducible rfl)
  simp only [Act.put, List.setIfInBounds_toArray, List.set_cons_zero, List.set_cons_succ]
  refine takeH (i := 8) (some 54) (v := ?_) rfl rfl (by kernel_rfl) (by kernel_rfl) (by kernel_rfl) (fun _ _ _ h => h) (by rfl) ?_ (by assumption) ?_
  rotate_left
  · (intro w hSw; (try dsimp only at hSw); obtain ⟨hS1, hS2, hS3, hS4⟩ := hSw; go_simp; try with_reducible rfl)
  simp only [Act.put, List.setIfInBounds_toArray, List.set_cons_zero, List.set_cons_succ]
  refine takeH (i := 9) (some 55) (v := ?_) rfl rfl (by kernel_rfl) (by kernel_rfl) (by kernel_rfl) (fun _ _ _ h => h) (by rfl) ?_ (by assumption) ?_
  rotate_left
  · (intro w hSw; (try dsimp only at hSw); obtain ⟨hS1, hS2, hS3, hS4⟩ := hSw; go_simp; try with_reducible rfl)
  simp only [Act.put, List.setIfInBounds_toArray, List.set_cons_zero, List.set_cons_succ]
  refine takeH (i := 10) (some 56) (v := ?_) rfl rfl (by kernel_rfl) (by kernel_rfl) (by kernel_rfl) (fun _ _ _ h => h) (by rfl) ?_ (by assumption) ?_
  rotate_left
  · (intro w hSw; (try dsimp only at hSw); obtain ⟨hS1, hS2, hS3, hS4⟩ := hSw; go_simp; try with_reducible rfl)
  simp only [Act.put, List.setIfInBounds_toArray, List.set_cons_zero, List.set_cons_succ]
  refine wpAnyH_ready (rs := [5]) (by kernel_rfl) (by simp) ?_
  refine AllReadyH.cons rfl (fun K hK => ?_) AllReadyH.nil
  go_simp
  refine (CW.out _ B1d.out).mono ?_
  rintro e w3 ⟨rfl, hx, hm⟩
  have X3 := Lib.hid hx
  have M3 := Lib.hid hm
  clear hx hm
  refine hK _ _ (X3.out) (fun hHeld => ?_)
  clear hK K
  try simp only [Act.put, List.setIfInBounds_toArray, List.set_cons_zero, List.set_cons_succ]
  refine wpAnyH_ready (rs := [11]) (by kernel_rfl) (by simp) ?_
  refine AllReadyH.cons rfl (fun K hK => ?_) AllReadyH.nil
  go_simp
  refine (RW.out _ ⟨X3.out, M3.out⟩).mono ?_
  rintro e w5 ⟨rfl, hx, hw⟩
  have X5 := Lib.hid hx
  have W5 := Lib.hid hw
  clear hx hw
  refine hK _ _ (X5.out) (fun hHeld => ?_)
  clear hK K
  try simp only [Act.put, List.setIfInBounds_toArray, List.set_cons_zero, List.set_cons_succ]
  refine takeH (i := 12) (some 58) (v := ?_) rfl rfl (by kernel_rfl) (by kernel_rfl) (by kernel_rfl) (fun _ _ _ h => h) (by rfl) ?_ (by assumption) ?_
  rotate_left
  · (intro w hSw; (try dsimp only at hSw); obtain ⟨hS1, hS2, hS3, hS4⟩ := hSw; go_simp; try with_reducible rfl)
  simp only [Act.put, List.setIfInBounds_toArray, List.set_cons_zero, List.set_cons_succ]
  refine takeH (i := 13) (some 6) (v := ?_) rfl rfl (by kernel_rfl) (by kernel_rfl) (by kernel_rfl) (fun _ _ _ h => h) (by rfl) ?_ (by assumption) ?_
  rotate_left
  · (intro w hSw; (try dsimp only at hSw); obtain ⟨hS1, hS2, hS3, hS4⟩ := hSw; go_simp; try with_reducible rfl)
  simp only [Act.put, List.setIfInBounds_toArray, List.set_cons_zero, List.set_cons_succ]
  refine wpAnyH_done (by kernel_rfl) ?_ _
  go_wp2
  go_ret
  exact ⟨rfl, W5.out⟩
set_option maxRecDepth 100000 in
theorem do_walkN (w : World) (d r : Nat) (x : Dd) (h0 : x.kind ≠ 0) (h1 : x.kind ≠ 1) (h2 : x.kind ≠ 2) (h3 : x.kind ≠ 3) :
    Calls Try.prog 28 #[.pointer (some ⟨d, 0, none⟩), .pointer (some ⟨r, 0, none⟩), x.v] w fun e w' => e = .returned (.bool true) ∧ Below w.heap.size w w' := by
  have B1 : Hid (Below w.heap.size w (w.alloc (.cells #[.int .i64 x.kind, .int .i64 x.i, .int .u8 x.c, .slice x.P x.pick.length x.pc, .bool x.bad] 41))) := below_alloc1 w _
  unfold Dd.v
  go_enter Try.func28, Try.ntmps28
  go_wp2
  go_ret
  exact ⟨rfl, B1.out⟩
end Go.Proofs.Ytieeibdhaoaeaaa
