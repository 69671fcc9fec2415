/- Groups that are nil; GroupNone: the walk of the law's text. -/
import Derived.Test.YtdndchoghhllmaaSD
set_option linter.unusedVariables false
set_option linter.unusedSimpArgs false
namespace Go.Proofs.Ytdndchoghhllmaa
open Go.RowKit
theorem nask (n : Int) (w : World) : Calls Try.prog 39 #[.pointer none, .int .i64 n] w fun e w' => e = .returned (.tuple #[.pointer none, .int .i64 1]) ∧ w = w' := by
  go_enter Try.func39, Try.ntmps39
  go_wp2
  go_ret2
  exact ⟨rfl, rfl⟩
theorem nturn (n t : Int) (A : Option Addr) (l c : Nat) (w : World) : Calls Try.prog 50 #[.pointer none, .int .i64 n, .int .u8 t, .slice A l c] w fun e w' => e = .returned (.int .i64 1) ∧ w = w' := by
  go_enter Try.func50, Try.ntmps50
  go_wp2_with (refine (nask _ _).mono ?_; rintro e w' ⟨rfl, rfl⟩)
  go_ret
  exact ⟨rfl, rfl⟩
theorem nMake (w : World) : Calls Try.prog 27 #[.pointer none] w fun e w' => e = .returned (.tuple #[.int .i64 0, .int .i64 1]) ∧ Below w.heap.size w w' := by
  have HB : Hid (∀ o, Below w.heap.size w (w.alloc o)) := fun o => (Below.refl _ _).alloc (Nat.le_refl _) _
  go_enter Try.func27, Try.ntmps27
  go_wp2
  go_ret2
  first
    | exact ⟨rfl, Below.refl _ _⟩
    | exact ⟨rfl, HB.out _⟩
theorem nDepend (n m : Int) (w : World) : Calls Try.prog 30 #[.pointer none, .int .i64 n, .int .i64 m] w fun e w' => e = .returned (.int .i64 1) ∧ Below w.heap.size w w' := by
  have HB : Hid (∀ o, Below w.heap.size w (w.alloc o)) := fun o => (Below.refl _ _).alloc (Nat.le_refl _) _
  go_enter Try.func30, Try.ntmps30
  go_wp2_with (refine (nask _ _).mono ?_; rintro e w' ⟨rfl, rfl⟩)
  go_ret
  first
    | exact ⟨rfl, Below.refl _ _⟩
    | exact ⟨rfl, HB.out _⟩
theorem nEngage (n : Int) (w : World) : Calls Try.prog 21 #[.pointer none, .int .i64 n] w fun e w' => e = .returned (.int .i64 1) ∧ Below w.heap.size w w' := by
  have HB : Hid (∀ o, Below w.heap.size w (w.alloc o)) := fun o => (Below.refl _ _).alloc (Nat.le_refl _) _
  go_enter Try.func21, Try.ntmps21
  go_wp2_with (refine (nturn _ _ _ _ _ _).mono ?_; rintro e w' ⟨rfl, rfl⟩)
  go_ret
  first
    | exact ⟨rfl, Below.refl _ _⟩
    | exact ⟨rfl, HB.out _⟩
theorem nDisengage (n : Int) (w : World) : Calls Try.prog 31 #[.pointer none, .int .i64 n] w fun e w' => e = .returned (.int .i64 1) ∧ Below w.heap.size w w' := by
  have HB : Hid (∀ o, Below w.heap.size w (w.alloc o)) := fun o => (Below.refl _ _).alloc (Nat.le_refl _) _
  go_enter Try.func31, Try.ntmps31
  go_wp2_with (refine (nturn _ _ _ _ _ _).mono ?_; rintro e w' ⟨rfl, rfl⟩)
  go_ret
  first
    | exact ⟨rfl, Below.refl _ _⟩
    | exact ⟨rfl, HB.out _⟩
theorem nRelease (n : Int) (w : World) : Calls Try.prog 22 #[.pointer none, .int .i64 n] w fun e w' => e = .returned (.int .i64 1) ∧ Below w.heap.size w w' := by
  have HB : Hid (∀ o, Below w.heap.size w (w.alloc o)) := fun o => (Below.refl _ _).alloc (Nat.le_refl _) _
  go_enter Try.func22, Try.ntmps22
  go_wp2_with (refine (nturn _ _ _ _ _ _).mono ?_; rintro e w' ⟨rfl, rfl⟩)
  go_ret
  first
    | exact ⟨rfl, Below.refl _ _⟩
    | exact ⟨rfl, HB.out _⟩
theorem nAbandon (n : Int) (w : World) : Calls Try.prog 28 #[.pointer none, .int .i64 n] w fun e w' => e = .returned (.int .i64 1) ∧ Below w.heap.size w w' := by
  have HB : Hid (∀ o, Below w.heap.size w (w.alloc o)) := fun o => (Below.refl _ _).alloc (Nat.le_refl _) _
  go_enter Try.func28, Try.ntmps28
  go_wp2_with (refine (nask _ _).mono ?_; rintro e w' ⟨rfl, rfl⟩)
  go_ret
  first
    | exact ⟨rfl, Below.refl _ _⟩
    | exact ⟨rfl, HB.out _⟩
theorem nTook (n : Int) (w : World) : Calls Try.prog 24 #[.pointer none, .int .i64 n] w fun e w' => e = .returned (.int .i64 1) ∧ Below w.heap.size w w' := by
  have HB : Hid (∀ o, Below w.heap.size w (w.alloc o)) := fun o => (Below.refl _ _).alloc (Nat.le_refl _) _
  go_enter Try.func24, Try.ntmps24
  go_wp2
  go_ret
  first
    | exact ⟨rfl, Below.refl _ _⟩
    | exact ⟨rfl, HB.out _⟩
theorem nPatches (n : Int) (w : World) : Calls Try.prog 18 #[.pointer none, .int .i64 n] w fun e w' => e = .returned (.slice none 0 0) ∧ Below w.heap.size w w' := by
  have HB : Hid (∀ o, Below w.heap.size w (w.alloc o)) := fun o => (Below.refl _ _).alloc (Nat.le_refl _) _
  go_enter Try.func18, Try.ntmps18
  go_wp2_with (refine (nask _ _).mono ?_; rintro e w' ⟨rfl, rfl⟩)
  go_ret
  first
    | exact ⟨rfl, Below.refl _ _⟩
    | exact ⟨rfl, HB.out _⟩
theorem nState (n : Int) (w : World) : Calls Try.prog 17 #[.pointer none, .int .i64 n] w fun e w' => e = .returned (.int .u8 0) ∧ Below w.heap.size w w' := by
  have HB : Hid (∀ o, Below w.heap.size w (w.alloc o)) := fun o => (Below.refl _ _).alloc (Nat.le_refl _) _
  go_enter Try.func17, Try.ntmps17
  go_wp2_with (refine (nask _ _).mono ?_; rintro e w' ⟨rfl, rfl⟩)
  go_ret
  first
    | exact ⟨rfl, Below.refl _ _⟩
    | exact ⟨rfl, HB.out _⟩
theorem nAhead (n : Int) (w : World) : Calls Try.prog 16 #[.pointer none, .int .i64 n] w fun e w' => e = .returned (.slice none 0 0) ∧ Below w.heap.size w w' := by
  have HB : Hid (∀ o, Below w.heap.size w (w.alloc o)) := fun o => (Below.refl _ _).alloc (Nat.le_refl _) _
  go_enter Try.func16, Try.ntmps16
  go_wp2_with (refine (nask _ _).mono ?_; rintro e w' ⟨rfl, rfl⟩)
  go_ret
  first
    | exact ⟨rfl, Below.refl _ _⟩
    | exact ⟨rfl, HB.out _⟩
theorem nEngaged (w : World) : Calls Try.prog 26 #[.pointer none] w fun e w' => e = .returned (.slice none 0 0) ∧ Below w.heap.size w w' := by
  have HB : Hid (∀ o, Below w.heap.size w (w.alloc o)) := fun o => (Below.refl _ _).alloc (Nat.le_refl _) _
  go_enter Try.func26, Try.ntmps26
  go_wp2
  go_ret
  first
    | exact ⟨rfl, Below.refl _ _⟩
    | exact ⟨rfl, HB.out _⟩
theorem nFork (w : World) : Calls Try.prog 23 #[.pointer none] w fun e w' => e = .returned (.pointer none) ∧ Below w.heap.size w w' := by
  have HB : Hid (∀ o, Below w.heap.size w (w.alloc o)) := fun o => (Below.refl _ _).alloc (Nat.le_refl _) _
  go_enter Try.func23, Try.ntmps23
  go_wp2
  go_ret
  first
    | exact ⟨rfl, Below.refl _ _⟩
    | exact ⟨rfl, HB.out _⟩
theorem nBehind (w : World) : Calls Try.prog 25 #[.pointer none] w fun e w' => e = .returned (.slice none 0 0) ∧ Below w.heap.size w w' := by
  have HB : Hid (∀ o, Below w.heap.size w (w.alloc o)) := fun o => (Below.refl _ _).alloc (Nat.le_refl _) _
  go_enter Try.func25, Try.ntmps25
  go_wp2
  go_ret
  first
    | exact ⟨rfl, Below.refl _ _⟩
    | exact ⟨rfl, HB.out _⟩
set_option maxRecDepth 100000 in
set_option maxHeartbeats 4000000 in
theorem GroupNone.walk (z : Dd) (W : World) (hz : z.wf) :
    Calls Try.prog 10 #[z.v] W fun e W' => e = .returned (.bool true) ∧ Below W.heap.size W W' := by
  obtain ⟨dk, dn, dm⟩ := z
  clear hz
  unfold Dd.v
  obtain ⟨W1, hW⟩ : ∃ W1, W1 = W.alloc (.cells #[.int .i64 dk, .int .i64 dn, .int .i64 dm] 36) := ⟨_, rfl⟩
  have hB0 : Below W.heap.size W W1 := by rw [hW]; exact (Below.refl _ _).alloc (Nat.le_refl _) _
  have hbx : W1.heap[W.heap.size]? = some (.cells #[.int .i64 dk, .int .i64 dn, .int .i64 dm] 36 (0, 0)) := by rw [hW]; exact heap_alloc_new W _
  have HCl : Hid (∀ V, Below W1.heap.size W1 V → V.cell? ⟨W.heap.size, 1, none⟩ = some (.int .i64 dn) ∧ V.cell? ⟨W.heap.size, 2, none⟩ = some (.int .i64 dm)) := fun V hV => by
    have h1 := (hV.block _ (Array.getElem?_eq_some_iff.1 hbx).1).trans hbx
    exact ⟨cell_of_row _ _ 1 _ _ (0, 0) h1, cell_of_row _ _ 2 _ _ (0, 0) h1⟩
  have HB0 := Lib.hid hB0
  have hsz : W1.heap.size = W.heap.size + 1 := by rw [hW]; simp
  generalize hbb : W.heap.size = bx at *
  have HW := Lib.hid hW
  clear hbx hsz hB0 hW
  go_enter Try.func10, Try.ntmps10
  go_wp2_with fail
  rw [← HW.out]
  have HS := Lib.hid (Below.refl W1.heap.size W1)
  try rw [hbb]
  have D0 := HCl.out _ HS.out
  obtain ⟨da, db⟩ := D0
  go_wp2_with (first
    | (go_at_call 27; refine (nMake _).mono ?_; rintro e w2 ⟨rfl, hb⟩; have B2 := Lib.hid (HS.out.trans (hb.mono HS.out.size)); clear hb; try clear da db; obtain ⟨da, db⟩ := HCl.out _ B2.out)
    | (go_at_call 14; refine (live_any _).mono ?_; rintro e w3 ⟨rfl, hb⟩; have B3 := Lib.hid (B2.out.trans (hb.mono B2.out.size)); clear hb; try clear da db; obtain ⟨da, db⟩ := HCl.out _ B3.out)
    | (go_at_call 30; refine (nDepend _ _ _).mono ?_; rintro e w4 ⟨rfl, hb⟩; have B4 := Lib.hid (B3.out.trans (hb.mono B3.out.size)); clear hb; try clear da db; obtain ⟨da, db⟩ := HCl.out _ B4.out)
    | (go_at_call 21; refine (nEngage _ _).mono ?_; rintro e w5 ⟨rfl, hb⟩; have B5 := Lib.hid (B4.out.trans (hb.mono B4.out.size)); clear hb; try clear da db; obtain ⟨da, db⟩ := HCl.out _ B5.out)
    | (go_at_call 31; refine (nDisengage _ _).mono ?_; rintro e w6 ⟨rfl, hb⟩; have B6 := Lib.hid (B5.out.trans (hb.mono B5.out.size)); clear hb; try clear da db; obtain ⟨da, db⟩ := HCl.out _ B6.out)
    | (go_at_call 22; refine (nRelease _ _).mono ?_; rintro e w7 ⟨rfl, hb⟩; have B7 := Lib.hid (B6.out.trans (hb.mono B6.out.size)); clear hb; try clear da db; obtain ⟨da, db⟩ := HCl.out _ B7.out)
    | (go_at_call 28; refine (nAbandon _ _).mono ?_; rintro e w8 ⟨rfl, hb⟩; have B8 := Lib.hid (B7.out.trans (hb.mono B7.out.size)); clear hb; try clear da db; obtain ⟨da, db⟩ := HCl.out _ B8.out)
    | (go_at_call 24; refine (nTook _ _).mono ?_; rintro e w9 ⟨rfl, hb⟩; have B9 := Lib.hid (B8.out.trans (hb.mono B8.out.size)); clear hb; try clear da db; obtain ⟨da, db⟩ := HCl.out _ B9.out)
    | (go_at_call 25; refine (nBehind _).mono ?_; rintro e w10 ⟨rfl, hb⟩; have B10 := Lib.hid (B9.out.trans (hb.mono B9.out.size)); clear hb; try clear da db; obtain ⟨da, db⟩ := HCl.out _ B10.out)
    | (go_at_call 18; refine (nPatches _ _).mono ?_; rintro e w11 ⟨rfl, hb⟩; have B11 := Lib.hid (B10.out.trans (hb.mono B10.out.size)); clear hb; try clear da db; obtain ⟨da, db⟩ := HCl.out _ B11.out)
    | (go_at_call 17; refine (nState _ _).mono ?_; rintro e w12 ⟨rfl, hb⟩; have B12 := Lib.hid (B11.out.trans (hb.mono B11.out.size)); clear hb; try clear da db; obtain ⟨da, db⟩ := HCl.out _ B12.out)
    | (go_at_call 16; refine (nAhead _ _).mono ?_; rintro e w13 ⟨rfl, hb⟩; have B13 := Lib.hid (B12.out.trans (hb.mono B12.out.size)); clear hb; try clear da db; obtain ⟨da, db⟩ := HCl.out _ B13.out)
    | (go_at_call 26; refine (nEngaged _).mono ?_; rintro e w14 ⟨rfl, hb⟩; have B14 := Lib.hid (B13.out.trans (hb.mono B13.out.size)); clear hb; try clear da db; obtain ⟨da, db⟩ := HCl.out _ B14.out)
    | (go_at_call 23; refine (nFork _).mono ?_; rintro e w15 ⟨rfl, hb⟩; have B15 := Lib.hid (B14.out.trans (hb.mono B14.out.size)); clear hb; try clear da db; obtain ⟨da, db⟩ := HCl.out _ B15.out))
  go_ret
  exact ⟨by simp, by exact HB0.out.trans (B15.out.mono (by rw [← hbb]; exact HB0.out.size))⟩
end Go.Proofs.Ytdndchoghhllmaa
