/- The document's New. -/
import Derived.Test.YtpcindemkkdbbaaRD
namespace Go.Proofs.Ytpcindemkkdbbaa
set_option linter.unusedVariables false
set_option linter.unusedSimpArgs false
open Go.RowKit

set_option maxRecDepth 100000 in
set_option maxHeartbeats 2000000 in
theorem refnew_any (ix bl : Int) (w : World) :
    Calls Try.prog 20 #[.int .i64 ix, .int .i64 bl] w (CySays w (if rightC (bare ix bl) then bare ix bl else cy0) (if rightC (bare ix bl) then 0 else 2)) := by
  have HF : Hid (∀ W, Calls Try.prog 24 #[.agg #[.int .i64 ix, .int .i64 bl, .int .i64 bl, .int .i64 16, .int .i64 0, .slice none 0 0, .slice none 0 0]] W fun e w' => e = .returned (.bool (rightC (bare ix bl))) ∧ Below W.heap.size W w') := fun W =>
    refright_any (bare ix bl) none 0 none 0 W (by simp [bare]) (by simp [bare]) Ints.nil Ints.nil
  obtain ⟨r, hr⟩ : ∃ r, r = rightC (bare ix bl) := ⟨_, rfl⟩
  rw [← hr] at HF ⊢
  clear hr
  obtain ⟨Q, hQ⟩ : ∃ Q, Q = CySays w (if r = true then bare ix bl else cy0) (if r = true then 0 else 2) := ⟨_, rfl⟩
  have HQ : Hid (∀ e w', CySays w (if r = true then bare ix bl else cy0) (if r = true then 0 else 2) e w' → Q e w') := by unfold Hid; rw [hQ]; exact fun _ _ h => h
  rw [← hQ]
  clear hQ
  have set7 : Hid (∀ (W : World) (g : Nat) (S : Nat → Prop) (v0 v1 v2 v3 v4 v5 v6 : Value), S g → Kept W (((((((W.setCell ⟨g, 0, none⟩ v0).setCell ⟨g, 1, none⟩ v1).setCell ⟨g, 2, none⟩ v2).setCell ⟨g, 3, none⟩ v3).setCell ⟨g, 4, none⟩ v4).setCell ⟨g, 5, none⟩ v5).setCell ⟨g, 6, none⟩ v6) S) := fun W g S v0 v1 v2 v3 v4 v5 v6 h =>
    (((((((Kept.refl W S).set (.inl h)).set (.inl h)).set (.inl h)).set (.inl h)).set (.inl h)).set (.inl h)).set (.inl h)
  go_enter Try.func20, Try.ntmps20
  go_wp2_with fail
  generalize hzx : Obj.cells #[.int .i64 0, .int .i64 0, .int .i64 0, .int .i64 0, .int .i64 0, .slice none 0 0, .slice none 0 0] 24 = zx
  generalize hbx : Obj.cells #[.int .i64 ix, .int .i64 bl, .int .i64 bl, .int .i64 16, .int .i64 0, .slice none 0 0, .slice none 0 0] 24 = bx
  have hs0 : ((w.alloc zx).alloc bx).heap.size = w.heap.size + 2 := by simp
  have h00 : ((w.alloc zx).alloc bx).heap[w.heap.size]? = some zx := (Below.heap_alloc (w.alloc zx) bx w.heap.size (by simp)).trans (Go.heap_alloc_new w zx)
  have h01 : ((w.alloc zx).alloc bx).heap[w.heap.size + 1]? = some bx := by have := Go.heap_alloc_new (w.alloc zx) bx; rwa [World.size_alloc] at this
  have HB0 : Below w.heap.size w ((w.alloc zx).alloc bx) := ((Below.refl _ w).alloc (Nat.le_refl _) _).alloc (by simp) _
  generalize (w.alloc zx).alloc bx = W0 at HB0 hs0 h00 h01 ⊢
  subst hzx hbx
  refine (HF.out _).mono ?_
  rintro e w1 ⟨rfl, hB1⟩
  have h10 := (hB1.block _ (by omega)).trans h00
  have h11 := (hB1.block _ (by omega)).trans h01
  have hz1 : w.heap.size + 2 ≤ w1.heap.size := by have := hB1.size; omega
  have HB1 : Hid (Below w.heap.size w w1) := HB0.trans (hB1.mono (by omega))
  obtain ⟨c0, c1, c2, c3, c4, c5, c6⟩ := seven h11
  obtain ⟨r0, r1, r2, r3, r4, r5, r6⟩ := seven h10
  have g0 := frozen_of_row w1 _ 0 _ 24 h10
  have g1 := frozen_of_row w1 _ 1 _ 24 h10
  have g2 := frozen_of_row w1 _ 2 _ 24 h10
  have g3 := frozen_of_row w1 _ 3 _ 24 h10
  have g4 := frozen_of_row w1 _ 4 _ 24 h10
  have g5 := frozen_of_row w1 _ 5 _ 24 h10
  have g6 := frozen_of_row w1 _ 6 _ 24 h10
  clear hB1 HB0 h00 h01 h10 h11 HF
  cases r with
  | false =>
    have hK := set7.out w1 w.heap.size (fun k => k = w.heap.size) (.int .i64 0) (.int .i64 0) (.int .i64 0) (.int .i64 0) (.int .i64 0) (.slice none 0 0) (.slice none 0 0) rfl
    go_wp2_with fail
    refine bodyPost_ret (v := .tuple #[.agg #[.int .i64 0, .int .i64 0, .int .i64 0, .int .i64 0, .int .i64 0, .slice none 0 0, .slice none 0 0], .int .i64 2]) (by simp [results, Try.results20, go_sem, r0, r1, r2, r3, r4, r5, r6]) rfl (HQ.out _ _ ⟨none, 0, none, 0, rfl, rowI_nil _ _, rowI_nil _ _, (fun b q => by cases q), ?_⟩)
    exact HB1.out.trans (hK.below (fun b q => by omega) (by omega))
  | true =>
    have hK := set7.out w1 w.heap.size (fun k => k = w.heap.size) (.int .i64 ix) (.int .i64 bl) (.int .i64 bl) (.int .i64 16) (.int .i64 0) (.slice none 0 0) (.slice none 0 0) rfl
    go_wp2_with fail
    refine bodyPost_ret (v := .tuple #[.agg #[.int .i64 ix, .int .i64 bl, .int .i64 bl, .int .i64 16, .int .i64 0, .slice none 0 0, .slice none 0 0], .int .i64 0]) (by simp [results, Try.results20, go_sem, r0, r1, r2, r3, r4, r5, r6]) rfl (HQ.out _ _ ⟨none, 0, none, 0, rfl, rowI_nil _ _, rowI_nil _ _, (fun b q => by cases q), ?_⟩)
    exact HB1.out.trans (hK.below (fun b q => by omega) (by omega))
end Go.Proofs.Ytpcindemkkdbbaa
