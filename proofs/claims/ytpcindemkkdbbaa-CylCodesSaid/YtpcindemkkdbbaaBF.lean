/- Contract of New. -/
import Derived.Test.YtpcindemkkdbbaaBE
namespace Go.Proofs.Ytpcindemkkdbbaa
set_option linter.unusedVariables false
set_option linter.unusedSimpArgs false
open Go.RowKit

/-- a group without anything -/
def bare (ix bl : Int) : Cy := ⟨ix, bl, bl, 16, 0, [], []⟩
theorem recount_bare (ix bl : Int) : recount ⟨ix, bl, 0, 0, 0, [], []⟩ = bare ix bl := by simp [recount, bare]
set_option maxRecDepth 100000 in
set_option maxHeartbeats 2000000 in
theorem new_any (ix bl : Int) (w : World) :
    Calls Try.prog 19 #[.int .i64 ix, .int .i64 bl] w (CySays w (if rightC (bare ix bl) then bare ix bl else cy0) (if rightC (bare ix bl) then 0 else 2)) := by
  have HF : Hid (∀ W, Calls Try.prog 17 #[.agg #[.int .i64 ix, .int .i64 bl, .int .i64 0, .int .i64 0, .int .i64 0, .slice none 0 0, .slice none 0 0]] W (CySays W (if rightC (bare ix bl) then bare ix bl else cy0) (if rightC (bare ix bl) then 0 else 3))) := fun W => by
    have := rebuild_any ⟨ix, bl, 0, 0, 0, [], []⟩ none 0 none 0 W (by simp) (by simp) Ints.nil Ints.nil
    rw [recount_bare] at this
    exact this
  obtain ⟨r, hr⟩ : ∃ r, r = rightC (bare ix bl) := ⟨_, rfl⟩
  rw [← hr] at HF ⊢
  clear hr
  obtain ⟨x, hx⟩ : ∃ x, x = (if r = true then bare ix bl else cy0) := ⟨_, rfl⟩
  rw [← hx] at HF ⊢
  obtain ⟨Q, hQ⟩ : ∃ Q, Q = CySays w x (if r = true then 0 else 2) := ⟨_, rfl⟩
  have HQ : Hid (∀ e w', CySays w x (if r = true then 0 else 2) e w' → Q e w') := by unfold Hid; rw [hQ]; exact fun _ _ h => h
  rw [← hQ]
  have Hx := Lib.hid hx
  clear hQ hx
  have set7 : Hid (∀ (W : World) (g : Nat) (S : Nat → Prop) (v0 v1 v2 v3 v4 v5 v6 : Value), S g → Kept W (((((((W.setCell ⟨g, 0, none⟩ v0).setCell ⟨g, 1, none⟩ v1).setCell ⟨g, 2, none⟩ v2).setCell ⟨g, 3, none⟩ v3).setCell ⟨g, 4, none⟩ v4).setCell ⟨g, 5, none⟩ v5).setCell ⟨g, 6, none⟩ v6) S) := fun W g S v0 v1 v2 v3 v4 v5 v6 h =>
    (((((((Kept.refl W S).set (.inl h)).set (.inl h)).set (.inl h)).set (.inl h)).set (.inl h)).set (.inl h)).set (.inl h)
  go_enter Try.func19, Try.ntmps19
  go_wp2_with fail
  generalize hzx : Obj.cells #[.int .i64 0, .int .i64 0, .int .i64 0, .int .i64 0, .int .i64 0, .slice none 0 0, .slice none 0 0] 24 = zx
  have hs0 : (w.alloc zx).heap.size = w.heap.size + 1 := by simp
  have h00 : (w.alloc zx).heap[w.heap.size]? = some zx := Go.heap_alloc_new w zx
  have HB0 : Below w.heap.size w (w.alloc zx) := (Below.refl _ w).alloc (Nat.le_refl _) _
  generalize w.alloc zx = W0 at HB0 hs0 h00 ⊢
  subst hzx
  refine (HF.out _).mono ?_
  rintro e w1 ⟨A, c, A2, d, rfl, hr1, hr2, hap, hB1⟩
  unfold Cy.v
  have h10 := (hB1.block _ (by omega)).trans h00
  have hz1 : w.heap.size + 1 ≤ w1.heap.size := by have := hB1.size; omega
  have HB1 : Hid (Below w.heap.size w w1) := HB0.trans (hB1.mono (by omega))
  have Hr1 := Lib.hid hr1
  have Hr2 := Lib.hid hr2
  have Hap := Lib.hid hap
  obtain ⟨ix', bl', fb', fi', ro', us', is'⟩ := x
  simp only
  obtain ⟨n1, h1⟩ : ∃ n1, n1 = us'.length := ⟨_, rfl⟩
  obtain ⟨n2, h2⟩ : ∃ n2, n2 = is'.length := ⟨_, rfl⟩
  have H1 := Lib.hid h1
  have H2 := Lib.hid h2
  rw [← h1, ← h2]
  obtain ⟨r0, r1, r2, r3, r4, r5, r6⟩ := seven h10
  have g0 := frozen_of_row w1 _ 0 _ 24 h10
  have g1 := frozen_of_row w1 _ 1 _ 24 h10
  have g2 := frozen_of_row w1 _ 2 _ 24 h10
  have g3 := frozen_of_row w1 _ 3 _ 24 h10
  have g4 := frozen_of_row w1 _ 4 _ 24 h10
  have g5 := frozen_of_row w1 _ 5 _ 24 h10
  have g6 := frozen_of_row w1 _ 6 _ 24 h10
  clear hr1 hr2 hap hB1 HB0 h00 h10 h1 h2 HF
  have hlt : w.heap.size < w1.heap.size := by omega
  cases r with
  | false =>
    simp only [Bool.false_eq_true, if_false]
    go_wp2_with fail
    have hK := set7.out w1 w.heap.size (fun k => k = w.heap.size) (.int .i64 0) (.int .i64 0) (.int .i64 0) (.int .i64 0) (.int .i64 0) (.slice none 0 0) (.slice none 0 0) rfl
    refine bodyPost_ret (v := .tuple #[.agg #[.int .i64 0, .int .i64 0, .int .i64 0, .int .i64 0, .int .i64 0, .slice none 0 0, .slice none 0 0], .int .i64 2]) (by simp [results, Try.results19, go_sem, hlt, r0, r1, r2, r3, r4, r5, r6]) rfl (HQ.out _ _ ?_)
    have hx : (⟨ix', bl', fb', fi', ro', us', is'⟩ : Cy) = cy0 := Hx.out
    injection hx with e0 e1 e2 e3 e4 e5 e6
    subst e0 e1 e2 e3 e4 e5 e6
    exact ⟨none, 0, none, 0, rfl, rowI_nil _ _, rowI_nil _ _, (fun b q => by cases q), (HB1.out.trans (hK.below (fun b q => by omega) (by omega))).alloc (Nat.le_trans (by omega) hK.size) _⟩
  | true =>
    simp only [if_true]
    go_wp2_with fail
    have hK := set7.out w1 w.heap.size (fun k => k = w.heap.size) (.int .i64 ix') (.int .i64 bl') (.int .i64 fb') (.int .i64 fi') (.int .i64 ro') (.slice A n1 c) (.slice A2 n2 d) rfl
    refine bodyPost_ret (v := .tuple #[.agg #[.int .i64 ix', .int .i64 bl', .int .i64 fb', .int .i64 fi', .int .i64 ro', .slice A n1 c, .slice A2 n2 d], .int .i64 0]) (by simp [results, Try.results19, go_sem, hlt, r0, r1, r2, r3, r4, r5, r6]) rfl (HQ.out _ _ ⟨A, c, A2, d, by rw [H1.out, H2.out]; rfl, ?_, ?_, Hap.out, ?_⟩)
    · exact ((Hr1.out.keep hK (fun b q r => by have := (Hr1.out.lt q).1; omega)).next ((Below.refl _ _).alloc (Nat.le_refl _) _)).more (by omega)
    · exact ((Hr2.out.keep hK (fun b q r => by have := (Hr2.out.lt q).1; omega)).next ((Below.refl _ _).alloc (Nat.le_refl _) _)).more (by omega)
    · exact (HB1.out.trans (hK.below (fun b q => by omega) (by omega))).alloc (Nat.le_trans (by omega) hK.size) _
end Go.Proofs.Ytpcindemkkdbbaa
