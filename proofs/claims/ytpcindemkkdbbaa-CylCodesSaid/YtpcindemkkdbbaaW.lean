/- Contract of fork. -/
import Derived.Test.YtpcindemkkdbbaaV
import Derived.Test.YtpcindemkkdbbaaE
namespace Go.Proofs.Ytpcindemkkdbbaa
set_option linter.unusedVariables false
set_option linter.unusedSimpArgs false
open Go.RowKit

theorem bcell {w W1 : World} {B : Nat} (hb : Below B w W1) : (∀ b o, b < B → W1.cell? ⟨b, o, none⟩ = w.cell? ⟨b, o, none⟩) ∧ (∀ b o, b < B → W1.frozen? ⟨b, o, none⟩ = w.frozen? ⟨b, o, none⟩) :=
  ⟨fun b o h => hb.cell (p := ⟨b, o, none⟩) h, fun b o h => hb.frozen (p := ⟨b, o, none⟩) h⟩
theorem seven {W : World} {g : Nat} {t : TypeId} {x0 x1 x2 x3 x4 x5 x6 : Value} (h : W.heap[g]? = some (.cells #[x0, x1, x2, x3, x4, x5, x6] t (0, 0))) :
    W.cell? ⟨g, 0, none⟩ = some x0 ∧ W.cell? ⟨g, 1, none⟩ = some x1 ∧ W.cell? ⟨g, 2, none⟩ = some x2 ∧ W.cell? ⟨g, 3, none⟩ = some x3 ∧ W.cell? ⟨g, 4, none⟩ = some x4 ∧ W.cell? ⟨g, 5, none⟩ = some x5 ∧ W.cell? ⟨g, 6, none⟩ = some x6 := by
  refine ⟨?_, ?_, ?_, ?_, ?_, ?_, ?_⟩ <;> rw [cellAt_of h] <;> rfl
theorem set_heap {W : World} {g o : Nat} {t : TypeId} {c : Array Value} (h : W.heap[g]? = some (.cells c t (0, 0))) (v : Value) : (W.setCell ⟨g, o, none⟩ v).heap[g]? = some (.cells (c.setIfInBounds o v) t (0, 0)) := Go.heap_setCell_same W g o c t v h
theorem set_other {W : World} {g o k : Nat} (h : k ≠ g) (v : Value) : (W.setCell ⟨g, o, none⟩ v).heap[k]? = W.heap[k]? := Go.heap_setCell_other W ⟨g, o, none⟩ k v h
theorem set_kept (W : World) (g o : Nat) (v : Value) : Kept W (W.setCell ⟨g, o, none⟩ v) (fun k => k = g) := ⟨rfl, rfl, rfl, by simp, fun k _ hn => set_other hn v⟩
theorem Kept.set {w W : World} {S : Nat → Prop} {g o : Nat} {v : Value} (h : Kept w W S) (hg : S g ∨ w.heap.size ≤ g) : Kept w (W.setCell ⟨g, o, none⟩ v) S :=
  h.trans (set_kept W g o v) (fun b q => by rw [show b = g from q]; exact hg)
/-- a group of one's own -/
def ForkSays (w : World) (x : Cy) (e : Ending) (w' : World) : Prop :=
  ∃ A' c' A2' d', e = .returned (x.v A' c' A2' d') ∧ RowI w' w.heap.size A' c' x.us ∧ RowI w' w.heap.size A2' d' x.is ∧ (∀ b, own A' = some b → own A2' ≠ some b) ∧ Below w.heap.size w w'

set_option maxRecDepth 100000 in
set_option maxHeartbeats 2000000 in
theorem fork_any (x : Cy) (A : Option Addr) (c : Nat) (A2 : Option Addr) (d : Nat) (w : World) (hu : x.us.length ≤ 1000) (hi : x.is.length ≤ 1000) (hU : Ints w w.heap.size A x.us) (hI : Ints w w.heap.size A2 x.is) :
    Calls Try.prog 48 #[x.v A c A2 d] w (ForkSays w x) := by
  have HU : Hid (∀ W, Below w.heap.size w W → Calls Try.prog 69 #[.slice A x.us.length c] W fun e w' => ∃ A' c', e = .returned (.slice A' x.us.length c') ∧ RowI w' W.heap.size A' c' x.us ∧ Below W.heap.size W w') := fun W hB => clone_any A c x.us W hu (hU.next hB)
  have HI : Hid (∀ W, Below w.heap.size w W → Calls Try.prog 69 #[.slice A2 x.is.length d] W fun e w' => ∃ A' c', e = .returned (.slice A' x.is.length c') ∧ RowI w' W.heap.size A' c' x.is ∧ Below W.heap.size W w') := fun W hB => clone_any A2 d x.is W hi (hI.next hB)
  clear hU hI hu hi
  obtain ⟨Q, hQ⟩ : ∃ Q, Q = ForkSays w x := ⟨_, rfl⟩
  have HQ : Hid (∀ e w', ForkSays w x e w' → Q e w') := by unfold Hid; rw [hQ]; exact fun _ _ h => h
  rw [← hQ]
  clear hQ
  obtain ⟨ix, bl, fb, fi, ro, us, is⟩ := x
  unfold Cy.v
  simp only at HU HI ⊢
  obtain ⟨n1, h1⟩ : ∃ n1, n1 = us.length := ⟨_, rfl⟩
  obtain ⟨n2, h2⟩ : ∃ n2, n2 = is.length := ⟨_, rfl⟩
  have H1 := Lib.hid h1
  have H2 := Lib.hid h2
  rw [← h1] at HU
  rw [← h2] at HI
  rw [← h1, ← h2]
  clear h1 h2
  have T1 : Hid True := trivial
  go_enter Try.func48, Try.ntmps48
  go_wp2_with fail
  generalize hbx : Obj.cells #[.int .i64 ix, .int .i64 bl, .int .i64 fb, .int .i64 fi, .int .i64 ro, .slice A n1 c, .slice A2 n2 d] 24 = bx
  generalize hzx : Obj.cells #[.int .i64 0, .int .i64 0, .int .i64 0, .int .i64 0, .int .i64 0, .slice none 0 0, .slice none 0 0] 24 = zx
  have HB0 : Below w.heap.size w ((w.alloc bx).alloc zx) := ((Below.refl _ w).alloc (Nat.le_refl _) _).alloc (by simp) _
  have hs0 : ((w.alloc bx).alloc zx).heap.size = w.heap.size + 2 := by simp
  have h00 : ((w.alloc bx).alloc zx).heap[w.heap.size]? = some bx := (((Below.refl (w.heap.size + 1) (w.alloc bx)).alloc (by simp) zx).block w.heap.size (Nat.lt_succ_self _)).trans (Go.heap_alloc_new w bx)
  have h01 : ((w.alloc bx).alloc zx).heap[w.heap.size + 1]? = some zx := by have := Go.heap_alloc_new (w.alloc bx) zx; rwa [World.size_alloc] at this
  generalize (w.alloc bx).alloc zx = W0 at HB0 hs0 h00 h01 ⊢
  subst hbx hzx
  refine (HU.out _ HB0).mono ?_
  rintro e w1 ⟨A', c', rfl, hr1, hB1⟩
  have h10 := (hB1.block _ (by omega)).trans h00
  have h11 := (hB1.block _ (by omega)).trans h01
  obtain ⟨c0, c1, c2, c3, c4, c5, c6⟩ := seven h10
  have f5 := frozen_of_row w1 _ 5 _ 24 h10
  have HS : Hid (∀ W2, Below (w1.setCell ⟨w.heap.size, 5, none⟩ (.slice A' n1 c')).heap.size (w1.setCell ⟨w.heap.size, 5, none⟩ (.slice A' n1 c')) W2 → True) := fun _ _ => trivial
  have hz1 := hB1.size
  have HB1 : Hid (Below w.heap.size w (w1.setCell ⟨w.heap.size, 5, none⟩ (.slice A' n1 c'))) := (HB0.trans (hB1.mono (by omega))).setCell (Nat.le_refl _) _
  have Hr1 := Lib.hid hr1
  have hk1 := set_kept w1 w.heap.size 5 (.slice A' n1 c')
  have H20 := Lib.hid (set_heap h10 (o := 5) (.slice A' n1 c'))
  have H21 := Lib.hid ((set_other (g := w.heap.size) (o := 5) (k := w.heap.size + 1) (by omega) (.slice A' n1 c')).trans h11)
  have Hk1 := Lib.hid hk1
  have hz1 : w.heap.size + 2 ≤ w1.heap.size := by omega
  clear hr1 hB1 hk1 h00 h01 h10 h11 HS
  go_wp2_with fail
  refine (HI.out _ HB1.out).mono ?_
  rintro e w2 ⟨A2', d', rfl, hr2, hB2⟩
  have h20 := (hB2.block _ (by simp; omega)).trans H20.out
  have h21 := (hB2.block _ (by simp; omega)).trans H21.out
  simp only [List.setIfInBounds_toArray, List.set_cons_succ, List.set_cons_zero] at h20
  clear c0 c1 c2 c3 c4 c5 c6 f5
  obtain ⟨c0, c1, c2, c3, c4, c5, c6⟩ := seven h20
  obtain ⟨r0, r1, r2, r3, r4, r5, r6⟩ := seven h21
  have f6 := frozen_of_row w2 _ 6 _ 24 h20
  have g0 := frozen_of_row w2 _ 0 _ 24 h21
  have g1 := frozen_of_row w2 _ 1 _ 24 h21
  have g2 := frozen_of_row w2 _ 2 _ 24 h21
  have g3 := frozen_of_row w2 _ 3 _ 24 h21
  have g4 := frozen_of_row w2 _ 4 _ 24 h21
  have g5 := frozen_of_row w2 _ 5 _ 24 h21
  have g6 := frozen_of_row w2 _ 6 _ 24 h21
  have hz2 : w1.heap.size ≤ w2.heap.size := by have := hB2.size; simpa using this
  have Hr2 := Lib.hid hr2
  have HB2 := Lib.hid hB2
  clear hr2 hB2 h20 h21
  go_wp2_with fail
  have hK : Kept w2 ((((((((w2.setCell ⟨w.heap.size, 6, none⟩ (.slice A2' n2 d')).setCell ⟨w.heap.size + 1, 0, none⟩ (.int .i64 ix)).setCell ⟨w.heap.size + 1, 1, none⟩ (.int .i64 bl)).setCell ⟨w.heap.size + 1, 2, none⟩ (.int .i64 fb)).setCell ⟨w.heap.size + 1, 3, none⟩ (.int .i64 fi)).setCell ⟨w.heap.size + 1, 4, none⟩ (.int .i64 ro)).setCell ⟨w.heap.size + 1, 5, none⟩ (.slice A' n1 c')).setCell ⟨w.heap.size + 1, 6, none⟩ (.slice A2' n2 d')) (fun k => k = w.heap.size ∨ k = w.heap.size + 1) :=
    (((((((Kept.refl _ _).set (.inl (.inl rfl))).set (.inl (.inr rfl))).set (.inl (.inr rfl))).set (.inl (.inr rfl))).set (.inl (.inr rfl))).set (.inl (.inr rfl))).set (.inl (.inr rfl)) |>.set (.inl (.inr rfl))
  refine bodyPost_ret (v := .agg #[.int .i64 ix, .int .i64 bl, .int .i64 fb, .int .i64 fi, .int .i64 ro, .slice A' n1 c', .slice A2' n2 d']) (by simp [results, Try.results48, go_sem, r0, r1, r2, r3, r4, r5, r6]) rfl (HQ.out _ _ ⟨A', c', A2', d', by rw [H1.out, H2.out]; rfl, ?_, ?_, ?_, ?_⟩)
  · refine ((Hr1.out.keep Hk1.out (fun b q r => ?_)).next HB2.out).keep hK (fun b q r => ?_) |>.more (by omega)
    · have := (Hr1.out.lt q).1; omega
    · have := (Hr1.out.lt q).1; omega
  · refine (Hr2.out.keep hK (fun b q r => ?_)).more (by simp; omega)
    have := (Hr2.out.lt q).1; simp at this; omega
  · intro b q r
    have h1 := (Hr1.out.lt q).2
    have h2 := (Hr2.out.lt r).1
    simp at h2
    omega
  · exact (HB1.out.trans (HB2.out.mono (by simp; omega))).trans (hK.below (fun b q => by omega) (by omega))
end Go.Proofs.Ytpcindemkkdbbaa
