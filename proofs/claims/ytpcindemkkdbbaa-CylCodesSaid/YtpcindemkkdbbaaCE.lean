/- A group with at most so many numbers, of its own. -/
import Derived.Test.YtpcindemkkdbbaaCD
namespace Go.Proofs.Ytpcindemkkdbbaa
set_option linter.unusedVariables false
set_option linter.unusedSimpArgs false
open Go.RowKit

theorem set7 (W : World) (g : Nat) (S : Nat → Prop) (v0 v1 v2 v3 v4 v5 v6 : Value) (h : S g) : Kept W (((((((W.setCell ⟨g, 0, none⟩ v0).setCell ⟨g, 1, none⟩ v1).setCell ⟨g, 2, none⟩ v2).setCell ⟨g, 3, none⟩ v3).setCell ⟨g, 4, none⟩ v4).setCell ⟨g, 5, none⟩ v5).setCell ⟨g, 6, none⟩ v6) S :=
  (((((((Kept.refl W S).set (.inl h)).set (.inl h)).set (.inl h)).set (.inl h)).set (.inl h)).set (.inl h)).set (.inl h)
def capC (x : Cy) : Cy := { x with us := x.us.take 70, is := x.is.take 20 }
theorem capC_small (x : Cy) : SmallC (capC x) := ⟨by simp [capC]; omega, by simp [capC]; omega⟩
theorem capC_def (ix bl fb fi ro : Int) (us is : List Int) : capC ⟨ix, bl, fb, fi, ro, us, is⟩ = ⟨ix, bl, fb, fi, ro, us.take 70, is.take 20⟩ := rfl
set_option maxRecDepth 100000 in
set_option maxHeartbeats 4000000 in
theorem one_any (x : Cy) (A : Option Addr) (c : Nat) (A2 : Option Addr) (d : Nat) (w : World) (hc : x.us.length ≤ c ∧ c ≤ maxLen) (hd : x.is.length ≤ d ∧ d ≤ maxLen) (hU : Ints w w.heap.size A x.us) (hI : Ints w w.heap.size A2 x.is) :
    Calls Try.prog 12 #[x.v A c A2 d] w (ForkSays w (capC x)) := by
  have HCx : Hid (∀ W, Below w.heap.size w W → Calls Try.prog 45 #[(capC x).v A c A2 d] W (ForkSays W (capC x))) := fun W hW => refcopy_any (capC x) A c A2 d W (capC_small x).1 (capC_small x).2 ((hU.take 70).next hW) ((hI.take 20).next hW)
  obtain ⟨Q, hQ⟩ : ∃ Q, Q = ForkSays w (capC x) := ⟨_, rfl⟩
  have HQ : Hid (∀ e w', ForkSays w (capC x) e w' → Q e w') := by unfold Hid; rw [hQ]; exact fun _ _ h => h
  rw [← hQ]
  have HB : Hid (∀ o1 o2, Below w.heap.size w ((w.alloc o1).alloc o2)) := fun o1 o2 => ((Below.refl _ w).alloc (Nat.le_refl _) o1).alloc (by simp) o2
  have HXS := Lib.hid @set7
  clear hQ hU hI
  obtain ⟨ix, bl, fb, fi, ro, us, is⟩ := x
  rw [capC_def] at HCx HQ
  unfold Cy.v at HCx ⊢
  simp only at HCx hc hd ⊢
  obtain ⟨hc1, hc2⟩ := hc
  obtain ⟨hd1, hd2⟩ := hd
  have hmx : maxLen = 9223372036854775807 := rfl
  rw [hmx] at hc2 hd2
  clear hmx
  obtain ⟨U, hU⟩ : ∃ U, U = us.take 70 := ⟨_, rfl⟩
  obtain ⟨I, hI⟩ : ∃ I, I = is.take 20 := ⟨_, rfl⟩
  have hm1 : U.length = min 70 us.length := by rw [hU, List.length_take]
  have hm2 : I.length = min 20 is.length := by rw [hI, List.length_take]
  rw [← hU, ← hI] at HCx HQ
  obtain ⟨n1, h1⟩ : ∃ n1, n1 = us.length := ⟨_, rfl⟩
  obtain ⟨n2, h2⟩ : ∃ n2, n2 = is.length := ⟨_, rfl⟩
  rw [← h1] at hc1 hm1
  rw [← h2] at hd1 hm2
  rw [← h1, ← h2]
  clear h1 h2 hU hI

  by_cases h1 : 70 < n1
  · by_cases h2 : 20 < n2
    · have h1i : (70 : Int) < (n1 : Int) := by omega
      have h1c : 70 ≤ c := by omega
      have h1d : (70 : Int) ≤ (c : Int) := by omega
      have h2i : (20 : Int) < (n2 : Int) := by omega
      have h2c : 20 ≤ d := by omega
      have h2d : (20 : Int) ≤ (d : Int) := by omega
      have HM1 : Hid (U.length = 70) := by unfold Hid; omega
      have HM2 : Hid (I.length = 20) := by unfold Hid; omega
      rw [HM1.out, HM2.out] at HCx
      clear hm1 hm2
      go_enter Try.func12, Try.ntmps12
      go_wp2_with fail
      generalize hbx : Obj.cells #[.int .i64 ix, .int .i64 bl, .int .i64 fb, .int .i64 fi, .int .i64 ro, .slice A 70 c, .slice A2 20 d] 24 = bx
      generalize hzx : Obj.cells #[.int .i64 0, .int .i64 0, .int .i64 0, .int .i64 0, .int .i64 0, .slice none 0 0, .slice none 0 0] 24 = zx
      have HB0 := HB.out bx zx
      have hs0 : ((w.alloc bx).alloc zx).heap.size = w.heap.size + 2 := by simp
      have h01 : ((w.alloc bx).alloc zx).heap[w.heap.size + 1]? = some zx := by have := Go.heap_alloc_new (w.alloc bx) zx; rwa [World.size_alloc] at this
      generalize (w.alloc bx).alloc zx = W0 at HB0 hs0 h01 ⊢
      subst hbx hzx
      refine (HCx.out _ HB0).mono ?_
      rintro e w2 ⟨A', c', A2', d', rfl, hr1, hr2, hap, hB2⟩
      have h21 := (hB2.block _ (by omega)).trans h01
      obtain ⟨r0, r1, r2, r3, r4, r5, r6⟩ := seven h21
      have g0 := frozen_of_row w2 _ 0 _ 24 h21
      have g1 := frozen_of_row w2 _ 1 _ 24 h21
      have g2 := frozen_of_row w2 _ 2 _ 24 h21
      have g3 := frozen_of_row w2 _ 3 _ 24 h21
      have g4 := frozen_of_row w2 _ 4 _ 24 h21
      have g5 := frozen_of_row w2 _ 5 _ 24 h21
      have g6 := frozen_of_row w2 _ 6 _ 24 h21
      have hz2 : w.heap.size + 2 ≤ w2.heap.size := by have := hB2.size; omega
      have Hr1 := Lib.hid hr1
      have Hr2 := Lib.hid hr2
      have Hap := Lib.hid hap
      have HB2 := Lib.hid (HB0.trans (hB2.mono (by omega)))
      have HW0 : Hid (W0.heap.size = w.heap.size + 2) := hs0
      clear h21 hr1 hr2 hap hB2 HCx HB0 h01 hs0
      unfold Cy.v
      simp only
      rw [HM1.out, HM2.out]
      go_wp2_with fail
      have hK := HXS.out w2 (w.heap.size + 1) (fun k => k = w.heap.size + 1) (.int .i64 ix) (.int .i64 bl) (.int .i64 fb) (.int .i64 fi) (.int .i64 ro) (.slice A' 70 c') (.slice A2' 20 d') rfl
      refine bodyPost_ret (v := .agg #[.int .i64 ix, .int .i64 bl, .int .i64 fb, .int .i64 fi, .int .i64 ro, .slice A' 70 c', .slice A2' 20 d']) (by simp [results, Try.results12, go_sem, r0, r1, r2, r3, r4, r5, r6]) rfl (HQ.out _ _ ⟨A', c', A2', d', by unfold Cy.v; simp only; rw [HM1.out, HM2.out], ?_, ?_, Hap.out, ?_⟩)
      · exact (Hr1.out.keep hK (fun b q r => by have := (Hr1.out.lt q).1; have := HW0.out; omega)).more (by have := HW0.out; omega)
      · exact (Hr2.out.keep hK (fun b q r => by have := (Hr2.out.lt q).1; have := HW0.out; omega)).more (by have := HW0.out; omega)
      · exact HB2.out.trans (hK.below (fun b q => by omega) (by omega))
    · have h1i : (70 : Int) < (n1 : Int) := by omega
      have h1c : 70 ≤ c := by omega
      have h1d : (70 : Int) ≤ (c : Int) := by omega
      have h2i : ¬ (20 : Int) < (n2 : Int) := by omega
      have HM1 : Hid (U.length = 70) := by unfold Hid; omega
      have HM2 : Hid (I.length = n2) := by unfold Hid; omega
      rw [HM1.out, HM2.out] at HCx
      clear hm1 hm2
      go_enter Try.func12, Try.ntmps12
      go_wp2_with fail
      generalize hbx : Obj.cells #[.int .i64 ix, .int .i64 bl, .int .i64 fb, .int .i64 fi, .int .i64 ro, .slice A 70 c, .slice A2 n2 d] 24 = bx
      generalize hzx : Obj.cells #[.int .i64 0, .int .i64 0, .int .i64 0, .int .i64 0, .int .i64 0, .slice none 0 0, .slice none 0 0] 24 = zx
      have HB0 := HB.out bx zx
      have hs0 : ((w.alloc bx).alloc zx).heap.size = w.heap.size + 2 := by simp
      have h01 : ((w.alloc bx).alloc zx).heap[w.heap.size + 1]? = some zx := by have := Go.heap_alloc_new (w.alloc bx) zx; rwa [World.size_alloc] at this
      generalize (w.alloc bx).alloc zx = W0 at HB0 hs0 h01 ⊢
      subst hbx hzx
      refine (HCx.out _ HB0).mono ?_
      rintro e w2 ⟨A', c', A2', d', rfl, hr1, hr2, hap, hB2⟩
      have h21 := (hB2.block _ (by omega)).trans h01
      obtain ⟨r0, r1, r2, r3, r4, r5, r6⟩ := seven h21
      have g0 := frozen_of_row w2 _ 0 _ 24 h21
      have g1 := frozen_of_row w2 _ 1 _ 24 h21
      have g2 := frozen_of_row w2 _ 2 _ 24 h21
      have g3 := frozen_of_row w2 _ 3 _ 24 h21
      have g4 := frozen_of_row w2 _ 4 _ 24 h21
      have g5 := frozen_of_row w2 _ 5 _ 24 h21
      have g6 := frozen_of_row w2 _ 6 _ 24 h21
      have hz2 : w.heap.size + 2 ≤ w2.heap.size := by have := hB2.size; omega
      have Hr1 := Lib.hid hr1
      have Hr2 := Lib.hid hr2
      have Hap := Lib.hid hap
      have HB2 := Lib.hid (HB0.trans (hB2.mono (by omega)))
      have HW0 : Hid (W0.heap.size = w.heap.size + 2) := hs0
      clear h21 hr1 hr2 hap hB2 HCx HB0 h01 hs0
      unfold Cy.v
      simp only
      rw [HM1.out, HM2.out]
      go_wp2_with fail
      have hK := HXS.out w2 (w.heap.size + 1) (fun k => k = w.heap.size + 1) (.int .i64 ix) (.int .i64 bl) (.int .i64 fb) (.int .i64 fi) (.int .i64 ro) (.slice A' 70 c') (.slice A2' n2 d') rfl
      refine bodyPost_ret (v := .agg #[.int .i64 ix, .int .i64 bl, .int .i64 fb, .int .i64 fi, .int .i64 ro, .slice A' 70 c', .slice A2' n2 d']) (by simp [results, Try.results12, go_sem, r0, r1, r2, r3, r4, r5, r6]) rfl (HQ.out _ _ ⟨A', c', A2', d', by unfold Cy.v; simp only; rw [HM1.out, HM2.out], ?_, ?_, Hap.out, ?_⟩)
      · exact (Hr1.out.keep hK (fun b q r => by have := (Hr1.out.lt q).1; have := HW0.out; omega)).more (by have := HW0.out; omega)
      · exact (Hr2.out.keep hK (fun b q r => by have := (Hr2.out.lt q).1; have := HW0.out; omega)).more (by have := HW0.out; omega)
      · exact HB2.out.trans (hK.below (fun b q => by omega) (by omega))
  · by_cases h2 : 20 < n2
    · have h1i : ¬ (70 : Int) < (n1 : Int) := by omega
      have h2i : (20 : Int) < (n2 : Int) := by omega
      have h2c : 20 ≤ d := by omega
      have h2d : (20 : Int) ≤ (d : Int) := by omega
      have HM1 : Hid (U.length = n1) := by unfold Hid; omega
      have HM2 : Hid (I.length = 20) := by unfold Hid; omega
      rw [HM1.out, HM2.out] at HCx
      clear hm1 hm2
      go_enter Try.func12, Try.ntmps12
      go_wp2_with fail
      generalize hbx : Obj.cells #[.int .i64 ix, .int .i64 bl, .int .i64 fb, .int .i64 fi, .int .i64 ro, .slice A n1 c, .slice A2 20 d] 24 = bx
      generalize hzx : Obj.cells #[.int .i64 0, .int .i64 0, .int .i64 0, .int .i64 0, .int .i64 0, .slice none 0 0, .slice none 0 0] 24 = zx
      have HB0 := HB.out bx zx
      have hs0 : ((w.alloc bx).alloc zx).heap.size = w.heap.size + 2 := by simp
      have h01 : ((w.alloc bx).alloc zx).heap[w.heap.size + 1]? = some zx := by have := Go.heap_alloc_new (w.alloc bx) zx; rwa [World.size_alloc] at this
      generalize (w.alloc bx).alloc zx = W0 at HB0 hs0 h01 ⊢
      subst hbx hzx
      refine (HCx.out _ HB0).mono ?_
      rintro e w2 ⟨A', c', A2', d', rfl, hr1, hr2, hap, hB2⟩
      have h21 := (hB2.block _ (by omega)).trans h01
      obtain ⟨r0, r1, r2, r3, r4, r5, r6⟩ := seven h21
      have g0 := frozen_of_row w2 _ 0 _ 24 h21
      have g1 := frozen_of_row w2 _ 1 _ 24 h21
      have g2 := frozen_of_row w2 _ 2 _ 24 h21
      have g3 := frozen_of_row w2 _ 3 _ 24 h21
      have g4 := frozen_of_row w2 _ 4 _ 24 h21
      have g5 := frozen_of_row w2 _ 5 _ 24 h21
      have g6 := frozen_of_row w2 _ 6 _ 24 h21
      have hz2 : w.heap.size + 2 ≤ w2.heap.size := by have := hB2.size; omega
      have Hr1 := Lib.hid hr1
      have Hr2 := Lib.hid hr2
      have Hap := Lib.hid hap
      have HB2 := Lib.hid (HB0.trans (hB2.mono (by omega)))
      have HW0 : Hid (W0.heap.size = w.heap.size + 2) := hs0
      clear h21 hr1 hr2 hap hB2 HCx HB0 h01 hs0
      unfold Cy.v
      simp only
      rw [HM1.out, HM2.out]
      go_wp2_with fail
      have hK := HXS.out w2 (w.heap.size + 1) (fun k => k = w.heap.size + 1) (.int .i64 ix) (.int .i64 bl) (.int .i64 fb) (.int .i64 fi) (.int .i64 ro) (.slice A' n1 c') (.slice A2' 20 d') rfl
      refine bodyPost_ret (v := .agg #[.int .i64 ix, .int .i64 bl, .int .i64 fb, .int .i64 fi, .int .i64 ro, .slice A' n1 c', .slice A2' 20 d']) (by simp [results, Try.results12, go_sem, r0, r1, r2, r3, r4, r5, r6]) rfl (HQ.out _ _ ⟨A', c', A2', d', by unfold Cy.v; simp only; rw [HM1.out, HM2.out], ?_, ?_, Hap.out, ?_⟩)
      · exact (Hr1.out.keep hK (fun b q r => by have := (Hr1.out.lt q).1; have := HW0.out; omega)).more (by have := HW0.out; omega)
      · exact (Hr2.out.keep hK (fun b q r => by have := (Hr2.out.lt q).1; have := HW0.out; omega)).more (by have := HW0.out; omega)
      · exact HB2.out.trans (hK.below (fun b q => by omega) (by omega))
    · have h1i : ¬ (70 : Int) < (n1 : Int) := by omega
      have h2i : ¬ (20 : Int) < (n2 : Int) := by omega
      have HM1 : Hid (U.length = n1) := by unfold Hid; omega
      have HM2 : Hid (I.length = n2) := by unfold Hid; omega
      rw [HM1.out, HM2.out] at HCx
      clear hm1 hm2
      go_enter Try.func12, Try.ntmps12
      go_wp2_with fail
      generalize hbx : Obj.cells #[.int .i64 ix, .int .i64 bl, .int .i64 fb, .int .i64 fi, .int .i64 ro, .slice A n1 c, .slice A2 n2 d] 24 = bx
      generalize hzx : Obj.cells #[.int .i64 0, .int .i64 0, .int .i64 0, .int .i64 0, .int .i64 0, .slice none 0 0, .slice none 0 0] 24 = zx
      have HB0 := HB.out bx zx
      have hs0 : ((w.alloc bx).alloc zx).heap.size = w.heap.size + 2 := by simp
      have h01 : ((w.alloc bx).alloc zx).heap[w.heap.size + 1]? = some zx := by have := Go.heap_alloc_new (w.alloc bx) zx; rwa [World.size_alloc] at this
      generalize (w.alloc bx).alloc zx = W0 at HB0 hs0 h01 ⊢
      subst hbx hzx
      refine (HCx.out _ HB0).mono ?_
      rintro e w2 ⟨A', c', A2', d', rfl, hr1, hr2, hap, hB2⟩
      have h21 := (hB2.block _ (by omega)).trans h01
      obtain ⟨r0, r1, r2, r3, r4, r5, r6⟩ := seven h21
      have g0 := frozen_of_row w2 _ 0 _ 24 h21
      have g1 := frozen_of_row w2 _ 1 _ 24 h21
      have g2 := frozen_of_row w2 _ 2 _ 24 h21
      have g3 := frozen_of_row w2 _ 3 _ 24 h21
      have g4 := frozen_of_row w2 _ 4 _ 24 h21
      have g5 := frozen_of_row w2 _ 5 _ 24 h21
      have g6 := frozen_of_row w2 _ 6 _ 24 h21
      have hz2 : w.heap.size + 2 ≤ w2.heap.size := by have := hB2.size; omega
      have Hr1 := Lib.hid hr1
      have Hr2 := Lib.hid hr2
      have Hap := Lib.hid hap
      have HB2 := Lib.hid (HB0.trans (hB2.mono (by omega)))
      have HW0 : Hid (W0.heap.size = w.heap.size + 2) := hs0
      clear h21 hr1 hr2 hap hB2 HCx HB0 h01 hs0
      unfold Cy.v
      simp only
      rw [HM1.out, HM2.out]
      go_wp2_with fail
      have hK := HXS.out w2 (w.heap.size + 1) (fun k => k = w.heap.size + 1) (.int .i64 ix) (.int .i64 bl) (.int .i64 fb) (.int .i64 fi) (.int .i64 ro) (.slice A' n1 c') (.slice A2' n2 d') rfl
      refine bodyPost_ret (v := .agg #[.int .i64 ix, .int .i64 bl, .int .i64 fb, .int .i64 fi, .int .i64 ro, .slice A' n1 c', .slice A2' n2 d']) (by simp [results, Try.results12, go_sem, r0, r1, r2, r3, r4, r5, r6]) rfl (HQ.out _ _ ⟨A', c', A2', d', by unfold Cy.v; simp only; rw [HM1.out, HM2.out], ?_, ?_, Hap.out, ?_⟩)
      · exact (Hr1.out.keep hK (fun b q r => by have := (Hr1.out.lt q).1; have := HW0.out; omega)).more (by have := HW0.out; omega)
      · exact (Hr2.out.keep hK (fun b q r => by have := (Hr2.out.lt q).1; have := HW0.out; omega)).more (by have := HW0.out; omega)
      · exact HB2.out.trans (hK.below (fun b q => by omega) (by omega))
end Go.Proofs.Ytpcindemkkdbbaa
