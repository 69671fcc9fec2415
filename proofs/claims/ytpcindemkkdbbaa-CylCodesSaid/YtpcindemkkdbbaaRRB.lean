/- The document's Rebuild. -/
import Derived.Test.YtpcindemkkdbbaaBE
import Derived.Test.YtpcindemkkdbbaaRE
namespace Go.Proofs.Ytpcindemkkdbbaa
set_option linter.unusedVariables false
set_option linter.unusedSimpArgs false
open Go.RowKit

set_option maxRecDepth 100000 in
set_option maxHeartbeats 2000000 in
theorem refrebuild_any (x : Cy) (A : Option Addr) (c : Nat) (A2 : Option Addr) (d : Nat) (w : World) (hu : x.us.length ≤ 1000) (hi : x.is.length ≤ 1000) (hU : Ints w w.heap.size A x.us) (hI : Ints w w.heap.size A2 x.is) :
    Calls Try.prog 18 #[x.v A c A2 d] w (CySays w (if rightC (recount x) then recount x else cy0) (if rightC (recount x) then 0 else 3)) := by
  obtain ⟨v, hv⟩ : ∃ v, v = IntKind.i64.wrap (x.bl - x.us.length) := ⟨_, rfl⟩
  have hvv : 1 ≤ x.bl → x.bl ≤ 64 → v = x.bl - x.us.length := fun h1 h2 => by rw [hv, IntWalk.i64_in _ (by omega)]
  have HRW := Lib.hid (recount_wrap x v hvv)
  have HF : Hid (∀ W, Below w.heap.size w W → Calls Try.prog 24 #[({ x with fb := v, fi := 16 - x.is.length } : Cy).v A c A2 d] W fun e w' => e = .returned (.bool (rightC ({ x with fb := v, fi := 16 - x.is.length } : Cy))) ∧ Below W.heap.size W w') := fun W hW => refright_any ({ x with fb := v, fi := 16 - x.is.length } : Cy) A c A2 d W hu hi (hU.next hW) (hI.next hW)
  have HK : Hid (∀ W, Below w.heap.size w W → Calls Try.prog 45 #[({ x with fb := v, fi := 16 - x.is.length } : Cy).v A c A2 d] W (ForkSays W ({ x with fb := v, fi := 16 - x.is.length } : Cy))) := fun W hW => refcopy_any ({ x with fb := v, fi := 16 - x.is.length } : Cy) A c A2 d W hu hi (hU.next hW) (hI.next hW)
  have HY : Hid (rightC (recount x) = true → ({ x with fb := v, fi := 16 - x.is.length } : Cy) = recount x) := fun t => by
    have := ((rightC_iff _).1 t).bl
    have e := hvv this.1 this.2
    unfold recount; rw [e]
  clear hU hI hvv
  obtain ⟨Q, hQ⟩ : ∃ Q, Q = CySays w (if rightC (recount x) then recount x else cy0) (if rightC (recount x) then 0 else 3) := ⟨_, rfl⟩
  obtain ⟨r, hr⟩ : ∃ r, r = rightC (recount x) := ⟨_, rfl⟩
  have HQ : Hid (∀ e w', CySays w (if r then recount x else cy0) (if r then 0 else 3) e w' → Q e w') := by unfold Hid; rw [hQ, hr]; exact fun _ _ h => h
  have HX : Hid (r = true → ({ x with fb := v, fi := 16 - x.is.length } : Cy) = recount x) := by unfold Hid; rw [hr]; exact HY.out
  rw [HRW.out, ← hr] at HF
  rw [← hQ]
  clear hQ hr HRW HY
  obtain ⟨ix, bl, fb, fi, ro, us, is⟩ := x
  unfold Cy.v at HF HK ⊢
  simp only at HF HK hv hu hi HX ⊢
  obtain ⟨n1, h1⟩ : ∃ n1, n1 = us.length := ⟨_, rfl⟩
  obtain ⟨n2, h2⟩ : ∃ n2, n2 = is.length := ⟨_, rfl⟩
  have H1 := Lib.hid h1
  have H2 := Lib.hid h2
  rw [← h1] at HF HK hv hu ⊢
  rw [← h2] at HF HK hi HX ⊢
  have hv' : IntKind.i64.wrap (bl - (n1 : Int)) = v := hv.symm
  clear h1 h2 hv
  have HB : Hid (∀ o o2, Below w.heap.size w ((w.alloc o).alloc o2)) := fun o o2 => ((Below.refl _ w).alloc (Nat.le_refl _) _).alloc (by simp) _
  have hwr : IntKind.i64.wrap (16 - (n2 : Int)) = 16 - (n2 : Int) := IntWalk.i64_in _ (by omega)
  have HN : Hid (∀ e w', CySays w (if true = true then recount ⟨ix, bl, fb, fi, ro, us, is⟩ else cy0) (if true = true then 0 else 3) e w' ↔ CySays w (recount ⟨ix, bl, fb, fi, ro, us, is⟩) 0 e w') := fun _ _ => Iff.rfl
  have set7 : Hid (∀ (W : World) (g : Nat) (S : Nat → Prop) (v0 v1 v2 v3 v4 v5 v6 : Value), S g → Kept W (((((((W.setCell ⟨g, 0, none⟩ v0).setCell ⟨g, 1, none⟩ v1).setCell ⟨g, 2, none⟩ v2).setCell ⟨g, 3, none⟩ v3).setCell ⟨g, 4, none⟩ v4).setCell ⟨g, 5, none⟩ v5).setCell ⟨g, 6, none⟩ v6) S) := fun W g S v0 v1 v2 v3 v4 v5 v6 h =>
    (((((((Kept.refl W S).set (.inl h)).set (.inl h)).set (.inl h)).set (.inl h)).set (.inl h)).set (.inl h)).set (.inl h)
  cases r with
  | false =>
    go_enter Try.func18, Try.ntmps18
    go_wp2_with fail
    generalize hbx : Obj.cells #[.int .i64 ix, .int .i64 bl, .int .i64 v, .int .i64 (16 - (n2 : Int)), .int .i64 ro, .slice A n1 c, .slice A2 n2 d] 24 = bx
    generalize hzx : Obj.cells #[.int .i64 0, .int .i64 0, .int .i64 0, .int .i64 0, .int .i64 0, .slice none 0 0, .slice none 0 0] 24 = zx
    have HB0 := HB.out bx zx
    have hs0 : ((w.alloc bx).alloc zx).heap.size = w.heap.size + 2 := by simp
    have h00 : ((w.alloc bx).alloc zx).heap[w.heap.size]? = some bx := (((Below.refl (w.heap.size + 1) (w.alloc bx)).alloc (by simp) zx).block w.heap.size (Nat.lt_succ_self _)).trans (Go.heap_alloc_new w bx)
    have h01 : ((w.alloc bx).alloc zx).heap[w.heap.size + 1]? = some zx := by have := Go.heap_alloc_new (w.alloc bx) zx; rwa [World.size_alloc] at this
    generalize (w.alloc bx).alloc zx = W0 at HB0 hs0 h00 h01 ⊢
    subst hbx hzx
    refine (HF.out _ HB0).mono ?_
    rintro e w1 ⟨rfl, hB1⟩
    have h10 := (hB1.block _ (by omega)).trans h00
    have h11 := (hB1.block _ (by omega)).trans h01
    have hz1 : w.heap.size + 2 ≤ w1.heap.size := by have := hB1.size; omega
    have HB1 : Hid (Below w.heap.size w w1) := HB0.trans (hB1.mono (by omega))
    clear HF hB1 HB0 h00 h01
    obtain ⟨r0, r1, r2, r3, r4, r5, r6⟩ := seven h11
    have g0 := frozen_of_row w1 _ 0 _ 24 h11
    have g1 := frozen_of_row w1 _ 1 _ 24 h11
    have g2 := frozen_of_row w1 _ 2 _ 24 h11
    have g3 := frozen_of_row w1 _ 3 _ 24 h11
    have g4 := frozen_of_row w1 _ 4 _ 24 h11
    have g5 := frozen_of_row w1 _ 5 _ 24 h11
    have g6 := frozen_of_row w1 _ 6 _ 24 h11
    clear h10 h11
    go_wp2_with fail
    have hK := set7.out w1 (w.heap.size + 1) (fun k => k = w.heap.size + 1) (.int .i64 0) (.int .i64 0) (.int .i64 0) (.int .i64 0) (.int .i64 0) (.slice none 0 0) (.slice none 0 0) rfl
    refine bodyPost_ret (v := .tuple #[.agg #[.int .i64 0, .int .i64 0, .int .i64 0, .int .i64 0, .int .i64 0, .slice none 0 0, .slice none 0 0], .int .i64 3]) (by simp [results, Try.results18, go_sem, r0, r1, r2, r3, r4, r5, r6]) rfl (HQ.out _ _ ⟨none, 0, none, 0, rfl, rowI_nil _ _, rowI_nil _ _, (fun b q => by cases q), ?_⟩)
    exact HB1.out.trans (hK.below (fun b q => by omega) (by omega))
  | true =>
    go_enter Try.func18, Try.ntmps18
    go_wp2_with fail
    generalize hbx : Obj.cells #[.int .i64 ix, .int .i64 bl, .int .i64 v, .int .i64 (16 - (n2 : Int)), .int .i64 ro, .slice A n1 c, .slice A2 n2 d] 24 = bx
    generalize hzx : Obj.cells #[.int .i64 0, .int .i64 0, .int .i64 0, .int .i64 0, .int .i64 0, .slice none 0 0, .slice none 0 0] 24 = zx
    have HB0 := HB.out bx zx
    have hs0 : ((w.alloc bx).alloc zx).heap.size = w.heap.size + 2 := by simp
    have h00 : ((w.alloc bx).alloc zx).heap[w.heap.size]? = some bx := (((Below.refl (w.heap.size + 1) (w.alloc bx)).alloc (by simp) zx).block w.heap.size (Nat.lt_succ_self _)).trans (Go.heap_alloc_new w bx)
    have h01 : ((w.alloc bx).alloc zx).heap[w.heap.size + 1]? = some zx := by have := Go.heap_alloc_new (w.alloc bx) zx; rwa [World.size_alloc] at this
    generalize (w.alloc bx).alloc zx = W0 at HB0 hs0 h00 h01 ⊢
    subst hbx hzx
    refine (HF.out _ HB0).mono ?_
    rintro e w1 ⟨rfl, hB1⟩
    have h10 := (hB1.block _ (by omega)).trans h00
    have h11 := (hB1.block _ (by omega)).trans h01
    have hz1 : w.heap.size + 2 ≤ w1.heap.size := by have := hB1.size; omega
    have HB1 : Hid (Below w.heap.size w w1) := HB0.trans (hB1.mono (by omega))
    clear HF hB1 HB0 h00 h01
    obtain ⟨c0, c1, c2, c3, c4, c5, c6⟩ := seven h10
    have H11 := Lib.hid h11
    clear h10 h11
    go_wp2_with fail
    refine (HK.out _ HB1.out).mono ?_
    rintro e w2 ⟨A', c', A2', d', rfl, hr1, hr2, hap, hB2⟩
    have h21 := (hB2.block _ (by omega)).trans H11.out
    obtain ⟨r0, r1, r2, r3, r4, r5, r6⟩ := seven h21
    have g0 := frozen_of_row w2 _ 0 _ 24 h21
    have g1 := frozen_of_row w2 _ 1 _ 24 h21
    have g2 := frozen_of_row w2 _ 2 _ 24 h21
    have g3 := frozen_of_row w2 _ 3 _ 24 h21
    have g4 := frozen_of_row w2 _ 4 _ 24 h21
    have g5 := frozen_of_row w2 _ 5 _ 24 h21
    have g6 := frozen_of_row w2 _ 6 _ 24 h21
    have hz2 : w1.heap.size ≤ w2.heap.size := hB2.size
    have Hr1 := Lib.hid hr1
    have Hr2 := Lib.hid hr2
    have Hap := Lib.hid hap
    have HB2 := Lib.hid (HB1.out.trans (hB2.mono (by omega)))
    clear h21 hr1 hr2 hap hB2 c0 c1 c2 c3 c4 c5 c6 HK
    unfold Cy.v
    simp only
    go_wp2_with fail
    have hK := set7.out w2 (w.heap.size + 1) (fun k => k = w.heap.size + 1) (.int .i64 ix) (.int .i64 bl) (.int .i64 v) (.int .i64 (16 - (n2 : Int))) (.int .i64 ro) (.slice A' us.length c') (.slice A2' is.length d') rfl
    have hx := HX.out trivial
    rw [← hx] at HQ
    refine bodyPost_ret (v := .tuple #[.agg #[.int .i64 ix, .int .i64 bl, .int .i64 v, .int .i64 (16 - (n2 : Int)), .int .i64 ro, .slice A' us.length c', .slice A2' is.length d'], .int .i64 0]) (by simp [results, Try.results18, go_sem, r0, r1, r2, r3, r4, r5, r6]) rfl (HQ.out _ _ ⟨A', c', A2', d', rfl, ?_, ?_, Hap.out, ?_⟩)
    · exact (Hr1.out.keep hK (fun b q r => by have := (Hr1.out.lt q).1; omega)).more (by omega)
    · exact (Hr2.out.keep hK (fun b q r => by have := (Hr2.out.lt q).1; omega)).more (by omega)
    · exact HB2.out.trans (hK.below (fun b q => by omega) (by omega))
end Go.Proofs.Ytpcindemkkdbbaa
