/- CylSpreads: the walk of the law's text. -/
import Derived.Test.YtpcindemkkdbbaaMB
import Derived.Test.YtpcindemkkdbbaaON
import Derived.Test.YtpcindemkkdbbaaCG
import Derived.Test.YtpcindemkkdbbaaDI
namespace Go.Proofs.Ytpcindemkkdbbaa.cylSpreads
set_option linter.unusedVariables false
set_option linter.unusedSimpArgs false
open Go.RowKit

theorem two {W : World} {g : Nat} {t : TypeId} {x0 x1 : Value} (h : W.heap[g]? = some (.cells #[x0, x1] t (0, 0))) : W.cell? ⟨g, 0, none⟩ = some x0 ∧ W.cell? ⟨g, 1, none⟩ = some x1 := by
  refine ⟨?_, ?_⟩ <;> rw [cellAt_of h] <;> rfl
set_option maxRecDepth 100000 in
set_option maxHeartbeats 8000000 in
theorem walk (A1 : Option Addr) (n1 c1 : Nat) (l1 : List Int) (A2 : Option Addr) (n2 c2 : Nat) (l2 : List Int) (a : Int) (w : World) (hl1 : BtsIn w A1 n1 c1 l1) (hl2 : BtsIn w A2 n2 c2 l2) (ha : 0 ≤ a ∧ a ≤ 255) :
    Calls Try.prog 10 #[.slice A1 n1 c1, .slice A2 n2 c2, .int .u8 a] w fun e w' => e = .returned (.bool true) ∧ Below w.heap.size w w' := by
  have HM : Hid (Calls Try.prog 44 #[.slice A1 n1 c1, .slice A2 n2 c2] w (MadeSays w l1)) := made_any A1 c1 n1 l1 A2 c2 n2 l2 hl1.1.symm hl2.1.symm (by have := hl1.2.1; omega) (by have := hl2.2.1; omega) w hl1.2.2 hl2.2.2
  have HLv : Hid (∀ W, Calls Try.prog 21 #[] W fun e w' => e = .returned (.bool true) ∧ Below W.heap.size W w') := fun W => live_any W
  obtain ⟨ha0, ha1⟩ := ha
  clear hl1 hl2
  obtain ⟨Q, hQ⟩ : ∃ Q : Ending → World → Prop, Q = fun e w' => e = .returned (.bool true) ∧ Below w.heap.size w w' := ⟨_, rfl⟩
  have HQ : Hid (∀ w', Below w.heap.size w w' → Q (.returned (.bool true)) w') := by unfold Hid; rw [hQ]; exact fun w' h => ⟨rfl, h⟩
  rw [← hQ]
  clear hQ
  go_enter Try.func10, Try.ntmps10
  go_wp2_with fail
  refine HM.out.mono ?_
  rintro e w1 ⟨A, c, L, rfl, hWO, hLl, hCy, hB1⟩
  obtain ⟨m, hm⟩ : ∃ m, m = L.length := ⟨_, rfl⟩
  rw [← hm]
  have hm16 : m ≤ 16 := by rw [hm]; exact hWO.len
  have Hm := Lib.hid hm
  have HCy := Lib.hid hCy
  have HB1 := Lib.hid hB1
  have HWO := Lib.hid hWO
  clear hm hCy hB1 hWO hLl HM
  go_wp2_with fail
  go_loopw [7, 8] (fun v i W => ∃ (k : Nat) (L : List Cy) (A : Option Addr) (c : Nat), i = .int .i64 k ∧ k ≤ 20 ∧ v = .slice A m c ∧ m = L.length ∧ WholeO L ∧ Cyls W W.heap.size A L ∧ Below w.heap.size w W) (fun _ i _ => 20 - (intOf i).toNat)
  case atStart => exact ⟨0, L, A, c, rfl, by omega, rfl, Hm.out, HWO.out, HCy.out, HB1.out⟩
  case round =>
    clear Hm HCy HB1 HWO
    obtain ⟨k, L, A, c, rfl, hk6, rfl, hLm, hWL, hCL, hBL⟩ := hrel
    rename World => wr
    have Hm := Lib.hid hLm
    have HWL := Lib.hid hWL
    have HCL := Lib.hid hCL
    have HBL := Lib.hid hBL
    have hk0 : (0 : Int) ≤ (k : Int) := by omega
    clear hLm hWL hCL hBL
    by_cases h1 : (k : Int) < a % 20
    · by_cases h2 : (0 : Int) < (m : Int)
      · have hk20 : k < 20 := by omega
        have hmne : ¬ (m : Int) = 0 := by omega
        have hW : Whole L := HWL.out.resolve_left (fun e => by have := Hm.out; rw [e] at this; simp at this; omega)
        have HW := Lib.hid hW
        obtain ⟨N, hN⟩ : ∃ N, N = freeI L := ⟨_, rfl⟩
        have HN := Lib.hid hN
        have hN1 := (free_in hW).2
        rw [← hN] at hN1
        obtain ⟨hN0, hN2⟩ := hN1
        have HF : Hid (∀ W, Below wr.heap.size wr W → Calls Try.prog 39 #[.slice A m c] W fun e w' => (∃ q, e = .returned (.tuple #[.int .i64 q, .int .i64 N])) ∧ Below W.heap.size W w') := fun W h => by
          refine (free_any A c m L Hm.out W (whole_small HW.out) (HCL.out.next h)).mono ?_
          rintro e w' ⟨rfl, hB⟩
          exact ⟨⟨_, by rw [HN.out]⟩, hB⟩
        have HD : Hid (∀ W, Below wr.heap.size wr W → Calls Try.prog 35 #[.slice A m c] W (AnSays W (dirL L))) := fun W h => dir_any A c m L Hm.out W (whole_small HW.out) (HCL.out.next h)
        clear hW hN
        go_wp2_with fail
        refine (HF.out _ (Below.refl _ _)).mono ?_
        rintro e w2 ⟨⟨qb, rfl⟩, hB2⟩
        have HB2 := Lib.hid hB2
        clear hB2
        go_wp2_with fail
        refine (HD.out _ HB2.out).mono ?_
        by_cases hN0' : N = 0
        · have hd : dirL L = ⟨[], 0, 0, 4⟩ := by unfold dirL; rw [if_pos ((wholeL_iff L).2 HW.out), ← HN.out, if_pos hN0']
          rw [hd]
          rintro e w3 ⟨A3, c3, rfl, _, hB3⟩
          have HB3 := Lib.hid (HB2.out.trans (hB3.mono HB2.out.size))
          clear hB3 hd
          go_wp2_with fail
          refine (HLv.out _).mono ?_
          rintro e w4 ⟨rfl, hB4⟩
          have HB4 := Lib.hid (HBL.out.trans (((HB3.out.alloc HB3.out.size _).trans (hB4.mono (by have := HB3.out.size; simp; omega))).mono HBL.out.size))
          clear hB4
          go_wp2_with fail
          exact HQ.out _ HB4.out
        · obtain ⟨hb1, hb2, hb3⟩ := best_found HW.out (by rw [← HN.out]; exact hN0')
          obtain ⟨i, hi⟩ := inodeAt_of (HW.out.ok _ hb1) (by have := enough_pos L; omega)
          have hd : dirL L = ⟨L.set (bestTo L (enough L) L.length).1 (takeI (cyN L (bestTo L (enough L) L.length).1) i), (bestTo L (enough L) L.length).1, i, 0⟩ := by
            unfold dirL; rw [if_pos ((wholeL_iff L).2 HW.out), ← HN.out, if_neg hN0', inodeG_some hi]
          have hW2 := whole_inode HW.out hb1 hi
          rw [hd]
          have He : Hid (enough L = max (N / (m : Int)) 1) := by unfold Hid enough; rw [← HN.out, ← Hm.out]
          generalize (bestTo L (enough L) L.length).1 = g at hb1 hb2 hb3 hi hW2
          have hgm : g < m := by rw [Hm.out]; exact hb1
          have Hlen : Hid ((L.set g (takeI (cyN L g) i)).length = m) := by unfold Hid; rw [List.length_set]; exact Hm.out.symm
          rintro e w3 ⟨A3, c3, rfl, hG, hB3⟩
          dsimp only at hG ⊢
          rw [Hlen.out]
          have HC3 := Lib.hid hG.cyls
          have HW2 := Lib.hid hW2
          have HB3 := Lib.hid (HB2.out.trans (hB3.mono HB2.out.size))
          skip
          have Hbest := Lib.hid hb3
          rw [He.out] at hb2
          obtain ⟨gb, off, Ag, cg, A2g, c2g, rfl, hgb, hcy⟩ := HCL.out.at_ hb1
          have HFi : Hid (∀ W, Below wr.heap.size wr W → W.cell? ⟨gb, off + g * 7 + 3, none⟩ = some (.int .i64 (cyN L g).fi) ∧ W.cell? ⟨gb, off + g * 7 + 2, none⟩ = some (.int .i64 (cyN L g).fb)) := fun W h => ⟨(h.cell (p := ⟨gb, off + g * 7 + 3, none⟩) hgb).trans hcy.c3, (h.cell (p := ⟨gb, off + g * 7 + 2, none⟩) hgb).trans hcy.c2⟩
          obtain ⟨fiB, hfi⟩ : ∃ f, f = (cyN L g).fi := ⟨_, rfl⟩
          obtain ⟨fbB, hfb⟩ : ∃ f, f = (cyN L g).fb := ⟨_, rfl⟩
          rw [← hfi] at hb2
          rw [← hfi, ← hfb] at HFi
          rw [← hfb] at Hbest
          have hq0 : 0 ≤ N / (m : Int) := Int.ediv_nonneg hN0 (by omega)
          have hfl : N / (m : Int) ≤ fiB := by omega
          have t1 : decide ((g : Int) < 0) = false := decide_eq_false (by omega)
          have t2 : decide (m ≤ g) = false := decide_eq_false (by omega)
          have t3 : decide (fiB < N / (m : Int)) = false := decide_eq_false (by omega)
          have hgmi : (g : Int) < (m : Int) := by omega
          have hg0 : (0 : Int) ≤ (g : Int) := by omega
          clear hd hG hB3 hb1 hb2 hb3 hi hW2 hcy hfi hfb HD HF
          go_wp2_with fail
          have hB34 : Below w3.heap.size w3 (w3.alloc (.cells #[.int .i64 g, .int .i64 i] 41)) := (Below.refl _ w3).alloc (Nat.le_refl _) _
          have H4 : Hid ((w3.alloc (.cells #[.int .i64 g, .int .i64 i] 41)).heap[w3.heap.size]? = some (.cells #[.int .i64 g, .int .i64 i] 41 (0, 0))) := Go.heap_alloc_new w3 _
          generalize w3.alloc (.cells #[.int .i64 g, .int .i64 i] 41) = w4 at hB34 H4 ⊢
          have HB4 := Lib.hid (HB3.out.trans (hB34.mono HB3.out.size))
          have HC4 := Lib.hid (HC3.out.next hB34)
          have hz4 := lt_heap H4.out
          obtain ⟨e0, e1⟩ := two H4.out
          obtain ⟨f3, f2⟩ := HFi.out w4 HB4.out
          have hgz : gb < w4.heap.size := by have := HB4.out.size; omega
          clear hB34
          go_wp2_with fail
          go_quiet (fail)
          go_wp2_with fail
          clear e0 e1 f3 f2 hgz t1 t2 t3
          go_loopw [14] (fun s W => ∃ k2 : Nat, k2 ≤ m ∧ s = .int .i64 k2 ∧ Blk W w3.heap.size 41 #[.int .i64 g, .int .i64 i] ∧ Below w4.heap.size w4 W) (fun s _ => m - (intOf s).toNat)
          case atStart => exact ⟨0, Nat.zero_le _, rfl, H4.out, bdn (Below.refl _ _) _⟩
          case round =>
            obtain ⟨j, hj, rfl, hX, hBW⟩ := hrel
            rename World => W
            have hj0 : (0 : Int) ≤ (j : Int) := by omega
            have HX := Lib.hid hX
            have HBW := Lib.hid hBW
            by_cases hlt : j < m
            · have hlti : (j : Int) < (m : Int) := by omega
              have hjl : j < L.length := by rw [← Hm.out]; exact hlt
              obtain ⟨gb', off', Aj, cj, A2j, c2j, he, _, hcj⟩ := HCL.out.at_ hjl
              have he2 := Option.some.inj he
              obtain ⟨rfl, rfl⟩ : gb = gb' ∧ off = off' := ⟨congrArg (·.block) he2, congrArg (·.off) he2⟩
              have hBr : Below wr.heap.size wr W := HB4.out.trans (hBW.mono HB4.out.size)
              have p2 := (hBr.cell (p := ⟨gb, off + j * 7 + 2, none⟩) hgb).trans hcj.c2
              have p3 := (hBr.cell (p := ⟨gb, off + j * 7 + 3, none⟩) hgb).trans hcj.c3
              obtain ⟨f3, f2⟩ := HFi.out W hBr
              obtain ⟨e0, e1⟩ := two hX
              have hz := lt_heap hX
              have hgz : gb < W.heap.size := by have := hBr.size; omega
              have hbj := fun h => Hbest.out j hjl h
              rw [He.out] at hbj
              obtain ⟨fb, hfb⟩ : ∃ f, f = (cyN L j).fb := ⟨_, rfl⟩
              obtain ⟨fi, hfi⟩ : ∃ f, f = (cyN L j).fi := ⟨_, rfl⟩
              rw [← hfb] at p2 hbj
              rw [← hfi] at p3 hbj
              have Hbj := Lib.hid hbj
              clear he he2 hcj hfb hfi hbj hX hBW hBr
              by_cases q1 : 1 ≤ fi
              · have t1 : decide (1 ≤ fi) = true := decide_eq_true q1
                by_cases q2 : N / (m : Int) ≤ fi
                · have t2 : decide (N / (m : Int) ≤ fi) = true := decide_eq_true q2
                  have t3 : decide (fbB < fb) = false := decide_eq_false (by have := Hbj.out (by omega); omega)
                  clear q1 q2
                  go_wp2_with fail
                  go_quiet (fail)
                  go_wp2_with fail
                  go_roundw
                  case rel => exact ⟨j + 1, by omega, by go_num, HX.out, bdn HBW.out _⟩
                  case measure => simp [intOf]; omega
                · have t2 : decide (N / (m : Int) ≤ fi) = false := decide_eq_false q2
                  clear q1 q2
                  go_wp2_with fail
                  go_quiet (fail)
                  go_wp2_with fail
                  go_roundw
                  case rel => exact ⟨j + 1, by omega, by go_num, HX.out, bdn HBW.out _⟩
                  case measure => simp [intOf]; omega
              · have t1 : decide (1 ≤ fi) = false := decide_eq_false q1
                clear q1
                go_wp2_with fail
                go_quiet (fail)
                go_wp2_with fail
                go_roundw
                case rel => exact ⟨j + 1, by omega, by go_num, HX.out, bdn HBW.out _⟩
                case measure => simp [intOf]; omega
            · have hlti : ¬ (j : Int) < (m : Int) := by omega
              have HBe := Lib.hid (HBL.out.trans ((HB4.out.trans (hBW.mono HB4.out.size)).mono HBL.out.size))
              have HCe := Lib.hid (HC4.out.next hBW)
              clear hX hBW
              go_wp2_with fail
              go_roundw
              case rel => exact ⟨k + 1, L.set g (takeI (cyN L g) i), A3, c3, by go_num, by omega, rfl, Hlen.out.symm, .inr HW2.out, HCe.out, HBe.out⟩
              case measure => simp [intOf]; omega
      · go_wp2_with fail
        refine (HLv.out _).mono ?_
        rintro e w2 ⟨rfl, hB2⟩
        have HB2 := Lib.hid (HBL.out.trans (hB2.mono HBL.out.size))
        clear hB2
        go_wp2_with fail
        exact HQ.out _ HB2.out
    · go_wp2_with fail
      refine (HLv.out _).mono ?_
      rintro e w2 ⟨rfl, hB2⟩
      have HB2 := Lib.hid (HBL.out.trans (hB2.mono HBL.out.size))
      clear hB2
      go_wp2_with fail
      exact HQ.out _ HB2.out
end Go.Proofs.Ytpcindemkkdbbaa.cylSpreads
