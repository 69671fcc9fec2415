/- live. -/
import Derived.Test.YtieeibdhaoaeaaaLA
set_option linter.unusedVariables false
set_option linter.unusedSimpArgs false
namespace Go.Proofs.Ytieeibdhaoaeaaa
open Go.RowKit

theorem Went.grow {w w1 w' : World} {F : Nat → Prop} {Q : (Nat → Prop) → Prop} (h : Went w1 w' F Q) (hB : Below w.heap.size w w1) (hF : ∀ b, F b → w.heap.size ≤ b) : Below w.heap.size w w' ∧ ∃ F', Q F' ∧ ∀ b, F' b → w.heap.size ≤ b := by
  obtain ⟨F', hQ, hk, hf⟩ := h
  refine ⟨hB.trans (hk.below (fun b hb => hF b hb) hB.size), F', hQ, fun b hb => ?_⟩
  rcases hf b hb with q | q
  · exact hF b q
  · exact Nat.le_trans hB.size q
/-- a disk of this call's own -/
def Own (w wr : World) (d n : Nat) (S : Nat → Bk) (c : Nat) : Prop := Below w.heap.size w wr ∧ ∃ F, Code wr d n S c F ∧ ∀ b, F b → w.heap.size ≤ b
theorem Own.next {w w1 w2 : World} {d n c : Nat} {S : Nat → Bk} (h : Own w w1 d n S c) (hB : Below w1.heap.size w1 w2) : Own w w2 d n S c := by
  obtain ⟨h1, F, hC, hF⟩ := h
  exact ⟨h1.trans (hB.mono h1.size), F, hC.fresh hB, hF⟩
def liveS : Nat → Bk := fun _ => ⟨noSec, [], false⟩
set_option maxRecDepth 100000 in
set_option maxHeartbeats 1000000 in
theorem live_any (w : World) : Calls Try.prog 13 #[] w fun e w' => e = .returned (.bool true) ∧ Below w.heap.size w w' := by
  have C1 : Hid (Calls Try.prog 26 #[.int .i64 2] w fun e w' => e = .returned (.pointer (some ⟨w.heap.size + 1, 0, none⟩)) ∧ Own w w' (w.heap.size + 1) 2 liveS 0) := by
    refine (cnew (m := 2) (by decide) (by decide) w).mono ?_
    rintro e w' ⟨rfl, hF, hB⟩
    exact ⟨rfl, hB, hF⟩
  obtain ⟨d, hd⟩ : ∃ d, d = w.heap.size + 1 := ⟨_, rfl⟩
  rw [← hd] at C1
  have SE := Lib.hid (fun (c : Int) W => sector_any c W)
  have WR : Hid (∀ W S k c, Own w W d 2 S k → 0 ≤ c ∧ c ≤ 255 → k < 100 → (S 0).b = false → Calls Try.prog 17 #[.pointer (some ⟨d, 0, none⟩), .int .i64 0, secV (uniS c)] W fun e w' => e = .returned (.int .i64 0) ∧ Own w w' d 2 (upd S 0 ⟨(S 0).s, (S 0).v ++ [uniS c], (S 0).b⟩) (k + 1)) := fun W S k c h hc hk hb => by
    obtain ⟨hB, F, hC, hF⟩ := h
    refine (cwrite hC (i := 0) (by decide) hb (uniS_ok hc) (by omega)).mono ?_
    rintro e w' ⟨rfl, hW⟩
    exact ⟨rfl, hW.grow hB hF⟩
  have VR : Hid (∀ W S k, Own w W d 2 S k → k < 100 → Calls Try.prog 21 #[.pointer (some ⟨d, 0, none⟩), .int .i64 0] W fun e w' => e = .returned (.int .i64 (vers 2 S 0)) ∧ Own w w' d 2 S k) := fun W S k h hk => by
    obtain ⟨hB, F, hC, hF⟩ := h
    refine (cvers hC 0 (by decide) (by omega)).mono ?_
    rintro e w' ⟨rfl, hB2⟩
    exact ⟨rfl, Own.next ⟨hB, F, hC, hF⟩ hB2⟩
  have CR : Hid (∀ W S k, Own w W d 2 S k → k < 100 → Calls Try.prog 19 #[.pointer (some ⟨d, 0, none⟩), .slice (some ⟨W.heap.size, 0, none⟩) 1 1] (W.alloc (.cells #[.int .i64 1] 3)) fun e w' => e = .returned (.int .i64 0) ∧ Own w w' d 2 (crashed 2 S [1]) k) := fun W S k h hk => by
    obtain ⟨hB, F, hC, hF⟩ := h
    have hB2 : Below W.heap.size W (W.alloc (.cells #[.int .i64 1] 3)) := below_alloc1 W _
    have hC2 := hC.fresh hB2
    refine (ccrash hC2 (by omega) [1] (fun x hx => by obtain rfl : x = 1 := by simpa using hx
                                                      decide) (some ⟨W.heap.size, 0, none⟩) 1 (.inr ⟨_, _, rfl, by simp, fun q => by have := hC.lt _ q; omega, fun j u hj => ?_⟩)).mono ?_
    · rw [Nat.zero_add, cell_of_row _ W.heap.size j #[.int .i64 1] 3 (0, 0) (heap_alloc_new W _)]
      simpa using hj
    · rintro e w' ⟨rfl, hW⟩
      exact ⟨rfl, hW.grow (hB.trans (hB2.mono hB.size)) hF⟩
  have RD : Hid (∀ W S k, Own w W d 2 S k → k < 100 → Calls Try.prog 20 #[.pointer (some ⟨d, 0, none⟩), .int .i64 0] W fun e w' => e = .returned (.tuple #[secV (S 0).now, .int .i64 0]) ∧ Own w w' d 2 S k) := fun W S k h hk => by
    obtain ⟨hB, F, hC, hF⟩ := h
    refine (cread hC (i := 0) (by decide) (by omega)).mono ?_
    rintro e w' ⟨rfl, hB2⟩
    exact ⟨rfl, Own.next ⟨hB, F, hC, hF⟩ hB2⟩
  have SZ : Hid (∀ W S k, Own w W d 2 S k → Calls Try.prog 29 #[.pointer (some ⟨d, 0, none⟩)] W fun e w' => e = .returned (.int .i64 2) ∧ W = w') := fun W S k h => by
    obtain ⟨hB, F, hC, hF⟩ := h
    exact csize hC
  obtain ⟨S1, hS1⟩ : ∃ S1, S1 = upd liveS 0 ⟨(liveS 0).s, (liveS 0).v ++ [uniS 1], (liveS 0).b⟩ := ⟨_, rfl⟩
  obtain ⟨S2, hS2⟩ : ∃ S2, S2 = upd S1 0 ⟨(S1 0).s, (S1 0).v ++ [uniS 2], (S1 0).b⟩ := ⟨_, rfl⟩
  have hS1b : Hid ((S1 0).b = false) := by rw [hS1]; rfl
  have hS2v : (S2 0).v = [uniS 1, uniS 2] := by rw [hS2, upd_same, hS1]; rfl
  have V2 : Hid (vers 2 S2 0 = 2) := by unfold vers Hid; rw [if_pos (by decide)]; show (S2 0).v.length = 2; rw [hS2v]; rfl
  have N2 : Hid ((crashed 2 S2 [1] 0).now = uniS 1) := by
    have hw : waits 2 S2 = [0] := by
      have h1 : (S2 1).v = [] := by rw [hS2, hS1]; rfl
      unfold waits
      rw [show List.range 2 = [0, 1] from rfl]
      simp [hS2v, h1]
    unfold Hid crashed Bk.left Bk.now
    rw [hw, hS2v]
    rfl
  have W1 := Lib.hid (fun W h => WR.out W liveS 0 1 h (by decide) (by decide) rfl)
  have W2 := Lib.hid (fun W h => WR.out W S1 1 2 h (by decide) (by decide) hS1b.out)
  rw [← hS1] at W1
  rw [← hS2] at W2
  have S1V := Lib.hid (SE.out 1)
  have S2V := Lib.hid (SE.out 2)
  have VR2 := Lib.hid (fun W h => VR.out W S2 2 h (by decide))
  rw [V2.out] at VR2
  have CR2 := Lib.hid (fun W h => CR.out W S2 2 h (by decide))
  obtain ⟨S3, hS3⟩ : ∃ S3, S3 = crashed 2 S2 [1] := ⟨_, rfl⟩
  rw [← hS3] at CR2 N2
  have RD2 := Lib.hid (fun W h => RD.out W S3 2 h (by decide))
  rw [N2.out] at RD2
  have SZ2 := Lib.hid (fun W h => SZ.out W S3 2 h)
  have hszU : Hid ((Try.prog.info? 36).map (·.size) = some (bytesV (uniS 1)).toArray.size) := by unfold Hid; rw [List.size_toArray, length_bytesV]; simp only [uniS, List.length_replicate]; kernel_rfl
  have honeU : Hid ((bytesV (uniS 1)).toArray.all (·.oneCell') = true) := all_oneCell_toArray (bytesV_one _)
  have h32U : Hid (32 = (bytesV (uniS 1)).toArray.size) := by unfold Hid; rw [List.size_toArray, length_bytesV]; simp [uniS]
  have hc3 : Hid ((bytesV (uniS 1)).toArray[3]? = some (.int .u8 1)) := rfl
  unfold secV at W1 W2 S1V S2V RD2
  obtain ⟨U1, hU1⟩ : ∃ U, U = (bytesV (uniS 1)).toArray := ⟨_, rfl⟩
  obtain ⟨U2, hU2⟩ : ∃ U, U = (bytesV (uniS 2)).toArray := ⟨_, rfl⟩
  rw [← hU1] at W1 S1V RD2 hszU honeU h32U hc3
  rw [← hU2] at W2 S2V
  clear hS1 hS2 hS3 hS2v hU1 hU2 hd WR VR CR RD SZ SE V2 N2
  go_enter Try.func13, Try.ntmps13
  go_wp2_with fail
  refine C1.out.mono ?_
  rintro e w1 ⟨rfl, h1⟩
  have H1 := Lib.hid h1
  clear h1
  go_wp2_with fail
  refine (S1V.out _).mono ?_
  rintro e w2 ⟨rfl, hB⟩
  have H2 := Lib.hid (H1.out.next hB)
  clear hB
  go_wp2_with fail
  refine (W1.out _ H2.out).mono ?_
  rintro e w3 ⟨rfl, h3⟩
  have H3 := Lib.hid h3
  clear h3
  go_wp2_with fail
  refine (S2V.out _).mono ?_
  rintro e w4 ⟨rfl, hB⟩
  have H4 := Lib.hid (H3.out.next hB)
  clear hB
  go_wp2_with fail
  refine (W2.out _ H4.out).mono ?_
  rintro e w5 ⟨rfl, h5⟩
  have H5 := Lib.hid h5
  clear h5
  go_wp2_with fail
  refine (VR2.out _ H5.out).mono ?_
  rintro e w6 ⟨rfl, h6⟩
  have H6 := Lib.hid h6
  clear h6
  go_wp2_with fail
  refine (CR2.out _ H6.out).mono ?_
  rintro e w7 ⟨rfl, h7⟩
  have H7 := Lib.hid h7
  clear h7
  go_wp2_with fail
  refine (RD2.out _ H7.out).mono ?_
  rintro e w8 ⟨rfl, h8⟩
  have H8 := Lib.hid h8
  clear h8
  go_wp2_with (first
    | (refine wpList_store_row rfl 36 (.tmp 4) (.tmp 21) rfl w8.heap.size U1 rfl rfl 36 _ (heap_alloc_new w8 _) hszU.out h32U.out honeU.out ?_
       generalize hW : World.setRow (w8.alloc (Obj.cells _ 36)) _ U1 = w9
       have H9 : Hid (Own w w9 d 2 S3 2) := by rw [← hW]; exact H8.out.next (below_setRow (below_alloc1 w8 _) (Nat.le_refl _) _)
       have c9 : w9.cell? ⟨w8.heap.size, 3, none⟩ = some (.int .u8 1) := by
         rw [← hW, cell_of_row _ w8.heap.size 3 U1 36 (0, 0) (setRow_heap _ _ _ _ _ _ (heap_alloc_new w8 _))]
         exact hc3.out
       have Z9 := Lib.hid (SZ2.out w9 H9.out)
       clear hW)
    | (refine Z9.out.mono ?_; rintro e w' ⟨rfl, rfl⟩))
  go_ret
  exact ⟨rfl, H9.out.1⟩
end Go.Proofs.Ytieeibdhaoaeaaa
