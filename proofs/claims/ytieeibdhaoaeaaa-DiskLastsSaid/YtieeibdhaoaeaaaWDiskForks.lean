/- DiskForks is true of every deeds, and leaves its arguments as they are. Here: the walk of the law's text. -/
import Derived.Test.YtieeibdhaoaeaaaWDiskPlays
set_option linter.unusedVariables false
set_option linter.unusedSimpArgs false
namespace Go.Proofs.Ytieeibdhaoaeaaa
open Go.RowKit

/-- both disks, and a copy of the first one -/
def Half (w wr : World) (d r n c k : Nat) : Prop := ∃ S F G, Both wr d r n S c F ∧ Uni n S ∧ Code wr k n S c G ∧ (∀ b, F b → ¬ G b) ∧ (∀ b, F b → w.heap.size ≤ b) ∧ (∀ b, G b → w.heap.size ≤ b) ∧ Below w.heap.size w wr
/-- both disks, and copies of both -/
def Own2 (w wr : World) (d r h g n c c' : Nat) : Prop := ∃ S F S' G, Both wr d r n S c F ∧ Uni n S ∧ Both wr h g n S' c' G ∧ Uni n S' ∧ (∀ b, F b → ¬ G b) ∧ (∀ b, F b → w.heap.size ≤ b) ∧ (∀ b, G b → w.heap.size ≤ b) ∧ Below w.heap.size w wr
theorem OwnB.fork {w w1 : World} {d r n c : Nat} (h : OwnB w w1 d r n c) (hc : c < 100000) : Calls Try.prog 22 #[.pointer (some ⟨d, 0, none⟩)] w1 fun e w' => ∃ k, e = .returned (.pointer (some ⟨k, 0, none⟩)) ∧ Half w w' d r n c k := by
  obtain ⟨S, F, h1, h2, h3, h4⟩ := h
  have h1' := h1
  obtain ⟨F1, F2, q1, q2, q3, rfl⟩ := h1
  refine (cfork q1 hc).mono ?_
  rintro e w' ⟨k, G, rfl, hk, hG, hB⟩
  refine ⟨k, rfl, S, _, G, h1'.fresh hB, h2, hk, fun b p q => ?_, h3, fun b q => Nat.le_trans h4.size (hG b q), h4.trans (hB.mono h4.size)⟩
  have := h1'.lt b p
  have := hG b q
  omega
theorem Half.fork {w w1 : World} {d r n c h : Nat} (H : Half w w1 d r n c h) (hc : c < 100000) : Calls Try.prog 27 #[.pointer (some ⟨r, 0, none⟩)] w1 fun e w' => ∃ g, e = .returned (.pointer (some ⟨g, 0, none⟩)) ∧ Own2 w w' d r h g n c c := by
  obtain ⟨S, F, G, h1, h2, h3, h4, h5, h6, h7⟩ := H
  have h1' := h1
  obtain ⟨F1, F2, q1, q2, q3, rfl⟩ := h1
  refine (rfork q2 hc).mono ?_
  rintro e w' ⟨g, G2, rfl, hk, hG, hB⟩
  refine ⟨g, rfl, S, _, S, _, h1'.fresh hB, h2, ⟨G, G2, h3.fresh hB, hk, fun b p q => ?_, rfl⟩, h2, fun b p q => ?_, h5, fun b q => ?_, h7.trans (hB.mono h7.size)⟩
  · have := h3.lt b p
    have := hG b q
    omega
  · rcases q with q | q
    · exact h4 b p q
    · have := h1'.lt b p
      have := hG b q
      omega
  · rcases q with q | q
    · exact h6 b q
    · exact Nat.le_trans h7.size (hG b q)
theorem Own2.done {w w1 : World} {d r h g n c c' : Nat} (H : Own2 w w1 d r h g n c c') (hc : c' < 50000) {x : Dd} (hx : DdIn w x) :
    Calls Try.prog 28 #[.pointer (some ⟨h, 0, none⟩), .pointer (some ⟨g, 0, none⟩), x.v] w1 fun e w' => e = .returned (.bool true) ∧ Own2 w w' d r h g n c (c' + 1) := by
  obtain ⟨S, F, S', G, h1, h2, h3, h4, h5, h6, h7, h8⟩ := H
  have hp : PickAt w1 G x.P x.pick := by
    rcases hx.at_ with q | ⟨b, o, q1, q2, _, q4⟩
    · exact .inl q
    · exact .inr ⟨b, o, q1, Nat.lt_of_lt_of_le q2 h8.size, fun q => by have := h7 b q; omega, fun j u hj => by rw [World.cell?_of_block (a := ⟨b, o + j, none⟩) (h8.block b q2)]; exact q4 j u hj⟩
  refine (do_any h3 hc x ⟨hx.c0, hx.pw, hp⟩).mono ?_
  rintro e w' ⟨rfl, F', hq, hk, hf⟩
  refine ⟨rfl, S, F, _, F', h1.keep hk h5, h2, hq, h4.doS hx.c0, fun b p q => ?_, h6, fun b q => ?_, h8.trans (hk.below h7 h8.size)⟩
  · rcases hf b q with q | q
    · exact h5 b p q
    · have := h1.lt b p
      omega
  · rcases hf b q with q | q
    · exact h7 b q
    · exact Nat.le_trans h8.size q
theorem Own2.same1 {w w1 : World} {d r h g n c c' : Nat} (H : Own2 w w1 d r h g n c c') (hc : c < 100000) : Calls Try.prog 14 #[.pointer (some ⟨d, 0, none⟩), .pointer (some ⟨r, 0, none⟩)] w1 fun e w' => e = .returned (.bool true) ∧ Own2 w w' d r h g n c c' := by
  obtain ⟨S, F, S', G, h1, h2, h3, h4, h5, h6, h7, h8⟩ := H
  refine (same_any h1 hc).mono ?_
  rintro e w' ⟨rfl, hB⟩
  exact ⟨rfl, S, F, S', G, h1.fresh hB, h2, h3.fresh hB, h4, h5, h6, h7, h8.trans (hB.mono h8.size)⟩
theorem Own2.same2 {w w1 : World} {d r h g n c c' : Nat} (H : Own2 w w1 d r h g n c c') (hc : c' < 100000) : Calls Try.prog 14 #[.pointer (some ⟨h, 0, none⟩), .pointer (some ⟨g, 0, none⟩)] w1 fun e w' => e = .returned (.bool true) ∧ Below w.heap.size w w' := by
  obtain ⟨S, F, S', G, h1, h2, h3, h4, h5, h6, h7, h8⟩ := H
  refine (same_any h3 hc).mono ?_
  rintro e w' ⟨rfl, hB⟩
  exact ⟨rfl, h8.trans (hB.mono h8.size)⟩
end Go.Proofs.Ytieeibdhaoaeaaa
namespace Go.Proofs.Ytieeibdhaoaeaaa.DiskForks
open Go.RowKit
set_option maxRecDepth 100000 in
set_option maxHeartbeats 2000000 in
theorem walk (A : Option Addr) (len cap : Nat) (L : List Dd) (A' : Option Addr) (len' cap' : Nat) (L' : List Dd) (w : World) (hL : L.length = len ∧ DeedsAt w A L ∧ ∀ x ∈ L, DdIn w x) (hL' : L'.length = len' ∧ DeedsAt w A' L' ∧ ∀ x ∈ L', DdIn w x) :
    Calls Try.prog 8 #[.slice A len cap, .slice A' len' cap'] w fun e w' => e = .returned (.bool true) ∧ Below w.heap.size w w' := by
  obtain ⟨rfl, hA, hD⟩ := hL
  obtain ⟨rfl, hA', hD'⟩ := hL'
  have PL : Hid (Calls Try.prog 12 #[.int .u8 5, .slice A L.length cap] w (Played w 6)) := play_any w 5 ⟨by decide, by decide⟩ A cap L hA hD
  have LV : Hid (∀ w1 d r, OwnB w w1 d r 6 60 → Calls Try.prog 13 #[] w1 fun e w' => e = .returned (.bool true) ∧ OwnB w w' d r 6 60) := fun w1 d r h => h.live
  have FK1 : Hid (∀ w1 d r, OwnB w w1 d r 6 60 → Calls Try.prog 22 #[.pointer (some ⟨d, 0, none⟩)] w1 fun e w' => ∃ k, e = .returned (.pointer (some ⟨k, 0, none⟩)) ∧ Half w w' d r 6 60 k) := fun w1 d r h => h.fork (by decide)
  have FK2 : Hid (∀ w1 d r h, Half w w1 d r 6 60 h → Calls Try.prog 27 #[.pointer (some ⟨r, 0, none⟩)] w1 fun e w' => ∃ g, e = .returned (.pointer (some ⟨g, 0, none⟩)) ∧ Own2 w w' d r h g 6 60 60) := fun w1 d r h H => H.fork (by decide)
  have HDo : Hid (∀ wr d r h g i (hi : i < L'.length), i < 20 → Own2 w wr d r h g 6 60 (60 + i) → Calls Try.prog 28 #[.pointer (some ⟨h, 0, none⟩), .pointer (some ⟨g, 0, none⟩), .agg L'[i].cs.toArray] wr fun e w' => e = .returned (.bool true) ∧ Own2 w w' d r h g 6 60 (60 + (i + 1))) := fun wr d r h g i hi hi6 H => H.done (by omega) (hD' _ (List.getElem_mem hi))
  have HG : Hid (∀ wr d r h g i (hi : i < L'.length), Own2 w wr d r h g 6 60 (60 + i) → ∃ b o, A' = some ⟨b, o, none⟩ ∧ wr.rangeAt b (o + i * 5) L'[i].cs) := fun wr d r h g i hi H => by
    obtain ⟨S, F, S', G, _, _, _, _, _, _, _, h8⟩ := H
    exact hA'.get hi h8
  have S1 : Hid (∀ w1 d r h g k, k ≤ 20 → Own2 w w1 d r h g 6 60 (60 + k) → Calls Try.prog 14 #[.pointer (some ⟨d, 0, none⟩), .pointer (some ⟨r, 0, none⟩)] w1 fun e w' => e = .returned (.bool true) ∧ Own2 w w' d r h g 6 60 (60 + k)) := fun w1 d r h g k hk H => H.same1 (by decide)
  have S2 : Hid (∀ w1 d r h g k, k ≤ 20 → Own2 w w1 d r h g 6 60 (60 + k) → Calls Try.prog 14 #[.pointer (some ⟨h, 0, none⟩), .pointer (some ⟨g, 0, none⟩)] w1 fun e w' => e = .returned (.bool true) ∧ Below w.heap.size w w') := fun w1 d r h g k hk H => H.same2 (by omega)
  have hsz : Hid (∀ i (hi : i < L'.length), (Try.prog.info? 41).map (·.size) = some L'[i].cs.length) := fun i hi => size41
  clear hA hD hA' hD'
  go_enter Try.func8, Try.ntmps8
  go_wp2_with fail
  refine PL.out.mono ?_
  rintro e w1 ⟨d, r, rfl, h1⟩
  have H1 := Lib.hid h1
  clear h1
  go_wp2_with fail
  refine (LV.out _ _ _ H1.out).mono ?_
  rintro e w2 ⟨rfl, h2⟩
  have H2 := Lib.hid h2
  clear h2
  go_wp2_with fail
  refine (FK1.out _ _ _ H2.out).mono ?_
  rintro e w3 ⟨h, rfl, h3⟩
  have H3 := Lib.hid h3
  clear h3
  go_wp2_with fail
  refine (FK2.out _ _ _ _ H3.out).mono ?_
  rintro e w4 ⟨g, rfl, h4⟩
  have H4 := Lib.hid h4
  clear h4
  go_wp2_with fail
  go_loopw [10] (fun i wr => ∃ k : Nat, k ≤ L'.length ∧ k ≤ 20 ∧ i = .int .i64 k ∧ Own2 w wr d r h g 6 60 (60 + k)) (fun i _ => L'.length - (intOf i).toNat)
  case atStart => exact ⟨0, Nat.zero_le _, Nat.zero_le _, rfl, H4.out⟩
  case round =>
    obtain ⟨k, hk, hk6, rfl, hO⟩ := hrel
    rename World => wr
    have HO := Lib.hid hO
    have E1 := Lib.hid (S1.out wr d r h g k hk6 hO)
    have E2 : Hid (∀ W, Own2 w W d r h g 6 60 (60 + k) → Calls Try.prog 14 #[.pointer (some ⟨h, 0, none⟩), .pointer (some ⟨g, 0, none⟩)] W fun e w' => e = .returned (.bool true) ∧ Below w.heap.size w w') := fun W H => S2.out W d r h g k hk6 H
    clear hO
    by_cases hlt : k < L'.length
    · have hlt' : (k : Int) < (L'.length : Int) := by omega
      have hk0 : (0 : Int) ≤ (k : Int) := by omega
      have hwk : IntKind.i64.wrap ((k : Int) + 1) = (k : Int) + 1 := by simp [IntKind.wrap, IntKind.bits, IntKind.signed]; omega
      by_cases h60 : k < 20
      · have h60' : (k : Int) < 20 := by omega
        obtain ⟨b, o, hAe, hr⟩ := HG.out wr d r h g k hlt HO.out
        have HR := Lib.hid hr
        have DO := Lib.hid (HDo.out wr d r h g k hlt h60 HO.out)
        have hs := Lib.hid (hsz.out k hlt)
        obtain ⟨X, hX⟩ : ∃ X, X = L'[k].cs := ⟨_, rfl⟩
        rw [← hX] at HR DO hs
        subst hAe
        clear hr hX
        go_wp2_with (refine wpList_load_mid rfl 41 (.tmp 41) rfl b (o + k * 5) rfl X _ HR.out Try.underlying41 rfl hs.out ?_)
        refine DO.out.mono ?_
        rintro e w5 ⟨rfl, h5⟩
        have H5 := Lib.hid h5
        clear h5
        go_wp2_with fail
        go_roundw
        case rel => exact ⟨k + 1, by omega, by omega, rfl, H5.out⟩
        case measure => simp [intOf]; omega
      · have h60' : ¬ (k : Int) < 20 := by omega
        go_wp2_with fail
        refine E1.out.mono ?_
        rintro e w5 ⟨rfl, h5⟩
        have H5 := Lib.hid h5
        clear h5
        go_wp2_with fail
        refine (E2.out _ H5.out).mono ?_
        rintro e w6 ⟨rfl, h6⟩
        have H6 := Lib.hid h6
        clear h6
        go_wp2
        go_ret
        exact ⟨rfl, H6.out⟩
    · have hlt' : ¬ (k : Int) < (L'.length : Int) := by omega
      go_wp2_with fail
      refine E1.out.mono ?_
      rintro e w5 ⟨rfl, h5⟩
      have H5 := Lib.hid h5
      clear h5
      go_wp2_with fail
      refine (E2.out _ H5.out).mono ?_
      rintro e w6 ⟨rfl, h6⟩
      have H6 := Lib.hid h6
      clear h6
      go_wp2
      go_ret
      exact ⟨rfl, H6.out⟩
end Go.Proofs.Ytieeibdhaoaeaaa.DiskForks
