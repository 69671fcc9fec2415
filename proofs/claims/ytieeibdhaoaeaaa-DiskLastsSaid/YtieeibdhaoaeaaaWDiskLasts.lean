/- DiskLasts is true of every deeds, and leaves its arguments as they are. Here: the walk of the law's text. -/
import Derived.Test.YtieeibdhaoaeaaaWDiskForks
set_option linter.unusedVariables false
set_option linter.unusedSimpArgs false
namespace Go.Proofs.Ytieeibdhaoaeaaa
open Go.RowKit

/-- the program's disk and a copy of it: what lasts is the same -/
def TwoP (P : List Int → Bk → Prop) (w wr : World) (d h n c : Nat) (S0 : Nat → Bk) : Prop :=
  ∃ S F G, Code wr d n S c F ∧ (∀ j, j < n → P (S0 j).s (S j)) ∧ Code wr h n S0 60 G ∧ (∀ b, F b → ¬ G b) ∧ (∀ b, F b → w.heap.size ≤ b) ∧ (∀ b, G b → w.heap.size ≤ b) ∧ Below w.heap.size w wr
def TwoC := TwoP fun s b => b.s = s
def TwoD := TwoP fun s b => b.now = s
theorem crashed_nil (n : Nat) (S : Nat → Bk) (j : Nat) : (S j).s = (crashed n S [] j).now := by simp [crashed, Bk.left, Bk.now]
section
variable {P : List Int → Bk → Prop} {w w1 w2 : World} {d h n c : Nat} {S0 : Nat → Bk}
theorem TwoP.next (H : TwoP P w w1 d h n c S0) (hB : Below w1.heap.size w1 w2) : TwoP P w w2 d h n c S0 := by
  obtain ⟨S, F, G, h1, h2, h3, h4, h5, h6, h7⟩ := H
  exact ⟨S, F, G, h1.fresh hB, h2, h3.fresh hB, h4, h5, h6, h7.trans (hB.mono h7.size)⟩
theorem TwoC.next (H : TwoC w w1 d h n c S0) (hB : Below w1.heap.size w1 w2) : TwoC w w2 d h n c S0 := TwoP.next H hB
theorem TwoD.next (H : TwoD w w1 d h n c S0) (hB : Below w1.heap.size w1 w2) : TwoD w w2 d h n c S0 := TwoP.next H hB
theorem TwoP.below (H : TwoP P w w1 d h n c S0) : Below w.heap.size w w1 := by
  obtain ⟨S, F, G, h1, h2, h3, h4, h5, h6, h7⟩ := H
  exact h7
theorem TwoC.below (H : TwoC w w1 d h n c S0) : Below w.heap.size w w1 := TwoP.below H
theorem TwoD.below (H : TwoD w w1 d h n c S0) : Below w.heap.size w w1 := TwoP.below H
theorem TwoP.went {Q : List Int → Bk → Prop} {F G : Nat → Prop} {c' : Nat} {S' : Nat → Bk} (h3 : Code w1 h n S0 60 G) (h4 : ∀ b, F b → ¬ G b) (h5 : ∀ b, F b → w.heap.size ≤ b) (h6 : ∀ b, G b → w.heap.size ≤ b) (h7 : Below w.heap.size w w1)
    (hq : ∀ j, j < n → Q (S0 j).s (S' j)) (hw : Went w1 w2 F (Code w2 d n S' c')) : TwoP Q w w2 d h n c' S0 := by
  obtain ⟨F', q, hk, hf⟩ := hw
  refine ⟨S', F', G, q, hq, h3.keep hk (fun b p p' => h4 b p' p), fun b p p' => ?_, fun b p => ?_, h6, h7.trans (hk.below h5 h7.size)⟩
  · rcases hf b p with q | q
    · exact h4 b q p'
    · have := h3.lt b p'
      omega
  · rcases hf b p with q | q
    · exact h5 b q
    · exact Nat.le_trans h7.size q
theorem TwoC.write (H : TwoC w w1 d h n c S0) (hc : c < 50000) (z : Int) {v : Int} (hv : 0 ≤ v ∧ v ≤ 255) :
    Calls Try.prog 17 #[.pointer (some ⟨d, 0, none⟩), .int .i64 z, secV (uniS v)] w1 fun e w' => ∃ e0, e = .returned (.int .i64 e0) ∧ TwoC w w' d h n (c + 1) S0 := by
  obtain ⟨S, F, G, h1, h2, h3, h4, h5, h6, h7⟩ := H
  by_cases hi : 0 ≤ z ∧ z < n
  · obtain ⟨i, rfl⟩ : ∃ i : Nat, z = (i : Int) := ⟨z.toNat, by omega⟩
    have hi' : i < n := by omega
    cases hb : (S i).b with
    | true =>
      refine (cbad h1 hi' hb _).mono ?_
      rintro e w' ⟨rfl, hB⟩
      exact ⟨10, rfl, TwoP.went h3 h4 h5 h6 h7 h2 (Went.of_below ((h1.fresh hB).mono (by omega)) hB)⟩
    | false =>
      refine (cwrite h1 hi' hb (uniS_ok hv) (by omega)).mono ?_
      rintro e w' ⟨rfl, hw⟩
      refine ⟨0, rfl, TwoP.went h3 h4 h5 h6 h7 (fun j hj => ?_) hw⟩
      by_cases e : j = i
      · subst e; rw [upd_same]; exact h2 j hj
      · rw [upd_other _ _ e]; exact h2 j hj
  · refine (cwrite_no h1 z hi _).mono ?_
    rintro e w' ⟨rfl, hB⟩
    exact ⟨2, rfl, TwoP.went h3 h4 h5 h6 h7 h2 (Went.of_below ((h1.fresh hB).mono (by omega)) hB)⟩
theorem TwoC.last1 (H : TwoC w w1 d h n c S0) {k : Nat} (hk : k < n) :
    Calls Try.prog 16 #[.pointer (some ⟨d, 0, none⟩), .int .i64 (k : Int)] w1 fun e w' => e = .returned (.tuple #[secV (S0 k).s, .int .i64 0]) ∧ TwoC w w' d h n c S0 := by
  have H' := H
  obtain ⟨S, F, G, h1, h2, h3, h4, h5, h6, h7⟩ := H
  refine (clast h1 hk).mono ?_
  rintro e w' ⟨rfl, hB⟩
  rw [show (S k).s = (S0 k).s from h2 k hk]
  exact ⟨rfl, H'.next hB⟩
theorem TwoP.last2 (H : TwoP P w w1 d h n c S0) {k : Nat} (hk : k < n) :
    Calls Try.prog 16 #[.pointer (some ⟨h, 0, none⟩), .int .i64 (k : Int)] w1 fun e w' => (e = .returned (.tuple #[secV (S0 k).s, .int .i64 0]) ∧ TwoP P w w' d h n c S0) ∧ Below w1.heap.size w1 w' := by
  have H' := H
  obtain ⟨S, F, G, h1, h2, h3, h4, h5, h6, h7⟩ := H
  refine (clast h3 hk).mono ?_
  rintro e w' ⟨rfl, hB⟩
  exact ⟨⟨rfl, H'.next hB⟩, hB⟩
theorem TwoC.last2 (H : TwoC w w1 d h n c S0) {k : Nat} (hk : k < n) :
    Calls Try.prog 16 #[.pointer (some ⟨h, 0, none⟩), .int .i64 (k : Int)] w1 fun e w' => (e = .returned (.tuple #[secV (S0 k).s, .int .i64 0]) ∧ TwoC w w' d h n c S0) ∧ Below w1.heap.size w1 w' := TwoP.last2 H hk
theorem TwoD.last2 (H : TwoD w w1 d h n c S0) {k : Nat} (hk : k < n) :
    Calls Try.prog 16 #[.pointer (some ⟨h, 0, none⟩), .int .i64 (k : Int)] w1 fun e w' => (e = .returned (.tuple #[secV (S0 k).s, .int .i64 0]) ∧ TwoD w w' d h n c S0) ∧ Below w1.heap.size w1 w' := TwoP.last2 H hk
theorem TwoD.read1 (H : TwoD w w1 d h n c S0) (hc : c < 50000) {k : Nat} (hk : k < n) :
    Calls Try.prog 20 #[.pointer (some ⟨d, 0, none⟩), .int .i64 (k : Int)] w1 fun e w' => e = .returned (.tuple #[secV (S0 k).s, .int .i64 0]) ∧ TwoD w w' d h n c S0 := by
  have H' := H
  obtain ⟨S, F, G, h1, h2, h3, h4, h5, h6, h7⟩ := H
  refine (cread h1 hk (by omega)).mono ?_
  rintro e w' ⟨rfl, hB⟩
  rw [show (S k).now = (S0 k).s from h2 k hk]
  exact ⟨rfl, H'.next hB⟩
theorem TwoC.crash (H : TwoC w w1 d h n c S0) (hc : c < 50000) :
    Calls Try.prog 19 #[.pointer (some ⟨d, 0, none⟩), .slice none 0 0] w1 fun e w' => e = .returned (.int .i64 0) ∧ TwoD w w' d h n c S0 := by
  obtain ⟨S, F, G, h1, h2, h3, h4, h5, h6, h7⟩ := H
  refine (ccrash h1 (by omega) [] (fun x hx => by cases hx) none 0 (.inl rfl)).mono ?_
  rintro e w' ⟨rfl, hw⟩
  exact ⟨rfl, TwoP.went h3 h4 h5 h6 h7 (fun j hj => crashed_nil n S j ▸ h2 j hj) hw⟩
end
theorem Half.two {w w1 : World} {d r n h : Nat} (H : Half w w1 d r n 60 h) : ∃ S0, (∀ k, k < n → (S0 k).s.length = 32) ∧ TwoC w w1 d h n 60 S0 := by
  obtain ⟨S, F, G, h1, h2, h3, h4, h5, h6, h7⟩ := H
  obtain ⟨F1, F2, q1, q2, q3, rfl⟩ := h1
  exact ⟨S, fun k hk => (q2.okS hk).1.1, S, F1, G, q1, fun j hj => rfl, h3, fun b p => h4 b (.inl p), fun b p => h5 b (.inl p), h6, h7⟩
end Go.Proofs.Ytieeibdhaoaeaaa
namespace Go.Proofs.Ytieeibdhaoaeaaa.DiskLasts
open Go.RowKit
set_option maxRecDepth 100000 in
set_option maxHeartbeats 4000000 in
theorem walk (A : Option Addr) (len cap : Nat) (L : List Dd) (A' : Option Addr) (len' cap' : Nat) (L' : List Dd) (w : World) (hL : L.length = len ∧ DeedsAt w A L ∧ ∀ x ∈ L, DdIn w x) (hL' : L'.length = len' ∧ DeedsAt w A' L' ∧ ∀ x ∈ L', DdIn w x) :
    Calls Try.prog 5 #[.slice A len cap, .slice A' len' cap'] w fun e w' => e = .returned (.bool true) ∧ Below w.heap.size w w' := by
  obtain ⟨rfl, hA, hD⟩ := hL
  obtain ⟨rfl, hA', hD'⟩ := hL'
  have PL : Hid (Calls Try.prog 12 #[.int .u8 5, .slice A L.length cap] w (Played w 6)) := play_any w 5 ⟨by decide, by decide⟩ A cap L hA hD
  have LV : Hid (∀ w1 d r, OwnB w w1 d r 6 60 → Calls Try.prog 13 #[] w1 fun e w' => e = .returned (.bool true) ∧ OwnB w w' d r 6 60) := fun w1 d r h => h.live
  have FK1 : Hid (∀ w1 d r, OwnB w w1 d r 6 60 → Calls Try.prog 22 #[.pointer (some ⟨d, 0, none⟩)] w1 fun e w' => ∃ k, e = .returned (.pointer (some ⟨k, 0, none⟩)) ∧ Half w w' d r 6 60 k) := fun w1 d r h => h.fork (by decide)
  have HG : Hid (∀ wr i (hi : i < L'.length), Below w.heap.size w wr → ∃ b o, A' = some ⟨b, o, none⟩ ∧ b < w.heap.size ∧ wr.cell? ⟨b, o + i * 5 + 1, none⟩ = some (.int .i64 L'[i].i) ∧ wr.cell? ⟨b, o + i * 5 + 2, none⟩ = some (.int .u8 L'[i].c)) := fun wr i hi hB => by
    obtain ⟨b, o, h1, h2⟩ := hA'.get hi hB
    refine ⟨b, o, h1, ?_, h2 1 _ rfl, h2 2 _ rfl⟩
    rcases hA' with q | ⟨b', o', q1, q2, _⟩
    · rw [q] at hi; simp at hi
    · rw [h1] at q1; simp at q1; omega
  have SX : Hid (∀ W c, Calls Try.prog 18 #[.int .u8 c] W fun e w' => e = .returned (secV (uniS c)) ∧ Below W.heap.size W w') := fun W c => sector_any c W
  have HC : Hid (∀ i (hi : i < L'.length), 0 ≤ L'[i].c ∧ L'[i].c ≤ 255) := fun i hi => (hD' _ (List.getElem_mem hi)).c0
  clear hA hD hA' hD'
  go_enter Try.func5, Try.ntmps5
  go_wp2_with fail
  refine PL.out.mono ?_
  rintro e w1 ⟨d, r, rfl, h1⟩
  have H1 := Lib.hid h1
  clear h1
  go_wp2_with fail
  refine (LV.out _ _ _ H1.out).mono ?_
  rintro e w2 ⟨rfl, h2⟩
  have H2 := Lib.hid h2
  clear h2
  go_wp2_with fail
  refine (FK1.out _ _ _ H2.out).mono ?_
  rintro e w3 ⟨h, rfl, h3⟩
  obtain ⟨S0, hs0, h3⟩ := h3.two
  have H3 := Lib.hid h3
  have HS : Hid (∀ k, k < 6 → (S0 k).s.length = 32) := hs0
  have WRA : Hid (∀ W c z v, c < 200 → (0 ≤ v ∧ v ≤ 255) → TwoC w W d h 6 c S0 → Calls Try.prog 17 #[.pointer (some ⟨d, 0, none⟩), .int .i64 z, secV (uniS v)] W fun e w' => ∃ e0, e = .returned (.int .i64 e0) ∧ TwoC w w' d h 6 (c + 1) S0) := fun W c z v hc hv H => H.write (by omega) z hv
  have LS1A : Hid (∀ c W k, k < 6 → TwoC w W d h 6 c S0 → Calls Try.prog 16 #[.pointer (some ⟨d, 0, none⟩), .int .i64 (k : Nat)] W fun e w' => e = .returned (.tuple #[secV (S0 k).s, .int .i64 0]) ∧ TwoC w w' d h 6 c S0) := fun c W k hk H => H.last1 hk
  have LS2A : Hid (∀ c W k, k < 6 → TwoC w W d h 6 c S0 → Calls Try.prog 16 #[.pointer (some ⟨h, 0, none⟩), .int .i64 (k : Nat)] W fun e w' => (e = .returned (.tuple #[secV (S0 k).s, .int .i64 0]) ∧ TwoC w w' d h 6 c S0) ∧ Below W.heap.size W w') := fun c W k hk H => H.last2 hk
  have CRA : Hid (∀ c W, c < 200 → TwoC w W d h 6 c S0 → Calls Try.prog 19 #[.pointer (some ⟨d, 0, none⟩), .slice none 0 0] W fun e w' => e = .returned (.int .i64 0) ∧ TwoD w w' d h 6 c S0) := fun c W hc H => H.crash (by omega)
  have RD1A : Hid (∀ c W k, c < 200 → k < 6 → TwoD w W d h 6 c S0 → Calls Try.prog 20 #[.pointer (some ⟨d, 0, none⟩), .int .i64 (k : Nat)] W fun e w' => e = .returned (.tuple #[secV (S0 k).s, .int .i64 0]) ∧ TwoD w w' d h 6 c S0) := fun c W k hc hk H => H.read1 (by omega) hk
  have LS3A : Hid (∀ c W k, k < 6 → TwoD w W d h 6 c S0 → Calls Try.prog 16 #[.pointer (some ⟨h, 0, none⟩), .int .i64 (k : Nat)] W fun e w' => (e = .returned (.tuple #[secV (S0 k).s, .int .i64 0]) ∧ TwoD w w' d h 6 c S0) ∧ Below W.heap.size W w') := fun c W k hk H => H.last2 hk
  clear h3 hs0
  go_wp2_with fail
  go_loopw [9] (fun i wr => ∃ k : Nat, k ≤ L'.length ∧ k ≤ 40 ∧ i = .int .i64 k ∧ TwoC w wr d h 6 (60 + k) S0) (fun i _ => L'.length - (intOf i).toNat)
  case atStart => exact ⟨0, Nat.zero_le _, Nat.zero_le _, rfl, H3.out⟩
  case round =>
    obtain ⟨k, hk, hk6, rfl, hO⟩ := hrel
    rename World => wr
    have HO := Lib.hid hO
    clear hO
    obtain ⟨c2, hc2⟩ : ∃ c2, c2 = 60 + k := ⟨_, rfl⟩
    have hc200 : c2 < 200 := by omega
    have HO2 : Hid (TwoC w wr d h 6 c2 S0) := by rw [hc2]; exact HO.out
    have LS1 := Lib.hid (LS1A.out c2)
    have LS2 := Lib.hid (LS2A.out c2)
    have LS3 := Lib.hid (LS3A.out c2)
    have CR := Lib.hid (fun W H => CRA.out c2 W hc200 H)
    have RD1 := Lib.hid (fun W k hk H => RD1A.out c2 W k hc200 hk H)
    by_cases hlt : k < L'.length
    · have hlt' : (k : Int) < (L'.length : Int) := by omega
      have hk0 : (0 : Int) ≤ (k : Int) := by omega
      have hwk : IntKind.i64.wrap ((k : Int) + 1) = (k : Int) + 1 := by simp [IntKind.wrap, IntKind.bits, IntKind.signed]; omega
      by_cases h60 : k < 40
      · have h60' : (k : Int) < 40 := by omega
        obtain ⟨b, o, hAe, hb, hr1, hr2⟩ := HG.out wr k hlt HO.out.below
        obtain ⟨y, hy⟩ : ∃ y, y = L'[k] := ⟨_, rfl⟩
        have hcy := HC.out k hlt
        rw [← hy] at hr1 hr2 hcy
        have WR := Lib.hid (fun W H => WRA.out W (60 + k) y.i y.c (by omega) hcy H)
        have HX : Hid (∀ W, Below wr.heap.size wr W → W.cell? ⟨b, o + k * 5 + 1, none⟩ = some (.int .i64 y.i) ∧ W.cell? ⟨b, o + k * 5 + 2, none⟩ = some (.int .u8 y.c)) := fun W hB => by
          have hb2 : b < wr.heap.size := Nat.lt_of_lt_of_le hb HO.out.below.size
          exact ⟨(World.cell?_of_block (a := ⟨b, o + k * 5 + 1, none⟩) (hB.block b hb2)).trans hr1, (World.cell?_of_block (a := ⟨b, o + k * 5 + 2, none⟩) (hB.block b hb2)).trans hr2⟩
        have X1d := Lib.hid (HX.out wr.drew (Below.refl _ _).drew)
        have HXT : Hid (∀ W, TwoC w W d h 6 (60 + k + 1) S0 → W.cell? ⟨b, o + k * 5 + 1, none⟩ = some (.int .i64 y.i) ∧ W.cell? ⟨b, o + k * 5 + 2, none⟩ = some (.int .u8 y.c)) := fun W H => by
          obtain ⟨b', o', q1, q2, q3, q4⟩ := HG.out W k hlt H.below
          rw [hAe] at q1
          simp at q1
          obtain ⟨rfl, rfl⟩ := q1
          rw [hy]
          exact ⟨q3, q4⟩
        subst hAe
        clear hr1 hr2 hcy hy
        go_wp2_with fail
        refine wp_region_held_drew (S := (fun W => W.cell? ⟨b, o + k * 5 + 1, none⟩ = some (.int .i64 y.i) ∧ W.cell? ⟨b, o + k * 5 + 2, none⟩ = some (.int .u8 y.c))) (by kernel_rfl) (X1d.out) (fun hHeld => ?_)
        refine takeH (i := 0) (some 44) (v := ?_) rfl rfl (by kernel_rfl) (by kernel_rfl) (by kernel_rfl) (fun _ _ _ h => h) (by rfl) ?_ (by assumption) ?_
        rotate_left
        · (intro w hSw; (try dsimp only at hSw); obtain ⟨hS1, hS2⟩ := hSw; go_simp; try with_reducible rfl)
        simp only [Act.put, List.setIfInBounds_toArray, List.set_cons_zero, List.set_cons_succ]
        refine takeH (i := 1) (some 45) (v := ?_) rfl rfl (by kernel_rfl) (by kernel_rfl) (by kernel_rfl) (fun _ _ _ h => h) (by rfl) ?_ (by assumption) ?_
        rotate_left
        · (intro w hSw; (try dsimp only at hSw); obtain ⟨hS1, hS2⟩ := hSw; go_simp; try with_reducible rfl)
        simp only [Act.put, List.setIfInBounds_toArray, List.set_cons_zero, List.set_cons_succ]
        refine takeH (i := 2) (some 46) (v := ?_) rfl rfl (by kernel_rfl) (by kernel_rfl) (by kernel_rfl) (fun _ _ _ h => h) (by rfl) ?_ (by assumption) ?_
        rotate_left
        · (intro w hSw; (try dsimp only at hSw); obtain ⟨hS1, hS2⟩ := hSw; go_simp; try with_reducible rfl)
        simp only [Act.put, List.setIfInBounds_toArray, List.set_cons_zero, List.set_cons_succ]
        refine takeH (i := 3) (some 47) (v := ?_) rfl rfl (by kernel_rfl) (by kernel_rfl) (by kernel_rfl) (fun _ _ _ h => h) (by rfl) ?_ (by assumption) ?_
        rotate_left
        · (intro w hSw; (try dsimp only at hSw); obtain ⟨hS1, hS2⟩ := hSw; go_simp; try with_reducible rfl)
        simp only [Act.put, List.setIfInBounds_toArray, List.set_cons_zero, List.set_cons_succ]
        refine takeH (i := 4) (some 48) (v := ?_) rfl rfl (by kernel_rfl) (by kernel_rfl) (by kernel_rfl) (fun _ _ _ h => h) (by rfl) ?_ (by assumption) ?_
        rotate_left
        · (intro w hSw; (try dsimp only at hSw); obtain ⟨hS1, hS2⟩ := hSw; go_simp; try with_reducible rfl)
        simp only [Act.put, List.setIfInBounds_toArray, List.set_cons_zero, List.set_cons_succ]
        refine takeH (i := 5) (some 49) (v := ?_) rfl rfl (by kernel_rfl) (by kernel_rfl) (by kernel_rfl) (fun _ _ _ h => h) (by rfl) ?_ (by assumption) ?_
        rotate_left
        · (intro w hSw; (try dsimp only at hSw); obtain ⟨hS1, hS2⟩ := hSw; go_simp; try with_reducible rfl)
        simp only [Act.put, List.setIfInBounds_toArray, List.set_cons_zero, List.set_cons_succ]
        refine takeH (i := 6) (some 50) (v := ?_) rfl rfl (by kernel_rfl) (by kernel_rfl) (by kernel_rfl) (fun _ _ _ h => h) (by rfl) ?_ (by assumption) ?_
        rotate_left
        · (intro w hSw; (try dsimp only at hSw); obtain ⟨hS1, hS2⟩ := hSw; go_simp; try with_reducible rfl)
        simp only [Act.put, List.setIfInBounds_toArray, List.set_cons_zero, List.set_cons_succ]
        refine takeH (i := 7) (some 51) (v := ?_) rfl rfl (by kernel_rfl) (by kernel_rfl) (by kernel_rfl) (fun _ _ _ h => h) (by rfl) ?_ (by assumption) ?_
        rotate_left
        · (intro w hSw; (try dsimp only at hSw); obtain ⟨hS1, hS2⟩ := hSw; go_simp; try with_reducible rfl)
        simp only [Act.put, List.setIfInBounds_toArray, List.set_cons_zero, List.set_cons_succ]
        refine takeH (i := 8) (some 52) (v := ?_) rfl rfl (by kernel_rfl) (by kernel_rfl) (by kernel_rfl) (fun _ _ _ h => h) (by rfl) ?_ (by assumption) ?_
        rotate_left
        · (intro w hSw; (try dsimp only at hSw); obtain ⟨hS1, hS2⟩ := hSw; go_simp; try with_reducible rfl)
        simp only [Act.put, List.setIfInBounds_toArray, List.set_cons_zero, List.set_cons_succ]
        refine takeH (i := 9) (some 53) (v := ?_) rfl rfl (by kernel_rfl) (by kernel_rfl) (by kernel_rfl) (fun _ _ _ h => h) (by rfl) ?_ (by assumption) ?_
        rotate_left
        · (intro w hSw; (try dsimp only at hSw); obtain ⟨hS1, hS2⟩ := hSw; go_simp; try with_reducible rfl)
        simp only [Act.put, List.setIfInBounds_toArray, List.set_cons_zero, List.set_cons_succ]
        refine takeH (i := 10) (some 54) (v := ?_) rfl rfl (by kernel_rfl) (by kernel_rfl) (by kernel_rfl) (fun _ _ _ h => h) (by rfl) ?_ (by assumption) ?_
        rotate_left
        · (intro w hSw; (try dsimp only at hSw); obtain ⟨hS1, hS2⟩ := hSw; go_simp; try with_reducible rfl)
        simp only [Act.put, List.setIfInBounds_toArray, List.set_cons_zero, List.set_cons_succ]
        refine wpAnyH_ready (rs := [11]) (by kernel_rfl) (by simp) ?_
        refine AllReadyH.cons rfl (fun K hK => ?_) AllReadyH.nil
        go_simp
        refine (SX.out _ y.c).mono ?_
        rintro e w5 ⟨rfl, hB⟩
        have B5 : Hid (Below wr.heap.size wr w5) := ((Below.refl wr.heap.size wr).drew).trans hB
        have X5 := Lib.hid (HX.out _ B5.out)
        have H5 := Lib.hid (HO.out.next B5.out)
        clear hB
        refine hK _ _ (X5.out) (fun hHeld => ?_)
        clear hK K
        try simp only [Act.put, List.setIfInBounds_toArray, List.set_cons_zero, List.set_cons_succ]
        refine wpAnyH_ready (rs := [12]) (by kernel_rfl) (by simp) ?_
        refine AllReadyH.cons rfl (fun K hK => ?_) AllReadyH.nil
        go_simp
        refine (WR.out _ H5.out).mono ?_
        rintro e w6 ⟨e0, rfl, h6⟩
        have H6 := Lib.hid h6
        have X6 := Lib.hid (HXT.out _ h6)
        clear h6
        refine hK _ _ (X6.out) (fun hHeld => ?_)
        clear hK K
        try simp only [Act.put, List.setIfInBounds_toArray, List.set_cons_zero, List.set_cons_succ]
        refine wpAnyH_done (by kernel_rfl) ?_ _
        go_wp2_with fail
        go_roundw
        case rel => exact ⟨k + 1, by omega, by omega, rfl, H6.out⟩
        case measure => simp [intOf]; omega
      · have h60' : ¬ (k : Int) < 40 := by omega
        go_wp2_with fail
        go_loopw [10] (fun i wr => ∃ k : Nat, k ≤ 6 ∧ i = .int .i64 k ∧ TwoC w wr d h 6 c2 S0) (fun i _ => 6 - (intOf i).toNat)
        case atStart => exact ⟨0, Nat.zero_le _, rfl, HO2.out⟩
        case round =>
          obtain ⟨k2, hk2, rfl, hO⟩ := hrel
          rename World => u0
          have U0 := Lib.hid hO
          clear hO
          by_cases hlt2 : k2 < 6
          · have hlt2' : (k2 : Int) < 6 := by omega
            have hk20 : (0 : Int) ≤ (k2 : Int) := by omega
            have hwk2 : IntKind.i64.wrap ((k2 : Int) + 1) = (k2 : Int) + 1 := by simp [IntKind.wrap, IntKind.bits, IntKind.signed]; omega
            have CA := Lib.hid (fun W H => LS1.out W k2 hlt2 H)
            have CB := Lib.hid (fun W H => LS2.out W k2 hlt2 H)
            have hs := HS.out k2 hlt2
            have hsz : Hid ((Try.prog.info? 36).map (·.size) = some (bytesV (S0 k2).s).toArray.size) := by unfold Hid; rw [List.size_toArray, length_bytesV, hs]; exact size36
            have h32 : Hid (32 = (bytesV (S0 k2).s).toArray.size) := by unfold Hid; rw [List.size_toArray, length_bytesV, hs]
            have hone : Hid ((bytesV (S0 k2).s).toArray.all (·.oneCell') = true) := all_oneCell_toArray (bytesV_one _)
            have EU : Hid (∀ W, (Op.equalIn 10000 35 (.agg (bytesV (S0 k2).s).toArray) (.agg (bytesV (S0 k2).s).toArray)).run Try.prog W = .ok true W) := fun W => by
              have := eqAny 35 Try.underlying35 _ _ hs hs W
              simpa using this
            have EU6 : Hid (∀ W, (Op.equalIn 10000 36 (.agg (bytesV (S0 k2).s).toArray) (.agg (bytesV (S0 k2).s).toArray)).run Try.prog W = .ok true W) := fun W => by
              have := eqAny 36 Try.underlying36 _ _ hs hs W
              simpa using this
            obtain ⟨U, hU⟩ : ∃ U, U = (bytesV (S0 k2).s).toArray := ⟨_, rfl⟩
            unfold secV at CA CB
            rw [← hU] at hsz h32 hone EU EU6 CA CB
            clear hs hU
            go_wp2_with fail
            refine (CA.out _ U0.out).mono ?_
            rintro e u1 ⟨rfl, hO⟩
            have U1 := Lib.hid hO
            clear hO
            go_wp2_with (refine wpList_store_row rfl 36 (.tmp 11) (.tmp 65) rfl u1.heap.size U rfl rfl 36 _ (heap_alloc_new u1 _) hsz.out h32.out hone.out ?_
                         generalize hW : World.setRow (u1.alloc (Obj.cells _ 36)) _ U = u2
                         have b2 : Hid (u2.heap[u1.heap.size]? = some (.cells U 36 (0, 0))) := by rw [← hW]; exact setRow_heap _ _ _ _ _ _ (heap_alloc_new u1 _)
                         have U2 : Hid (TwoC w u2 d h 6 c2 S0) := by rw [← hW]; exact U1.out.next (below_setRow (below_alloc1 u1 _) (Nat.le_refl _) _)
                         clear hW)
            refine (CB.out _ U2.out).mono ?_
            rintro e u3 ⟨⟨rfl, hO⟩, hB⟩
            have U3 := Lib.hid hO
            have b3 : Hid (u3.heap[u1.heap.size]? = some (.cells U 36 (0, 0))) := (hB.block _ (Array.getElem?_eq_some_iff.1 b2.out).1).trans b2.out
            clear hO hB
            go_wp2_with (first
              | (refine wpList_store_row rfl 36 (.tmp 13) (.tmp 71) rfl u3.heap.size U rfl rfl 36 _ (heap_alloc_new u3 _) hsz.out h32.out hone.out ?_
                 generalize hW : World.setRow (u3.alloc (Obj.cells _ 36)) _ U = u4
                 have c4 : Hid (u4.heap[u3.heap.size]? = some (.cells U 36 (0, 0))) := by rw [← hW]; exact setRow_heap _ _ _ _ _ _ (heap_alloc_new u3 _)
                 have hB4 : Below u3.heap.size u3 u4 := by rw [← hW]; exact below_setRow (below_alloc1 u3 _) (Nat.le_refl _) _
                 have U4 : Hid (TwoC w u4 d h 6 c2 S0) := U3.out.next hB4
                 have b4 : Hid (u4.heap[u1.heap.size]? = some (.cells U 36 (0, 0))) := (hB4.block _ (Array.getElem?_eq_some_iff.1 b3.out).1).trans b3.out
                 have eu := EU.out u4
                 have ev := EU6.out u4
                 clear hW hB4)
              | (refine load_row_on (by first | rfl | simp [Region.wanted, yielded]) 36 (.tmp 11) rfl u1.heap.size rfl 36 U (0, 0) _ b4.out Try.underlying36 rfl hsz.out ?_)
              | (refine load_row_on (by first | rfl | simp [Region.wanted, yielded]) 36 (.tmp 13) rfl u3.heap.size rfl 36 U (0, 0) _ c4.out Try.underlying36 rfl hsz.out ?_))
            go_roundw
            case rel => exact ⟨k2 + 1, by omega, rfl, U4.out⟩
            case measure => simp [intOf]; omega
          · have hlt2' : ¬ (k2 : Int) < 6 := by omega
            go_wp2_with fail
            refine (CR.out _ U0.out).mono ?_
            rintro e v1 ⟨rfl, hO⟩
            have V1 := Lib.hid hO
            clear hO U0 LS1 LS2
            go_wp2_with fail
            go_loopw [15] (fun i wr => ∃ k : Nat, k ≤ 6 ∧ i = .int .i64 k ∧ TwoD w wr d h 6 c2 S0) (fun i _ => 6 - (intOf i).toNat)
            case atStart => exact ⟨0, Nat.zero_le _, rfl, V1.out⟩
            case round =>
              obtain ⟨k2, hk2, rfl, hO⟩ := hrel
              rename World => u0
              have U0 := Lib.hid hO
              clear hO
              by_cases hlt2 : k2 < 6
              · have hlt2' : (k2 : Int) < 6 := by omega
                have hk20 : (0 : Int) ≤ (k2 : Int) := by omega
                have hwk2 : IntKind.i64.wrap ((k2 : Int) + 1) = (k2 : Int) + 1 := by simp [IntKind.wrap, IntKind.bits, IntKind.signed]; omega
                have CA := Lib.hid (fun W H => RD1.out W k2 hlt2 H)
                have CB := Lib.hid (fun W H => LS3.out W k2 hlt2 H)
                have hs := HS.out k2 hlt2
                have hsz : Hid ((Try.prog.info? 36).map (·.size) = some (bytesV (S0 k2).s).toArray.size) := by unfold Hid; rw [List.size_toArray, length_bytesV, hs]; exact size36
                have h32 : Hid (32 = (bytesV (S0 k2).s).toArray.size) := by unfold Hid; rw [List.size_toArray, length_bytesV, hs]
                have hone : Hid ((bytesV (S0 k2).s).toArray.all (·.oneCell') = true) := all_oneCell_toArray (bytesV_one _)
                have EU : Hid (∀ W, (Op.equalIn 10000 35 (.agg (bytesV (S0 k2).s).toArray) (.agg (bytesV (S0 k2).s).toArray)).run Try.prog W = .ok true W) := fun W => by
                  have := eqAny 35 Try.underlying35 _ _ hs hs W
                  simpa using this
                have EU6 : Hid (∀ W, (Op.equalIn 10000 36 (.agg (bytesV (S0 k2).s).toArray) (.agg (bytesV (S0 k2).s).toArray)).run Try.prog W = .ok true W) := fun W => by
                  have := eqAny 36 Try.underlying36 _ _ hs hs W
                  simpa using this
                obtain ⟨U, hU⟩ : ∃ U, U = (bytesV (S0 k2).s).toArray := ⟨_, rfl⟩
                unfold secV at CA CB
                rw [← hU] at hsz h32 hone EU EU6 CA CB
                clear hs hU
                go_wp2_with fail
                refine (CA.out _ U0.out).mono ?_
                rintro e u1 ⟨rfl, hO⟩
                have U1 := Lib.hid hO
                clear hO
                go_wp2_with (refine wpList_store_row rfl 36 (.tmp 16) (.tmp 94) rfl u1.heap.size U rfl rfl 36 _ (heap_alloc_new u1 _) hsz.out h32.out hone.out ?_
                             generalize hW : World.setRow (u1.alloc (Obj.cells _ 36)) _ U = u2
                             have b2 : Hid (u2.heap[u1.heap.size]? = some (.cells U 36 (0, 0))) := by rw [← hW]; exact setRow_heap _ _ _ _ _ _ (heap_alloc_new u1 _)
                             have U2 : Hid (TwoD w u2 d h 6 c2 S0) := by rw [← hW]; exact U1.out.next (below_setRow (below_alloc1 u1 _) (Nat.le_refl _) _)
                             clear hW)
                refine (CB.out _ U2.out).mono ?_
                rintro e u3 ⟨⟨rfl, hO⟩, hB⟩
                have U3 := Lib.hid hO
                have b3 : Hid (u3.heap[u1.heap.size]? = some (.cells U 36 (0, 0))) := (hB.block _ (Array.getElem?_eq_some_iff.1 b2.out).1).trans b2.out
                clear hO hB
                go_wp2_with (first
                  | (refine wpList_store_row rfl 36 (.tmp 18) (.tmp 100) rfl u3.heap.size U rfl rfl 36 _ (heap_alloc_new u3 _) hsz.out h32.out hone.out ?_
                     generalize hW : World.setRow (u3.alloc (Obj.cells _ 36)) _ U = u4
                     have c4 : Hid (u4.heap[u3.heap.size]? = some (.cells U 36 (0, 0))) := by rw [← hW]; exact setRow_heap _ _ _ _ _ _ (heap_alloc_new u3 _)
                     have hB4 : Below u3.heap.size u3 u4 := by rw [← hW]; exact below_setRow (below_alloc1 u3 _) (Nat.le_refl _) _
                     have U4 : Hid (TwoD w u4 d h 6 c2 S0) := U3.out.next hB4
                     have b4 : Hid (u4.heap[u1.heap.size]? = some (.cells U 36 (0, 0))) := (hB4.block _ (Array.getElem?_eq_some_iff.1 b3.out).1).trans b3.out
                     have eu := EU.out u4
                     have ev := EU6.out u4
                     clear hW hB4)
                  | (refine load_row_on (by first | rfl | simp [Region.wanted, yielded]) 36 (.tmp 16) rfl u1.heap.size rfl 36 U (0, 0) _ b4.out Try.underlying36 rfl hsz.out ?_)
                  | (refine load_row_on (by first | rfl | simp [Region.wanted, yielded]) 36 (.tmp 18) rfl u3.heap.size rfl 36 U (0, 0) _ c4.out Try.underlying36 rfl hsz.out ?_))
                go_roundw
                case rel => exact ⟨k2 + 1, by omega, rfl, U4.out⟩
                case measure => simp [intOf]; omega
              · have hlt2' : ¬ (k2 : Int) < 6 := by omega
                go_wp2
                go_ret
                exact ⟨rfl, U0.out.below⟩
    · have hlt' : ¬ (k : Int) < (L'.length : Int) := by omega
      go_wp2_with fail
      go_loopw [10] (fun i wr => ∃ k : Nat, k ≤ 6 ∧ i = .int .i64 k ∧ TwoC w wr d h 6 c2 S0) (fun i _ => 6 - (intOf i).toNat)
      case atStart => exact ⟨0, Nat.zero_le _, rfl, HO2.out⟩
      case round =>
        obtain ⟨k2, hk2, rfl, hO⟩ := hrel
        rename World => u0
        have U0 := Lib.hid hO
        clear hO
        by_cases hlt2 : k2 < 6
        · have hlt2' : (k2 : Int) < 6 := by omega
          have hk20 : (0 : Int) ≤ (k2 : Int) := by omega
          have hwk2 : IntKind.i64.wrap ((k2 : Int) + 1) = (k2 : Int) + 1 := by simp [IntKind.wrap, IntKind.bits, IntKind.signed]; omega
          have CA := Lib.hid (fun W H => LS1.out W k2 hlt2 H)
          have CB := Lib.hid (fun W H => LS2.out W k2 hlt2 H)
          have hs := HS.out k2 hlt2
          have hsz : Hid ((Try.prog.info? 36).map (·.size) = some (bytesV (S0 k2).s).toArray.size) := by unfold Hid; rw [List.size_toArray, length_bytesV, hs]; exact size36
          have h32 : Hid (32 = (bytesV (S0 k2).s).toArray.size) := by unfold Hid; rw [List.size_toArray, length_bytesV, hs]
          have hone : Hid ((bytesV (S0 k2).s).toArray.all (·.oneCell') = true) := all_oneCell_toArray (bytesV_one _)
          have EU : Hid (∀ W, (Op.equalIn 10000 35 (.agg (bytesV (S0 k2).s).toArray) (.agg (bytesV (S0 k2).s).toArray)).run Try.prog W = .ok true W) := fun W => by
            have := eqAny 35 Try.underlying35 _ _ hs hs W
            simpa using this
          have EU6 : Hid (∀ W, (Op.equalIn 10000 36 (.agg (bytesV (S0 k2).s).toArray) (.agg (bytesV (S0 k2).s).toArray)).run Try.prog W = .ok true W) := fun W => by
            have := eqAny 36 Try.underlying36 _ _ hs hs W
            simpa using this
          obtain ⟨U, hU⟩ : ∃ U, U = (bytesV (S0 k2).s).toArray := ⟨_, rfl⟩
          unfold secV at CA CB
          rw [← hU] at hsz h32 hone EU EU6 CA CB
          clear hs hU
          go_wp2_with fail
          refine (CA.out _ U0.out).mono ?_
          rintro e u1 ⟨rfl, hO⟩
          have U1 := Lib.hid hO
          clear hO
          go_wp2_with (refine wpList_store_row rfl 36 (.tmp 11) (.tmp 65) rfl u1.heap.size U rfl rfl 36 _ (heap_alloc_new u1 _) hsz.out h32.out hone.out ?_
                       generalize hW : World.setRow (u1.alloc (Obj.cells _ 36)) _ U = u2
                       have b2 : Hid (u2.heap[u1.heap.size]? = some (.cells U 36 (0, 0))) := by rw [← hW]; exact setRow_heap _ _ _ _ _ _ (heap_alloc_new u1 _)
                       have U2 : Hid (TwoC w u2 d h 6 c2 S0) := by rw [← hW]; exact U1.out.next (below_setRow (below_alloc1 u1 _) (Nat.le_refl _) _)
                       clear hW)
          refine (CB.out _ U2.out).mono ?_
          rintro e u3 ⟨⟨rfl, hO⟩, hB⟩
          have U3 := Lib.hid hO
          have b3 : Hid (u3.heap[u1.heap.size]? = some (.cells U 36 (0, 0))) := (hB.block _ (Array.getElem?_eq_some_iff.1 b2.out).1).trans b2.out
          clear hO hB
          go_wp2_with (first
            | (refine wpList_store_row rfl 36 (.tmp 13) (.tmp 71) rfl u3.heap.size U rfl rfl 36 _ (heap_alloc_new u3 _) hsz.out h32.out hone.out ?_
               generalize hW : World.setRow (u3.alloc (Obj.cells _ 36)) _ U = u4
               have c4 : Hid (u4.heap[u3.heap.size]? = some (.cells U 36 (0, 0))) := by rw [← hW]; exact setRow_heap _ _ _ _ _ _ (heap_alloc_new u3 _)
               have hB4 : Below u3.heap.size u3 u4 := by rw [← hW]; exact below_setRow (below_alloc1 u3 _) (Nat.le_refl _) _
               have U4 : Hid (TwoC w u4 d h 6 c2 S0) := U3.out.next hB4
               have b4 : Hid (u4.heap[u1.heap.size]? = some (.cells U 36 (0, 0))) := (hB4.block _ (Array.getElem?_eq_some_iff.1 b3.out).1).trans b3.out
               have eu := EU.out u4
               have ev := EU6.out u4
               clear hW hB4)
            | (refine load_row_on (by first | rfl | simp [Region.wanted, yielded]) 36 (.tmp 11) rfl u1.heap.size rfl 36 U (0, 0) _ b4.out Try.underlying36 rfl hsz.out ?_)
            | (refine load_row_on (by first | rfl | simp [Region.wanted, yielded]) 36 (.tmp 13) rfl u3.heap.size rfl 36 U (0, 0) _ c4.out Try.underlying36 rfl hsz.out ?_))
          go_roundw
          case rel => exact ⟨k2 + 1, by omega, rfl, U4.out⟩
          case measure => simp [intOf]; omega
        · have hlt2' : ¬ (k2 : Int) < 6 := by omega
          go_wp2_with fail
          refine (CR.out _ U0.out).mono ?_
          rintro e v1 ⟨rfl, hO⟩
          have V1 := Lib.hid hO
          clear hO U0 LS1 LS2
          go_wp2_with fail
          go_loopw [15] (fun i wr => ∃ k : Nat, k ≤ 6 ∧ i = .int .i64 k ∧ TwoD w wr d h 6 c2 S0) (fun i _ => 6 - (intOf i).toNat)
          case atStart => exact ⟨0, Nat.zero_le _, rfl, V1.out⟩
          case round =>
            obtain ⟨k2, hk2, rfl, hO⟩ := hrel
            rename World => u0
            have U0 := Lib.hid hO
            clear hO
            by_cases hlt2 : k2 < 6
            · have hlt2' : (k2 : Int) < 6 := by omega
              have hk20 : (0 : Int) ≤ (k2 : Int) := by omega
              have hwk2 : IntKind.i64.wrap ((k2 : Int) + 1) = (k2 : Int) + 1 := by simp [IntKind.wrap, IntKind.bits, IntKind.signed]; omega
              have CA := Lib.hid (fun W H => RD1.out W k2 hlt2 H)
              have CB := Lib.hid (fun W H => LS3.out W k2 hlt2 H)
              have hs := HS.out k2 hlt2
              have hsz : Hid ((Try.prog.info? 36).map (·.size) = some (bytesV (S0 k2).s).toArray.size) := by unfold Hid; rw [List.size_toArray, length_bytesV, hs]; exact size36
              have h32 : Hid (32 = (bytesV (S0 k2).s).toArray.size) := by unfold Hid; rw [List.size_toArray, length_bytesV, hs]
              have hone : Hid ((bytesV (S0 k2).s).toArray.all (·.oneCell') = true) := all_oneCell_toArray (bytesV_one _)
              have EU : Hid (∀ W, (Op.equalIn 10000 35 (.agg (bytesV (S0 k2).s).toArray) (.agg (bytesV (S0 k2).s).toArray)).run Try.prog W = .ok true W) := fun W => by
                have := eqAny 35 Try.underlying35 _ _ hs hs W
                simpa using this
              have EU6 : Hid (∀ W, (Op.equalIn 10000 36 (.agg (bytesV (S0 k2).s).toArray) (.agg (bytesV (S0 k2).s).toArray)).run Try.prog W = .ok true W) := fun W => by
                have := eqAny 36 Try.underlying36 _ _ hs hs W
                simpa using this
              obtain ⟨U, hU⟩ : ∃ U, U = (bytesV (S0 k2).s).toArray := ⟨_, rfl⟩
              unfold secV at CA CB
              rw [← hU] at hsz h32 hone EU EU6 CA CB
              clear hs hU
              go_wp2_with fail
              refine (CA.out _ U0.out).mono ?_
              rintro e u1 ⟨rfl, hO⟩
              have U1 := Lib.hid hO
              clear hO
              go_wp2_with (refine wpList_store_row rfl 36 (.tmp 16) (.tmp 94) rfl u1.heap.size U rfl rfl 36 _ (heap_alloc_new u1 _) hsz.out h32.out hone.out ?_
                           generalize hW : World.setRow (u1.alloc (Obj.cells _ 36)) _ U = u2
                           have b2 : Hid (u2.heap[u1.heap.size]? = some (.cells U 36 (0, 0))) := by rw [← hW]; exact setRow_heap _ _ _ _ _ _ (heap_alloc_new u1 _)
                           have U2 : Hid (TwoD w u2 d h 6 c2 S0) := by rw [← hW]; exact U1.out.next (below_setRow (below_alloc1 u1 _) (Nat.le_refl _) _)
                           clear hW)
              refine (CB.out _ U2.out).mono ?_
              rintro e u3 ⟨⟨rfl, hO⟩, hB⟩
              have U3 := Lib.hid hO
              have b3 : Hid (u3.heap[u1.heap.size]? = some (.cells U 36 (0, 0))) := (hB.block _ (Array.getElem?_eq_some_iff.1 b2.out).1).trans b2.out
              clear hO hB
              go_wp2_with (first
                | (refine wpList_store_row rfl 36 (.tmp 18) (.tmp 100) rfl u3.heap.size U rfl rfl 36 _ (heap_alloc_new u3 _) hsz.out h32.out hone.out ?_
                   generalize hW : World.setRow (u3.alloc (Obj.cells _ 36)) _ U = u4
                   have c4 : Hid (u4.heap[u3.heap.size]? = some (.cells U 36 (0, 0))) := by rw [← hW]; exact setRow_heap _ _ _ _ _ _ (heap_alloc_new u3 _)
                   have hB4 : Below u3.heap.size u3 u4 := by rw [← hW]; exact below_setRow (below_alloc1 u3 _) (Nat.le_refl _) _
                   have U4 : Hid (TwoD w u4 d h 6 c2 S0) := U3.out.next hB4
                   have b4 : Hid (u4.heap[u1.heap.size]? = some (.cells U 36 (0, 0))) := (hB4.block _ (Array.getElem?_eq_some_iff.1 b3.out).1).trans b3.out
                   have eu := EU.out u4
                   have ev := EU6.out u4
                   clear hW hB4)
                | (refine load_row_on (by first | rfl | simp [Region.wanted, yielded]) 36 (.tmp 16) rfl u1.heap.size rfl 36 U (0, 0) _ b4.out Try.underlying36 rfl hsz.out ?_)
                | (refine load_row_on (by first | rfl | simp [Region.wanted, yielded]) 36 (.tmp 18) rfl u3.heap.size rfl 36 U (0, 0) _ c4.out Try.underlying36 rfl hsz.out ?_))
              go_roundw
              case rel => exact ⟨k2 + 1, by omega, rfl, U4.out⟩
              case measure => simp [intOf]; omega
            · have hlt2' : ¬ (k2 : Int) < 6 := by omega
              go_wp2
              go_ret
              exact ⟨rfl, U0.out.below⟩
end Go.Proofs.Ytieeibdhaoaeaaa.DiskLasts
