/- Both arms tell the same; what must be whatever is asked. -/
import Derived.Test.YtpelocpjfmmceaaSD
set_option linter.unusedVariables false
set_option linter.unusedSimpArgs false
namespace Go.Proofs.Ytpelocpjfmmceaa
open Go.RowKit

/-- the cells of a row of numbers as a source -/
theorem row_srcI {B : Nat} {w : World} {A : Option Addr} {n c : Nat} {xs : List Value} (h : w.ownsRow B 3 1 (.slice A n c) n xs) : (∀ ad, A = some ad → ∀ j u, xs[j]? = some u → w.cell? (ad.add j) = some u) ∧ (A = none → n = 0) := by
  rcases h.2 with ⟨q, h0⟩ | ⟨k, cap, cur, q, _⟩
  · obtain ⟨rfl, _, _⟩ := Value.slice.inj q
    exact ⟨fun ad e => (by cases e), fun _ => h0⟩
  · obtain ⟨rfl, _, _⟩ := Value.slice.inj q
    refine ⟨fun ad e j u hu => ?_, fun e => by cases e⟩
    cases e
    have hlt := (List.getElem?_eq_some_iff.1 hu).1
    rw [h.1] at hlt
    rw [Addr.add_lit, Nat.zero_add, h.cellAt j (by omega)]
    exact hu
set_option maxRecDepth 100000 in
set_option maxHeartbeats 1000000 in
theorem same_ints (A A2 : Option Addr) (c c2 : Nat) (l : List Int) (w : World) (hl : l.length ≤ 1000) (h1 : Ints w w.heap.size A l) (h2 : Ints w w.heap.size A2 l) :
    Calls Try.prog 17 #[.slice A l.length c, .slice A2 l.length c2] w fun e w' => e = .returned (.bool true) ∧ Below w.heap.size w w' := by
  have H1 := Lib.hid h1
  have H2 := Lib.hid h2
  clear h1 h2
  go_enter Try.func17, Try.ntmps17
  go_wp2
  go_loopw [5] (fun i wr => ∃ k : Nat, k ≤ l.length ∧ i = .int .i64 k ∧ Below w.heap.size w wr) (fun i _ => l.length - (intOf i).toNat)
  case atStart => exact ⟨0, Nat.zero_le _, rfl, Below.refl _ _⟩
  case round =>
    obtain ⟨k, hk, rfl, hB⟩ := hrel
    rename World => wr
    have HB := Lib.hid hB
    by_cases hlt : k < l.length
    · have hlti : (k : Int) < (l.length : Int) := by omega
      have hk0 : (0 : Int) ≤ (k : Int) := by omega
      obtain ⟨b1, o1, rfl, l1, c1⟩ := H1.out.at_ hlt
      obtain ⟨b2, o2, rfl, l2, c2'⟩ := H2.out.at_ hlt
      have d1 := (hB.cell (p := ⟨b1, o1 + k, none⟩) l1).trans c1
      have d2 := (hB.cell (p := ⟨b2, o2 + k, none⟩) l2).trans c2'
      clear c1 c2' hB
      generalize inn l k = x at *
      go_wp2
      go_quiet (fail)
      go_wp2
      go_roundw
      case rel => exact ⟨k + 1, by omega, by go_num, bdn HB.out _⟩
      case measure => simp [intOf]; omega
    · obtain rfl : k = l.length := by omega
      have hlti : ¬ (l.length : Int) < (l.length : Int) := by omega
      clear hB
      go_wp2
      go_ret
      exact ⟨rfl, HB.out⟩
set_option maxRecDepth 100000 in
set_option maxHeartbeats 4000000 in
theorem same_any (B g h : Nat) (x : Ar) (w : World) {q : Nat} (hO : x.Ok q) (t : Two B w g h x x) :
    Calls Try.prog 13 #[.pointer (some ⟨g, 0, none⟩), .pointer (some ⟨h, 0, none⟩)] w fun e w' => e = .returned (.bool true) ∧ Below w.heap.size w w' := by
  have hl : x.l.length ≤ 1000 := by have := hO.len; omega
  obtain ⟨hBle, ⟨A, c, hP⟩, A2, c2, hR⟩ := id t
  obtain ⟨i0, hi0, hz0, hz1, hz2⟩ := info_parts infoI
  have HWr : Hid (∀ W, Below w.heap.size w W → Calls Try.prog 34 #[.pointer (some ⟨h, 0, none⟩)] W fun e w' => ∃ A' c', e = .returned (.slice A' x.l.length c') ∧ RowI w' W.heap.size A' c' (blk x.l) ∧ Below w.heap.size w w' ∧ Below W.heap.size W w') := fun W hW =>
    (rwaiting_any B h A2 c2 x W (hR.fresh hW) hl).mono fun e w' ⟨a, b, e1, e2, e3⟩ => ⟨a, b, e1, e2, hW.trans (e3.mono hW.size), e3⟩
  have HWp : Hid (∀ W, Below w.heap.size w W → Calls Try.prog 18 #[.pointer (some ⟨g, 0, none⟩)] W fun e w' => ∃ A' c', e = .returned (.slice A' x.l.length c') ∧ RowI w' W.heap.size A' c' (blk x.l) ∧ Below w.heap.size w w' ∧ Below W.heap.size W w') := fun W hW =>
    (waiting_any B g A c x W (hP.fresh hW) hl).mono fun e w' ⟨a, b, e1, e2, e3⟩ => ⟨a, b, e1, e2, hW.trans (e3.mono hW.size), e3⟩
  have HAp : Hid (∀ W b, Below w.heap.size w W → Calls Try.prog 21 #[.pointer (some ⟨g, 0, none⟩), .int .i64 b] W fun e w' => e = .returned (.int .i64 (x.age b)) ∧ Below W.heap.size W w') := fun W b hW => age_any B g A c x b W (hP.fresh hW) hl
  have HAr : Hid (∀ W b, Below w.heap.size w W → Calls Try.prog 35 #[.pointer (some ⟨h, 0, none⟩), .int .i64 b] W fun e w' => e = .returned (.int .i64 (x.age b)) ∧ Below W.heap.size W w') := fun W b hW => rage_any B h A2 c2 x b W (hR.fresh hW) hl
  have HSm : Hid (∀ W B3 B4 A3 A4 c3 c4, RowI W B3 A3 c3 (blk x.l) → RowI W B4 A4 c4 (blk x.l) → Calls Try.prog 17 #[.slice A3 x.l.length c3, .slice A4 x.l.length c4] W fun e w' => e = .returned (.bool true) ∧ Below W.heap.size W w') := fun W B3 B4 A3 A4 c3 c4 h1 h2 => by
    have := same_ints A3 A4 c3 c4 (blk x.l) W (by rw [length_blk]; exact hl) h1.ints h2.ints
    rwa [length_blk] at this
  have Hat : Hid (∀ W, Below w.heap.size w W → Calls Try.prog 29 #[.pointer (some ⟨g, 0, none⟩)] W fun e w' => e = .returned (.int .i64 x.s) ∧ W = w') := fun W hW => at_any B g A c x W (hP.fresh hW)
  have Hrat : Hid (∀ W, Below w.heap.size w W → Calls Try.prog 36 #[.pointer (some ⟨h, 0, none⟩)] W fun e w' => e = .returned (.int .i64 x.s) ∧ W = w') := fun W hW => rat_any B h A2 c2 x W (hR.fresh hW)
  have Hmv : Hid (∀ W, Below w.heap.size w W → Calls Try.prog 30 #[.pointer (some ⟨g, 0, none⟩)] W fun e w' => e = .returned (.int .i64 x.m) ∧ W = w') := fun W hW => moved_any B g A c x W (hP.fresh hW)
  have Hrmv : Hid (∀ W, Below w.heap.size w W → Calls Try.prog 37 #[.pointer (some ⟨h, 0, none⟩)] W fun e w' => e = .returned (.int .i64 x.m) ∧ W = w') := fun W hW => rmoved_any B h A2 c2 x W (hR.fresh hW)
  have Hup : Hid (∀ W, Below w.heap.size w W → Calls Try.prog 31 #[.pointer (some ⟨g, 0, none⟩)] W fun e w' => e = .returned (.bool x.u) ∧ W = w') := fun W hW => up_any B g A c x W (hP.fresh hW)
  have Hrup : Hid (∀ W, Below w.heap.size w W → Calls Try.prog 38 #[.pointer (some ⟨h, 0, none⟩)] W fun e w' => e = .returned (.bool x.u) ∧ W = w') := fun W hW => rup_any B h A2 c2 x W (hR.fresh hW)
  have hbl := length_blk x.l
  have Hbl := Lib.hid hbl
  have Hone := Lib.hid (intsV_one (blk x.l))
  have Hln : Hid ((intsV (blk x.l)).length = x.l.length * 1) := by unfold Hid; rw [length_intsV, length_blk, Nat.mul_one]
  have hB1 : Below w.heap.size w (w.alloc (.cells #[] 3)) := (Below.refl _ _).alloc (Nat.le_refl _) _
  have Hown : Hid ((w.alloc (.cells #[] 3)).ownsRow w.heap.size 3 1 (.slice (some ⟨w.heap.size, 0, none⟩) 0 0) 0 []) := World.ownsRow_made w #[] 0 (Nat.le_refl _) (by simp) (by simp)
  have HB1 := Lib.hid hB1
  generalize (x.s : Int) = xs at *
  generalize (x.m : Int) = xm at *
  generalize x.u = xu at *
  generalize blk x.l = bl at *
  generalize x.l.length = n at *
  clear hP hR t hO hB1 hbl
  go_enter Try.func13, Try.ntmps13
  go_wp2_with (first
    | (go_at_call 34; refine (HWr.out _ HB1.out).mono ?_; rintro e w2 ⟨A3, c3, rfl, hr2, hb2, hb2'⟩; have HR2 := Lib.hid hr2; have HB2 := Lib.hid hb2; have HO2 : Hid (w2.ownsRow w.heap.size 3 1 (.slice (some ⟨w.heap.size, 0, none⟩) 0 0) 0 []) := (Kept.fresh (S := fun _ => False) hb2').row Hown.out (fun _ _ q => q); have HS2 := Lib.hid (row_srcI hr2); rw [Hbl.out] at HS2; clear hr2 hb2 hb2')
    | (at_builtin; refine wpList_append_src rfl (.tmp 7) (.tmp 9) 31 rfl w.heap.size 3 i0 (.int .i64 0) 1 8 Try.underlying31 hi0 hz0 hz1 hz2 rfl (by decide) (.slice (some ⟨w.heap.size, 0, none⟩) 0 0) 0 [] rfl HO2.out A3 n c3 (intsV bl) rfl Hln.out HS2.out.1 HS2.out.2 Hone.out (by unfold maxLen; omega) (by omega) HB2.out.size n (by omega) ?_; intro A4 c4 w4 ho4 hg4 hor4; have HO4 := Lib.hid ho4; have HB4 := Lib.hid (HB2.out.grown hg4 HB2.out.size (fun j e => by cases e; exact Nat.le_refl _)); have HN4 : Hid (∀ ad, some (⟨w4.heap.size, 0, none⟩ : Addr) = some ad → ∀ j u, [Value.int .i64 (-1), .int .i64 5][j]? = some u → (w4.alloc (.cells #[.int .i64 (-1), .int .i64 5] 3)).cell? (ad.add j) = some u) := (fun ad e j u hu => by cases e; exact World.news_of_block (heap_alloc_new w4 _) j u hu); have HO4a : Hid ((w4.alloc (.cells #[.int .i64 (-1), .int .i64 5] 3)).ownsRow w.heap.size 3 1 (.slice A4 n c4) n ([] ++ intsV bl)) := HO4.out.alloc _; clear ho4 hg4 hor4)
    | (at_builtin; refine wpList_append_src rfl (.tmp 10) (.tmp 11) 31 rfl w.heap.size 3 i0 (.int .i64 0) 1 8 Try.underlying31 hi0 hz0 hz1 hz2 rfl (by decide) (.slice A4 n c4) n ([] ++ intsV bl) rfl HO4a.out (some ⟨w4.heap.size, 0, none⟩) 2 2 [.int .i64 (-1), .int .i64 5] rfl rfl HN4.out (by intro h; cases h) (by intro u hu; simp at hu; rcases hu with rfl | rfl <;> rfl) (by unfold maxLen; omega) (by omega) (by have := HB4.out.size; simp; omega) (n + 2) rfl ?_; intro A5 c5 w5 ho5 hg5 hor5; have HB5 := Lib.hid ((HB4.out.alloc HB4.out.size _).grown hg5 (by have := HB4.out.size; simp; omega) (fun j e => (HO4a.out.lt j e).1)); have HI5 : Hid (Ints w5 w5.heap.size A5 (bl ++ [-1, 5])) := (RowI.ints (B := w.heap.size) (c := c5) (by unfold RowI; rw [List.length_append, Hbl.out, intsV_append]; exact ho5)); clear ho5 hg5 hor5))
  go_loopw [6] (fun i wr => ∃ k : Nat, k ≤ n + 2 ∧ i = .int .i64 k ∧ Below w5.heap.size w5 wr) (fun i _ => n + 2 - (intOf i).toNat)
  case atStart => exact ⟨0, Nat.zero_le _, rfl, Below.refl _ _⟩
  case round =>
    obtain ⟨k, hk, rfl, hB⟩ := hrel
    rename World => wr
    have HB := Lib.hid hB
    have HBw := Lib.hid (HB5.out.trans (hB.mono HB5.out.size))
    by_cases hlt : k < n + 2
    · have hlti : (k : Int) < ((n + 2 : Nat) : Int) := by omega
      have hlti2 : (k : Int) < (n : Int) + 2 := by omega
      have hk0 : (0 : Int) ≤ (k : Int) := by omega
      have hkl : k < (bl ++ [-1, 5]).length := by rw [List.length_append, Hbl.out]; exact hlt
      obtain ⟨b1, o1, rfl, l1, c1⟩ := HI5.out.at_ hkl
      generalize inn (bl ++ [-1, 5]) k = y at c1
      have HX : Hid (∀ W, Below wr.heap.size wr W → W.cell? ⟨b1, o1 + k, none⟩ = some (.int .i64 y)) := fun W hW => (hW.cell (p := ⟨b1, o1 + k, none⟩) (Nat.lt_of_lt_of_le l1 HB.out.size)).trans ((HB.out.cell (p := ⟨b1, o1 + k, none⟩) l1).trans c1)
      have X0 := Lib.hid (HX.out wr (Below.refl _ _))
      have X1 := Lib.hid (HX.out wr.drew (Below.refl _ _).drew)
      have HAp1 := Lib.hid (fun W hW => HAp.out W y hW)
      have HAr1 := Lib.hid (fun W hW => HAr.out W y hW)
      generalize x.age y = ya at *
      clear c1 hB hkl
      go_wp2
      go_region_held3 (fun W => W.cell? ⟨b1, o1 + k, none⟩ = some (.int .i64 y)) (first | exact X0.out | exact X1.out | exact X6.out | exact X7.out)
        (first
          | (go_at_call 21; (with_reducible refine (HAp1.out _ HBw.out.drew).mono ?_); rintro e w6 ⟨rfl, hb6⟩; have HB6 := Lib.hid ((Below.refl wr.heap.size wr).drew.trans hb6); have HB6w := Lib.hid (HBw.out.trans (HB6.out.mono HBw.out.size)); have X6 := Lib.hid (HX.out w6 HB6.out); clear hb6)
          | (go_at_call 35; (with_reducible refine (HAr1.out _ HB6w.out).mono ?_); rintro e w7 ⟨rfl, hb7⟩; have HB7 := Lib.hid (HB6.out.trans (hb7.mono HB6.out.size)); have X7 := Lib.hid (HX.out w7 HB7.out); clear hb7)
          | fail)
      all_goals
        go_wp2
        go_roundw
        case rel => exact ⟨k + 1, by omega, by go_num, HB.out.trans (HB7.out.mono HB.out.size)⟩
        case measure => simp [intOf]; omega
    · obtain rfl : k = n + 2 := by omega
      have hlti : ¬ ((n + 2 : Nat) : Int) < ((n + 2 : Nat) : Int) := by omega
      clear hB
      go_wp2_with (first
        | (go_at_call 18; refine (HWp.out _ HBw.out).mono ?_; rintro e w6 ⟨A6, c6, rfl, hr6, hb6, _⟩; have HR6 := Lib.hid hr6; have HB6 := Lib.hid hb6; clear hr6 hb6)
        | (go_at_call 34; refine (HWr.out _ HB6.out).mono ?_; rintro e w7 ⟨A7, c7, rfl, hr7, hb7, hb7'⟩; have HR7 := Lib.hid hr7; have HR6' := Lib.hid (HR6.out.fresh hb7'); have HB7 := Lib.hid hb7; clear hr7 hb7 hb7')
        | (go_at_call 17; refine (HSm.out _ _ _ _ _ _ _ HR6'.out HR7.out).mono ?_; rintro e w8 ⟨rfl, hb8⟩; have HB8 := Lib.hid (HB7.out.trans (hb8.mono HB7.out.size)); clear hb8)
        | (go_at_call 29; refine (Hat.out _ HB8.out).mono ?_; rintro e w' ⟨rfl, rfl⟩)
        | (go_at_call 36; refine (Hrat.out _ HB8.out).mono ?_; rintro e w' ⟨rfl, rfl⟩)
        | (go_at_call 30; refine (Hmv.out _ HB8.out).mono ?_; rintro e w' ⟨rfl, rfl⟩)
        | (go_at_call 37; refine (Hrmv.out _ HB8.out).mono ?_; rintro e w' ⟨rfl, rfl⟩)
        | (go_at_call 31; refine (Hup.out _ HB8.out).mono ?_; rintro e w' ⟨rfl, rfl⟩)
        | (go_at_call 38; refine (Hrup.out _ HB8.out).mono ?_; rintro e w' ⟨rfl, rfl⟩))
      go_ret
      exact ⟨by simp, HB8.out⟩
def liveB : Bool := match allX 2 1 5 [9, 2, 7] with
  | some y => y.l.length == 3 && goL y 3 == [7, 9, 2] && (stA y 3).m == 11
  | none => false
theorem live_is : liveB = true := by decide +kernel
set_option maxRecDepth 100000 in
set_option maxHeartbeats 1000000 in
theorem live_any (w : World) : Calls Try.prog 12 #[] w fun e w' => e = .returned (.bool true) ∧ Below w.heap.size w w' := by
  obtain ⟨W, hW⟩ : ∃ W, W = w.alloc (.cells #[.int .i64 9, .int .i64 2, .int .i64 7] 3) := ⟨_, rfl⟩
  have hB1 : Below w.heap.size w W := by rw [hW]; exact (Below.refl _ _).alloc (Nat.le_refl _) _
  have hnew : W.heap[w.heap.size]? = some (.cells #[.int .i64 9, .int .i64 2, .int .i64 7] 3 (0, 0)) := by rw [hW]; exact heap_alloc_new w _
  have HA0 := all_any 2 (by decide) 1 5 (some ⟨w.heap.size, 0, none⟩) 3 [9, 2, 7] W (by decide) (fun _ => ⟨w.heap.size, 0, rfl, (Array.getElem?_eq_some_iff.1 hnew).1, fun j hj => by
    rw [Nat.zero_add]
    match j, hj with
    | 0, _ => exact cell_of_row W _ 0 _ _ (0, 0) hnew
    | 1, _ => exact cell_of_row W _ 1 _ _ (0, 0) hnew
    | 2, _ => exact cell_of_row W _ 2 _ _ (0, 0) hnew⟩)
  have HA : Hid (Calls Try.prog 14 #[.int .u8 2, .int .i64 1, .int .i64 5, .slice (some ⟨w.heap.size, 0, none⟩) 3 3] W fun e w' => ∃ b c', e = .returned (.tuple #[.slice (some ⟨b, 0, none⟩) 3 c', .int .i64 11, .int .i64 0]) ∧ w'.cell? ⟨b, 0, none⟩ = some (.int .i64 7) ∧ w'.cell? ⟨b, 1, none⟩ = some (.int .i64 9) ∧ w'.cell? ⟨b, 2, none⟩ = some (.int .i64 2) ∧ Below w.heap.size w w') := HA0.mono fun e w' ⟨hb, h⟩ => by
    have hlv := live_is
    unfold liveB at hlv
    rcases h with ⟨y, A', c', hy, rfl, hr⟩ | ⟨hy, _⟩
    · rw [hy] at hlv
      simp only [Bool.and_eq_true, beq_iff_eq] at hlv
      obtain ⟨⟨h1, h2⟩, h3⟩ := hlv
      rw [h1] at hr ⊢
      rw [h2] at hr
      rw [h3]
      obtain ⟨b, off, rfl, _, hc⟩ := hr.ints (by simp)
      have hoff : off = 0 := by
        rcases hr.2 with ⟨q, _⟩ | ⟨k, cap, cur, q, _⟩
        · cases (Value.slice.inj q).1
        · have := (Value.slice.inj q).1
          simp at this
          exact this.2
      subst hoff
      exact ⟨b, c', rfl, by simpa [inn] using hc 0 (by simp), by simpa [inn] using hc 1 (by simp), by simpa [inn] using hc 2 (by simp), hB1.trans (hb.mono hB1.size)⟩
    · rw [hy] at hlv; cases hlv
  rw [hW] at HA
  clear hW hB1 hnew HA0
  go_enter Try.func12, Try.ntmps12
  go_wp2_with (refine HA.out.mono ?_; rintro e w2 ⟨b, c', rfl, c0, c1, c2, hb⟩; have HB := Lib.hid hb; clear hb)
  go_ret
  exact ⟨by simp, HB.out⟩
theorem few_any (A : Option Addr) (n c : Nat) (w : World) (hn : n ≤ c) (hc : c ≤ maxLen) : Calls Try.prog 15 #[.slice A n c] w fun e w' => e = .returned (.slice A (if 30 < n then 30 else n) c) ∧ w = w' := by
  unfold maxLen at hc
  by_cases h : 30 < n
  · have hi : (30 : Int) < (n : Int) := by omega
    have hc2 : (30 : Int) ≤ (c : Int) := by omega
    rw [if_pos h]
    go_enter Try.func15, Try.ntmps15
    go_wp2
    go_ret
    exact ⟨rfl, rfl⟩
  · have hi : (n : Int) ≤ 30 := by omega
    rw [if_neg h]
    go_enter Try.func15, Try.ntmps15
    go_wp2
    go_ret
    exact ⟨rfl, rfl⟩
end Go.Proofs.Ytpelocpjfmmceaa
