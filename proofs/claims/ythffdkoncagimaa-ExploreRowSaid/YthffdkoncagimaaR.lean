/- The document's All. -/
import Derived.Test.YthffdkoncagimaaO
set_option linter.unusedVariables false
set_option linter.unusedSimpArgs false
namespace Go.Proofs.Ythffdkoncagimaa
open Go.RowKit Go.Shelf
theorem slv_append (T : List Sl) (A3 : Option Addr) (c3 : Nat) (l : List Int) : slV (T ++ [⟨A3, c3, l⟩]) = slV T ++ [.slice A3 l.length c3] := by simp [slV, Sl.v]
theorem step_rows {B B3 n : Nat} {W W3 w1 : World} {v : Value} {T : List Sl} {A3 : Option Addr} {c3 : Nat} {l : List Int} (hrow : W.ownsRow B 35 1 v n (slV T)) (hT : SlsOwn W B T) (b : Below W.heap.size W W3) (r3 : RowI W3 B3 A3 c3 l) (hB3 : B ≤ B3)
    (g5 : (W3.alloc (.cells #[.slice A3 l.length c3] 35)).grownBy w1 v.ownBlock) : SlsOwn w1 B (T ++ [⟨A3, c3, l⟩]) := by
  have hr3 := own_lay hrow b
  have hT3 : SlsOwn W3 B T := hT.fresh b
  have hn3 : RowI W3 B A3 c3 l := World.ownsRow.mono r3 hB3
  have hTn : SlsOwn W3 B (T ++ [⟨A3, c3, l⟩]) := fun t ht => by
    rcases List.mem_append.1 ht with ht | ht
    · exact hT3 t ht
    · rw [List.mem_singleton.1 ht]; exact hn3
  have hTa : SlsOwn (W3.alloc (.cells #[.slice A3 l.length c3] 35)) B (T ++ [⟨A3, c3, l⟩]) := hTn.kept (World.grownBy_alloc _ _ none) (fun r e => by cases e)
  exact hTa.kept g5 (fun r e cur h => by
    rcases (hr3.alloc (.cells #[.slice A3 l.length c3] 35)).2 with ⟨q, _⟩ | ⟨g, cap, cur2, q, _, hgb, _⟩
    · rw [q] at e; cases e
    · rw [q] at e
      obtain rfl : g = r := by simpa [Value.ownBlock] using e
      rw [hgb] at h
      simp at h)
set_option maxRecDepth 100000 in
set_option maxHeartbeats 1000000 in
theorem rall_no (A : Option Addr) (c : Nat) (R : List (List Int)) (most : Int) (w : World) (hf : fitB R = false) (hl : R.length ≤ 1000) (hr : ∀ k, k < R.length → (rowI R k).length ≤ 1000) (hM : Mat w w.heap.size A R) :
    Calls Try.prog 17 #[.slice A R.length c, .int .i64 most] w fun e w' => e = .returned (.tuple #[.slice none 0 0, .int .i64 3]) ∧ Below w.heap.size w w' := by
  have HR := Lib.hid (rcount_no A c R w hf hl hr hM)
  clear hM hr hf
  go_enter Try.func17, Try.ntmps17
  go_wp2_with (go_at_call 9; (with_reducible refine HR.out.mono ?_); rintro e w4 ⟨rfl, rfl⟩)
  go_ret2
  exact ⟨rfl, Below.refl _ _⟩
set_option maxRecDepth 100000 in
set_option maxHeartbeats 1000000 in
theorem rall_range (A : Option Addr) (c : Nat) (D : List (List Nat)) (most : Int) (w : World) (hD : Sm D) (hO : OkD D) (hM : Mat w w.heap.size A (rowsI D)) (hm : ¬ (1 ≤ most ∧ most ≤ 4096)) :
    Calls Try.prog 17 #[.slice A D.length c, .int .i64 most] w fun e w' => e = .returned (.tuple #[.slice none 0 0, .int .i64 2]) ∧ Below w.heap.size w w' := by
  have HN := Lib.hid (rcount_yes A c D w hD hO hM)
  clear hM hD hO
  by_cases h1 : most < 1
  · clear hm
    go_enter Try.func17, Try.ntmps17
    go_wp2_with (go_at_call 9; (with_reducible refine HN.out.mono ?_); rintro e w4 ⟨rfl, b4⟩; have B4 := Lib.hid b4; clear b4)
    go_ret2
    exact ⟨rfl, B4.out⟩
  · have h2 : 4096 < most := by omega
    clear hm
    go_enter Try.func17, Try.ntmps17
    go_wp2_with (go_at_call 9; (with_reducible refine HN.out.mono ?_); rintro e w4 ⟨rfl, b4⟩; have B4 := Lib.hid b4; clear b4)
    go_ret2
    exact ⟨rfl, B4.out⟩
set_option maxRecDepth 100000 in
set_option maxHeartbeats 1000000 in
theorem rall_full (A : Option Addr) (c : Nat) (D : List (List Nat)) (most : Int) (w : World) (hD : Sm D) (hO : OkD D) (hM : Mat w w.heap.size A (rowsI D)) (h1 : 1 ≤ most) (h2 : most ≤ 4096) (hc : most < ((countL (needsL D) : Nat) : Int)) :
    Calls Try.prog 17 #[.slice A D.length c, .int .i64 most] w fun e w' => e = .returned (.tuple #[.slice none 0 0, .int .i64 11]) ∧ Below w.heap.size w w' := by
  have HN := Lib.hid (rcount_yes A c D w hD hO hM)
  clear hM hD hO
  generalize countL (needsL D) = m at *
  have h1' : ¬ most < 1 := by omega
  have h2' : ¬ 4096 < most := by omega
  clear h1 h2
  go_enter Try.func17, Try.ntmps17
  go_wp2_with (go_at_call 9; (with_reducible refine HN.out.mono ?_); rintro e w4 ⟨rfl, b4⟩; have B4 := Lib.hid b4; clear b4)
  go_ret2
  exact ⟨rfl, B4.out⟩
set_option maxRecDepth 100000 in
set_option maxHeartbeats 4000000 in
theorem rall_yes (A : Option Addr) (c : Nat) (D : List (List Nat)) (most : Int) (w : World) (hD : Sm D) (hO : OkD D) (hM : Mat w w.heap.size A (rowsI D)) (h1 : 1 ≤ most) (h2 : most ≤ 4096) (hc : ((countL (needsL D) : Nat) : Int) ≤ most) :
    Calls Try.prog 17 #[.slice A D.length c, .int .i64 most] w (GivesT w (allL (needsL D))) := by
  have hn := hD.n
  obtain ⟨i0, hi, hz0, hz1, hz2⟩ := info_parts infoL
  have HR := Lib.hid (rcount_yes A c D w hD hO hM)
  have HN : Hid (∀ w', Below w.heap.size w w' → Calls Try.prog 23 #[.slice A D.length c] w' (GivesM w' (natsI (needsL D)))) := fun w' b => rneeds_any A c D w' hD hO.len (hM.next b)
  have HL := Lib.hid (lok_needs hD)
  have hll := length_needsL D
  have hpl := pow_len hn
  have hp := wrap_pow hn
  have hni : (D.length : Int) < 64 := by omega
  have hn0 : (0 : Int) ≤ (D.length : Int) := by omega
  clear hM
  have Hal : Hid (allL (needsL D) = rowsOf (cloTo (needsL D) (2 ^ D.length))) := by unfold Hid allL; rw [length_needsL]
  generalize hNN : 2 ^ D.length = N at *
  have Hp := Lib.hid hp
  clear hp hNN
  have h1' : ¬ most < 1 := by omega
  have h2' : ¬ 4096 < most := by omega
  have h3' : ¬ most < ((countL (needsL D) : Nat) : Int) := by omega
  clear h1 h2 hc hD hO
  generalize allL (needsL D) = R3 at *
  generalize countL (needsL D) = cm at *
  generalize needsL D = L at *
  have Hll := Lib.hid hll
  clear hll
  go_enter Try.func17, Try.ntmps17
  go_wp2_with (first
    | (go_at_call 9; (with_reducible refine HR.out.mono ?_); rintro e w4 ⟨rfl, b4⟩; have B4 := Lib.hid b4; clear b4)
    | (go_at_call 23; (with_reducible refine (HN.out _ B4.out).mono ?_); rintro e w5 ⟨A5, c5, rfl, r5, b5⟩; have I5 := Lib.hid r5.ints; have B5 := Lib.hid (B4.out.trans (b5.mono B4.out.size)); clear r5 b5))
  rw [length_natsI]
  go_loopw [8, 10] (fun o i wr => ∃ (k : Nat) (v : Value) (T : List Sl), k ≤ N ∧ i = .int .i64 k ∧ v = o ∧ Hid (T.map (·.l) = rowsOf (cloTo L k)) ∧ Hid (wr.ownsRow w5.heap.size 35 1 v (cloTo L k).length (slV T)) ∧ Hid (SlsOwn wr w5.heap.size T) ∧ Hid (Below w5.heap.size w5 wr)) (fun _ i _ => N - (intOf i).toNat)
  case atStart => exact ⟨0, _, [], Nat.zero_le _, rfl, rfl, rfl, World.ownsRow_nil _ _ _ _, fun t ht => (by cases ht), Below.refl _ _⟩
  case round =>
    obtain ⟨k, v, T, hk, rfl, rfl, HTm, HOw, HT, hB⟩ := hrel
    rename World => wr
    have hk0 : (0 : Int) ≤ (k : Int) := by omega
    have hcl := cloTo_len L k
    have hwp := Hp.out
    have hsz := hB.out.size
    by_cases hlt : k < N
    · have hki : (k : Int) < (N : Int) := by omega
      have HC := Lib.hid (rclosed_any A5 c5 L k wr HL.out (by omega) ((I5.out.below hB.out).more hB.out.size))
      have hsc := cloTo_succ L k
      cases hb : clo L k with
      | true =>
        have hs1 : cloTo L (k + 1) = cloTo L k ++ [k] := by rw [hsc, if_pos hb]
        have Hs : Hid ((cloTo L (k + 1)).length = (cloTo L k).length + 1) := by unfold Hid; rw [hs1, List.length_append]; rfl
        have Hr : Hid (rowsOf (cloTo L (k + 1)) = rowsOf (cloTo L k) ++ [natsI (memb k)]) := by unfold Hid; rw [hs1, rowsOf_snoc]
        rw [hb] at HC
        clear hb hsc hs1
        generalize rowsOf (cloTo L k) = rr at *
        generalize hmm : (cloTo L k).length = m at *
        clear hmm
        have hm14 : m ≤ 16384 := by omega
        have HLs : Hid (∀ W, Calls Try.prog 32 #[.int .i64 (k : Int)] W (GivesM W (natsI (memb k)))) := fun W => list_any k W (by omega)
        generalize natsI (memb k) = row at *
        go_wp2_with (first
          | (go_at_call 24; (with_reducible refine HC.out.mono ?_); rintro e w6 ⟨rfl, b6⟩)
          | (go_at_call 32; (with_reducible refine (HLs.out _).mono ?_); rintro e W3 ⟨A3, c3, rfl, r3, b3⟩; have hsz6 := b6.size; have hsz3 := b3.size; have B36 := Lib.hid (b6.trans (b3.mono b6.size)); have HO3 := Lib.hid (own_lay HOw.out B36.out); have R3' := Lib.hid r3; clear b6 b3 r3)
          | (at_builtin; refine wpList_append_own _ rfl _ _ 22 rfl w5.heap.size 35 i0 (.slice none 0 0) 1 24 Try.underlying22 hi hz0 hz1 hz2 rfl (by decide) _ _ _ rfl (HO3.out.alloc _) ⟨W3.heap.size, 0, none⟩ 1 1 [.slice A3 row.length c3] rfl rfl (cell_one_new _ _ _) (by simp [Value.oneCell']) (by unfold maxLen; omega) (by omega) (by simp; omega) ?_))
        intro v' w1 hown' hgrow _
        have HT1 := Lib.hid (step_rows HOw.out HT.out B36.out R3'.out (by omega) hgrow)
        have HB1 : Hid (Below w5.heap.size w5 w1) := (hB.out.trans (B36.out.mono hsz)).trans ((((Below.refl w5.heap.size W3).alloc (by omega) _)).grown hgrow (by simp; omega) (fun j e => (HO3.out.lt j e).1))
        go_wp2_with fail
        go_roundw
        case rel => exact ⟨k + 1, _, _, by omega, by go_num, rfl, by unfold Hid; rw [Hr.out, ← HTm.out]; simp, by rw [Hs.out, slv_append]; exact hown', HT1, HB1⟩
        case measure => simp [intOf]; omega
      | false =>
        have hs1 : cloTo L (k + 1) = cloTo L k := by rw [hsc, if_neg (by rw [hb]; simp), List.append_nil]
        rw [hb] at HC
        have HTm' : Hid (T.map (·.l) = rowsOf (cloTo L (k + 1))) := by unfold Hid; rw [hs1]; exact HTm.out
        have HOw' : Hid (∀ W', Below wr.heap.size wr W' → W'.ownsRow w5.heap.size 35 1 v (cloTo L (k + 1)).length (slV T)) := fun W' b => by rw [hs1]; exact own_lay HOw.out b
        clear hb hsc hs1
        generalize (cloTo L k).length = m at *
        go_wp2_with (go_at_call 24; (with_reducible refine HC.out.mono ?_); rintro e w6 ⟨rfl, b6⟩; have B6 := Lib.hid (hB.out.trans (b6.mono hB.out.size)); have O6 := Lib.hid (HOw'.out _ b6); have T6 := Lib.hid (HT.out.fresh b6); clear b6)
        go_roundw
        case rel => exact ⟨k + 1, v, T, by omega, by go_num, rfl, HTm', O6, T6, B6⟩
        case measure => simp [intOf]; omega
    · obtain rfl : k = N := by omega
      have hki : ¬ (k : Int) < (k : Int) := by omega
      obtain ⟨A9, c9, rfl⟩ := own_form HOw.out
      have Hlen : Hid (R3.length = (cloTo L k).length) := by unfold Hid; rw [Hal.out]; simp [rowsOf]
      go_wp2
      go_ret2
      exact ⟨A9, c9, T, by rw [Hlen.out]; rfl, by rw [Hal.out]; exact HTm.out, by rw [Hlen.out]; exact World.ownsRow.mono HOw.out B5.out.size, fun t ht => World.ownsRow.mono (HT.out t ht) B5.out.size, B5.out.trans (hB.out.mono B5.out.size)⟩
end Go.Proofs.Ythffdkoncagimaa
