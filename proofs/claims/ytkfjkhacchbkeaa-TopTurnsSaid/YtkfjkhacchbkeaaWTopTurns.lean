/- TopTurns holds whatever comes in. Here: the walk of the law's text. -/
import Derived.Test.YtkfjkhacchbkeaaF
namespace Go.Proofs.Ytkfjkhacchbkeaa
set_option linter.unusedVariables false
set_option linter.unusedSimpArgs false
open Go.RowKit

/-- items, their deps, and what was done, in a world -/
structure Tt (w W : World) (ls : List Pat.Pt) (Ai Ad : Option Addr) (v : Value) (done : List Nat) (base : Nat) : Prop where
  items : Items W base Ai (overL ls)
  mat : Mat W base Ad (rowsI (overD ls))
  own : W.ownsRow base 3 1 v done.length (natsV done)
  good : Good (overD ls) done
  below : Below w.heap.size w W
  base1 : w.heap.size ≤ base
  base2 : base ≤ W.heap.size
theorem Tt.next {w W W' : World} {ls : List Pat.Pt} {Ai Ad : Option Addr} {v : Value} {done : List Nat} {base : Nat} (h : Tt w W ls Ai Ad v done base) (hb : Below W.heap.size W W') : Tt w W' ls Ai Ad v done base :=
  ⟨h.items.keep (fun p hp => hb.cell (Nat.lt_of_lt_of_le hp h.base2)), h.mat.keep (fun p hp => hb.cell (Nat.lt_of_lt_of_le hp h.base2)), own_lay h.own hb, h.good, h.below.trans (hb.mono h.below.size), h.base1, Nat.le_trans h.base2 hb.size⟩
theorem Tt.len {w W : World} {ls : List Pat.Pt} {Ai Ad : Option Addr} {v : Value} {done : List Nat} {base : Nat} (h : Tt w W ls Ai Ad v done base) : done.length ≤ ls.length := by
  have := h.good.len; rwa [length_overD] at this
theorem Tt.form {w W : World} {ls : List Pat.Pt} {Ai Ad : Option Addr} {v : Value} {done : List Nat} {base : Nat} (h : Tt w W ls Ai Ad v done base) : ∃ A c, v = .slice A done.length c ∧ Ints W W.heap.size A (natsI done) := by
  have ho := h.own
  rw [natsV_intsV] at ho
  obtain ⟨A, c, e, _, _, hI⟩ := own_ints (n := done.length) ho
  exact ⟨A, c, by rw [e, length_natsI], hI⟩
/-- behind an append of what was ready -/
theorem Tt.more {w W W1 : World} {ls : List Pat.Pt} {Ai Ad : Option Addr} {v v' : Value} {done : List Nat} {base : Nat} (h : Tt w W ls Ai Ad v done base) (hls : ls.length ≤ 64) (k : List Int) {m : Nat} (hm : m = done.length + (readyL (overD ls) (natsI done) k).length)
    (hown : W1.ownsRow base 3 1 v' m (natsV done ++ intsV (natsI (readyL (overD ls) (natsI done) k)))) (hg : W.grownBy W1 v.ownBlock) :
    Tt w W1 ls Ai Ad v' (done ++ readyL (overD ls) (natsI done) k) base := by
  subst hm
  have hlo : ∀ g, v.ownBlock = some g → base ≤ g := fun g e => (h.own.lt g e).1
  have hk : ∀ p : Addr, p.block < base → W1.cell? p = W.cell? p := fun p hp =>
    World.cell?_of_block (hg.block p.block (Nat.lt_of_lt_of_le hp h.base2) (fun e => by have := hlo _ e.symm; omega))
  refine ⟨h.items.keep hk, h.mat.keep hk, ?_, h.good.more (okD_over (by omega)).right k, h.below.grown hg h.below.size (fun j e => Nat.le_trans h.base1 (hlo j e)), h.base1, Nat.le_trans h.base2 hg.size⟩
  rw [List.length_append]
  have e : natsV (done ++ readyL (overD ls) (natsI done) k) = natsV done ++ intsV (natsI (readyL (overD ls) (natsI done) k)) := by
    rw [← natsV_intsV]; simp [natsV]
  rw [e]; exact hown
theorem readyL_len {D : List (List Nat)} (hD : OkD D) (l k : List Int) : (readyL D l k).length ≤ 256 := by
  rw [readyL_eq hD.right]; have := length_listM D.length (accD D l k); have := hD.right.1; omega

set_option maxRecDepth 100000 in
set_option maxHeartbeats 8000000 in
theorem TopTurns.walk (a0 : Option Addr) (len0 cap0 : Nat) (ps : List Pat.Pt) (a1 : Option Addr) (len1 cap1 : Nat) (zs : List Int) (W : World) (h0 : Pat.IsPats W a0 len0 cap0 ps) (h1 : IsRow .u8 W a1 len1 cap1 zs) :
    Calls Try.prog 11 #[.slice a0 len0 cap0, .slice a1 len1 cap1] W fun e W' => e = .returned (.bool true) ∧ Below W.heap.size W W' := by
  obtain ⟨g1, g2, g3, g4, g5⟩ := h0
  obtain ⟨k1, k2, k3⟩ := h1.bytes
  have hl20 : (ps.take 20).length = min 20 len0 := by rw [List.length_take, g1]
  have HP : Hid (Pat.Pats W W.heap.size a0 (ps.take 20)) := Pats.take g4 20
  have HF : Hid (Fine (ps.take 20)) := Fine.take g5 20
  have HK := Lib.hid k3
  unfold maxLen at g3
  obtain ⟨l, hl⟩ : ∃ l, l = ps.take 20 := ⟨_, rfl⟩
  rw [← hl] at hl20 HP HF
  obtain ⟨n, hn⟩ : ∃ n, n = min 20 len0 := ⟨_, rfl⟩
  rw [← hn] at hl20
  have Hl := Lib.hid hl20
  have hn20 : n ≤ 20 := by omega
  have HOv : Hid (Calls Try.prog 27 #[.slice a0 n cap0] W (OvA W l)) := (overlaps_any a0 cap0 n l Hl.out.symm W (by rw [Hl.out]; omega) HF.out HP.out).mono fun e w' h => h.any HF.out
  obtain ⟨i0, hi, hz0, hz1, hz2⟩ := info_parts info3
  clear hl g4 g5 k3 h1 hl20 g1
  by_cases h20 : 20 < len0
  · obtain rfl : n = 20 := by omega
    have h20i : (20 : Int) < (len0 : Int) := by omega
    clear hn
    go_enter Try.func11, Try.ntmps11
    go_wp2_with fail
    clear HP
    refine HOv.out.mono ?_
    rintro e w1 ⟨hB1, ls, Ai, ci, rfl, hI1, hlen1, hlen2, hF1, hr1, _⟩
    have HI1 := Lib.hid hI1
    have HB1 := Lib.hid hB1
    have HF1 := Lib.hid hF1
    have Hr1 := Lib.hid hr1
    have hls : ls.length ≤ 20 := by rw [Hl.out] at hlen1; omega
    have HokD : Hid (OkD (overD ls)) := okD_over (by omega)
    obtain ⟨nn, hnn⟩ : ∃ nn, nn = ls.length := ⟨_, rfl⟩
    have HnD : Hid (nn = (overD ls).length) := by unfold Hid; rw [length_overD, hnn]
    have HnO : Hid (nn = (overL ls).length) := by unfold Hid; rw [length_overL, hnn]
    have Hnn := Lib.hid hnn
    have hnn20 : nn ≤ 20 := by omega
    rw [← hnn]
    clear hI1 hB1 hF1 hr1 hlen1 hlen2 hls HOv hnn
    go_wp2_with fail
    refine (topDepsOf_any Ai ci nn (overL ls) HnO.out w1 (by rw [← HnO.out]; omega) HI1.out).mono ?_
    rintro e w2 ⟨Ad, cd, rfl, hM2, hB2⟩
    rw [length_overL, ← Hnn.out]
    rw [depsI_overL] at hM2
    obtain ⟨base, hbase⟩ : ∃ base, base = w2.heap.size := ⟨_, rfl⟩
    have HT0 : Hid (Tt W w2 ls Ai Ad (.slice none 0 0) [] base) := by
      subst hbase
      exact ⟨HI1.out.next hB2, hM2, World.ownsRow_nil _ _ _ _, Good.nil _, HB1.out.trans (hB2.mono HB1.out.size), Nat.le_trans HB1.out.size hB2.size, Nat.le_refl _⟩
    clear hM2 hB2 hbase
    go_wp2_with fail
    go_loopw [7, 8] (fun v i wr => ∃ (k : Nat) (done : List Nat), k ≤ 60 ∧ i = .int .i64 k ∧ Tt W wr ls Ai Ad v done base) (fun _ i _ => 60 - (intOf i).toNat)
    case atStart => exact ⟨0, [], Nat.zero_le _, rfl, HT0.out⟩
    case round =>
      obtain ⟨k, done, hk, rfl, hT⟩ := hrel
      rename World => wr
      have HS := Lib.hid hT
      have hdl := hT.len
      rw [← Hnn.out] at hdl
      obtain ⟨A9, c9, rfl, hI9⟩ := hT.form
      have HI9 := Lib.hid hI9
      have hk0 : (0 : Int) ≤ (k : Int) := by omega
      clear hT HT0 hI9
      by_cases hA : k < len1
      · by_cases hB : k < 60
        · by_cases hC : 0 < nn
          · have hAi : (k : Int) < (len1 : Int) := by omega
            have hBi : (k : Int) < 60 := by omega
            have hCi : (0 : Int) < (nn : Int) := by omega
            have dA : decide ((k : Int) < (len1 : Int)) = true := decide_eq_true hAi
            have dB : decide ((k : Int) < 60) = true := decide_eq_true hBi
            have dC : decide ((0 : Int) < (nn : Int)) = true := decide_eq_true hCi
            have hne : ¬ (nn : Int) = 0 := by omega
            obtain ⟨b, off, rfl, hb, hc⟩ := HK.out (by omega)
            obtain ⟨x, hx⟩ := hc k hA
            have hcx : wr.cell? ⟨b, off + k, none⟩ = some (.int .u8 x) := (HS.out.below.cell (p := ⟨b, off + k, none⟩) hb).trans hx
            clear hx hc
            have HT1 : Hid (∀ y : Int, Mat (wr.alloc (.cells #[.int .i64 y] 3)) (wr.alloc (.cells #[.int .i64 y] 3)).heap.size Ad (rowsI (overD ls)) ∧ Ints (wr.alloc (.cells #[.int .i64 y] 3)) (wr.alloc (.cells #[.int .i64 y] 3)).heap.size A9 (natsI done) ∧ Ints (wr.alloc (.cells #[.int .i64 y] 3)) (wr.alloc (.cells #[.int .i64 y] 3)).heap.size (some ⟨wr.heap.size, 0, none⟩) [y]) := fun y => by
              have hB := (Below.refl wr.heap.size wr).alloc (Nat.le_refl _) (.cells #[.int .i64 y] 3)
              exact ⟨Mat.next (HS.out.mat.more HS.out.base2) hB, Ints.next HI9.out hB, Ints.one wr y _ (by simp)⟩
            have Hrl : Hid (∀ y : Int, (readyL (overD ls) (natsI done) [y]).length ≤ 256) := fun y => readyL_len HokD.out _ _
            go_wp2_with (first
              | (go_at_call 39; generalize (wrap64 x).tmod (nn : Int) = y; refine (ready_yes Ad cd nn (overD ls) HnD.out HokD.out A9 c9 done.length (natsI done) (length_natsI _).symm (by rw [length_natsI]; omega) (some ⟨wr.heap.size, 0, none⟩) 1 1 [y] rfl (by simp) _ (HT1.out _).1 (HT1.out _).2.1 (HT1.out _).2.2).mono ?_; rintro e w9 ⟨Ar, cr, rfl, hIr, hB9⟩; have HS9 := Lib.hid (HS.out.next (((Below.refl _ wr).alloc (Nat.le_refl _) (.cells #[.int .i64 y] 3)).trans (hB9.mono (by simp)))); have HIr := Lib.hid hIr; have hrl := Hrl.out y; clear hIr hB9)
              | (at_builtin; refine wpList_append_ints rfl (.tmp 47) (.tmp 48) rfl base _ done.length (natsV done) rfl HS9.out.own _ Ar (natsI (readyL (overD ls) (natsI done) [y])) cr (readyL (overD ls) (natsI done) [y]).length (length_natsI _).symm rfl HIr.out (by omega) HS9.out.base2 ?_; intro v5 w5 hown5 hgrow5; have hM := HS9.out.more (by rw [← Hnn.out]; omega) [y] rfl hown5 hgrow5; obtain ⟨dn, hdn⟩ : ∃ dn, dn = done ++ readyL (overD ls) (natsI done) [y] := ⟨_, rfl⟩; rw [← hdn] at hM; obtain ⟨A5, c5, rfl, hI5⟩ := hM.form; have hdl5 := hM.len; rw [← Hnn.out] at hdl5; have HM := Lib.hid hM; have HI5 := Lib.hid hI5; clear hown5 hgrow5 hM hI5 hdn)
              | (go_at_call 35; refine (closed_yes Ad cd nn (overD ls) HnD.out HokD.out A5 c5 dn.length (natsI dn) (length_natsI _).symm (by rw [length_natsI]; omega) w5 (HM.out.mat.more HM.out.base2) HI5.out).mono ?_; rintro e w6 ⟨rfl, hB6⟩; rw [closedB_yes HM.out.good.closed]; have HT6 := Lib.hid (HM.out.next hB6); clear hB6))
            go_roundw
            case rel => exact ⟨k + 1, dn, by omega, by go_num, HT6.out⟩
            case measure => simp [intOf]; omega
          · have hAi : (k : Int) < (len1 : Int) := by omega
            have hBi : (k : Int) < 60 := by omega
            have hCi : ¬ (0 : Int) < (nn : Int) := by omega
            have dA : decide ((k : Int) < (len1 : Int)) = true := decide_eq_true hAi
            have dB : decide ((k : Int) < 60) = true := decide_eq_true hBi
            have dC : decide ((0 : Int) < (nn : Int)) = false := decide_eq_false hCi
            go_wp2_with fail
            (try clear dC); (try clear dB); (try clear dA); (try clear hCi); (try clear hBi); (try clear hAi); (try clear hC); (try clear hB); (try clear hA)
            have HS1 := Lib.hid HS.out
            go_loopw [7, 10] (fun v i wr => ∃ (k : Nat) (done : List Nat), k ≤ nn ∧ i = .int .i64 k ∧ Tt W wr ls Ai Ad v done base ∧ ∀ j, j < k → j ∈ done) (fun _ i _ => nn - (intOf i).toNat)
            case atStart => exact ⟨0, _, Nat.zero_le _, rfl, HS1.out, fun j hj => by omega⟩
            case round =>
              clear HS HI9 hdl
              obtain ⟨k, done, hk, rfl, hT, hall⟩ := hrel
              rename World => wr
              have HS := Lib.hid hT
              have Hall := Lib.hid hall
              have hdl := hT.len
              rw [← Hnn.out] at hdl
              obtain ⟨A9, c9, rfl, hI9⟩ := hT.form
              have HI9 := Lib.hid hI9
              have hk0 : (0 : Int) ≤ (k : Int) := by omega
              clear hT hI9 hall HS1
              by_cases hlt : k < nn
              · have hlti : (k : Int) < (nn : Int) := by omega
                have HT1 : Hid (∀ y : Int, Mat (wr.alloc (.cells #[.int .i64 y] 3)) (wr.alloc (.cells #[.int .i64 y] 3)).heap.size Ad (rowsI (overD ls)) ∧ Ints (wr.alloc (.cells #[.int .i64 y] 3)) (wr.alloc (.cells #[.int .i64 y] 3)).heap.size A9 (natsI done) ∧ Ints (wr.alloc (.cells #[.int .i64 y] 3)) (wr.alloc (.cells #[.int .i64 y] 3)).heap.size (some ⟨wr.heap.size, 0, none⟩) [y]) := fun y => by
                  have hB := (Below.refl wr.heap.size wr).alloc (Nat.le_refl _) (.cells #[.int .i64 y] 3)
                  exact ⟨Mat.next (HS.out.mat.more HS.out.base2) hB, Ints.next HI9.out hB, Ints.one wr y _ (by simp)⟩
                have Hrl : Hid (∀ y : Int, (readyL (overD ls) (natsI done) [y]).length ≤ 256) := fun y => readyL_len HokD.out _ _
                have Hcm : Hid (∀ j, j < k + 1 → j ∈ done ++ readyL (overD ls) (natsI done) [(k : Int)]) := HS.out.good.comes HokD.out.right (by rw [← HnD.out]; exact hlt) Hall.out
                go_wp2_with (first
                  | (go_at_call 39; refine (ready_yes Ad cd nn (overD ls) HnD.out HokD.out A9 c9 done.length (natsI done) (length_natsI _).symm (by rw [length_natsI]; omega) (some ⟨wr.heap.size, 0, none⟩) 1 1 [(k : Int)] rfl (by simp) _ (HT1.out _).1 (HT1.out _).2.1 (HT1.out _).2.2).mono ?_; rintro e w9 ⟨Ar, cr, rfl, hIr, hB9⟩; have HS9 := Lib.hid (HS.out.next (((Below.refl _ wr).alloc (Nat.le_refl _) (.cells #[.int .i64 (k : Int)] 3)).trans (hB9.mono (by simp)))); have HIr := Lib.hid hIr; have hrl := Hrl.out (k : Int); clear hIr hB9)
                  | (at_builtin; refine wpList_append_ints rfl (.tmp 60) (.tmp 65) rfl base _ done.length (natsV done) rfl HS9.out.own _ Ar (natsI (readyL (overD ls) (natsI done) [(k : Int)])) cr (readyL (overD ls) (natsI done) [(k : Int)]).length (length_natsI _).symm rfl HIr.out (by omega) HS9.out.base2 ?_; intro v5 w5 hown5 hgrow5; have hM := HS9.out.more (by rw [← Hnn.out]; omega) [(k : Int)] rfl hown5 hgrow5; have hcm := Hcm.out; obtain ⟨dn, hdn⟩ : ∃ dn, dn = done ++ readyL (overD ls) (natsI done) [(k : Int)] := ⟨_, rfl⟩; rw [← hdn] at hM hcm; have Hcm5 := Lib.hid hcm; clear hcm; obtain ⟨A5, c5, rfl, hI5⟩ := hM.form; have hdl5 := hM.len; rw [← Hnn.out] at hdl5; have HM := Lib.hid hM; have HI5 := Lib.hid hI5; clear hown5 hgrow5 hM hI5 hdn))
                go_roundw
                case rel => exact ⟨k + 1, dn, by omega, by go_num, HM.out, Hcm5.out⟩
                case measure => simp [intOf]; omega
              · have hlti : ¬ (k : Int) < (nn : Int) := by omega
                obtain rfl : k = nn := by omega
                have hfull := full_len k done HS.out.good.nodup (by rw [HnD.out]; exact HS.out.good.lt) Hall.out
                rw [hfull]
                have HR := Lib.hid (right_yes Ad cd k (overD ls) HnD.out HokD.out wr (HS.out.mat.more HS.out.base2))
                have hmr := mright_any Ai ci k (overL ls) HnO.out wr (by rw [← HnO.out]; omega) (small_overL HF1.out (by rw [← Hnn.out]; omega)) (HS.out.items.more HS.out.base2)
                rw [rightL_overL, Hr1.out] at hmr
                have HMR := Lib.hid hmr
                have HB := Lib.hid HS.out.below
                clear hfull hmr
                go_wp2_with (first
                  | (go_at_call 33; refine HR.out.mono ?_; rintro e w' ⟨rfl, rfl⟩; clear HR)
                  | (go_at_call 15; refine HMR.out.mono ?_; rintro e w9 ⟨rfl, hB9⟩; clear HMR; have HB9 := Lib.hid (HB.out.trans (hB9.mono HB.out.size)); clear hB9))
                go_ret
                exact ⟨rfl, HB9.out⟩
        · have hAi : (k : Int) < (len1 : Int) := by omega
          have hBi : ¬ (k : Int) < 60 := by omega
          have dA : decide ((k : Int) < (len1 : Int)) = true := decide_eq_true hAi
          have dB : decide ((k : Int) < 60) = false := decide_eq_false hBi
          go_wp2_with fail
          (try clear dC); (try clear dB); (try clear dA); (try clear hCi); (try clear hBi); (try clear hAi); (try clear hC); (try clear hB); (try clear hA)
          have HS1 := Lib.hid HS.out
          go_loopw [7, 10] (fun v i wr => ∃ (k : Nat) (done : List Nat), k ≤ nn ∧ i = .int .i64 k ∧ Tt W wr ls Ai Ad v done base ∧ ∀ j, j < k → j ∈ done) (fun _ i _ => nn - (intOf i).toNat)
          case atStart => exact ⟨0, _, Nat.zero_le _, rfl, HS1.out, fun j hj => by omega⟩
          case round =>
            clear HS HI9 hdl
            obtain ⟨k, done, hk, rfl, hT, hall⟩ := hrel
            rename World => wr
            have HS := Lib.hid hT
            have Hall := Lib.hid hall
            have hdl := hT.len
            rw [← Hnn.out] at hdl
            obtain ⟨A9, c9, rfl, hI9⟩ := hT.form
            have HI9 := Lib.hid hI9
            have hk0 : (0 : Int) ≤ (k : Int) := by omega
            clear hT hI9 hall HS1
            by_cases hlt : k < nn
            · have hlti : (k : Int) < (nn : Int) := by omega
              have HT1 : Hid (∀ y : Int, Mat (wr.alloc (.cells #[.int .i64 y] 3)) (wr.alloc (.cells #[.int .i64 y] 3)).heap.size Ad (rowsI (overD ls)) ∧ Ints (wr.alloc (.cells #[.int .i64 y] 3)) (wr.alloc (.cells #[.int .i64 y] 3)).heap.size A9 (natsI done) ∧ Ints (wr.alloc (.cells #[.int .i64 y] 3)) (wr.alloc (.cells #[.int .i64 y] 3)).heap.size (some ⟨wr.heap.size, 0, none⟩) [y]) := fun y => by
                have hB := (Below.refl wr.heap.size wr).alloc (Nat.le_refl _) (.cells #[.int .i64 y] 3)
                exact ⟨Mat.next (HS.out.mat.more HS.out.base2) hB, Ints.next HI9.out hB, Ints.one wr y _ (by simp)⟩
              have Hrl : Hid (∀ y : Int, (readyL (overD ls) (natsI done) [y]).length ≤ 256) := fun y => readyL_len HokD.out _ _
              have Hcm : Hid (∀ j, j < k + 1 → j ∈ done ++ readyL (overD ls) (natsI done) [(k : Int)]) := HS.out.good.comes HokD.out.right (by rw [← HnD.out]; exact hlt) Hall.out
              go_wp2_with (first
                | (go_at_call 39; refine (ready_yes Ad cd nn (overD ls) HnD.out HokD.out A9 c9 done.length (natsI done) (length_natsI _).symm (by rw [length_natsI]; omega) (some ⟨wr.heap.size, 0, none⟩) 1 1 [(k : Int)] rfl (by simp) _ (HT1.out _).1 (HT1.out _).2.1 (HT1.out _).2.2).mono ?_; rintro e w9 ⟨Ar, cr, rfl, hIr, hB9⟩; have HS9 := Lib.hid (HS.out.next (((Below.refl _ wr).alloc (Nat.le_refl _) (.cells #[.int .i64 (k : Int)] 3)).trans (hB9.mono (by simp)))); have HIr := Lib.hid hIr; have hrl := Hrl.out (k : Int); clear hIr hB9)
                | (at_builtin; refine wpList_append_ints rfl (.tmp 60) (.tmp 65) rfl base _ done.length (natsV done) rfl HS9.out.own _ Ar (natsI (readyL (overD ls) (natsI done) [(k : Int)])) cr (readyL (overD ls) (natsI done) [(k : Int)]).length (length_natsI _).symm rfl HIr.out (by omega) HS9.out.base2 ?_; intro v5 w5 hown5 hgrow5; have hM := HS9.out.more (by rw [← Hnn.out]; omega) [(k : Int)] rfl hown5 hgrow5; have hcm := Hcm.out; obtain ⟨dn, hdn⟩ : ∃ dn, dn = done ++ readyL (overD ls) (natsI done) [(k : Int)] := ⟨_, rfl⟩; rw [← hdn] at hM hcm; have Hcm5 := Lib.hid hcm; clear hcm; obtain ⟨A5, c5, rfl, hI5⟩ := hM.form; have hdl5 := hM.len; rw [← Hnn.out] at hdl5; have HM := Lib.hid hM; have HI5 := Lib.hid hI5; clear hown5 hgrow5 hM hI5 hdn))
              go_roundw
              case rel => exact ⟨k + 1, dn, by omega, by go_num, HM.out, Hcm5.out⟩
              case measure => simp [intOf]; omega
            · have hlti : ¬ (k : Int) < (nn : Int) := by omega
              obtain rfl : k = nn := by omega
              have hfull := full_len k done HS.out.good.nodup (by rw [HnD.out]; exact HS.out.good.lt) Hall.out
              rw [hfull]
              have HR := Lib.hid (right_yes Ad cd k (overD ls) HnD.out HokD.out wr (HS.out.mat.more HS.out.base2))
              have hmr := mright_any Ai ci k (overL ls) HnO.out wr (by rw [← HnO.out]; omega) (small_overL HF1.out (by rw [← Hnn.out]; omega)) (HS.out.items.more HS.out.base2)
              rw [rightL_overL, Hr1.out] at hmr
              have HMR := Lib.hid hmr
              have HB := Lib.hid HS.out.below
              clear hfull hmr
              go_wp2_with (first
                | (go_at_call 33; refine HR.out.mono ?_; rintro e w' ⟨rfl, rfl⟩; clear HR)
                | (go_at_call 15; refine HMR.out.mono ?_; rintro e w9 ⟨rfl, hB9⟩; clear HMR; have HB9 := Lib.hid (HB.out.trans (hB9.mono HB.out.size)); clear hB9))
              go_ret
              exact ⟨rfl, HB9.out⟩
      · have hAi : ¬ (k : Int) < (len1 : Int) := by omega
        have dA : decide ((k : Int) < (len1 : Int)) = false := decide_eq_false hAi
        go_wp2_with fail
        (try clear dC); (try clear dB); (try clear dA); (try clear hCi); (try clear hBi); (try clear hAi); (try clear hC); (try clear hB); (try clear hA)
        have HS1 := Lib.hid HS.out
        go_loopw [7, 10] (fun v i wr => ∃ (k : Nat) (done : List Nat), k ≤ nn ∧ i = .int .i64 k ∧ Tt W wr ls Ai Ad v done base ∧ ∀ j, j < k → j ∈ done) (fun _ i _ => nn - (intOf i).toNat)
        case atStart => exact ⟨0, _, Nat.zero_le _, rfl, HS1.out, fun j hj => by omega⟩
        case round =>
          clear HS HI9 hdl
          obtain ⟨k, done, hk, rfl, hT, hall⟩ := hrel
          rename World => wr
          have HS := Lib.hid hT
          have Hall := Lib.hid hall
          have hdl := hT.len
          rw [← Hnn.out] at hdl
          obtain ⟨A9, c9, rfl, hI9⟩ := hT.form
          have HI9 := Lib.hid hI9
          have hk0 : (0 : Int) ≤ (k : Int) := by omega
          clear hT hI9 hall HS1
          by_cases hlt : k < nn
          · have hlti : (k : Int) < (nn : Int) := by omega
            have HT1 : Hid (∀ y : Int, Mat (wr.alloc (.cells #[.int .i64 y] 3)) (wr.alloc (.cells #[.int .i64 y] 3)).heap.size Ad (rowsI (overD ls)) ∧ Ints (wr.alloc (.cells #[.int .i64 y] 3)) (wr.alloc (.cells #[.int .i64 y] 3)).heap.size A9 (natsI done) ∧ Ints (wr.alloc (.cells #[.int .i64 y] 3)) (wr.alloc (.cells #[.int .i64 y] 3)).heap.size (some ⟨wr.heap.size, 0, none⟩) [y]) := fun y => by
              have hB := (Below.refl wr.heap.size wr).alloc (Nat.le_refl _) (.cells #[.int .i64 y] 3)
              exact ⟨Mat.next (HS.out.mat.more HS.out.base2) hB, Ints.next HI9.out hB, Ints.one wr y _ (by simp)⟩
            have Hrl : Hid (∀ y : Int, (readyL (overD ls) (natsI done) [y]).length ≤ 256) := fun y => readyL_len HokD.out _ _
            have Hcm : Hid (∀ j, j < k + 1 → j ∈ done ++ readyL (overD ls) (natsI done) [(k : Int)]) := HS.out.good.comes HokD.out.right (by rw [← HnD.out]; exact hlt) Hall.out
            go_wp2_with (first
              | (go_at_call 39; refine (ready_yes Ad cd nn (overD ls) HnD.out HokD.out A9 c9 done.length (natsI done) (length_natsI _).symm (by rw [length_natsI]; omega) (some ⟨wr.heap.size, 0, none⟩) 1 1 [(k : Int)] rfl (by simp) _ (HT1.out _).1 (HT1.out _).2.1 (HT1.out _).2.2).mono ?_; rintro e w9 ⟨Ar, cr, rfl, hIr, hB9⟩; have HS9 := Lib.hid (HS.out.next (((Below.refl _ wr).alloc (Nat.le_refl _) (.cells #[.int .i64 (k : Int)] 3)).trans (hB9.mono (by simp)))); have HIr := Lib.hid hIr; have hrl := Hrl.out (k : Int); clear hIr hB9)
              | (at_builtin; refine wpList_append_ints rfl (.tmp 60) (.tmp 65) rfl base _ done.length (natsV done) rfl HS9.out.own _ Ar (natsI (readyL (overD ls) (natsI done) [(k : Int)])) cr (readyL (overD ls) (natsI done) [(k : Int)]).length (length_natsI _).symm rfl HIr.out (by omega) HS9.out.base2 ?_; intro v5 w5 hown5 hgrow5; have hM := HS9.out.more (by rw [← Hnn.out]; omega) [(k : Int)] rfl hown5 hgrow5; have hcm := Hcm.out; obtain ⟨dn, hdn⟩ : ∃ dn, dn = done ++ readyL (overD ls) (natsI done) [(k : Int)] := ⟨_, rfl⟩; rw [← hdn] at hM hcm; have Hcm5 := Lib.hid hcm; clear hcm; obtain ⟨A5, c5, rfl, hI5⟩ := hM.form; have hdl5 := hM.len; rw [← Hnn.out] at hdl5; have HM := Lib.hid hM; have HI5 := Lib.hid hI5; clear hown5 hgrow5 hM hI5 hdn))
            go_roundw
            case rel => exact ⟨k + 1, dn, by omega, by go_num, HM.out, Hcm5.out⟩
            case measure => simp [intOf]; omega
          · have hlti : ¬ (k : Int) < (nn : Int) := by omega
            obtain rfl : k = nn := by omega
            have hfull := full_len k done HS.out.good.nodup (by rw [HnD.out]; exact HS.out.good.lt) Hall.out
            rw [hfull]
            have HR := Lib.hid (right_yes Ad cd k (overD ls) HnD.out HokD.out wr (HS.out.mat.more HS.out.base2))
            have hmr := mright_any Ai ci k (overL ls) HnO.out wr (by rw [← HnO.out]; omega) (small_overL HF1.out (by rw [← Hnn.out]; omega)) (HS.out.items.more HS.out.base2)
            rw [rightL_overL, Hr1.out] at hmr
            have HMR := Lib.hid hmr
            have HB := Lib.hid HS.out.below
            clear hfull hmr
            go_wp2_with (first
              | (go_at_call 33; refine HR.out.mono ?_; rintro e w' ⟨rfl, rfl⟩; clear HR)
              | (go_at_call 15; refine HMR.out.mono ?_; rintro e w9 ⟨rfl, hB9⟩; clear HMR; have HB9 := Lib.hid (HB.out.trans (hB9.mono HB.out.size)); clear hB9))
            go_ret
            exact ⟨rfl, HB9.out⟩
  · obtain rfl : n = len0 := by omega
    have h20i : ¬ (20 : Int) < (n : Int) := by omega
    clear hn
    go_enter Try.func11, Try.ntmps11
    go_wp2_with fail
    clear HP
    refine HOv.out.mono ?_
    rintro e w1 ⟨hB1, ls, Ai, ci, rfl, hI1, hlen1, hlen2, hF1, hr1, _⟩
    have HI1 := Lib.hid hI1
    have HB1 := Lib.hid hB1
    have HF1 := Lib.hid hF1
    have Hr1 := Lib.hid hr1
    have hls : ls.length ≤ 20 := by rw [Hl.out] at hlen1; omega
    have HokD : Hid (OkD (overD ls)) := okD_over (by omega)
    obtain ⟨nn, hnn⟩ : ∃ nn, nn = ls.length := ⟨_, rfl⟩
    have HnD : Hid (nn = (overD ls).length) := by unfold Hid; rw [length_overD, hnn]
    have HnO : Hid (nn = (overL ls).length) := by unfold Hid; rw [length_overL, hnn]
    have Hnn := Lib.hid hnn
    have hnn20 : nn ≤ 20 := by omega
    rw [← hnn]
    clear hI1 hB1 hF1 hr1 hlen1 hlen2 hls HOv hnn
    go_wp2_with fail
    refine (topDepsOf_any Ai ci nn (overL ls) HnO.out w1 (by rw [← HnO.out]; omega) HI1.out).mono ?_
    rintro e w2 ⟨Ad, cd, rfl, hM2, hB2⟩
    rw [length_overL, ← Hnn.out]
    rw [depsI_overL] at hM2
    obtain ⟨base, hbase⟩ : ∃ base, base = w2.heap.size := ⟨_, rfl⟩
    have HT0 : Hid (Tt W w2 ls Ai Ad (.slice none 0 0) [] base) := by
      subst hbase
      exact ⟨HI1.out.next hB2, hM2, World.ownsRow_nil _ _ _ _, Good.nil _, HB1.out.trans (hB2.mono HB1.out.size), Nat.le_trans HB1.out.size hB2.size, Nat.le_refl _⟩
    clear hM2 hB2 hbase
    go_wp2_with fail
    go_loopw [7, 8] (fun v i wr => ∃ (k : Nat) (done : List Nat), k ≤ 60 ∧ i = .int .i64 k ∧ Tt W wr ls Ai Ad v done base) (fun _ i _ => 60 - (intOf i).toNat)
    case atStart => exact ⟨0, [], Nat.zero_le _, rfl, HT0.out⟩
    case round =>
      obtain ⟨k, done, hk, rfl, hT⟩ := hrel
      rename World => wr
      have HS := Lib.hid hT
      have hdl := hT.len
      rw [← Hnn.out] at hdl
      obtain ⟨A9, c9, rfl, hI9⟩ := hT.form
      have HI9 := Lib.hid hI9
      have hk0 : (0 : Int) ≤ (k : Int) := by omega
      clear hT HT0 hI9
      by_cases hA : k < len1
      · by_cases hB : k < 60
        · by_cases hC : 0 < nn
          · have hAi : (k : Int) < (len1 : Int) := by omega
            have hBi : (k : Int) < 60 := by omega
            have hCi : (0 : Int) < (nn : Int) := by omega
            have dA : decide ((k : Int) < (len1 : Int)) = true := decide_eq_true hAi
            have dB : decide ((k : Int) < 60) = true := decide_eq_true hBi
            have dC : decide ((0 : Int) < (nn : Int)) = true := decide_eq_true hCi
            have hne : ¬ (nn : Int) = 0 := by omega
            obtain ⟨b, off, rfl, hb, hc⟩ := HK.out (by omega)
            obtain ⟨x, hx⟩ := hc k hA
            have hcx : wr.cell? ⟨b, off + k, none⟩ = some (.int .u8 x) := (HS.out.below.cell (p := ⟨b, off + k, none⟩) hb).trans hx
            clear hx hc
            have HT1 : Hid (∀ y : Int, Mat (wr.alloc (.cells #[.int .i64 y] 3)) (wr.alloc (.cells #[.int .i64 y] 3)).heap.size Ad (rowsI (overD ls)) ∧ Ints (wr.alloc (.cells #[.int .i64 y] 3)) (wr.alloc (.cells #[.int .i64 y] 3)).heap.size A9 (natsI done) ∧ Ints (wr.alloc (.cells #[.int .i64 y] 3)) (wr.alloc (.cells #[.int .i64 y] 3)).heap.size (some ⟨wr.heap.size, 0, none⟩) [y]) := fun y => by
              have hB := (Below.refl wr.heap.size wr).alloc (Nat.le_refl _) (.cells #[.int .i64 y] 3)
              exact ⟨Mat.next (HS.out.mat.more HS.out.base2) hB, Ints.next HI9.out hB, Ints.one wr y _ (by simp)⟩
            have Hrl : Hid (∀ y : Int, (readyL (overD ls) (natsI done) [y]).length ≤ 256) := fun y => readyL_len HokD.out _ _
            go_wp2_with (first
              | (go_at_call 39; generalize (wrap64 x).tmod (nn : Int) = y; refine (ready_yes Ad cd nn (overD ls) HnD.out HokD.out A9 c9 done.length (natsI done) (length_natsI _).symm (by rw [length_natsI]; omega) (some ⟨wr.heap.size, 0, none⟩) 1 1 [y] rfl (by simp) _ (HT1.out _).1 (HT1.out _).2.1 (HT1.out _).2.2).mono ?_; rintro e w9 ⟨Ar, cr, rfl, hIr, hB9⟩; have HS9 := Lib.hid (HS.out.next (((Below.refl _ wr).alloc (Nat.le_refl _) (.cells #[.int .i64 y] 3)).trans (hB9.mono (by simp)))); have HIr := Lib.hid hIr; have hrl := Hrl.out y; clear hIr hB9)
              | (at_builtin; refine wpList_append_ints rfl (.tmp 47) (.tmp 48) rfl base _ done.length (natsV done) rfl HS9.out.own _ Ar (natsI (readyL (overD ls) (natsI done) [y])) cr (readyL (overD ls) (natsI done) [y]).length (length_natsI _).symm rfl HIr.out (by omega) HS9.out.base2 ?_; intro v5 w5 hown5 hgrow5; have hM := HS9.out.more (by rw [← Hnn.out]; omega) [y] rfl hown5 hgrow5; obtain ⟨dn, hdn⟩ : ∃ dn, dn = done ++ readyL (overD ls) (natsI done) [y] := ⟨_, rfl⟩; rw [← hdn] at hM; obtain ⟨A5, c5, rfl, hI5⟩ := hM.form; have hdl5 := hM.len; rw [← Hnn.out] at hdl5; have HM := Lib.hid hM; have HI5 := Lib.hid hI5; clear hown5 hgrow5 hM hI5 hdn)
              | (go_at_call 35; refine (closed_yes Ad cd nn (overD ls) HnD.out HokD.out A5 c5 dn.length (natsI dn) (length_natsI _).symm (by rw [length_natsI]; omega) w5 (HM.out.mat.more HM.out.base2) HI5.out).mono ?_; rintro e w6 ⟨rfl, hB6⟩; rw [closedB_yes HM.out.good.closed]; have HT6 := Lib.hid (HM.out.next hB6); clear hB6))
            go_roundw
            case rel => exact ⟨k + 1, dn, by omega, by go_num, HT6.out⟩
            case measure => simp [intOf]; omega
          · have hAi : (k : Int) < (len1 : Int) := by omega
            have hBi : (k : Int) < 60 := by omega
            have hCi : ¬ (0 : Int) < (nn : Int) := by omega
            have dA : decide ((k : Int) < (len1 : Int)) = true := decide_eq_true hAi
            have dB : decide ((k : Int) < 60) = true := decide_eq_true hBi
            have dC : decide ((0 : Int) < (nn : Int)) = false := decide_eq_false hCi
            go_wp2_with fail
            (try clear dC); (try clear dB); (try clear dA); (try clear hCi); (try clear hBi); (try clear hAi); (try clear hC); (try clear hB); (try clear hA)
            have HS1 := Lib.hid HS.out
            go_loopw [7, 10] (fun v i wr => ∃ (k : Nat) (done : List Nat), k ≤ nn ∧ i = .int .i64 k ∧ Tt W wr ls Ai Ad v done base ∧ ∀ j, j < k → j ∈ done) (fun _ i _ => nn - (intOf i).toNat)
            case atStart => exact ⟨0, _, Nat.zero_le _, rfl, HS1.out, fun j hj => by omega⟩
            case round =>
              clear HS HI9 hdl
              obtain ⟨k, done, hk, rfl, hT, hall⟩ := hrel
              rename World => wr
              have HS := Lib.hid hT
              have Hall := Lib.hid hall
              have hdl := hT.len
              rw [← Hnn.out] at hdl
              obtain ⟨A9, c9, rfl, hI9⟩ := hT.form
              have HI9 := Lib.hid hI9
              have hk0 : (0 : Int) ≤ (k : Int) := by omega
              clear hT hI9 hall HS1
              by_cases hlt : k < nn
              · have hlti : (k : Int) < (nn : Int) := by omega
                have HT1 : Hid (∀ y : Int, Mat (wr.alloc (.cells #[.int .i64 y] 3)) (wr.alloc (.cells #[.int .i64 y] 3)).heap.size Ad (rowsI (overD ls)) ∧ Ints (wr.alloc (.cells #[.int .i64 y] 3)) (wr.alloc (.cells #[.int .i64 y] 3)).heap.size A9 (natsI done) ∧ Ints (wr.alloc (.cells #[.int .i64 y] 3)) (wr.alloc (.cells #[.int .i64 y] 3)).heap.size (some ⟨wr.heap.size, 0, none⟩) [y]) := fun y => by
                  have hB := (Below.refl wr.heap.size wr).alloc (Nat.le_refl _) (.cells #[.int .i64 y] 3)
                  exact ⟨Mat.next (HS.out.mat.more HS.out.base2) hB, Ints.next HI9.out hB, Ints.one wr y _ (by simp)⟩
                have Hrl : Hid (∀ y : Int, (readyL (overD ls) (natsI done) [y]).length ≤ 256) := fun y => readyL_len HokD.out _ _
                have Hcm : Hid (∀ j, j < k + 1 → j ∈ done ++ readyL (overD ls) (natsI done) [(k : Int)]) := HS.out.good.comes HokD.out.right (by rw [← HnD.out]; exact hlt) Hall.out
                go_wp2_with (first
                  | (go_at_call 39; refine (ready_yes Ad cd nn (overD ls) HnD.out HokD.out A9 c9 done.length (natsI done) (length_natsI _).symm (by rw [length_natsI]; omega) (some ⟨wr.heap.size, 0, none⟩) 1 1 [(k : Int)] rfl (by simp) _ (HT1.out _).1 (HT1.out _).2.1 (HT1.out _).2.2).mono ?_; rintro e w9 ⟨Ar, cr, rfl, hIr, hB9⟩; have HS9 := Lib.hid (HS.out.next (((Below.refl _ wr).alloc (Nat.le_refl _) (.cells #[.int .i64 (k : Int)] 3)).trans (hB9.mono (by simp)))); have HIr := Lib.hid hIr; have hrl := Hrl.out (k : Int); clear hIr hB9)
                  | (at_builtin; refine wpList_append_ints rfl (.tmp 60) (.tmp 65) rfl base _ done.length (natsV done) rfl HS9.out.own _ Ar (natsI (readyL (overD ls) (natsI done) [(k : Int)])) cr (readyL (overD ls) (natsI done) [(k : Int)]).length (length_natsI _).symm rfl HIr.out (by omega) HS9.out.base2 ?_; intro v5 w5 hown5 hgrow5; have hM := HS9.out.more (by rw [← Hnn.out]; omega) [(k : Int)] rfl hown5 hgrow5; have hcm := Hcm.out; obtain ⟨dn, hdn⟩ : ∃ dn, dn = done ++ readyL (overD ls) (natsI done) [(k : Int)] := ⟨_, rfl⟩; rw [← hdn] at hM hcm; have Hcm5 := Lib.hid hcm; clear hcm; obtain ⟨A5, c5, rfl, hI5⟩ := hM.form; have hdl5 := hM.len; rw [← Hnn.out] at hdl5; have HM := Lib.hid hM; have HI5 := Lib.hid hI5; clear hown5 hgrow5 hM hI5 hdn))
                go_roundw
                case rel => exact ⟨k + 1, dn, by omega, by go_num, HM.out, Hcm5.out⟩
                case measure => simp [intOf]; omega
              · have hlti : ¬ (k : Int) < (nn : Int) := by omega
                obtain rfl : k = nn := by omega
                have hfull := full_len k done HS.out.good.nodup (by rw [HnD.out]; exact HS.out.good.lt) Hall.out
                rw [hfull]
                have HR := Lib.hid (right_yes Ad cd k (overD ls) HnD.out HokD.out wr (HS.out.mat.more HS.out.base2))
                have hmr := mright_any Ai ci k (overL ls) HnO.out wr (by rw [← HnO.out]; omega) (small_overL HF1.out (by rw [← Hnn.out]; omega)) (HS.out.items.more HS.out.base2)
                rw [rightL_overL, Hr1.out] at hmr
                have HMR := Lib.hid hmr
                have HB := Lib.hid HS.out.below
                clear hfull hmr
                go_wp2_with (first
                  | (go_at_call 33; refine HR.out.mono ?_; rintro e w' ⟨rfl, rfl⟩; clear HR)
                  | (go_at_call 15; refine HMR.out.mono ?_; rintro e w9 ⟨rfl, hB9⟩; clear HMR; have HB9 := Lib.hid (HB.out.trans (hB9.mono HB.out.size)); clear hB9))
                go_ret
                exact ⟨rfl, HB9.out⟩
        · have hAi : (k : Int) < (len1 : Int) := by omega
          have hBi : ¬ (k : Int) < 60 := by omega
          have dA : decide ((k : Int) < (len1 : Int)) = true := decide_eq_true hAi
          have dB : decide ((k : Int) < 60) = false := decide_eq_false hBi
          go_wp2_with fail
          (try clear dC); (try clear dB); (try clear dA); (try clear hCi); (try clear hBi); (try clear hAi); (try clear hC); (try clear hB); (try clear hA)
          have HS1 := Lib.hid HS.out
          go_loopw [7, 10] (fun v i wr => ∃ (k : Nat) (done : List Nat), k ≤ nn ∧ i = .int .i64 k ∧ Tt W wr ls Ai Ad v done base ∧ ∀ j, j < k → j ∈ done) (fun _ i _ => nn - (intOf i).toNat)
          case atStart => exact ⟨0, _, Nat.zero_le _, rfl, HS1.out, fun j hj => by omega⟩
          case round =>
            clear HS HI9 hdl
            obtain ⟨k, done, hk, rfl, hT, hall⟩ := hrel
            rename World => wr
            have HS := Lib.hid hT
            have Hall := Lib.hid hall
            have hdl := hT.len
            rw [← Hnn.out] at hdl
            obtain ⟨A9, c9, rfl, hI9⟩ := hT.form
            have HI9 := Lib.hid hI9
            have hk0 : (0 : Int) ≤ (k : Int) := by omega
            clear hT hI9 hall HS1
            by_cases hlt : k < nn
            · have hlti : (k : Int) < (nn : Int) := by omega
              have HT1 : Hid (∀ y : Int, Mat (wr.alloc (.cells #[.int .i64 y] 3)) (wr.alloc (.cells #[.int .i64 y] 3)).heap.size Ad (rowsI (overD ls)) ∧ Ints (wr.alloc (.cells #[.int .i64 y] 3)) (wr.alloc (.cells #[.int .i64 y] 3)).heap.size A9 (natsI done) ∧ Ints (wr.alloc (.cells #[.int .i64 y] 3)) (wr.alloc (.cells #[.int .i64 y] 3)).heap.size (some ⟨wr.heap.size, 0, none⟩) [y]) := fun y => by
                have hB := (Below.refl wr.heap.size wr).alloc (Nat.le_refl _) (.cells #[.int .i64 y] 3)
                exact ⟨Mat.next (HS.out.mat.more HS.out.base2) hB, Ints.next HI9.out hB, Ints.one wr y _ (by simp)⟩
              have Hrl : Hid (∀ y : Int, (readyL (overD ls) (natsI done) [y]).length ≤ 256) := fun y => readyL_len HokD.out _ _
              have Hcm : Hid (∀ j, j < k + 1 → j ∈ done ++ readyL (overD ls) (natsI done) [(k : Int)]) := HS.out.good.comes HokD.out.right (by rw [← HnD.out]; exact hlt) Hall.out
              go_wp2_with (first
                | (go_at_call 39; refine (ready_yes Ad cd nn (overD ls) HnD.out HokD.out A9 c9 done.length (natsI done) (length_natsI _).symm (by rw [length_natsI]; omega) (some ⟨wr.heap.size, 0, none⟩) 1 1 [(k : Int)] rfl (by simp) _ (HT1.out _).1 (HT1.out _).2.1 (HT1.out _).2.2).mono ?_; rintro e w9 ⟨Ar, cr, rfl, hIr, hB9⟩; have HS9 := Lib.hid (HS.out.next (((Below.refl _ wr).alloc (Nat.le_refl _) (.cells #[.int .i64 (k : Int)] 3)).trans (hB9.mono (by simp)))); have HIr := Lib.hid hIr; have hrl := Hrl.out (k : Int); clear hIr hB9)
                | (at_builtin; refine wpList_append_ints rfl (.tmp 60) (.tmp 65) rfl base _ done.length (natsV done) rfl HS9.out.own _ Ar (natsI (readyL (overD ls) (natsI done) [(k : Int)])) cr (readyL (overD ls) (natsI done) [(k : Int)]).length (length_natsI _).symm rfl HIr.out (by omega) HS9.out.base2 ?_; intro v5 w5 hown5 hgrow5; have hM := HS9.out.more (by rw [← Hnn.out]; omega) [(k : Int)] rfl hown5 hgrow5; have hcm := Hcm.out; obtain ⟨dn, hdn⟩ : ∃ dn, dn = done ++ readyL (overD ls) (natsI done) [(k : Int)] := ⟨_, rfl⟩; rw [← hdn] at hM hcm; have Hcm5 := Lib.hid hcm; clear hcm; obtain ⟨A5, c5, rfl, hI5⟩ := hM.form; have hdl5 := hM.len; rw [← Hnn.out] at hdl5; have HM := Lib.hid hM; have HI5 := Lib.hid hI5; clear hown5 hgrow5 hM hI5 hdn))
              go_roundw
              case rel => exact ⟨k + 1, dn, by omega, by go_num, HM.out, Hcm5.out⟩
              case measure => simp [intOf]; omega
            · have hlti : ¬ (k : Int) < (nn : Int) := by omega
              obtain rfl : k = nn := by omega
              have hfull := full_len k done HS.out.good.nodup (by rw [HnD.out]; exact HS.out.good.lt) Hall.out
              rw [hfull]
              have HR := Lib.hid (right_yes Ad cd k (overD ls) HnD.out HokD.out wr (HS.out.mat.more HS.out.base2))
              have hmr := mright_any Ai ci k (overL ls) HnO.out wr (by rw [← HnO.out]; omega) (small_overL HF1.out (by rw [← Hnn.out]; omega)) (HS.out.items.more HS.out.base2)
              rw [rightL_overL, Hr1.out] at hmr
              have HMR := Lib.hid hmr
              have HB := Lib.hid HS.out.below
              clear hfull hmr
              go_wp2_with (first
                | (go_at_call 33; refine HR.out.mono ?_; rintro e w' ⟨rfl, rfl⟩; clear HR)
                | (go_at_call 15; refine HMR.out.mono ?_; rintro e w9 ⟨rfl, hB9⟩; clear HMR; have HB9 := Lib.hid (HB.out.trans (hB9.mono HB.out.size)); clear hB9))
              go_ret
              exact ⟨rfl, HB9.out⟩
      · have hAi : ¬ (k : Int) < (len1 : Int) := by omega
        have dA : decide ((k : Int) < (len1 : Int)) = false := decide_eq_false hAi
        go_wp2_with fail
        (try clear dC); (try clear dB); (try clear dA); (try clear hCi); (try clear hBi); (try clear hAi); (try clear hC); (try clear hB); (try clear hA)
        have HS1 := Lib.hid HS.out
        go_loopw [7, 10] (fun v i wr => ∃ (k : Nat) (done : List Nat), k ≤ nn ∧ i = .int .i64 k ∧ Tt W wr ls Ai Ad v done base ∧ ∀ j, j < k → j ∈ done) (fun _ i _ => nn - (intOf i).toNat)
        case atStart => exact ⟨0, _, Nat.zero_le _, rfl, HS1.out, fun j hj => by omega⟩
        case round =>
          clear HS HI9 hdl
          obtain ⟨k, done, hk, rfl, hT, hall⟩ := hrel
          rename World => wr
          have HS := Lib.hid hT
          have Hall := Lib.hid hall
          have hdl := hT.len
          rw [← Hnn.out] at hdl
          obtain ⟨A9, c9, rfl, hI9⟩ := hT.form
          have HI9 := Lib.hid hI9
          have hk0 : (0 : Int) ≤ (k : Int) := by omega
          clear hT hI9 hall HS1
          by_cases hlt : k < nn
          · have hlti : (k : Int) < (nn : Int) := by omega
            have HT1 : Hid (∀ y : Int, Mat (wr.alloc (.cells #[.int .i64 y] 3)) (wr.alloc (.cells #[.int .i64 y] 3)).heap.size Ad (rowsI (overD ls)) ∧ Ints (wr.alloc (.cells #[.int .i64 y] 3)) (wr.alloc (.cells #[.int .i64 y] 3)).heap.size A9 (natsI done) ∧ Ints (wr.alloc (.cells #[.int .i64 y] 3)) (wr.alloc (.cells #[.int .i64 y] 3)).heap.size (some ⟨wr.heap.size, 0, none⟩) [y]) := fun y => by
              have hB := (Below.refl wr.heap.size wr).alloc (Nat.le_refl _) (.cells #[.int .i64 y] 3)
              exact ⟨Mat.next (HS.out.mat.more HS.out.base2) hB, Ints.next HI9.out hB, Ints.one wr y _ (by simp)⟩
            have Hrl : Hid (∀ y : Int, (readyL (overD ls) (natsI done) [y]).length ≤ 256) := fun y => readyL_len HokD.out _ _
            have Hcm : Hid (∀ j, j < k + 1 → j ∈ done ++ readyL (overD ls) (natsI done) [(k : Int)]) := HS.out.good.comes HokD.out.right (by rw [← HnD.out]; exact hlt) Hall.out
            go_wp2_with (first
              | (go_at_call 39; refine (ready_yes Ad cd nn (overD ls) HnD.out HokD.out A9 c9 done.length (natsI done) (length_natsI _).symm (by rw [length_natsI]; omega) (some ⟨wr.heap.size, 0, none⟩) 1 1 [(k : Int)] rfl (by simp) _ (HT1.out _).1 (HT1.out _).2.1 (HT1.out _).2.2).mono ?_; rintro e w9 ⟨Ar, cr, rfl, hIr, hB9⟩; have HS9 := Lib.hid (HS.out.next (((Below.refl _ wr).alloc (Nat.le_refl _) (.cells #[.int .i64 (k : Int)] 3)).trans (hB9.mono (by simp)))); have HIr := Lib.hid hIr; have hrl := Hrl.out (k : Int); clear hIr hB9)
              | (at_builtin; refine wpList_append_ints rfl (.tmp 60) (.tmp 65) rfl base _ done.length (natsV done) rfl HS9.out.own _ Ar (natsI (readyL (overD ls) (natsI done) [(k : Int)])) cr (readyL (overD ls) (natsI done) [(k : Int)]).length (length_natsI _).symm rfl HIr.out (by omega) HS9.out.base2 ?_; intro v5 w5 hown5 hgrow5; have hM := HS9.out.more (by rw [← Hnn.out]; omega) [(k : Int)] rfl hown5 hgrow5; have hcm := Hcm.out; obtain ⟨dn, hdn⟩ : ∃ dn, dn = done ++ readyL (overD ls) (natsI done) [(k : Int)] := ⟨_, rfl⟩; rw [← hdn] at hM hcm; have Hcm5 := Lib.hid hcm; clear hcm; obtain ⟨A5, c5, rfl, hI5⟩ := hM.form; have hdl5 := hM.len; rw [← Hnn.out] at hdl5; have HM := Lib.hid hM; have HI5 := Lib.hid hI5; clear hown5 hgrow5 hM hI5 hdn))
            go_roundw
            case rel => exact ⟨k + 1, dn, by omega, by go_num, HM.out, Hcm5.out⟩
            case measure => simp [intOf]; omega
          · have hlti : ¬ (k : Int) < (nn : Int) := by omega
            obtain rfl : k = nn := by omega
            have hfull := full_len k done HS.out.good.nodup (by rw [HnD.out]; exact HS.out.good.lt) Hall.out
            rw [hfull]
            have HR := Lib.hid (right_yes Ad cd k (overD ls) HnD.out HokD.out wr (HS.out.mat.more HS.out.base2))
            have hmr := mright_any Ai ci k (overL ls) HnO.out wr (by rw [← HnO.out]; omega) (small_overL HF1.out (by rw [← Hnn.out]; omega)) (HS.out.items.more HS.out.base2)
            rw [rightL_overL, Hr1.out] at hmr
            have HMR := Lib.hid hmr
            have HB := Lib.hid HS.out.below
            clear hfull hmr
            go_wp2_with (first
              | (go_at_call 33; refine HR.out.mono ?_; rintro e w' ⟨rfl, rfl⟩; clear HR)
              | (go_at_call 15; refine HMR.out.mono ?_; rintro e w9 ⟨rfl, hB9⟩; clear HMR; have HB9 := Lib.hid (HB.out.trans (hB9.mono HB.out.size)); clear hB9))
            go_ret
            exact ⟨rfl, HB9.out⟩
end Go.Proofs.Ytkfjkhacchbkeaa
