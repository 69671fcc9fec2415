/- The document's Abandon. -/
import Derived.Test.YtdndchoghhllmaaRB
set_option linter.unusedVariables false
set_option linter.unusedSimpArgs false
namespace Go.Proofs.Ytdndchoghhllmaa
open Go.RowKit
theorem head_srcG {B : Nat} {w : World} {b n c i : Nat} {xs : List Value} (h : w.ownsRow B 77 4 (.slice (some ⟨b, 0, none⟩) n c) n xs) (hi : i ≤ n) :
    ∀ ad, some (⟨b, 0, none⟩ : Addr) = some ad → ∀ j u, (xs.take (i * 4))[j]? = some u → w.cell? (ad.add j) = some u := by
  intro ad e j u hu
  cases e
  have hlt := (List.getElem?_eq_some_iff.1 hu).1
  rw [List.length_take, h.1] at hlt
  rw [List.getElem?_take_of_lt (by omega)] at hu
  rw [Addr.add_lit, Nat.zero_add, h.cellAt j (by omega)]
  exact hu
theorem tail_srcG {B : Nat} {w : World} {b n c i : Nat} {xs : List Value} (h : w.ownsRow B 77 4 (.slice (some ⟨b, 0, none⟩) n c) n xs) (hi : i ≤ n) :
    ∀ ad, (if c = i then some (⟨b, 0, none⟩ : Addr) else some ⟨b, i * 4, none⟩) = some ad → ∀ j u, (xs.drop (i * 4))[j]? = some u → w.cell? (ad.add j) = some u := by
  have h0 := own_cap h
  intro ad e j u hu
  have hlt := (List.getElem?_eq_some_iff.1 hu).1
  rw [List.length_drop, h.1] at hlt
  rw [List.getElem?_drop] at hu
  by_cases hc : c = i
  · omega
  · rw [if_neg hc] at e
    cases e
    rw [Addr.add_lit, h.cellAt _ (by omega)]
    exact hu
theorem filter_erase : ∀ {l : List Gp} {n : Int} {i : Nat} (_ : (nos l).Nodup) (hi : i < l.length), (l[i]).n = n → (l.filter fun g => !(isN n g)) = l.eraseIdx i
  | [], _, _, _, hi, _ => by simp at hi
  | g :: t, n, i, hn, hi, e => by
    have hn' : (g.n :: nos t).Nodup := hn
    obtain ⟨h1, h2⟩ := List.nodup_cons.1 hn'
    cases i with
    | zero =>
      have e' : g.n = n := e
      rw [List.filter_cons_of_neg (by simp [isN_iff.2 e']), List.eraseIdx_cons_zero, List.filter_eq_self]
      intro q hq
      cases z : isN n q with
      | false => rfl
      | true => exact absurd (show g.n ∈ nos t by rw [e', ← isN_iff.1 z]; exact in_nos hq) h1
    | succ i =>
      have hi' : i < t.length := by simpa using hi
      have e' : (t[i]).n = n := e
      have hne : isN n g = false := by
        cases z : isN n g with
        | false => rfl
        | true => exact absurd (show g.n ∈ nos t by rw [isN_iff.1 z, ← e']; exact in_nos (List.getElem_mem hi')) h1
      rw [List.filter_cons_of_pos (by simp [hne]), List.eraseIdx_cons_succ, filter_erase h2 hi' e']
section
variable (B r : Nat) (A : Option Addr) (c : Nat) (L : List Gr) (k n : Int) (w : World)
set_option maxRecDepth 100000 in
set_option maxHeartbeats 800000 in
theorem rabandon_any (hC : RefAt B w r A c L k) (hl : L.length ≤ 1000) (hnd : (nos (gs L)).Nodup) (hal : ∀ q ∈ L, q.g.a.length ≤ 1000) (hB : B ≤ w.heap.size) :
    Calls Try.prog 48 #[.pointer (some ⟨r, 0, none⟩), .int .i64 n] w fun e w' => e = .returned (.int .i64 (Gs.abandonE ⟨gs L, k⟩ n)) ∧ RWent B w r A (if Gs.abandonE ⟨gs L, k⟩ n = 0 then Gs.abandon ⟨gs L, k⟩ n else ⟨gs L, k⟩) w' := by
  have HA := Lib.hid (rat_any B r A c L k n w hC hl)
  have HS := Lib.hid (RWent.same hC (Below.refl _ _))
  obtain ⟨c0, _⟩ := hC.hcells
  have hr := hC.glt
  by_cases hn : n ∈ nos (gs L)
  · obtain ⟨i, hi, e1, e2, e3⟩ := idxG_in hnd hn
    obtain ⟨bb, hA, h1, h2, hb, _, d1, _, _, _⟩ := hC.at_ hi
    unfold maxLen at h2
    have hi0 : (0 : Int) ≤ (i : Int) := by omega
    have hii : (i : Int) < (L.length : Int) := by omega
    have hng : ¬ (i : Int) < 0 := by omega
    rw [e1] at HA
    by_cases hs : (grn L i).g.s = 2
    · have H0 : Hid (Gs.abandonE ⟨gs L, k⟩ n = 13) := by unfold Hid Gs.abandonE; rw [if_neg (fun q => q hn), if_pos (by rw [← e2]; exact hs)]
      have hx : (((grn L i).g.s : Int) == 2) = true := by simp; omega
      rw [H0.out, if_neg (by decide)]
      subst hA
      generalize (grn L i).g.s = si at *
      clear hC hn hnd e1 e2 e3 hs hal
      go_enter Try.func48, Try.ntmps48
      go_wp2_with (refine HA.out.mono ?_; rintro e w' ⟨rfl, rfl⟩)
      go_ret
      exact ⟨rfl, HS.out⟩
    · have hx : (((grn L i).g.s : Int) == 2) = false := by simp; omega
      have HE1 : Hid (∀ j, j < L.length → n ∈ (grn L j).g.a → Gs.abandonE ⟨gs L, k⟩ n = 12) := fun j hj q => by
        unfold Gs.abandonE
        rw [if_neg (fun q => q hn), if_neg (by rw [← e2]; exact hs), if_pos (Gs.any_ahead.2 ⟨(grn L j).g, List.mem_map.2 ⟨_, grn_mem hj, rfl⟩, q⟩)]
      have HE0 : Hid ((∀ j, j < L.length → n ∉ (grn L j).g.a) → Gs.abandonE ⟨gs L, k⟩ n = 0) := fun q => by
        unfold Gs.abandonE
        rw [if_neg (fun q => q hn), if_neg (by rw [← e2]; exact hs), if_neg]
        intro z
        obtain ⟨g, hg, hgn⟩ := Gs.any_ahead.1 z
        obtain ⟨x, hx, rfl⟩ := List.mem_map.1 hg
        obtain ⟨j, hj, rfl⟩ := List.mem_iff_getElem.1 hx
        exact q j hj (by rw [grn_lt hj]; exact hgn)
      have HC := Lib.hid hC
      have HAl := Lib.hid hal
      obtain ⟨i0, hi0', hz0, hz1, hz2⟩ := info_parts infoG
      have hi1 : (0 : Int) ≤ (i : Int) + 1 := by omega
      have hi2 : (i : Int) + 1 ≤ (L.length : Int) := by omega
      have hwr : IntKind.i64.wrap ((i : Int) + 1) = (i : Int) + 1 := IntWalk.i64_in _ (by omega)
      have hin : ((i : Int) + 1).toNat = i + 1 := by omega
      obtain ⟨A2, hA2⟩ : ∃ A2 : Addr, (if c = i + 1 then some (⟨bb, 0, none⟩ : Addr) else some ⟨bb, (i + 1) * 4, none⟩) = some A2 := by
        by_cases h : c = i + 1
        · exact ⟨_, by rw [if_pos h]⟩
        · exact ⟨_, by rw [if_neg h]⟩
      have hic : (i : Int) + 1 ≤ (c : Int) := by omega
      have hic0 : (i : Int) ≤ (c : Int) := by omega
      have hil : (i : Int) ≤ (L.length : Int) := by omega
      subst hA
      have B0 : Hid (Below w.heap.size w w.drew) := (Below.refl _ _).drew
      have HKeep : Hid (∀ V, Below w.heap.size w V → V.cell? ⟨r, 0, none⟩ = some (.slice (some ⟨bb, 0, none⟩) L.length c)) := fun V hV => (hC.fresh hV).hcells.1
      have Hps : Hid (∀ V, Below w.heap.size w V → ∀ ad, some (⟨bb, 0, none⟩ : Addr) = some ad → ∀ j u, ((flatG L).take (i * 4))[j]? = some u → V.cell? (ad.add j) = some u) := fun V hV => head_srcG (hC.fresh hV).row (by omega)
      have Hds : Hid (∀ V, Below w.heap.size w V → ∀ ad, some A2 = some ad → ∀ j u, ((flatG L).drop ((i + 1) * 4))[j]? = some u → V.cell? (ad.add j) = some u) := fun V hV ad e => tail_srcG (hC.fresh hV).row (by omega) ad (by rw [hA2]; exact e)
      have Hpl : Hid (((flatG L).take (i * 4)).length = i * 4) := by unfold Hid; rw [List.length_take, length_flatG]; omega
      have Hdl : Hid (((flatG L).drop ((i + 1) * 4)).length = (L.length - (i + 1)) * 4) := by unfold Hid; rw [List.length_drop, length_flatG]; omega
      have Hp1 : Hid (∀ u ∈ (flatG L).take (i * 4), u.oneCell' = true) := fun u hu => flatG_one L u (List.mem_of_mem_take hu)
      have Hd1 : Hid (∀ u ∈ (flatG L).drop ((i + 1) * 4), u.oneCell' = true) := fun u hu => flatG_one L u (List.mem_of_mem_drop hu)
      have HNew : Hid (∀ V, Below w.heap.size w V → Below w.heap.size w (V.alloc (.cells #[] 77)) ∧ (V.alloc (.cells #[] 77)).ownsRow w.heap.size 77 4 (.slice (some ⟨V.heap.size, 0, none⟩) 0 0) 0 []) := fun V hV =>
        ⟨hV.alloc hV.size _, World.ownsRow_made V #[] 0 hV.size (by simp) (by simp)⟩
      have HFin : Hid (∀ V V' A2 c2 (row : Option Nat), Below w.heap.size w V → (∀ b, row = some b → w.heap.size ≤ b) → V.grownBy V' row → V'.ownsRow w.heap.size 77 4 (.slice A2 (L.length - 1) c2) (L.length - 1) ((([] : List Value) ++ (flatG L).take (i * 4)) ++ (flatG L).drop ((i + 1) * 4)) →
          Below w.heap.size w V' ∧ V'.cell? ⟨r, 0, none⟩ = some (.slice (some ⟨bb, 0, none⟩) L.length c) ∧ V'.frozen? ⟨r, 0, none⟩ = false ∧ r < V'.heap.size ∧ RWent B w r (some ⟨bb, 0, none⟩) (Gs.abandon ⟨gs L, k⟩ n) (V'.setCell ⟨r, 0, none⟩ (.slice A2 (L.length - 1) c2))) := fun V V' A2 c2 row hV hrow hg ho => by
        have hbw := hV.grown hg hV.size hrow
        have hfl : ([] ++ (flatG L).take (i * 4)) ++ (flatG L).drop ((i + 1) * 4) = flatG (L.eraseIdx i) := by
          rw [List.nil_append, flatG_take, flatG_drop, ← flatG_append, List.eraseIdx_eq_take_drop_succ]
        rw [hfl] at ho
        have h4 := hC.fresh hbw
        obtain ⟨z1, z2, z3⟩ := new_row (L2 := L.eraseIdx i) hC hbw ho (by rw [List.length_eraseIdx, if_pos hi]) (fun q hq => hC.nums q (List.mem_of_mem_eraseIdx hq)) hB
        refine ⟨hbw, h4.hcells.1, h4.free 0, h4.glt, A2, c2, _, z1, ?_, z2, z3⟩
        have hf := filter_erase hnd (n := n) (i := i) (by rw [length_gs]; exact hi) (by rw [gs_at hi]; exact e3)
        show (L.eraseIdx i).map (·.g) = (gs L).filter _
        rw [hf]
        unfold gs
        simp [List.eraseIdx_eq_take_drop_succ, List.map_take, List.map_drop]
      have X := Lib.hid (HKeep.out _ B0.out)
      obtain ⟨yy, hyy⟩ : ∃ yy, yy = (if Gs.abandonE ⟨gs L, k⟩ n = 0 then Gs.abandon ⟨gs L, k⟩ n else (⟨gs L, k⟩ : Gs)) := ⟨_, rfl⟩
      rw [← hyy]
      have HY := Lib.hid hyy
      clear hyy
      generalize (grn L i).g.s = si at *
      generalize hfp : (flatG L).take (i * 4) = fp at *
      generalize hfd : (flatG L).drop ((i + 1) * 4) = fd at *
      clear hC hn hnd e1 e2 e3 hs hal hfp hfd
      go_enter Try.func48, Try.ntmps48
      go_wp2_with (refine HA.out.mono ?_; rintro e w' ⟨rfl, rfl⟩)
      go_loopw [6] (fun x wr => ∃ j : Nat, j ≤ L.length ∧ x = .int .i64 j ∧ w = wr ∧ Hid (∀ q, q < j → n ∉ (grn L q).g.a)) (fun x _ => L.length - (intOf x).toNat)
      case atStart => exact ⟨0, Nat.zero_le _, rfl, rfl, fun q h => absurd h (by omega)⟩
      case round =>
        obtain ⟨j, hj, rfl, rfl, hno⟩ := hrel
        have hj0 : (0 : Int) ≤ (j : Int) := by omega
        by_cases hlt : j < L.length
        · have hji : (j : Int) < (L.length : Int) := by omega
          obtain ⟨b, hAb, _, _, _, _, _, _, d3, _⟩ := HC.out.at_ hlt
          obtain rfl : bb = b := by cases hAb; rfl
          have HH := Lib.hid (has_any (grn L j).aa (grn L j).ac (grn L j).g.a n w (HAl.out _ (grn_mem hlt)) (HC.out.nums _ (grn_mem hlt)).2.ints)
          by_cases he : n ∈ (grn L j).g.a
          · have H0 := Lib.hid (HE1.out j hlt he)
            rw [decide_eq_true he] at HH
            generalize (grn L j).g.a.length = len at *
            clear hAb hno he
            go_wp2_with (refine HH.out.mono ?_; rintro e w' ⟨rfl, rfl⟩)
            go_ret
            exact ⟨by rw [H0.out]; rfl, by rw [HY.out, H0.out, if_neg (by decide)]; exact HS.out⟩
          · have Hs : Hid (∀ q, q < j + 1 → n ∉ (grn L q).g.a) := fun q hq => by
              by_cases e : q = j
              · rw [e]; exact he
              · exact hno.out q (by omega)
            rw [decide_eq_false he] at HH
            generalize (grn L j).g.a.length = len at *
            clear hAb hno he
            go_wp2_with (refine HH.out.mono ?_; rintro e w' ⟨rfl, rfl⟩)
            go_roundw
            case rel => exact ⟨j + 1, by omega, by go_num, trivial, Hs.out⟩
            case measure => simp [intOf]; omega
        · obtain rfl : j = L.length := by omega
          have hji : ¬ (L.length : Int) < (L.length : Int) := by omega
          have H0 := Lib.hid (HE0.out hno.out)
          clear hno hlt
          generalize hlen : L.length = len at *
          go_wp2_with fail
          refine beginZ (fun V => V.cell? ⟨r, 0, none⟩ = some (.slice (some ⟨bb, 0, none⟩) len c)) 19 (by kernel_rfl) (X.out) (fun hHeld => ?_)
          generalize w.drew = w0 at *
          refine takeZ 0 [18, 17, 0] (some 45) (v := ?_) rfl rfl (by kernel_rfl) (by kernel_rfl) (by kernel_rfl) (by kernel_rfl) (by kernel_rfl) (fun _ _ _ h => h) (by rfl) ?_ (by assumption) ?_
          rotate_left
          · (intro w hSw; (try dsimp only at hSw); go_simp; try with_reducible rfl)
          simp only [Act.put, List.setIfInBounds_toArray, List.set_cons_zero, List.set_cons_succ]
          refine takeZ 2 [16, 8, 7, 5, 4, 3, 2] (some 47) (v := ?_) rfl rfl (by kernel_rfl) (by kernel_rfl) (by kernel_rfl) (by kernel_rfl) (by kernel_rfl) (fun _ _ _ h => h) (by rfl) ?_ (by assumption) ?_
          rotate_left
          · (intro w hSw; (try dsimp only at hSw); go_simp; try with_reducible rfl)
          simp only [Act.put, List.setIfInBounds_toArray, List.set_cons_zero, List.set_cons_succ]
          refine takeZ 3 [16, 8, 7, 5, 4, 3, 2] (some 48) (v := ?_) rfl rfl (by kernel_rfl) (by kernel_rfl) (by kernel_rfl) (by kernel_rfl) (by kernel_rfl) (fun _ _ _ h => h) (by rfl) ?_ (by assumption) ?_
          rotate_left
          · (intro w hSw; (try dsimp only at hSw); go_simp; try with_reducible rfl)
          simp only [Act.put, List.setIfInBounds_toArray, List.set_cons_zero, List.set_cons_succ]
          refine takeZ 4 [16, 8, 7, 5, 4, 3, 2] (some 49) (v := ?_) rfl rfl (by kernel_rfl) (by kernel_rfl) (by kernel_rfl) (by kernel_rfl) (by kernel_rfl) (fun _ _ _ h => h) (by rfl) ?_ (by assumption) ?_
          rotate_left
          · (intro w hSw; (try dsimp only at hSw); go_simp; try with_reducible rfl)
          simp only [Act.put, List.setIfInBounds_toArray, List.set_cons_zero, List.set_cons_succ]
          refine takeZ 5 [16, 8, 7, 5, 4, 3, 2] (some 50) (v := ?_) rfl rfl (by kernel_rfl) (by kernel_rfl) (by kernel_rfl) (by kernel_rfl) (by kernel_rfl) (fun _ _ _ h => h) (by rfl) ?_ (by assumption) ?_
          rotate_left
          · (intro w hSw; (try dsimp only at hSw); go_simp; try with_reducible rfl)
          simp only [Act.put, List.setIfInBounds_toArray, List.set_cons_zero, List.set_cons_succ]
          refine takeZ 6 [16, 8, 7, 6] (some 51) (v := ?_) rfl rfl (by kernel_rfl) (by kernel_rfl) (by kernel_rfl) (by kernel_rfl) (by kernel_rfl) (fun _ _ _ h => h) (by rfl) ?_ (by assumption) ?_
          rotate_left
          · (intro w hSw; (try dsimp only at hSw); go_simp; try with_reducible rfl)
          simp only [Act.put, List.setIfInBounds_toArray, List.set_cons_zero, List.set_cons_succ]
          refine takeZ 7 [16, 8, 7, 5, 4, 3, 2] (some 52) (v := ?_) rfl rfl (by kernel_rfl) (by kernel_rfl) (by kernel_rfl) (by kernel_rfl) (by kernel_rfl) (fun _ _ _ h => h) (by rfl) ?_ (by assumption) ?_
          rotate_left
          · (intro w hSw; (try dsimp only at hSw); go_simp; try with_reducible rfl)
          simp only [Act.put, List.setIfInBounds_toArray, List.set_cons_zero, List.set_cons_succ]
          refine takeZ 9 [16, 15, 12, 11, 10, 9] (some 54) (v := ?_) rfl rfl (by kernel_rfl) (by kernel_rfl) (by kernel_rfl) (by kernel_rfl) (by kernel_rfl) (fun _ _ _ h => h) (by rfl) ?_ (by assumption) ?_
          rotate_left
          · (intro w hSw; (try dsimp only at hSw); go_simp; try with_reducible rfl)
          simp only [Act.put, List.setIfInBounds_toArray, List.set_cons_zero, List.set_cons_succ]
          refine takeZ 10 [16, 15, 12, 11, 10, 9] (some 55) (v := ?_) rfl rfl (by kernel_rfl) (by kernel_rfl) (by kernel_rfl) (by kernel_rfl) (by kernel_rfl) (fun _ _ _ h => h) (by rfl) ?_ (by assumption) ?_
          rotate_left
          · (intro w hSw; (try dsimp only at hSw); go_simp; try with_reducible rfl)
          simp only [Act.put, List.setIfInBounds_toArray, List.set_cons_zero, List.set_cons_succ]
          refine takeZ 11 [16, 15, 12, 11, 10, 9] (some 56) (v := ?_) rfl rfl (by kernel_rfl) (by kernel_rfl) (by kernel_rfl) (by kernel_rfl) (by kernel_rfl) (fun _ _ _ h => h) (by rfl) ?_ (by assumption) ?_
          rotate_left
          · (intro w hSw; (try dsimp only at hSw); go_simp; try with_reducible rfl)
          simp only [Act.put, List.setIfInBounds_toArray, List.set_cons_zero, List.set_cons_succ]
          refine takeZ 12 [16, 15, 12, 11, 10, 9] (some 57) (v := ?_) rfl rfl (by kernel_rfl) (by kernel_rfl) (by kernel_rfl) (by kernel_rfl) (by kernel_rfl) (fun _ _ _ h => h) (by rfl) ?_ (by assumption) ?_
          rotate_left
          · (intro w hSw; (try dsimp only at hSw); go_simp; try with_reducible rfl)
          simp only [Act.put, List.setIfInBounds_toArray, List.set_cons_zero, List.set_cons_succ]
          refine takeZ 13 [16, 15, 14, 13] (some 58) (v := ?_) rfl rfl (by kernel_rfl) (by kernel_rfl) (by kernel_rfl) (by kernel_rfl) (by kernel_rfl) (fun _ _ _ h => h) (by rfl) ?_ (by assumption) ?_
          rotate_left
          · (intro w hSw; (try dsimp only at hSw); go_simp; try with_reducible rfl)
          simp only [Act.put, List.setIfInBounds_toArray, List.set_cons_zero, List.set_cons_succ]
          refine takeZ 14 [16, 15, 14, 13] (some 59) (v := ?_) rfl rfl (by kernel_rfl) (by kernel_rfl) (by kernel_rfl) (by kernel_rfl) (by kernel_rfl) (fun _ _ _ h => h) (by rfl) ?_ (by assumption) ?_
          rotate_left
          · (intro w hSw; (try dsimp only at hSw); go_simp; try with_reducible rfl)
          simp only [Act.put, List.setIfInBounds_toArray, List.set_cons_zero, List.set_cons_succ]
          refine takeZ 15 [16, 15, 14, 13] (some 60) (v := ?_) rfl rfl (by kernel_rfl) (by kernel_rfl) (by kernel_rfl) (by kernel_rfl) (by kernel_rfl) (fun _ _ _ h => h) (by rfl) ?_ (by assumption) ?_
          rotate_left
          · (intro w hSw; (try dsimp only at hSw); go_simp; try with_reducible rfl)
          simp only [Act.put, List.setIfInBounds_toArray, List.set_cons_zero, List.set_cons_succ]
          refine readyZ (rs := [1]) (by kernel_rfl) (by simp) ?_
          refine AllZ.cons rfl (fun K hK => ?_) AllZ.nil
          go_simp
          obtain ⟨hb1, ho1⟩ := HNew.out w0 B0.out
          generalize hW1 : w0.alloc (.cells #[] 77) = W1 at *
          clear hW1
          have HB1 := Lib.hid hb1
          have HO1 := Lib.hid ho1
          clear hb1 ho1
          refine hK _ _ (fun _ => HKeep.out _ HB1.out) (fun hHeld => ?_)
          clear hK K
          try simp only [Act.put, List.setIfInBounds_toArray, List.set_cons_zero, List.set_cons_succ]
          replace hHeld := hHeld (by decide)
          refine readyZ (rs := [8]) (by kernel_rfl) (by simp) ?_
          refine AllZ.cons rfl (fun K hK => ?_) AllZ.nil
          refine step_append_src rfl (.tmp 46) (.tmp 52) 73 rfl w.heap.size 77 i0 zeroG 4 64 Try.underlying73 hi0' hz0 hz1 hz2 rfl (by decide) (.slice (some ⟨w0.heap.size, 0, none⟩) 0 0) 0 [] rfl HO1.out (some ⟨bb, 0, none⟩) i c fp rfl Hpl.out (Hps.out _ HB1.out) (fun e => by cases e) Hp1.out (by unfold maxLen; omega) (by omega) HB1.out.size i (by omega) ?_
          intro A3 c3 w3 ho3 hg3 hor3
          have HB3 := Lib.hid (HB1.out.grown hg3 HB1.out.size (fun b e => (World.ownsRow.lt HO1.out b e).1))
          have HO3 := Lib.hid ho3
          clear ho3 hg3 hor3
          refine hK _ _ (fun _ => HKeep.out _ HB3.out) (fun hHeld => ?_)
          clear hK K
          try simp only [Act.put, List.setIfInBounds_toArray, List.set_cons_zero, List.set_cons_succ]
          replace hHeld := hHeld (by decide)
          refine readyZ (rs := [16]) (by kernel_rfl) (by simp) ?_
          refine AllZ.cons rfl (fun K hK => ?_) AllZ.nil
          refine step_append_src rfl (.tmp 53) (.tmp 60) 73 rfl w.heap.size 77 i0 zeroG 4 64 Try.underlying73 hi0' hz0 hz1 hz2 rfl (by decide) (.slice A3 i c3) i ([] ++ fp) rfl HO3.out (some A2) (len - (i + 1)) (c - (i + 1)) fd rfl Hdl.out (Hds.out _ HB3.out) (fun e => by cases e) Hd1.out (by unfold maxLen; omega) (by omega) HB3.out.size (len - 1) (by omega) ?_
          intro A4 c4 w4 ho4 hg4 hor4
          have HO4 := Lib.hid ho4
          have HG4 := Lib.hid hg4
          clear ho4 hg4 hor4
          refine hK _ _ (fun _ => HKeep.out _ (HB3.out.grown HG4.out HB3.out.size (fun b e => (World.ownsRow.lt HO3.out b e).1))) (fun hHeld => ?_)
          clear hK K
          try simp only [Act.put, List.setIfInBounds_toArray, List.set_cons_zero, List.set_cons_succ]
          replace hHeld := hHeld (by decide)
          refine takeZ 17 [18, 17] (some 62) (v := ?_) rfl rfl (by kernel_rfl) (by kernel_rfl) (by kernel_rfl) (by kernel_rfl) (by kernel_rfl) (fun _ _ _ h => h) (by rfl) ?_ (by assumption) ?_
          rotate_left
          · (intro w hSw; (try dsimp only at hSw); go_simp; try with_reducible rfl)
          simp only [Act.put, List.setIfInBounds_toArray, List.set_cons_zero, List.set_cons_succ]
          refine takeZ 18 [18] (some 63) (v := ?_) rfl rfl (by kernel_rfl) (by kernel_rfl) (by kernel_rfl) (by kernel_rfl) (by kernel_rfl) (fun _ _ _ h => h) (by rfl) ?_ (by assumption) ?_
          rotate_left
          · (intro w hSw; (try dsimp only at hSw); go_simp; try with_reducible rfl)
          simp only [Act.put, List.setIfInBounds_toArray, List.set_cons_zero, List.set_cons_succ]
          refine readyZ (rs := [19]) (by kernel_rfl) (by simp) ?_
          refine AllZ.cons rfl (fun K hK => ?_) AllZ.nil
          have HZ := Lib.hid (HFin.out w3 w4 A4 c4 (Value.slice A3 i c3).ownBlock HB3.out (fun b e => (World.ownsRow.lt HO3.out b e).1) HG4.out HO4.out)
          have d9 := HZ.out.2.1
          have f9 := HZ.out.2.2.1
          have l9 := HZ.out.2.2.2.1
          go_simp
          refine hK _ _ (fun e => absurd rfl e) (fun hHeld => ?_)
          clear hK K
          try simp only [Act.put, List.setIfInBounds_toArray, List.set_cons_zero, List.set_cons_succ]
          refine doneZ (by kernel_rfl) ?_ _
          have HE := Lib.hid HZ.out.2.2.2.2
          clear HZ d9 f9 l9
          generalize w4.setCell ⟨r, 0, none⟩ (.slice A4 (len - 1) c4) = W at *
          go_wp2
          go_ret
          exact ⟨by rw [H0.out]; rfl, by rw [HY.out, H0.out, if_pos rfl]; exact HE.out⟩
  · have e1 := idxG_out hn
    have H0 : Hid (Gs.abandonE ⟨gs L, k⟩ n = 5) := by unfold Hid Gs.abandonE; rw [if_pos hn]
    rw [e1] at HA
    rw [H0.out, if_neg (by decide)]
    clear hC hn hnd e1 hal
    go_enter Try.func48, Try.ntmps48
    go_wp2_with (refine HA.out.mono ?_; rintro e w' ⟨rfl, rfl⟩)
    go_ret
    exact ⟨rfl, HS.out⟩
end
end Go.Proofs.Ytdndchoghhllmaa
