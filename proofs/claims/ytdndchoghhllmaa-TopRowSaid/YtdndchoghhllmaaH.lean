/- The document's groups: Engage, Disengage, Release, Engaged, Patches. -/
import Derived.Test.YtdndchoghhllmaaG
set_option linter.unusedVariables false
set_option linter.unusedSimpArgs false
namespace Go.Proofs.Ytdndchoghhllmaa
open Go.RowKit
/-- the cells of a row of numbers as a source -/
theorem row_srcI {B : Nat} {w : World} {A : Option Addr} {n c : Nat} {xs : List Value} (h : w.ownsRow B 3 1 (.slice A n c) n xs) : (∀ ad, A = some ad → ∀ j u, xs[j]? = some u → w.cell? (ad.add j) = some u) ∧ (A = none → n = 0) := by
  rcases h.2 with ⟨q, h0⟩ | ⟨k, cap, cur, q, _⟩
  · obtain ⟨rfl, _, _⟩ := Value.slice.inj q
    exact ⟨fun ad e => (by cases e), fun _ => h0⟩
  · obtain ⟨rfl, _, _⟩ := Value.slice.inj q
    refine ⟨fun ad e j u hu => ?_, fun e => by cases e⟩
    cases e
    have hlt := (List.getElem?_eq_some_iff.1 hu).1
    rw [h.1] at hlt
    rw [Addr.add_lit, Nat.zero_add, h.cellAt j (by omega)]
    exact hu
theorem take_grn {L : List Gr} {j : Nat} (h : j < L.length) : L.take (j + 1) = L.take j ++ [grn L j] := by
  rw [List.take_succ_eq_append_getElem h, grn_lt h]
/-- those of the first j that are engaged -/
def engK (L : List Gr) (j : Nat) : List Int := nos ((gs (L.take j)).filter fun g => decide (g.s = 2))
theorem engK_step {L : List Gr} {j : Nat} (h : j < L.length) : engK L (j + 1) = if (grn L j).g.s = 2 then engK L j ++ [(grn L j).g.n] else engK L j := by
  unfold engK gs nos
  rw [take_grn h, List.map_append, List.filter_append, List.map_append]
  by_cases e : (grn L j).g.s = 2
  · rw [if_pos e]; simp [e]
  · rw [if_neg e]; simp [e]
theorem engK_len (L : List Gr) (j : Nat) : (engK L j).length ≤ j := by
  unfold engK nos gs
  rw [List.length_map]
  refine Nat.le_trans (List.length_filter_le _ _) ?_
  rw [List.length_map]
  exact List.length_take_le _ _
theorem engK_all (L : List Gr) (k : Int) : engK L L.length = Gs.engaged ⟨gs L, k⟩ := by unfold engK Gs.engaged; rw [List.take_length]
section
variable (B r : Nat) (A : Option Addr) (c : Nat) (L : List Gr) (k n : Int) (w : World)
set_option maxRecDepth 100000 in
theorem rengage_any (hC : RefAt B w r A c L k) (hl : L.length ≤ 1000) (hnd : (nos (gs L)).Nodup) :
    Calls Try.prog 45 #[.pointer (some ⟨r, 0, none⟩), .int .i64 n] w fun e w' => e = .returned (.int .i64 (Gs.turnE ⟨gs L, k⟩ n 1 3)) ∧ RWent B w r A (if Gs.turnE ⟨gs L, k⟩ n 1 3 = 0 then Gs.turn ⟨gs L, k⟩ n 2 else ⟨gs L, k⟩) w' := by
  have HT := Lib.hid (rturn_any B r A c L k n w 1 3 2 hC hl hnd)
  clear hC hl hnd
  generalize (if Gs.turnE ⟨gs L, k⟩ n 1 3 = 0 then Gs.turn ⟨gs L, k⟩ n 2 else ⟨gs L, k⟩) = y at *
  generalize Gs.turnE ⟨gs L, k⟩ n 1 3 = e0 at *
  go_enter Try.func45, Try.ntmps45
  go_wp2_with (refine HT.out.mono ?_; rintro e w' ⟨rfl, hw⟩; have HW := Lib.hid hw; clear hw)
  go_ret
  exact ⟨rfl, HW.out⟩
set_option maxRecDepth 100000 in
theorem rdisengage_any (hC : RefAt B w r A c L k) (hl : L.length ≤ 1000) (hnd : (nos (gs L)).Nodup) :
    Calls Try.prog 46 #[.pointer (some ⟨r, 0, none⟩), .int .i64 n] w fun e w' => e = .returned (.int .i64 (Gs.turnE ⟨gs L, k⟩ n 2 2)) ∧ RWent B w r A (if Gs.turnE ⟨gs L, k⟩ n 2 2 = 0 then Gs.turn ⟨gs L, k⟩ n 3 else ⟨gs L, k⟩) w' := by
  have HT := Lib.hid (rturn_any B r A c L k n w 2 2 3 hC hl hnd)
  clear hC hl hnd
  generalize (if Gs.turnE ⟨gs L, k⟩ n 2 2 = 0 then Gs.turn ⟨gs L, k⟩ n 3 else ⟨gs L, k⟩) = y at *
  generalize Gs.turnE ⟨gs L, k⟩ n 2 2 = e0 at *
  go_enter Try.func46, Try.ntmps46
  go_wp2_with (refine HT.out.mono ?_; rintro e w' ⟨rfl, hw⟩; have HW := Lib.hid hw; clear hw)
  go_ret
  exact ⟨rfl, HW.out⟩
set_option maxRecDepth 100000 in
theorem rrelease_any (hC : RefAt B w r A c L k) (hl : L.length ≤ 1000) (hnd : (nos (gs L)).Nodup) :
    Calls Try.prog 47 #[.pointer (some ⟨r, 0, none⟩), .int .i64 n] w fun e w' => e = .returned (.int .i64 (Gs.turnE ⟨gs L, k⟩ n 1 3)) ∧ RWent B w r A (if Gs.turnE ⟨gs L, k⟩ n 1 3 = 0 then Gs.turn ⟨gs L, k⟩ n 4 else ⟨gs L, k⟩) w' := by
  have HT := Lib.hid (rturn_any B r A c L k n w 1 3 4 hC hl hnd)
  clear hC hl hnd
  generalize (if Gs.turnE ⟨gs L, k⟩ n 1 3 = 0 then Gs.turn ⟨gs L, k⟩ n 4 else ⟨gs L, k⟩) = y at *
  generalize Gs.turnE ⟨gs L, k⟩ n 1 3 = e0 at *
  go_enter Try.func47, Try.ntmps47
  go_wp2_with (refine HT.out.mono ?_; rintro e w' ⟨rfl, hw⟩; have HW := Lib.hid hw; clear hw)
  go_ret
  exact ⟨rfl, HW.out⟩
set_option maxRecDepth 100000 in
set_option maxHeartbeats 2000000 in
theorem rpatches_any (hC : RefAt B w r A c L k) (hl : L.length ≤ 1000) (hnd : (nos (gs L)).Nodup) (hp : (ofN (gs L) n).p.length ≤ 1000) :
    Calls Try.prog 35 #[.pointer (some ⟨r, 0, none⟩), .int .i64 n] w fun e w' => ∃ A' c', e = .returned (.slice A' (ofN (gs L) n).p.length c') ∧ RowI w' w.heap.size A' c' (ofN (gs L) n).p ∧ Below w.heap.size w w' := by
  have HA := Lib.hid (rat_any B r A c L k n w hC hl)
  obtain ⟨i0, hi0, hz0, hz1, hz2⟩ := info_parts infoI
  obtain ⟨c0, _⟩ := hC.hcells
  have hr := hC.glt
  by_cases hn : n ∈ nos (gs L)
  · obtain ⟨i, hi, e1, e2, _⟩ := idxG_in hnd hn
    obtain ⟨b, rfl, h1, h2, hb, _, _, d2, _⟩ := hC.at_ hi
    unfold maxLen at h2
    rw [← e2] at hp ⊢
    have hB1 : Below w.heap.size w (w.alloc (.cells #[] 3)) := (Below.refl _ _).alloc (Nat.le_refl _) _
    have hrow := (hC.nums _ (grn_mem hi)).1
    have hsrc := row_srcI (hrow.fresh hB1)
    have hcp := own_cap hrow
    unfold maxLen at hcp
    generalize (grn L i).g.p = ps at *
    generalize (grn L i).pa = pA at *
    generalize (grn L i).pc = pC at *
    have Hs : Hid (∀ ad, pA = some ad → ∀ j u, (intsV ps)[j]? = some u → (w.alloc (.cells #[] 3)).cell? (ad.add j) = some u) := hsrc.1
    have Hnil : Hid (pA = none → ps.length = 0) := hsrc.2
    have Hfl : Hid ((intsV ps).length = ps.length * 1) := by unfold Hid; rw [length_intsV]; omega
    have Hone := Lib.hid (intsV_one ps)
    have Hown : Hid ((w.alloc (.cells #[] 3)).ownsRow w.heap.size 3 1 (.slice (some ⟨w.heap.size, 0, none⟩) 0 0) 0 []) := World.ownsRow_made w #[] 0 (Nat.le_refl _) (by simp) (by simp)
    have HB1 := Lib.hid hB1
    have hi0' : (0 : Int) ≤ (i : Int) := by omega
    have hii : (i : Int) < (L.length : Int) := by omega
    have hng : ¬ (i : Int) < 0 := by omega
    rw [e1] at HA
    have HC := Lib.hid hC
    clear hn hnd e1 e2 hsrc hrow hB1
    go_enter Try.func35, Try.ntmps35
    go_wp2_with (first
      | (go_at_call 55; refine HA.out.mono ?_; rintro e w' ⟨rfl, rfl⟩)
      | (at_builtin; refine wpList_append_src rfl (.tmp 11) (.tmp 19) 30 rfl w.heap.size 3 i0 (.int .i64 0) 1 8 Try.underlying30 hi0 hz0 hz1 hz2 rfl (by decide) (.slice (some ⟨w.heap.size, 0, none⟩) 0 0) 0 [] rfl Hown.out pA ps.length pC (intsV ps) rfl Hfl.out Hs.out Hnil.out Hone.out (by unfold maxLen; omega) (by omega) (by simp) ps.length (by omega) ?_; intro A2 c2 w2 ho2 hg2 hor2; have HO2 := Lib.hid ho2; have HB2 := Lib.hid (HB1.out.grown hg2 (by simp) (fun j e => by cases e; exact Nat.le_refl _)); clear ho2 hg2 hor2))
    go_ret
    exact ⟨A2, c2, rfl, HO2.out, HB2.out⟩
  · have e1 := idxG_out hn
    have hz : (ofN (gs L) n).p = [] := by rw [ofN_out hn]
    rw [hz]
    rw [e1] at HA
    clear hC hn hnd e1 hz hp
    go_enter Try.func35, Try.ntmps35
    go_wp2_with (refine HA.out.mono ?_; rintro e w' ⟨rfl, rfl⟩)
    go_ret
    exact ⟨none, 0, rfl, World.ownsRow_nil _ _ _ _, Below.refl _ _⟩
set_option maxRecDepth 100000 in
set_option maxHeartbeats 2000000 in
theorem rengaged_any (hC : RefAt B w r A c L k) (hl : L.length ≤ 1000) :
    Calls Try.prog 38 #[.pointer (some ⟨r, 0, none⟩)] w fun e w' => ∃ A' c', e = .returned (.slice A' (Gs.engaged ⟨gs L, k⟩).length c') ∧ RowI w' w.heap.size A' c' (Gs.engaged ⟨gs L, k⟩) ∧ Below w.heap.size w w' := by
  obtain ⟨i0, hi0, hz0, hz1, hz2⟩ := info_parts infoI
  rw [← engK_all]
  have HC := Lib.hid hC
  clear hC
  go_enter Try.func38, Try.ntmps38
  go_wp2
  go_loopw [3, 4] (fun s i wr => ∃ (j : Nat) (A' : Option Addr) (c' : Nat), j ≤ L.length ∧ i = .int .i64 j ∧ s = .slice A' (engK L j).length c' ∧ Hid (RowI wr w.heap.size A' c' (engK L j)) ∧ Hid (Below w.heap.size w wr)) (fun _ i _ => L.length - (intOf i).toNat)
  case atStart => exact ⟨0, none, 0, Nat.zero_le _, rfl, rfl, World.ownsRow_nil _ _ _ _, Below.refl _ _⟩
  case round =>
    obtain ⟨j, A', c', hj, rfl, rfl, hrow, hB⟩ := hrel
    rename World => wr
    have hj0 : (0 : Int) ≤ (j : Int) := by omega
    have hwz := hB.out.size
    have hC1 := HC.out.fresh hB.out
    obtain ⟨c0, _⟩ := hC1.hcells
    have hr := hC1.glt
    have hel := engK_len L j
    by_cases hlt : j < L.length
    · have hji : (j : Int) < (L.length : Int) := by omega
      obtain ⟨b, hA, h1, h2, hb, d0, d1, _⟩ := hC1.at_ hlt
      unfold maxLen at h2
      have hst := engK_step hlt
      subst hA
      by_cases e : (grn L j).g.s = 2
      · have Hs : Hid (engK L (j + 1) = engK L j ++ [(grn L j).g.n]) := by unfold Hid; rw [hst, if_pos e]
        rw [e] at d1
        generalize (grn L j).g.n = y at *
        generalize engK L j = o at *
        have HR : Hid ((wr.alloc (.cells #[.int .i64 y] 3)).ownsRow w.heap.size 3 1 (.slice A' o.length c') o.length (intsV o)) := hrow.out.alloc _
        have HN : Hid (∀ ad, some (⟨wr.heap.size, 0, none⟩ : Addr) = some ad → ∀ j u, [Value.int .i64 y][j]? = some u → (wr.alloc (.cells #[.int .i64 y] 3)).cell? (ad.add j) = some u) := fun ad e j u hu => by
          cases e
          exact World.news_of_block (heap_alloc_new wr (.cells #[.int .i64 y] 3)) j u hu
        have HF : Hid (∀ A7 c7 w7, w7.ownsRow w.heap.size 3 1 (.slice A7 (o.length + 1) c7) (o.length + 1) (intsV o ++ [.int .i64 y]) → (wr.alloc (.cells #[.int .i64 y] 3)).grownBy w7 (Value.slice A' o.length c').ownBlock → RowI w7 w.heap.size A7 c7 (o ++ [y]) ∧ Below w.heap.size w w7) := fun A7 c7 w7 h7 hg =>
          ⟨by unfold RowI; rw [List.length_append, intsV_append]; exact h7, (hB.out.alloc hwz _).grown hg (by simp; omega) (fun j e => (hrow.out.lt j (by rw [← own_eq A' o.length c']; exact e)).1)⟩
        clear hst e hC1
        go_wp2_with (at_builtin; refine wpList_append_src rfl (.tmp 27) (.tmp 36) 30 rfl w.heap.size 3 i0 (.int .i64 0) 1 8 Try.underlying30 hi0 hz0 hz1 hz2 rfl (by decide) (.slice A' o.length c') o.length (intsV o) rfl HR.out (some ⟨wr.heap.size, 0, none⟩) 1 1 [.int .i64 y] rfl rfl HN.out (by intro h; cases h) (by intro u hu; simp at hu; subst hu; rfl) (by unfold maxLen; omega) (by omega) (by simp; omega) (o.length + 1) rfl ?_; intro A7 c7 w7 ho7 hg7 hor7; obtain ⟨a1, a2⟩ := HF.out A7 c7 w7 ho7 hg7; have G1 := Lib.hid a1; have G2 := Lib.hid a2; clear ho7 hg7 hor7 a1 a2)
        go_roundw
        case rel => exact ⟨j + 1, A7, c7, by omega, by go_num, by rw [Hs.out, List.length_append]; rfl, by rw [Hs.out]; exact G1.out, G2.out⟩
        case measure => simp [intOf]; omega
      · have Hs : Hid (engK L (j + 1) = engK L j) := by unfold Hid; rw [hst, if_neg e]
        have hx : (((grn L j).g.s : Int) == 2) = false := by simp; omega
        generalize (grn L j).g.s = sj at *
        clear hst e hC1
        go_wp2
        go_roundw
        case rel => exact ⟨j + 1, A', c', by omega, by go_num, by rw [Hs.out], by rw [Hs.out]; exact hrow.out, hB.out⟩
        case measure => simp [intOf]; omega
    · obtain rfl : j = L.length := by omega
      have hji : ¬ (L.length : Int) < (L.length : Int) := by omega
      clear hC1
      go_wp2
      go_ret
      exact ⟨A', c', rfl, hrow.out, hB.out⟩
end
end Go.Proofs.Ytdndchoghhllmaa
