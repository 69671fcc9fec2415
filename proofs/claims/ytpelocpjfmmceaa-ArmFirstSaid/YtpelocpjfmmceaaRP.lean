/- The document's own arm: New, where a block stands, Ask, Cancel, Set, Waiting, Age, At, Moved, Up, Fork. -/
import Derived.Test.YtpelocpjfmmceaaN
set_option linter.unusedVariables false
set_option linter.unusedSimpArgs false
namespace Go.Proofs.Ytpelocpjfmmceaa
open Go.RowKit

theorem infoR : (Try.prog.info? 81).map (fun i => (i.zero, i.size, i.bytes)) = some (some zeroQ, 2, 16) := by kernel_rfl
theorem policy_any (p : Nat) (hp : p < 256) (w : World) : Calls Try.prog 52 #[.int .u8 p] w fun e w' => e = .returned (.bool (decide (1 ≤ p ∧ p ≤ 4))) ∧ w = w' := by
  by_cases h1 : 1 ≤ p
  · by_cases h2 : p ≤ 4
    · have h1i : (1 : Int) ≤ (p : Int) := by omega
      have h2i : (p : Int) ≤ 4 := by omega
      have hd : decide (1 ≤ p ∧ p ≤ 4) = true := by simp [h1, h2]
      rw [hd]
      clear hd
      go_enter Try.func52, Try.ntmps52
      go_wp2
      go_ret
      exact ⟨rfl, rfl⟩
    · have h1i : (1 : Int) ≤ (p : Int) := by omega
      have h2i : (4 : Int) < (p : Int) := by omega
      have hd : decide (1 ≤ p ∧ p ≤ 4) = false := by simp [h1, h2]
      rw [hd]
      clear hd
      go_enter Try.func52, Try.ntmps52
      go_wp2
      go_ret
      exact ⟨ret_bool (decide_eq_false (by omega)), rfl⟩
  · obtain rfl : p = 0 := by omega
    go_enter Try.func52, Try.ntmps52
    go_wp2
    go_ret
    exact ⟨rfl, rfl⟩
def RNewSays (w : World) (p : Nat) (n : Int) (e : Ending) (w' : World) : Prop := Below w.heap.size w w' ∧ ((newOk p n = true ∧ ∃ g, e = .returned (.pointer (some ⟨g, 0, none⟩)) ∧ RAt w.heap.size w' g none 0 (fresh p n)) ∨ (newOk p n = false ∧ e = .returned (.pointer none)))
set_option maxRecDepth 100000 in
theorem rnew_any (p : Nat) (n : Int) (hp : p < 256) (w : World) : Calls Try.prog 33 #[.int .u8 p, .int .i64 n] w (RNewSays w p n) := by
  have HK := Lib.hid (fun W => policy_any p hp W)
  cases hk : decide (1 ≤ p ∧ p ≤ 4) with
  | false =>
    have HX : Hid (newOk p n = false) := by unfold Hid newOk; rw [hk]; rfl
    rw [hk] at HK
    clear hk
    go_enter Try.func33, Try.ntmps33
    go_wp2_with (refine (HK.out _).mono ?_; rintro e w' ⟨rfl, rfl⟩)
    go_ret
    exact ⟨Below.refl _ _, .inr ⟨HX.out, rfl⟩⟩
  | true =>
    have HX : Hid (newOk p n = decide (1 ≤ n ∧ n ≤ 64)) := by unfold Hid newOk; rw [hk]; rfl
    rw [hk] at HK
    clear hk
    by_cases h1 : 1 ≤ n
    · by_cases h2 : n ≤ 64
      · have HX2 : Hid (newOk p n = true) := by unfold Hid; rw [HX.out]; simp [h1, h2]
        have HY : Hid (∀ W, Below w.heap.size w W → RNewSays w p n (.returned (.pointer (some ⟨W.heap.size, 0, none⟩))) (W.alloc (.cells #[.int .u8 p, .int .i64 n, .int .i64 0, .bool false, .int .i64 0, .slice none 0 0] 70))) := fun W hW => by
          refine ⟨hW.alloc hW.size _, .inl ⟨HX2.out, W.heap.size, rfl, ?_, World.ownsRow_nil _ _ _ _, by decide, hW.size⟩⟩
          rw [heap_alloc_new]
          unfold fresh hR
          rw [show ((n.toNat : Int)) = n by omega]
          rfl
        go_enter Try.func33, Try.ntmps33
        go_wp2_with (refine (HK.out _).mono ?_; rintro e w' ⟨rfl, rfl⟩)
        go_ret
        exact HY.out _ (Below.refl _ _)
      · have HX2 : Hid (newOk p n = false) := by unfold Hid; rw [HX.out]; simp [h2]
        have h2i : 64 < n := by omega
        clear h2
        go_enter Try.func33, Try.ntmps33
        go_wp2_with (refine (HK.out _).mono ?_; rintro e w' ⟨rfl, rfl⟩)
        go_ret
        exact ⟨Below.refl _ _, .inr ⟨HX2.out, rfl⟩⟩
    · have HX2 : Hid (newOk p n = false) := by unfold Hid; rw [HX.out]; simp [h1]
      have h1i : n < 1 := by omega
      clear h1
      go_enter Try.func33, Try.ntmps33
      go_wp2_with (refine (HK.out _).mono ?_; rintro e w' ⟨rfl, rfl⟩)
      go_ret
      exact ⟨Below.refl _ _, .inr ⟨HX2.out, rfl⟩⟩
section
variable (B g : Nat) (A : Option Addr) (c : Nat) (x : Ar) (b : Int) (w : World)
set_option maxRecDepth 100000 in
set_option maxHeartbeats 1000000 in
theorem rfind_any (hC : RAt B w g A c x) (hl : x.l.length ≤ 1000) :
    Calls Try.prog 53 #[.pointer (some ⟨g, 0, none⟩), .int .i64 b] w fun e w' => e = .returned (.int .i64 (idxR x.l b)) ∧ Below w.heap.size w w' := by
  obtain ⟨_, _, _, _, _, hs⟩ := rcells hC
  have hg := hC.glt
  have HR := Lib.hid hC.row
  have hcap := own_cap hC.row
  unfold maxLen at hcap
  obtain ⟨xp, xn, xs, xm, xu, l⟩ := x
  dsimp only at *
  obtain ⟨q, hq⟩ : ∃ q, q = idxR l b := ⟨_, rfl⟩
  rw [← hq]
  have HQ := Lib.hid hq
  clear hC hq
  go_enter Try.func53, Try.ntmps53
  go_wp2
  go_loopw [5] (fun i wr => ∃ k : Nat, k ≤ l.length ∧ i = .int .i64 k ∧ Below w.heap.size w wr ∧ Hid (∀ j, j < k → isB b (rn l j) = false)) (fun i _ => l.length - (intOf i).toNat)
  case atStart => exact ⟨0, Nat.zero_le _, rfl, Below.refl _ _, fun j hj => absurd hj (by omega)⟩
  case round =>
    obtain ⟨k, hk, rfl, hB, hno⟩ := hrel
    rename World => wr
    have HB := Lib.hid hB
    have hsr : wr.cell? ⟨g, 5, none⟩ = some (.slice A l.length c) := (hB.cell (p := ⟨g, 5, none⟩) hg).trans hs
    by_cases hlt : k < l.length
    · have hlti : (k : Int) < (l.length : Int) := by omega
      have hk0 : (0 : Int) ≤ (k : Int) := by omega
      obtain ⟨ab, hA, h3, h4, hb, _, c0, c1, _⟩ := ((show RowQ 81 w B A c l from HR.out).fresh hB).at_ hlt
      subst hA
      clear hB hs
      cases ht : isB b (rn l k) with
      | true =>
        have Hf : Hid (q = (k : Int)) := by
          unfold Hid; rw [HQ.out]; unfold idxR
          obtain ⟨h1, h2⟩ := idxF_at hlt hno.out ht
          unfold idxF; rw [h1, h2]; rfl
        have he : ((rn l k).b == b) = true := ht
        clear ht
        generalize (rn l k).b = rb at *
        go_wp2
        go_ret
        exact ⟨ret_int Hf.out.symm, HB.out⟩
      | false =>
        have Hn : Hid (∀ j, j < k + 1 → isB b (rn l j) = false) := fun j hj => by
          rcases Nat.lt_or_ge j k with h | h
          · exact hno.out j h
          · obtain rfl : j = k := by omega
            exact ht
        have he : ((rn l k).b == b) = false := ht
        clear ht
        generalize (rn l k).b = rb at *
        go_wp2
        go_roundw
        case rel => exact ⟨k + 1, by omega, by go_num, HB.out, Hn.out⟩
        case measure => simp [intOf]; omega
    · obtain rfl : k = l.length := by omega
      have hlti : ¬ (l.length : Int) < (l.length : Int) := by omega
      have Hf : Hid (q = -1) := by
        unfold Hid; rw [HQ.out]; unfold idxR idxF; rw [idxF_none hno.out]; rfl
      clear hB hs
      go_wp2
      go_ret
      exact ⟨ret_int Hf.out.symm, HB.out⟩
theorem rage_any (hC : RAt B w g A c x) (hl : x.l.length ≤ 1000) :
    Calls Try.prog 35 #[.pointer (some ⟨g, 0, none⟩), .int .i64 b] w fun e w' => e = .returned (.int .i64 (x.age b)) ∧ Below w.heap.size w w' := by
  have HF := Lib.hid (rfind_any B g A c x b w hC hl)
  obtain ⟨_, _, _, _, _, hs⟩ := rcells hC
  have hg := hC.glt
  unfold Ar.age
  cases hh : hasR x.l b with
  | false =>
    have hi := idxR_ge x.l b
    have hlt : idxR x.l b < 0 := by rw [hh] at hi; simpa using hi
    generalize idxR x.l b = q at *
    clear hi hh hC
    go_enter Try.func35, Try.ntmps35
    go_wp2_with (refine HF.out.mono ?_; rintro e w1 ⟨rfl, hb1⟩)
    go_ret
    exact ⟨rfl, hb1⟩
  | true =>
    have hk : x.l.findIdx (isB b) < x.l.length := find_of_any hh
    have e : idxR x.l b = (x.l.findIdx (isB b) : Int) := by unfold idxR idxF; rw [show x.l.any (isB b) = true from hh]; rfl
    rw [e] at HF
    generalize x.l.findIdx (isB b) = k at *
    obtain ⟨ab, rfl, h3, h4, hb, _, c0, c1, _⟩ := hC.row.at_ hk
    have hk0 : (0 : Int) ≤ (k : Int) := by omega
    have hki : (k : Int) < (x.l.length : Int) := by omega
    unfold maxLen at h4
    clear hh hC e
    generalize (rn x.l k).a = ra at *
    generalize x.l.length = n at *
    go_enter Try.func35, Try.ntmps35
    go_wp2_with (refine HF.out.mono ?_; rintro e w1 ⟨rfl, hb1⟩; obtain ⟨hcl, hfr⟩ := bcell hb1; have HB1 := Lib.hid hb1; clear hb1)
    go_ret
    exact ⟨rfl, HB1.out⟩
theorem rat_any (hC : RAt B w g A c x) : Calls Try.prog 36 #[.pointer (some ⟨g, 0, none⟩)] w fun e w' => e = .returned (.int .i64 x.s) ∧ w = w' := by
  obtain ⟨_, _, h2, h3, h4, hs⟩ := rcells hC
  clear hC
  generalize (x.s : Int) = q at *
  go_enter Try.func36, Try.ntmps36
  go_wp2
  go_ret
  exact ⟨rfl, rfl⟩
theorem rmoved_any (hC : RAt B w g A c x) : Calls Try.prog 37 #[.pointer (some ⟨g, 0, none⟩)] w fun e w' => e = .returned (.int .i64 x.m) ∧ w = w' := by
  obtain ⟨_, _, h2, h3, h4, hs⟩ := rcells hC
  clear hC
  generalize (x.m : Int) = q at *
  go_enter Try.func37, Try.ntmps37
  go_wp2
  go_ret
  exact ⟨rfl, rfl⟩
theorem rup_any (hC : RAt B w g A c x) : Calls Try.prog 38 #[.pointer (some ⟨g, 0, none⟩)] w fun e w' => e = .returned (.bool x.u) ∧ w = w' := by
  obtain ⟨_, _, h2, h3, h4, hs⟩ := rcells hC
  clear hC
  cases hq : x.u with
  | true =>
    rw [hq] at h3
    go_enter Try.func38, Try.ntmps38
    go_wp2
    go_ret
    exact ⟨rfl, rfl⟩
  | false =>
    rw [hq] at h3
    go_enter Try.func38, Try.ntmps38
    go_wp2
    go_ret
    exact ⟨rfl, rfl⟩
theorem rset_any (p : Nat) (hp : p < 256) (hC : RAt B w g A c x) : Calls Try.prog 50 #[.pointer (some ⟨g, 0, none⟩), .int .u8 p] w fun e w' => e = .returned (.int .i64 (Ar.setE p)) ∧ RWent B w g A (x.setP p) w' := by
  have HK := Lib.hid (fun W => policy_any p hp W)
  obtain ⟨c0, _, h2, h3, h4, hs⟩ := rcells hC
  have hg := hC.glt
  have hf := hC.free 0
  have Hfin : Hid (RWent B w g A { x with p := p } (w.setCell ⟨g, 0, none⟩ (.int .u8 p))) := by
    obtain ⟨r, kp⟩ := field B g A c x w (y := { x with p := p }) (j := 0) (v := .int .u8 p) hC rfl (fun _ => rfl)
    exact ⟨A, c, r, kp.more (fun k q => .inl (.inl q)), fun k e => .inl e⟩
  unfold Ar.setE Ar.setP
  have HC := Lib.hid hC
  clear hC
  by_cases h : 1 ≤ p ∧ p ≤ 4
  · rw [if_pos h, if_pos h]
    rw [decide_eq_true h] at HK
    clear h
    go_enter Try.func50, Try.ntmps50
    go_wp2_with (refine (HK.out _).mono ?_; rintro e w1 ⟨rfl, rfl⟩)
    go_ret
    exact ⟨rfl, Hfin.out⟩
  · rw [if_neg h, if_neg h]
    rw [decide_eq_false h] at HK
    clear h
    go_enter Try.func50, Try.ntmps50
    go_wp2_with (refine (HK.out _).mono ?_; rintro e w1 ⟨rfl, rfl⟩)
    go_ret
    exact ⟨rfl, A, c, HC.out, Kept.refl _ _, fun k e => .inl e⟩
set_option maxRecDepth 100000 in
set_option maxHeartbeats 1000000 in
theorem rwaiting_any (hC : RAt B w g A c x) (hl : x.l.length ≤ 1000) :
    Calls Try.prog 34 #[.pointer (some ⟨g, 0, none⟩)] w fun e w' => ∃ A' c', e = .returned (.slice A' x.l.length c') ∧ RowI w' w.heap.size A' c' (blk x.l) ∧ Below w.heap.size w w' := by
  obtain ⟨_, _, _, _, _, hs⟩ := rcells hC
  have hg := hC.glt
  obtain ⟨i0, hi0, hz0, hz1, hz2⟩ := info_parts infoI
  have HR := Lib.hid hC.row
  have hcap := own_cap hC.row
  unfold maxLen at hcap
  obtain ⟨xp, xn, xs, xm, xu, l⟩ := x
  dsimp only at *
  have Hbl := Lib.hid (length_blk l)
  clear hC
  go_enter Try.func34, Try.ntmps34
  go_wp2
  go_loopw [3, 4] (fun s i wr => ∃ (k : Nat) (A' : Option Addr) (c' : Nat), k ≤ l.length ∧ i = .int .i64 k ∧ s = .slice A' k c' ∧ wr.ownsRow w.heap.size 3 1 (.slice A' k c') k (intsV (blk (l.take k))) ∧ Below w.heap.size w wr) (fun _ i _ => l.length - (intOf i).toNat)
  case atStart => exact ⟨0, none, 0, Nat.zero_le _, rfl, rfl, World.ownsRow_nil _ _ _ _, Below.refl _ _⟩
  case round =>
    obtain ⟨k, A', c', hk, rfl, rfl, hrow, hB⟩ := hrel
    rename World => wr
    have HRo := Lib.hid hrow
    have HB := Lib.hid hB
    have hsr : wr.cell? ⟨g, 5, none⟩ = some (.slice A l.length c) := (hB.cell (p := ⟨g, 5, none⟩) hg).trans hs
    by_cases hlt : k < l.length
    · have hlti : (k : Int) < (l.length : Int) := by omega
      have hk0 : (0 : Int) ≤ (k : Int) := by omega
      have hz := hB.size
      obtain ⟨ab, hA, h3, h4, hb, _, c0, c1, _⟩ := ((show RowQ 81 w B A c l from HR.out).fresh hB).at_ hlt
      subst hA
      have Hst : Hid (intsV (blk (l.take k)) ++ [.int .i64 (rn l k).b] = intsV (blk (l.take (k + 1)))) := by unfold Hid; rw [blk_take hlt, intsV_append]; rfl
      generalize (rn l k).b = rb at c0 Hst
      have Hrow : Hid ((wr.alloc (.cells #[.int .i64 rb] 3)).ownsRow w.heap.size 3 1 (.slice A' k c') k (intsV (blk (l.take k)))) := hrow.alloc _
      have Hnew : Hid (∀ ad, some (⟨wr.heap.size, 0, none⟩ : Addr) = some ad → ∀ j u, [Value.int .i64 rb][j]? = some u → (wr.alloc (.cells #[.int .i64 rb] 3)).cell? (ad.add j) = some u) := fun ad e j u hu => by
        cases e
        exact World.news_of_block (heap_alloc_new wr (.cells #[.int .i64 rb] 3)) j u hu
      have Hold := Lib.hid hrow.lt
      clear hrow hB hs
      go_wp2_with (at_builtin; refine wpList_append_src rfl (.tmp 18) (.tmp 27) 31 rfl w.heap.size 3 i0 (.int .i64 0) 1 8 Try.underlying31 hi0 hz0 hz1 hz2 rfl (by decide) (.slice A' k c') k (intsV (blk (l.take k))) rfl Hrow.out (some ⟨wr.heap.size, 0, none⟩) 1 1 [.int .i64 rb] rfl rfl Hnew.out (by intro h; cases h) (by intro u hu; simp at hu; subst hu; rfl) (by unfold maxLen; omega) (by omega) (by simp; omega) (k + 1) rfl ?_; intro A2 c2 w2 ho2 hg2 hor2; have HO2 := Lib.hid ho2; have HG2 := Lib.hid hg2; clear ho2 hg2 hor2)
      go_roundw
      case rel =>
        refine ⟨k + 1, A2, c2, by omega, by go_num, rfl, by have := HO2.out; rw [Hst.out] at this; exact this, ?_⟩
        exact (HB.out.alloc HB.out.size _).grown HG2.out (by simp; omega) (fun j e => (Hold.out j e).1)
      case measure => simp [intOf]; omega
    · obtain rfl : k = l.length := by omega
      have hlti : ¬ (l.length : Int) < (l.length : Int) := by omega
      clear hrow hB hs
      go_wp2
      go_ret
      have hr := HRo.out
      rw [List.take_length] at hr
      refine ⟨A', c', rfl, ?_, HB.out⟩
      unfold RowI
      rw [Hbl.out]
      exact hr
end
end Go.Proofs.Ytpelocpjfmmceaa
