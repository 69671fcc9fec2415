/- The document's groups: Took. -/
import Derived.Test.YtdndchoghhllmaaJ
import Derived.Deep.Cut
import Derived.Deep.CutRange
set_option linter.unusedVariables false
set_option linter.unusedSimpArgs false
namespace Go.Proofs.Ytdndchoghhllmaa
open Go.RowKit
theorem RowI.base {w : World} {B B' c : Nat} {A : Option Addr} {l : List Int} (h : RowI w B' A c l) (hB : B ≤ B') : RowI w B A c l := by
  refine ⟨h.1, ?_⟩
  rcases h.2 with h0 | ⟨g, cap, cur, q, hb, rest⟩
  · exact .inl h0
  · exact .inr ⟨g, cap, cur, q, Nat.le_trans hB hb, rest⟩
def tookG (y : Int) (g : Gp) : Gp := if g.s = 2 then { g with p := withI g.p y } else g
def tookK (l : List Gp) (y : Int) (j : Nat) : List Gp := (l.take j).map (tookG y) ++ l.drop j
theorem tookK_step {l : List Gp} {y : Int} {j : Nat} (h : j < l.length) : tookK l y (j + 1) = (tookK l y j).set j (tookG y l[j]) := by
  unfold tookK
  rw [List.take_succ_eq_append_getElem h, List.map_append, List.append_assoc, List.drop_eq_getElem_cons h, List.set_append_right _ _ (by simp; omega)]
  congr 1
  have : j - ((l.take j).map (tookG y)).length = 0 := by simp; omega
  rw [this]; rfl
theorem tookK_get {l : List Gp} {y : Int} {j : Nat} (h : j < l.length) : (tookK l y j)[j]? = l[j]? := by
  unfold tookK
  rw [List.getElem?_append_right (by simp; omega), List.getElem?_drop]
  congr 1
  simp; omega
theorem tookK_len (l : List Gp) (y : Int) (j : Nat) : (tookK l y j).length = l.length := by
  unfold tookK; rw [List.length_append, List.length_map, List.length_take, List.length_drop]; omega
section
variable (B r : Nat) (A : Option Addr) (c : Nat) (L : List Gr) (k y : Int) (w : World)
set_option maxRecDepth 100000 in
set_option maxHeartbeats 4000000 in
theorem rtook_any (hC : RefAt B w r A c L k) (hl : L.length ≤ 1000) (hp : ∀ g ∈ gs L, Rises g.p ∧ g.p.length ≤ 999) (hBw : B ≤ w.heap.size) :
    Calls Try.prog 49 #[.pointer (some ⟨r, 0, none⟩), .int .i64 y] w fun e w' => e = .returned (.int .i64 (if y < 0 then 2 else 0)) ∧ RWent B w r A (if y < 0 then ⟨gs L, k⟩ else Gs.took ⟨gs L, k⟩ y) w' := by
  by_cases hy : y < 0
  · have HS := Lib.hid (RWent.same hC (Below.refl _ _))
    rw [if_pos hy, if_pos hy]
    clear hC hp
    go_enter Try.func49, Try.ntmps49
    go_wp2
    go_ret
    exact ⟨rfl, HS.out⟩
  · rw [if_neg hy, if_neg hy]
    have HC := Lib.hid hC
    have HP := Lib.hid hp
    clear hC hp
    go_enter Try.func49, Try.ntmps49
    go_wp2
    go_loopw [5] (fun i wr => ∃ (j : Nat) (L' : List Gr), j ≤ L.length ∧ i = .int .i64 j ∧ L'.length = L.length ∧ Hid (RefAt B wr r A c L' k) ∧ Hid (gs L' = tookK (gs L) y j) ∧ Hid (Kept w wr (OfR r A))) (fun i _ => L.length - (intOf i).toNat)
    case atStart => exact ⟨0, L, Nat.zero_le _, rfl, rfl, HC.out, by unfold Hid tookK; simp, Kept.refl _ _⟩
    case round =>
      obtain ⟨j, L', hj, rfl, hL, hC', hg, hK⟩ := hrel
      rename World => wr
      have hj0 : (0 : Int) ≤ (j : Int) := by omega
      obtain ⟨c0, _⟩ := hC'.out.hcells
      have hr := hC'.out.glt
      rw [hL] at c0
      by_cases hlt : j < L.length
      · have hji : (j : Int) < (L.length : Int) := by omega
        have hlt' : j < L'.length := by omega
        have hltg : j < (gs L).length := by rw [length_gs]; exact hlt
        obtain ⟨b, hA, h1, h2, hb, d0, d1, d2, d3, hfz⟩ := hC'.out.at_ hlt'
        have hfz2 := hfz (j * 4 + 2)
        unfold maxLen at h2
        rw [hL] at h1
        have hgj : (grn L' j).g = (gs L)[j] := by
          have h3 := tookK_get (y := y) hltg
          rw [← hg.out, List.getElem?_eq_getElem (by rw [length_gs]; exact hlt'), List.getElem?_eq_getElem hltg] at h3
          rw [← gs_at hlt']
          exact Option.some.inj h3
        obtain ⟨hpr, hpl⟩ := HP.out _ (List.getElem_mem hltg)
        have Hgj := Lib.hid hgj
        have hst := tookK_step (y := y) hltg
        rw [← hgj] at hpr hpl
        by_cases e : (grn L' j).g.s = 2
        · have Hs : Hid (tookK (gs L) y (j + 1) = (gs L').set j { (grn L' j).g with p := withI (grn L' j).g.p y }) := by
            unfold Hid
            rw [hst, ← hg.out, ← hgj]
            unfold tookG
            rw [if_pos e]
          rw [e] at d1
          have hrow := (hC'.out.nums _ (grn_mem hlt')).1
          have HI : Hid (Ints wr wr.heap.size (grn L' j).pa (grn L' j).g.p) := hrow.ints
          have HW : Hid (∀ w1, Below wr.heap.size wr w1 → Calls Try.prog 56 #[.slice (grn L' j).pa (grn L' j).g.p.length (grn L' j).pc, .int .i64 y] w1 fun e w' => ∃ A' c', e = .returned (.slice A' (withI (grn L' j).g.p y).length c') ∧ RowI w' wr.heap.size A' c' (withI (grn L' j).g.p y) ∧ Below wr.heap.size wr w') := fun w1 h1 =>
            (rwith_any _ (grn L' j).pc _ y w1 (by omega) hpr (HI.out.next h1)).mono fun e w' ⟨A', c', q1, q2, q3⟩ => ⟨A', c', q1, q2.base h1.size, h1.trans (q3.mono h1.size)⟩
          have HRs : Hid (∀ w5 A5 c5, Below wr.heap.size wr w5 → RowI w5 wr.heap.size A5 c5 (withI (grn L' j).g.p y) → RefAt B (w5.setCell ⟨b, j * 4 + 2, none⟩ (.slice A5 (withI (grn L' j).g.p y).length c5)) r A c (L'.set j ⟨{ (grn L' j).g with p := withI (grn L' j).g.p y }, A5, c5, (grn L' j).aa, (grn L' j).ac⟩) k ∧ Kept w (w5.setCell ⟨b, j * 4 + 2, none⟩ (.slice A5 (withI (grn L' j).g.p y).length c5)) (OfR r A)) := fun w5 A5 c5 h5 hr5 => by
            have hC5 := hC'.out.fresh h5
            obtain ⟨r1, r2⟩ := rset hC5 (i := j) (j := 2) (q := ⟨{ (grn L' j).g with p := withI (grn L' j).g.p y }, A5, c5, (grn L' j).aa, (grn L' j).ac⟩) (u := .slice A5 (withI (grn L' j).g.p y).length c5) hA hlt' (by omega) rfl rfl ⟨hr5.base (Nat.le_trans hBw hK.out.size), (hC5.nums _ (grn_mem hlt')).2⟩
            exact ⟨r1, (hK.out.trans (Kept.fresh (S := OfR r A) h5) (fun b q => .inl q)).trans r2 (fun b q => .inl q)⟩
          have HLs : Hid (∀ q : Gr, (L'.set j q).length = L.length) := fun q => by rw [List.length_set]; exact hL
          have HGs : Hid (∀ A5 c5, gs (L'.set j ⟨{ (grn L' j).g with p := withI (grn L' j).g.p y }, A5, c5, (grn L' j).aa, (grn L' j).ac⟩) = tookK (gs L) y (j + 1)) := fun A5 c5 => by rw [gs_set, Hs.out]
          obtain ⟨g0, hg0⟩ : ∃ g0, g0 = grn L' j := ⟨_, rfl⟩
          rw [← hg0] at d2 HW HRs HGs
          have Hbz := Lib.hid hb
          subst hA
          obtain ⟨ps, hps⟩ : ∃ ps, ps = withI g0.g.p y := ⟨_, rfl⟩
          rw [← hps] at HW HRs HGs
          have HCl : Hid (∀ w5, Below wr.heap.size wr w5 → w5.cell? ⟨r, 0, none⟩ = some (.slice (some ⟨b, 0, none⟩) L.length c) ∧ w5.cell? ⟨b, j * 4 + 2, none⟩ = some (.slice g0.pa g0.g.p.length g0.pc) ∧ w5.frozen? ⟨b, j * 4 + 2, none⟩ = false ∧ b < w5.heap.size) := fun w5 h5 =>
            ⟨(h5.cell (p := ⟨r, 0, none⟩) hr).trans c0, (h5.cell (p := ⟨b, j * 4 + 2, none⟩) hb).trans d2, (h5.frozen (p := ⟨b, j * 4 + 2, none⟩) hb).trans hfz2, Nat.lt_of_lt_of_le hb h5.size⟩
          clear hst hgj e hpr hpl hrow hg0 hps d0 d3 hfz
          go_upto_region 9 with fail
          go_region_with (go_at_call 56; refine (HW.out _ (Below.refl _ _).drew).mono ?_; rintro e w5 ⟨A5, c5, rfl, hr5, hb5⟩; obtain ⟨z0, z1, z2, z3⟩ := HCl.out w5 hb5; have HB5 := Lib.hid hb5; have HR5 := Lib.hid hr5; clear hb5 hr5)
          all_goals
            have r1 := HRs.out w5 A5 c5 HB5.out HR5.out
            have R1 := Lib.hid r1.1
            have R2 := Lib.hid r1.2
            clear r1
            go_wp2_with fail
            go_roundw
            case rel => exact ⟨j + 1, _, by omega, by go_num, HLs.out _, R1.out, HGs.out _ _, R2.out⟩
            case measure => simp [intOf]; omega
        · have Hs : Hid (gs L' = tookK (gs L) y (j + 1)) := by
            unfold Hid
            rw [hst, ← hg.out, ← hgj]
            unfold tookG
            rw [if_neg e, ← gs_at hlt', List.set_getElem_self]
          have hx : (((grn L' j).g.s : Int) == 2) = false := by simp; omega
          subst hA
          generalize (grn L' j).g.s = sj at *
          clear hst hgj e hpr hpl hg
          go_wp2
          go_roundw
          case rel => exact ⟨j + 1, L', by omega, by go_num, hL, hC'.out, Hs.out, hK.out⟩
          case measure => simp [intOf]; omega
      · obtain rfl : j = L.length := by omega
        have hji : ¬ (L.length : Int) < (L.length : Int) := by omega
        have HE : Hid (RWent B w r A (Gs.took ⟨gs L, k⟩ y) wr) := ⟨A, c, L', hC'.out, by
          rw [hg.out]
          unfold tookK
          rw [← length_gs, List.take_length, List.drop_length, List.append_nil]
          rfl, hK.out, fun b e => .inl e⟩
        clear hC' hg hK
        go_wp2
        go_ret
        exact ⟨rfl, HE.out⟩
end
end Go.Proofs.Ytdndchoghhllmaa
