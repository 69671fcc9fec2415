/- The document's groups: turn, Engage, Disengage, Release. -/
import Derived.Test.YtdndchoghhllmaaF
set_option linter.unusedVariables false
set_option linter.unusedSimpArgs false
namespace Go.Proofs.Ytdndchoghhllmaa
open Go.RowKit
/-- a call answered an error: it left all as it was -/
theorem RWent.same {B : Nat} {w w' : World} {r : Nat} {A : Option Addr} {c : Nat} {L : List Gr} {k : Int} (h : RefAt B w r A c L k) (hb : Below w.heap.size w w') : RWent B w r A ⟨gs L, k⟩ w' :=
  ⟨A, c, L, h.fresh hb, rfl, Kept.fresh hb, fun b e => .inl e⟩
section
variable (B r : Nat) (A : Option Addr) (c : Nat) (L : List Gr) (k n : Int) (w : World)
set_option maxRecDepth 100000 in
set_option maxHeartbeats 2000000 in
theorem rturn_any (a b t : Nat) (hC : RefAt B w r A c L k) (hl : L.length ≤ 1000) (hnd : (nos (gs L)).Nodup) :
    Calls Try.prog 62 #[.pointer (some ⟨r, 0, none⟩), .int .i64 n, .int .u8 a, .int .u8 b, .int .u8 t] w fun e w' => e = .returned (.int .i64 (Gs.turnE ⟨gs L, k⟩ n a b)) ∧ RWent B w r A (if Gs.turnE ⟨gs L, k⟩ n a b = 0 then Gs.turn ⟨gs L, k⟩ n t else ⟨gs L, k⟩) w' := by
  have HA := Lib.hid (rat_any B r A c L k n w hC hl)
  obtain ⟨c0, _⟩ := hC.hcells
  have hr := hC.glt
  by_cases hn : n ∈ nos (gs L)
  · obtain ⟨i, hi, e1, e2, e3⟩ := idxG_in hnd hn
    obtain ⟨bb, hA, h1, h2, hb, _, d1, _, _, hfz⟩ := hC.at_ hi
    have hfz1 := hfz (i * 4 + 1)
    unfold maxLen at h2
    have hi0 : (0 : Int) ≤ (i : Int) := by omega
    have hii : (i : Int) < (L.length : Int) := by omega
    have hng : ¬ (i : Int) < 0 := by omega
    rw [e1] at HA
    have hE : Gs.turnE ⟨gs L, k⟩ n a b = if (grn L i).g.s ≠ a ∧ (grn L i).g.s ≠ b then 13 else 0 := by unfold Gs.turnE; rw [if_neg (fun q => q hn), ← e2]
    have HP : Hid (RWent B w r A (Gs.turn ⟨gs L, k⟩ n t) (w.setCell ⟨bb, i * 4 + 1, none⟩ (.int .u8 t))) := by
      have hnn := hC.nums _ (grn_mem hi)
      obtain ⟨r1, r2⟩ := rset hC (i := i) (j := 1) (q := ⟨{ (grn L i).g with s := t }, (grn L i).pa, (grn L i).pc, (grn L i).aa, (grn L i).ac⟩) (u := .int .u8 t) hA hi (by omega) rfl rfl hnn
      refine ⟨A, c, _, r1, ?_, r2, fun b e => .inl e⟩
      · rw [gs_set]
        have := put_set hnd (n := n) (f := fun g => { g with s := t }) (k := i) (by rw [length_gs]; exact hi) (by rw [gs_at hi]; exact e3)
        rw [gs_at hi] at this
        exact this.symm
    have HS := Lib.hid (RWent.same hC (Below.refl _ _))
    subst hA
    generalize (grn L i).g.s = s at *
    by_cases ha : s = a
    · have H0 : Hid (Gs.turnE ⟨gs L, k⟩ n a b = 0) := by unfold Hid; rw [hE, if_neg (fun q => q.1 ha)]
      have hx : ((s : Int) != (a : Int)) = false := by simp; omega
      rw [H0.out, if_pos rfl]
      clear hC hn hnd e1 e2 e3 hE ha hfz
      go_enter Try.func62, Try.ntmps62
      go_wp2_with (refine HA.out.mono ?_; rintro e w' ⟨rfl, rfl⟩)
      go_ret
      exact ⟨rfl, HP.out⟩
    · have hx : ((s : Int) != (a : Int)) = true := by simp; omega
      by_cases hb2 : s = b
      · have H0 : Hid (Gs.turnE ⟨gs L, k⟩ n a b = 0) := by unfold Hid; rw [hE, if_neg (fun q => q.2 hb2)]
        have hy : ((s : Int) != (b : Int)) = false := by simp; omega
        rw [H0.out, if_pos rfl]
        clear hC hn hnd e1 e2 e3 hE ha hb2 hfz
        go_enter Try.func62, Try.ntmps62
        go_wp2_with (refine HA.out.mono ?_; rintro e w' ⟨rfl, rfl⟩)
        go_ret
        exact ⟨rfl, HP.out⟩
      · have H0 : Hid (Gs.turnE ⟨gs L, k⟩ n a b = 13) := by unfold Hid; rw [hE, if_pos ⟨ha, hb2⟩]
        have hy : ((s : Int) != (b : Int)) = true := by simp; omega
        rw [H0.out, if_neg (by decide)]
        clear hC hn hnd e1 e2 e3 hE ha hb2 hfz
        go_enter Try.func62, Try.ntmps62
        go_wp2_with (refine HA.out.mono ?_; rintro e w' ⟨rfl, rfl⟩)
        go_ret
        exact ⟨rfl, HS.out⟩
  · have e1 := idxG_out hn
    have H0 : Hid (Gs.turnE ⟨gs L, k⟩ n a b = 5) := by unfold Hid Gs.turnE; rw [if_pos hn]
    have HS := Lib.hid (RWent.same hC (Below.refl _ _))
    rw [e1] at HA
    rw [H0.out, if_neg (by decide)]
    clear hC hn hnd e1
    go_enter Try.func62, Try.ntmps62
    go_wp2_with (refine HA.out.mono ?_; rintro e w' ⟨rfl, rfl⟩)
    go_ret
    exact ⟨rfl, HS.out⟩
end
end Go.Proofs.Ytdndchoghhllmaa
