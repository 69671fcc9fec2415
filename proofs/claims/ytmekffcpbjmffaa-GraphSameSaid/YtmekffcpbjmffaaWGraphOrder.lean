/- GraphOrder holds whatever comes in. Here: the walk of the law's text. -/
import Derived.Test.YtmekffcpbjmffaaZ
import Derived.Test.YtmekffcpbjmffaaYC
import Derived.Test.YtmekffcpbjmffaaWGraphMore
namespace Go.Proofs.Ytmekffcpbjmffaa
open Go.RowKit

theorem depN_lt {D : List (List Nat)} (hD : Right D) {x y : Nat} (h : Must D x y) : depN D x < depN D y := by
  have key : ∀ {d n : Nat}, d ∈ rowN D n → depN D d < depN D n := fun {d n} hd => by
    have e := depN_eq hD.2 n
    have hm := maxL_mem (depN D) _ _ hd
    omega
  induction h with
  | one h => exact key h
  | more h _ ih => exact Nat.lt_trans (key h) ih

set_option maxRecDepth 100000 in
set_option maxHeartbeats 4000000 in
theorem GraphOrder.walk (a0 : Option Addr) (len0 cap0 : Nat) (R : List (List Int)) (A : Nat → Option Addr) (C : Nat → Nat) (a b c : Int) (W : World) (h0 : IsMat W a0 len0 cap0 R A C) :
    Calls Try.prog 10 #[.slice a0 len0 cap0, .agg #[.int .i64 a, .int .i64 b, .int .i64 c]] W fun e W' => e = .returned (.bool true) ∧ Below W.heap.size W W' := by
  have hw0 : Below W.heap.size W (W.alloc (.cells #[.int .i64 a, .int .i64 b, .int .i64 c] 38)) := (Below.refl _ _).alloc (Nat.le_refl _) _
  have HF := Lib.hid (few_any a0 len0 cap0 R A C _ (h0.below hw0))
  obtain ⟨cA0, cA1, cA2⟩ := three_cells W 38 (.int .i64 a) (.int .i64 b) (.int .i64 c)
  obtain ⟨hf1, hf2⟩ := few_bound R
  have Hf2 := Lib.hid hf2
  have hsz0 : (W.alloc (.cells #[.int .i64 a, .int .i64 b, .int .i64 c] 38)).heap.size = W.heap.size + 1 := by simp
  have Hw0 := Lib.hid hw0
  have HcA : Hid (∀ W', Below (W.heap.size + 1) (W.alloc (.cells #[.int .i64 a, .int .i64 b, .int .i64 c] 38)) W' → W'.cell? ⟨W.heap.size, 0, none⟩ = some (.int .i64 a) ∧ W'.cell? ⟨W.heap.size, 1, none⟩ = some (.int .i64 b) ∧ W'.cell? ⟨W.heap.size, 2, none⟩ = some (.int .i64 c)) := fun W' hb =>
    ⟨(Below.cell hb (p := ⟨W.heap.size, 0, none⟩) (Nat.lt_succ_self _)).trans cA0, (Below.cell hb (p := ⟨W.heap.size, 1, none⟩) (Nat.lt_succ_self _)).trans cA1, (Below.cell hb (p := ⟨W.heap.size, 2, none⟩) (Nat.lt_succ_self _)).trans cA2⟩
  clear hf2 h0 hw0 cA0 cA1 cA2
  obtain ⟨F, hF⟩ : ∃ F, F = fewR R := ⟨_, rfl⟩
  unfold FewSays at HF
  rw [← hF] at HF hf1 Hf2
  have Hsz0 := Lib.hid hsz0
  clear hF hsz0
  go_enter Try.func10, Try.ntmps10
  go_wp2_with fail
  refine HF.out.mono ?_
  rintro e w1 ⟨Ad, cd, rfl, hM1, hB1⟩
  rw [Hsz0.out] at hB1
  obtain ⟨q0, q1, q2⟩ := HcA.out _ hB1
  have hBW : Below W.heap.size W w1 := Hw0.out.trans (hB1.mono (by omega))
  have HBd : Hid (Below W.heap.size W w1.drew) := hBW.drew
  have Hmd : Hid (Mat w1.drew w1.drew.heap.size Ad F) := hM1.next (Below.refl _ w1).drew
  clear hM1 hB1 hBW
  go_wp2_with fail
  go_region
  obtain ⟨wd, hwd⟩ : ∃ wd, wd = w1.drew := ⟨_, rfl⟩
  rw [← hwd] at HBd Hmd ⊢
  have Hm := Hmd
  have HB := HBd
  clear Hmd HBd hwd q0 q1 q2
  cases hok : okB F with
  | false =>
    have Hok := Lib.hid hok
    clear hok
    go_wp2_with (first
      | (go_at_call 25; refine (before_out Ad cd _ F rfl Hok.out a b _ hf1 Hf2.out Hm.out).mono ?_; rintro e w' ⟨rfl, rfl⟩)
      | (go_at_call 15; refine (live_any _).mono ?_; rintro e w5 ⟨rfl, hB5⟩; replace Hm := Lib.hid (Mat.next Hm.out hB5); replace HB := Lib.hid (HB.out.trans (hB5.mono HB.out.size)); clear hB5))
    go_ret
    exact ⟨rfl, HB.out⟩
  | true =>
    obtain ⟨D, hD, hOk⟩ := okB_out hok
    subst hD
    have Hok := Lib.hid hOk
    have hDl : (rowsI D).length = D.length := length_rowsI D
    obtain ⟨n, hn⟩ : ∃ n, n = (rowsI D).length := ⟨_, rfl⟩
    have hnD : n = D.length := by rw [hn, hDl]
    have HnD := Lib.hid hnD
    rw [← hn]
    clear hok hOk hDl hn hnD hf1
    cases hab : befB D a b with
    | false =>
      have Hab := Lib.hid hab
      clear hab
      go_wp2_with (first
        | (go_at_call 25; have hx := before_yes Ad cd n D HnD.out Hok.out a b _ Hm.out; rw [Hab.out] at hx; ((with_reducible refine hx.mono ?_); clear hx; rintro e w5 ⟨rfl, hB5⟩; replace Hm := Lib.hid (Mat.next Hm.out hB5); replace HB := Lib.hid (HB.out.trans (hB5.mono HB.out.size)); clear hB5))
        | (go_at_call 15; refine (live_any _).mono ?_; rintro e w5 ⟨rfl, hB5⟩; replace Hm := Lib.hid (Mat.next Hm.out hB5); replace HB := Lib.hid (HB.out.trans (hB5.mono HB.out.size)); clear hB5))
      go_ret
      exact ⟨rfl, HB.out⟩
    | true =>
      have Hab := Lib.hid hab
      obtain ⟨x, y, hax, hby, hk⟩ := (befB_iff Hok.out.right).1 hab
      have hxy := hk.lt Hok.out.right
      have hlt : a < b := by omega
      have hd1 : depthI D a = ((depN D x : Nat) : Int) := by
        unfold depthI isN; rw [hax]; simp; omega
      have hd2 : depthI D b = ((depN D y : Nat) : Int) := by
        unfold depthI isN; rw [hby]; simp; omega
      have hdl : (depN D x : Int) < (depN D y : Int) := by have := depN_lt Hok.out.right hk; omega
      have hba : befB D b a = false := by
        rw [Bool.eq_false_iff]; intro h
        obtain ⟨x', y', e1, e2, hk'⟩ := (befB_iff Hok.out.right).1 h
        have := hk'.lt Hok.out.right
        omega
      have hin : decide (b ∈ natsI (aboveL D a)) = true := by
        rw [hby]; exact decide_eq_true (mem_natsI.2 ((mem_aboveL Hok.out.right).2 ⟨x, hax, hk⟩))
      have hal : (natsI (aboveL D a)).length ≤ 100000 := by
        rw [length_natsI]; have := length_listM D.length (fun x => befB D a x); have := Hok.out.right.1; unfold aboveL; omega
      have hac : befB D b c = true → befB D a c = true := fun h => by
        obtain ⟨x', y', e1, e2, hk'⟩ := (befB_iff Hok.out.right).1 h
        have : y = x' := by omega
        subst this
        exact (befB_iff Hok.out.right).2 ⟨x, y', hax, e2, hk.trans hk'⟩
      obtain ⟨d1, hd1e⟩ : ∃ d1 : Int, d1 = ((depN D x : Nat) : Int) := ⟨_, rfl⟩
      obtain ⟨d2, hd2e⟩ : ∃ d2 : Int, d2 = ((depN D y : Nat) : Int) := ⟨_, rfl⟩
      rw [← hd1e] at hd1 hdl
      rw [← hd2e] at hd2 hdl
      have Hd1 := Lib.hid hd1
      have Hd2 := Lib.hid hd2
      have Hba := Lib.hid hba
      have Hin := Lib.hid hin
      have Hal := Lib.hid hal
      have Hac := Lib.hid hac
      clear hab hax hby hk hxy hd1 hd2 hba hin hal hac hd1e hd2e
      cases hbc : befB D b c with
      | false =>
        have Hbc := Lib.hid hbc
        clear hbc
        go_wp2_with (first
          | (go_at_call 25; have hx := before_yes Ad cd n D HnD.out Hok.out a b _ Hm.out; rw [Hab.out] at hx; ((with_reducible refine hx.mono ?_); clear hx; rintro e w5 ⟨rfl, hB5⟩; replace Hm := Lib.hid (Mat.next Hm.out hB5); replace HB := Lib.hid (HB.out.trans (hB5.mono HB.out.size)); clear hB5))
          | (go_at_call 25; have hx := before_yes Ad cd n D HnD.out Hok.out b c _ Hm.out; rw [Hbc.out] at hx; ((with_reducible refine hx.mono ?_); clear hx; rintro e w5 ⟨rfl, hB5⟩; replace Hm := Lib.hid (Mat.next Hm.out hB5); replace HB := Lib.hid (HB.out.trans (hB5.mono HB.out.size)); clear hB5))
          | (go_at_call 25; have hx := before_yes Ad cd n D HnD.out Hok.out b a _ Hm.out; rw [Hba.out] at hx; ((with_reducible refine hx.mono ?_); clear hx; rintro e w5 ⟨rfl, hB5⟩; replace Hm := Lib.hid (Mat.next Hm.out hB5); replace HB := Lib.hid (HB.out.trans (hB5.mono HB.out.size)); clear hB5))
          | (go_at_call 15; refine (live_any _).mono ?_; rintro e w5 ⟨rfl, hB5⟩; replace Hm := Lib.hid (Mat.next Hm.out hB5); replace HB := Lib.hid (HB.out.trans (hB5.mono HB.out.size)); clear hB5)
          | (go_at_call 29; have hx := depth_yes Ad cd n D HnD.out Hok.out a _ Hm.out; rw [Hd1.out] at hx; ((with_reducible refine hx.mono ?_); clear hx; rintro e w5 ⟨rfl, hB5⟩; replace Hm := Lib.hid (Mat.next Hm.out hB5); replace HB := Lib.hid (HB.out.trans (hB5.mono HB.out.size)); clear hB5))
          | (go_at_call 29; have hx := depth_yes Ad cd n D HnD.out Hok.out b _ Hm.out; rw [Hd2.out] at hx; ((with_reducible refine hx.mono ?_); clear hx; rintro e w5 ⟨rfl, hB5⟩; replace Hm := Lib.hid (Mat.next Hm.out hB5); replace HB := Lib.hid (HB.out.trans (hB5.mono HB.out.size)); clear hB5))
          | (go_at_call 27; refine (above_yes Ad cd n D HnD.out Hok.out a _ Hm.out).mono ?_; rintro e w5 ⟨A9, c9, rfl, hI9, hB5⟩; have HI9 := Lib.hid hI9; replace Hm := Lib.hid (Mat.next Hm.out hB5); replace HB := Lib.hid (HB.out.trans (hB5.mono HB.out.size)); clear hB5 hI9)
          | (go_at_call 34; have hx := has_any A9 c9 _ (natsI (aboveL D a)) b _ _ (length_natsI _).symm Hal.out HI9.out; rw [Hin.out] at hx; refine hx.mono ?_; clear hx; rintro e w' ⟨rfl, rfl⟩))
        go_ret
        exact ⟨rfl, HB.out⟩
      | true =>
        have Hbc := Lib.hid hbc
        have Hacc := Lib.hid (Hac.out hbc)
        clear hbc
        go_wp2_with (first
          | (go_at_call 25; have hx := before_yes Ad cd n D HnD.out Hok.out a b _ Hm.out; rw [Hab.out] at hx; ((with_reducible refine hx.mono ?_); clear hx; rintro e w5 ⟨rfl, hB5⟩; replace Hm := Lib.hid (Mat.next Hm.out hB5); replace HB := Lib.hid (HB.out.trans (hB5.mono HB.out.size)); clear hB5))
          | (go_at_call 25; have hx := before_yes Ad cd n D HnD.out Hok.out b c _ Hm.out; rw [Hbc.out] at hx; ((with_reducible refine hx.mono ?_); clear hx; rintro e w5 ⟨rfl, hB5⟩; replace Hm := Lib.hid (Mat.next Hm.out hB5); replace HB := Lib.hid (HB.out.trans (hB5.mono HB.out.size)); clear hB5))
          | (go_at_call 25; have hx := before_yes Ad cd n D HnD.out Hok.out a c _ Hm.out; rw [Hacc.out] at hx; ((with_reducible refine hx.mono ?_); clear hx; rintro e w5 ⟨rfl, hB5⟩; replace Hm := Lib.hid (Mat.next Hm.out hB5); replace HB := Lib.hid (HB.out.trans (hB5.mono HB.out.size)); clear hB5))
          | (go_at_call 25; have hx := before_yes Ad cd n D HnD.out Hok.out b a _ Hm.out; rw [Hba.out] at hx; ((with_reducible refine hx.mono ?_); clear hx; rintro e w5 ⟨rfl, hB5⟩; replace Hm := Lib.hid (Mat.next Hm.out hB5); replace HB := Lib.hid (HB.out.trans (hB5.mono HB.out.size)); clear hB5))
          | (go_at_call 15; refine (live_any _).mono ?_; rintro e w5 ⟨rfl, hB5⟩; replace Hm := Lib.hid (Mat.next Hm.out hB5); replace HB := Lib.hid (HB.out.trans (hB5.mono HB.out.size)); clear hB5)
          | (go_at_call 29; have hx := depth_yes Ad cd n D HnD.out Hok.out a _ Hm.out; rw [Hd1.out] at hx; ((with_reducible refine hx.mono ?_); clear hx; rintro e w5 ⟨rfl, hB5⟩; replace Hm := Lib.hid (Mat.next Hm.out hB5); replace HB := Lib.hid (HB.out.trans (hB5.mono HB.out.size)); clear hB5))
          | (go_at_call 29; have hx := depth_yes Ad cd n D HnD.out Hok.out b _ Hm.out; rw [Hd2.out] at hx; ((with_reducible refine hx.mono ?_); clear hx; rintro e w5 ⟨rfl, hB5⟩; replace Hm := Lib.hid (Mat.next Hm.out hB5); replace HB := Lib.hid (HB.out.trans (hB5.mono HB.out.size)); clear hB5))
          | (go_at_call 27; refine (above_yes Ad cd n D HnD.out Hok.out a _ Hm.out).mono ?_; rintro e w5 ⟨A9, c9, rfl, hI9, hB5⟩; have HI9 := Lib.hid hI9; replace Hm := Lib.hid (Mat.next Hm.out hB5); replace HB := Lib.hid (HB.out.trans (hB5.mono HB.out.size)); clear hB5 hI9)
          | (go_at_call 34; have hx := has_any A9 c9 _ (natsI (aboveL D a)) b _ _ (length_natsI _).symm Hal.out HI9.out; rw [Hin.out] at hx; refine hx.mono ?_; clear hx; rintro e w' ⟨rfl, rfl⟩))
        go_ret
        exact ⟨rfl, HB.out⟩
end Go.Proofs.Ytmekffcpbjmffaa
