/- The document's own arm: its choice whatever the policy; Cancel. -/
import Derived.Test.YtpelocpjfmmceaaA4
set_option linter.unusedVariables false
set_option linter.unusedSimpArgs false
namespace Go.Proofs.Ytpelocpjfmmceaa
open Go.RowKit

section
variable (B g : Nat) (A : Option Addr) (c : Nat) (x : Ar) (w : World)
set_option maxRecDepth 100000 in
set_option maxHeartbeats 4000000 in
theorem choose_else (hp : x.p ≠ 2) (hpb : x.p < 256) (hC : RAt B w g A c x) (hl : x.l.length ≤ 1000) :
    Calls Try.prog 54 #[.pointer (some ⟨g, 0, none⟩)] w fun e w' => e = .returned (.int .i64 x.rchoose.1) ∧ RWent B w g A { x with u := x.rchoose.2 } w' := by
  obtain ⟨cp, _, c2, c3, _, cs⟩ := rcells hC
  have hg := hC.glt
  have HL : Hid (∀ W f y, RAt B W g A c y → y.l = x.l → Calls Try.prog 71 #[.pointer (some ⟨g, 0, none⟩), .int .i64 f] W fun e w' => e = .returned (.int .i64 (leastK x.l f x.l.length)) ∧ Below W.heap.size W w') := fun W f y h e => by
    have := rleast_any B g A c y f W h (by rw [e]; exact hl)
    rwa [e] at this
  have HG : Hid (∀ W f y, RAt B W g A c y → y.l = x.l → Calls Try.prog 72 #[.pointer (some ⟨g, 0, none⟩), .int .i64 f] W fun e w' => e = .returned (.int .i64 (greatK x.l f x.l.length)) ∧ Below W.heap.size W w') := fun W f y h e => by
    have := rgreatest_any B g A c y f W h (by rw [e]; exact hl)
    rwa [e] at this
  have HC := Lib.hid hC
  have HW0 : Hid (∀ W, Below w.heap.size w W → RWent B w g A { x with u := x.u } W ∧ W.cell? ⟨g, 2, none⟩ = some (.int .i64 x.s) ∧ g < W.heap.size ∧ W.cell? ⟨g, 3, none⟩ = some (.bool (!x.u)) ∧ W.frozen? ⟨g, 3, none⟩ = false) := fun W hW => ⟨⟨A, c, HC.out.fresh hW, Kept.fresh hW, fun k e => .inl e⟩, (rcells (HC.out.fresh hW)).2.2.1, (HC.out.fresh hW).glt, (rcells (HC.out.fresh hW)).2.2.2.1, (HC.out.fresh hW).free 3⟩
  have HT : Hid (∀ W v, Below w.heap.size w W → RAt B (W.setCell ⟨g, 3, none⟩ (.bool (!v))) g A c { x with u := v } ∧ Kept w (W.setCell ⟨g, 3, none⟩ (.bool (!v))) (Of g A) ∧ ∀ w3, Below (W.setCell ⟨g, 3, none⟩ (.bool (!v))).heap.size (W.setCell ⟨g, 3, none⟩ (.bool (!v))) w3 → RWent B w g A { x with u := v } w3) := fun W v hW => by
    obtain ⟨r, kp⟩ := field B g A c x W (y := { x with u := v }) (j := 3) (v := .bool (!v)) (HC.out.fresh hW) rfl (fun _ => rfl)
    have hk := (Kept.fresh (S := Of g A) hW).trans kp (fun k q => .inl (.inl q))
    exact ⟨r, hk, fun w3 h3 => ⟨A, c, r.fresh h3, hk.trans (Kept.fresh (S := Of g A) h3) (fun k q => .inl q), fun k e => .inl e⟩⟩
  have e2 : ((x.p : Int) == 2) = false := by rw [beq_eq_false_iff_ne]; omega
  have n2 : (x.p == 2) = false := by simpa using hp
  unfold Ar.rchoose
  rw [if_neg hp]
  by_cases h3 : x.p = 3
  · rw [if_pos h3]
    rw [h3] at cp
    clear e2 n2 hp
    have HLs := Lib.hid (HL.out w (x.s : Int) x hC rfl)
    have HGs := Lib.hid (HG.out w (x.s : Int) x hC rfl)
    cases hu : x.u with
    | true =>
      rw [hu] at c3
      simp only [if_true, Bool.not_true] at c3 ⊢
      have Hx : Hid (({ x with u := true } : Ar) = x) := by unfold Hid; rw [← hu]
      have HT1 := Lib.hid (fun W hW => HT.out W false hW)
      rw [hu] at HW0
      rcases leastK_in x.l x.s x.l.length with hi | ⟨m, hm, hi⟩
      · rw [hi] at HLs ⊢
        rw [if_neg (by decide)]
        have HG2 := Lib.hid (fun W hW => HG.out (W.setCell ⟨g, 3, none⟩ (.bool (!false))) (x.s : Int) { x with u := false } (HT1.out W hW).1 rfl)
        simp only [Bool.not_false] at HG2 HT1
        generalize greatK x.l x.s x.l.length = z at *
        generalize (x.s : Int) = s at *
        clear hC hi h3 HL HG HT
        go_enter Try.func54, Try.ntmps54
        go_wp2_with (first
          | (go_at_call 71; refine HLs.out.mono ?_; rintro e w1 ⟨rfl, hb1⟩; obtain ⟨_, d2, dg, d3, f3⟩ := HW0.out w1 hb1; have HB1 := Lib.hid hb1; clear hb1)
          | (go_at_call 72; refine (HG2.out w1 HB1.out).mono ?_; rintro e w3 ⟨rfl, hb3⟩; have HF := Lib.hid ((HT1.out w1 HB1.out).2.2 w3 hb3); clear hb3))
        go_ret
        exact ⟨rfl, HF.out⟩
      · rw [hi] at HLs ⊢
        rw [if_pos (by omega)]
        have hm0 : (0 : Int) ≤ (m : Int) := by omega
        generalize (x.s : Int) = s at *
        clear hC hi h3 HL HG HT hm
        go_enter Try.func54, Try.ntmps54
        go_wp2_with (refine HLs.out.mono ?_; rintro e w1 ⟨rfl, hb1⟩; have HF := Lib.hid (HW0.out w1 hb1).1; clear hb1)
        go_ret
        rw [Hx.out]
        exact ⟨rfl, HF.out⟩
    | false =>
      rw [hu] at c3
      simp only [Bool.false_eq_true, if_false, Bool.not_false] at c3 ⊢
      have Hx : Hid (({ x with u := false } : Ar) = x) := by unfold Hid; rw [← hu]
      have HT1 := Lib.hid (fun W hW => HT.out W true hW)
      rw [hu] at HW0
      rcases greatK_in x.l x.s x.l.length with hi | ⟨m, hm, hi⟩
      · rw [hi] at HGs ⊢
        rw [if_neg (by decide)]
        have HL2 := Lib.hid (fun W hW => HL.out (W.setCell ⟨g, 3, none⟩ (.bool (!true))) (x.s : Int) { x with u := true } (HT1.out W hW).1 rfl)
        simp only [Bool.not_true] at HL2 HT1
        generalize leastK x.l x.s x.l.length = z at *
        generalize (x.s : Int) = s at *
        clear hC hi h3 HL HG HT
        go_enter Try.func54, Try.ntmps54
        go_wp2_with (first
          | (go_at_call 72; refine HGs.out.mono ?_; rintro e w1 ⟨rfl, hb1⟩; obtain ⟨_, d2, dg, d3, f3⟩ := HW0.out w1 hb1; have HB1 := Lib.hid hb1; clear hb1)
          | (go_at_call 71; refine (HL2.out w1 HB1.out).mono ?_; rintro e w3 ⟨rfl, hb3⟩; have HF := Lib.hid ((HT1.out w1 HB1.out).2.2 w3 hb3); clear hb3))
        go_ret
        exact ⟨rfl, HF.out⟩
      · rw [hi] at HGs ⊢
        rw [if_pos (by omega)]
        have hm0 : (0 : Int) ≤ (m : Int) := by omega
        generalize (x.s : Int) = s at *
        clear hC hi h3 HL HG HT hm
        go_enter Try.func54, Try.ntmps54
        go_wp2_with (refine HGs.out.mono ?_; rintro e w1 ⟨rfl, hb1⟩; have HF := Lib.hid (HW0.out w1 hb1).1; clear hb1)
        go_ret
        rw [Hx.out]
        exact ⟨rfl, HF.out⟩
  · have e3 : ((x.p : Int) == 3) = false := by rw [beq_eq_false_iff_ne]; omega
    have n3 : (x.p == 3) = false := by simpa using h3
    rw [if_neg h3]
    by_cases h4 : x.p = 4
    · rw [if_pos h4]
      rw [h4] at cp
      clear e2 n2 hp e3 n3 h3
      have HLs := Lib.hid (HL.out w (x.s : Int) x hC rfl)
      have HL0 := Lib.hid (fun W hW => HL.out W 0 x (hC.fresh (w' := W) hW) rfl)
      rcases leastK_in x.l x.s x.l.length with hi | ⟨m, hm, hi⟩
      · rw [hi] at HLs ⊢
        rw [if_neg (by decide)]
        generalize leastK x.l 0 x.l.length = z at *
        generalize (x.s : Int) = s at *
        clear hC hi h4 HL HG HT
        go_enter Try.func54, Try.ntmps54
        go_wp2_with (first
          | (go_at_call 71; (with_reducible refine HLs.out.mono ?_); rintro e w1 ⟨rfl, hb1⟩; have HB1 := Lib.hid hb1; clear hb1)
          | (go_at_call 71; (with_reducible refine (HL0.out w1 HB1.out).mono ?_); rintro e w3 ⟨rfl, hb3⟩; have HF := Lib.hid (HW0.out w3 (HB1.out.trans (hb3.mono HB1.out.size))).1; clear hb3))
        go_ret
        exact ⟨rfl, HF.out⟩
      · rw [hi] at HLs ⊢
        rw [if_pos (by omega)]
        have hm0 : (0 : Int) ≤ (m : Int) := by omega
        generalize (x.s : Int) = s at *
        clear hC hi h4 HL HG HT hm
        go_enter Try.func54, Try.ntmps54
        go_wp2_with (refine HLs.out.mono ?_; rintro e w1 ⟨rfl, hb1⟩; have HF := Lib.hid (HW0.out w1 hb1).1; clear hb1)
        go_ret
        exact ⟨rfl, HF.out⟩
    · have e4 : ((x.p : Int) == 4) = false := by rw [beq_eq_false_iff_ne]; omega
      have n4 : (x.p == 4) = false := by simpa using h4
      rw [if_neg h4]
      have HF := Lib.hid (HW0.out w (Below.refl _ _)).1
      clear hC hp h3 h4 HL HG HT
      go_enter Try.func54, Try.ntmps54
      go_wp2
      go_ret
      exact ⟨rfl, HF.out⟩
theorem choose_all (hO : x.p < 256) (hC : RAt B w g A c x) (hl : x.l.length ≤ 1000) (h0 : 0 < x.l.length) (hs : x.s < 1024) (hn : 1 ≤ x.n) (hn64 : x.n ≤ 64) (hr : ∀ r ∈ x.l, 0 ≤ r.b ∧ r.b < 1024) :
    Calls Try.prog 54 #[.pointer (some ⟨g, 0, none⟩)] w fun e w' => e = .returned (.int .i64 x.rchoose.1) ∧ RWent B w g A { x with u := x.rchoose.2 } w' := by
  by_cases hp : x.p = 2
  · refine (choose_near B g A c x w hp hC hl h0 hs hn hn64 hr).mono ?_
    rintro e w' ⟨rfl, hb⟩
    unfold Ar.rchoose
    rw [if_pos hp]
    exact ⟨rfl, A, c, hC.fresh hb, Kept.fresh hb, fun k e => .inl e⟩
  · exact choose_else B g A c x w hp hO hC hl
theorem rcancel_any (b : Int) (hn : (blk x.l).Nodup) (hC : RAt B w g A c x) (hl : x.l.length ≤ 1000) (hB : B ≤ w.heap.size) :
    Calls Try.prog 49 #[.pointer (some ⟨g, 0, none⟩), .int .i64 b] w fun e w' => e = .returned (.int .i64 (x.cancelE b)) ∧ RWent B w g A (x.cancel b) w' := by
  have HF := Lib.hid (rfind_any B g A c x b w hC hl)
  have hi := idxR_ge x.l b
  unfold Ar.cancelE
  cases hh : hasR x.l b with
  | false =>
    have e : x.cancel b = x := by
      unfold Ar.cancel dropL
      have : x.l.filter (fun r => !(isB b r)) = x.l := by
        rw [List.filter_eq_self]
        intro r hr
        have := List.any_eq_false.1 hh r hr
        simpa using this
      rw [this]
    rw [e]
    have HC := Lib.hid hC
    have hlt : idxR x.l b < 0 := by rw [hh] at hi; simpa using hi
    generalize idxR x.l b = q at *
    clear hi hh e hC hn
    go_enter Try.func49, Try.ntmps49
    go_wp2_with (refine HF.out.mono ?_; rintro e w1 ⟨rfl, hb1⟩)
    go_ret
    exact ⟨rfl, A, c, HC.out.fresh hb1, Kept.fresh hb1, fun k e => .inl e⟩
  | true =>
    have hk : x.l.findIdx (isB b) < x.l.length := find_of_any hh
    have e : idxR x.l b = (x.l.findIdx (isB b) : Int) := by unfold idxR idxF; rw [show x.l.any (isB b) = true from hh]; rfl
    have hb : (rn x.l (x.l.findIdx (isB b))).b = b := by
      have h := List.findIdx_getElem (p := isB b) (xs := x.l) (w := hk)
      rw [rn_lt hk]
      exact eq_of_beq h
    rw [e] at HF
    generalize x.l.findIdx (isB b) = k at *
    have hk0 : (0 : Int) ≤ (k : Int) := by omega
    have HD : Hid (∀ W, Below w.heap.size w W → Calls Try.prog 56 #[.pointer (some ⟨g, 0, none⟩), .int .i64 k] W fun e w' => e = .returned (.tuple #[]) ∧ RWent B w g A (x.cancel b) w') := fun W hW =>
      (rdrop_any B g A c x W k hk (hC.fresh hW) hl (Nat.le_trans hB hW.size)).mono fun e w' ⟨h1, h2⟩ => by
        rw [erase_is hn hk, hb] at h2
        exact ⟨h1, Went.from h2 hW⟩
    clear hi hh hC hn e hb
    go_enter Try.func49, Try.ntmps49
    go_wp2_with (first
      | (go_at_call 53; refine HF.out.mono ?_; rintro e w1 ⟨rfl, hb1⟩; have HB1 := Lib.hid hb1; clear hb1)
      | (go_at_call 56; refine (HD.out _ HB1.out).mono ?_; rintro e w2 ⟨rfl, hwn⟩; have HW2 := Lib.hid hwn; clear hwn))
    go_ret
    exact ⟨rfl, HW2.out⟩
end
end Go.Proofs.Ytpelocpjfmmceaa
