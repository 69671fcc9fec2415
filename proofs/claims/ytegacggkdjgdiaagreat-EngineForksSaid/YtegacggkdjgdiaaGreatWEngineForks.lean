/- EngineForks. Here: the walk of the law's text. -/
import Derived.Test.YtegacggkdjgdiaaGreatSM
import Derived.Test.YtegacggkdjgdiaaGreatRG
import Derived.WalkKit
import Derived.OpenShut
set_option linter.unusedVariables false
set_option linter.unusedSimpArgs false
namespace Go.Proofs.YtegacggkdjgdiaaGreat
open Go.RowKit
theorem OwnTwo.base {w x wr : World} {e r m : Nat} (h : OwnTwo x wr e r m) (hB : Below w.heap.size w x) : OwnTwo w wr e r m := by
  obtain ⟨F, h1, h2, h3⟩ := h
  exact ⟨F, h1, fun b q => Nat.le_trans hB.size (h2 b q), hB.trans (h3.mono hB.size)⟩
theorem OwnTwo.sameB {w wr : World} {e r m : Nat} (h : OwnTwo w wr e r m) (hm : m ≤ 45) {A : Option Addr} {n c : Nat} {z : List Int} (hp : NumsIn w A n c z) :
    Calls Tryz.prog 9 #[.pointer (some ⟨e, 0, none⟩), .pointer (some ⟨r, 0, none⟩), .slice A n c] wr fun en w' => en = .returned (.bool true) ∧ Below wr.heap.size wr w' := by
  have hpk := fun W hW => pick_of (W := W) hp hW
  obtain ⟨hl, _, _, hz, _⟩ := hp
  obtain ⟨F, ⟨S, l, lv, t, k, cc, F1, F2, hP, rfl⟩, h2, h3⟩ := h
  exact same_any hP hm z hz A c n hl (hpk _ h3)
theorem DdC.later {w W : World} {x : Dd} (h : DdC w x) (hB : Below w.heap.size w W) : DdC W x := ⟨h.1, h.2.1, h.2.2.later hB⟩
/-- both engines' Forks -/
theorem PairAt.forked {w x3 x4 : World} {e r f g : Nat} {S : Nat → Bk} {l : List Wr} {lv : List Vr} {t : List Tr} {k : Int} {m cc : Nat} {F1 F2 F3 F4 : Nat → Prop} (h : PairAt w e r S l lv t k m cc F1 F2)
    (h3 : Eng x3 f 5 S cc k l F3) (hf3 : ∀ b, F3 b → w.heap.size ≤ b) (hB3 : Below w.heap.size w x3) (h4 : Qe x4 g 5 S cc k lv t F4) (hf4 : ∀ b, F4 b → x3.heap.size ≤ b) (hB4 : Below x3.heap.size x3 x4) : OwnTwo w x4 f g m := by
  refine ⟨fun b => F3 b ∨ F4 b, ⟨S, l, lv, t, k, cc, F3, F4, ⟨h3.fresh hB4, h4, fun b q1 q2 => ?_, h.tie, h.ds, h.ts, h.tl, h.k0, h.kb, h.cb, h.fine⟩, rfl⟩, ?_, hB3.trans (hB4.mono hB3.size)⟩
  · have := h3.lt b q1; have := hf4 b q2; omega
  · rintro b (q | q)
    · exact hf3 b q
    · exact Nat.le_trans hB3.size (hf4 b q)
namespace EngineForks
set_option maxRecDepth 100000 in
set_option maxHeartbeats 4000000 in
theorem walk (a0 : Option Addr) (len0 cap0 : Nat) (z0 : List Dd) (a1 : Option Addr) (len1 cap1 : Nat) (z1 : List Dd) (a2 : Option Addr) (len2 cap2 : Nat) (z2 : List Int) (w : World) (h0 : z0.length = len0 ∧ DeedsAt w a0 z0 ∧ ∀ x ∈ z0, DdC w x) (h1 : z1.length = len1 ∧ DeedsAt w a1 z1 ∧ ∀ x ∈ z1, DdC w x) (h2 : NumsIn w a2 len2 cap2 z2) :
    Calls Tryz.prog 6 #[.slice a0 len0 cap0, .slice a1 len1 cap1, .slice a2 len2 cap2] w fun e w' => e = .returned (.bool true) ∧ Below w.heap.size w w' := by
  obtain ⟨rfl, hA, hL⟩ := h0
  obtain ⟨rfl, hA1, hL1⟩ := h1
  have HP := Lib.hid (play_any w a0 cap0 z0 hA hL)
  have H2 := Lib.hid h2
  have T1 : Hid True := trivial
  have HA1 := Lib.hid hA1
  have HL1 := Lib.hid hL1
  clear hA hL h2 hA1 hL1
  generalize z0.length = len0 at HP
  unfold Played at HP
  go_enter Tryz.func6, Tryz.ntmps6
  go_wp2_with (first
    | (go_at_call 7; refine HP.out.mono ?_; rintro en x1 ⟨e, r, rfl, hO⟩; have HO1 := Lib.hid hO; clear hO)
    | (go_at_call 8; refine (live_any _).mono ?_; rintro en x2 ⟨rfl, hb2⟩; have HO2 := Lib.hid (HO1.out.next hb2); clear hb2
       obtain ⟨S, l, lv, t, k, cc, F1, F2, HPr, Hw2⟩ : ∃ S l lv t k cc F1 F2, Hid (PairAt x2 e r S l lv t k 24 cc F1 F2) ∧ Hid (Below w.heap.size w x2) := (by
         obtain ⟨F, ⟨S, l, lv, t, k, cc, F1, F2, hP, rfl⟩, h2, h3⟩ := HO2.out
         exact ⟨S, l, lv, t, k, cc, F1, F2, hP, h3⟩)
       have HE := Lib.hid (efork HPr.out.eng (by have := HPr.out.cb; omega)))
    | (go_at_call 21; refine HE.out.mono ?_; rintro en x3 ⟨f, F3, rfl, he3, hf3, hb3⟩; have HE3 := Lib.hid he3; have HF3 := Lib.hid hf3; have HB3 := Lib.hid hb3; have HQ := Lib.hid (qfork (HPr.out.ref.fresh hb3) (by have := HPr.out.cb; omega) (by have := HPr.out.vlen; omega) (by have := HPr.out.tl; omega)); clear he3 hf3 hb3)
    | (go_at_call 22; refine HQ.out.mono ?_; rintro en x4 ⟨g, F4, rfl, hq4, hf4, hb4⟩; have HN : Hid (OwnTwo x2 x4 f g 24) := HPr.out.forked HE3.out HF3.out HB3.out hq4 hf4 hb4; clear hq4 hf4 hb4))
  clear HP HO1
  have HDo : Hid (∀ wr i (hi : i < z1.length), i < 8 → OwnTwo x2 wr f g (24 + i) → Calls Tryz.prog 23 #[.pointer (some ⟨f, 0, none⟩), .pointer (some ⟨g, 0, none⟩), .agg z1[i].cs.toArray] wr fun e w' => e = .returned (.bool true) ∧ OwnTwo x2 w' f g (24 + (i + 1))) := fun wr i hi hi8 h => h.done (by omega) ((HL1.out _ (List.getElem_mem hi)).later Hw2.out)
  have HG : Hid (∀ wr i (hi : i < z1.length), OwnTwo x2 wr f g (24 + i) → ∃ b o, a1 = some ⟨b, o, none⟩ ∧ wr.rangeAt b (o + i * 4) z1[i].cs) := fun wr i hi h => by
    obtain ⟨F, _, _, h4⟩ := h.base Hw2.out
    exact HA1.out.get hi h4
  have hsz : Hid (∀ i (hi : i < z1.length), (Tryz.prog.info? 54).map (·.size) = some z1[i].cs.length) := fun i hi => sizeDeed
  go_loopw [12] (fun i wr => ∃ k : Nat, k ≤ z1.length ∧ k ≤ 8 ∧ i = .int .i64 k ∧ OwnTwo x2 wr f g (24 + k)) (fun i _ => z1.length - (intOf i).toNat)
  case atStart => exact ⟨0, Nat.zero_le _, Nat.zero_le _, rfl, HN.out⟩
  case round =>
    obtain ⟨j, hj, hj8, rfl, hO⟩ := hrel
    rename World => wr
    have HO := Lib.hid hO
    clear hO
    by_cases hlt : j < z1.length
    · have hlt' : (j : Int) < (z1.length : Int) := by omega
      have hj0 : (0 : Int) ≤ (j : Int) := by omega
      by_cases h8 : j < 8
      · have h8' : (j : Int) < 8 := by omega
        obtain ⟨b, o, hAe, hr⟩ := HG.out wr j hlt HO.out
        have HR2 := Lib.hid hr
        have DO := Lib.hid (HDo.out wr j hlt h8 HO.out)
        have hs := Lib.hid (hsz.out j hlt)
        obtain ⟨X, hX⟩ : ∃ X, X = z1[j].cs := ⟨_, rfl⟩
        rw [← hX] at HR2 DO hs
        subst hAe
        clear hr hX
        go_wp2_with (first
          | (refine wpList_load_mid rfl 54 (.tmp 43) rfl b (o + j * 4) rfl X _ HR2.out Tryz.underlying54 rfl hs.out ?_)
          | (go_at_call 23; refine DO.out.mono ?_; rintro e w5 ⟨rfl, h5⟩; have H5 := Lib.hid h5; clear h5))
        go_roundw
        case rel => exact ⟨j + 1, by omega, by omega, by go_num, H5.out⟩
        case measure => simp [intOf]; omega
      · have h8' : ¬ (j : Int) < 8 := by omega
        have HOw := Lib.hid ((HO2.out.next HO.out.choose_spec.2.2).sameB (by decide) H2.out)
        go_wp2_with (first
          | (go_at_call 9; have _t := T1; clear _t T1; refine HOw.out.mono ?_; rintro en y1 ⟨rfl, hb1⟩; have HB1 := Lib.hid hb1; have T2 : Hid True := trivial; have HNw := Lib.hid (((HO.out.base Hw2.out).next HB1.out).same (by omega) H2.out); clear hb1)
          | (go_at_call 9; have _t := T2; clear _t T2; refine HNw.out.mono ?_; rintro en y2 ⟨rfl, hO2⟩; have HY2 := Lib.hid hO2; clear hO2))
        go_ret
        exact ⟨rfl, HY2.out.choose_spec.2.2⟩
    · have hlt' : ¬ (j : Int) < (z1.length : Int) := by omega
      have HOw := Lib.hid ((HO2.out.next HO.out.choose_spec.2.2).sameB (by decide) H2.out)
      go_wp2_with (first
        | (go_at_call 9; have _t := T1; clear _t T1; refine HOw.out.mono ?_; rintro en y1 ⟨rfl, hb1⟩; have HB1 := Lib.hid hb1; have T2 : Hid True := trivial; have HNw := Lib.hid (((HO.out.base Hw2.out).next HB1.out).same (by omega) H2.out); clear hb1)
        | (go_at_call 9; have _t := T2; clear _t T2; refine HNw.out.mono ?_; rintro en y2 ⟨rfl, hO2⟩; have HY2 := Lib.hid hO2; clear hO2))
      go_ret
      exact ⟨rfl, HY2.out.choose_spec.2.2⟩
end EngineForks
end Go.Proofs.YtegacggkdjgdiaaGreat
