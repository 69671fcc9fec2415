/- play: deeds on both engines. -/
import Derived.Test.YtegacggkdjgdiaaGreatQZ
set_option linter.unusedVariables false
set_option linter.unusedSimpArgs false
namespace Go.Proofs.YtegacggkdjgdiaaGreat
open Go.RowKit

theorem sizeDeed : (Tryz.prog.info? 54).map (·.size) = some 4 := by kernel_rfl
/-- both engines of this call's own -/
def OwnTwo (w wr : World) (e r m : Nat) : Prop := ∃ F, Pair wr e r m F ∧ (∀ b, F b → w.heap.size ≤ b) ∧ Below w.heap.size w wr
theorem OwnTwo.next {w w1 w2 : World} {e r m : Nat} (h : OwnTwo w w1 e r m) (hB : Below w1.heap.size w1 w2) : OwnTwo w w2 e r m := by
  obtain ⟨F, h1, h2, h3⟩ := h
  exact ⟨F, h1.fresh hB, h2, h3.trans (hB.mono h3.size)⟩
theorem OwnTwo.mono {w w1 : World} {e r m m' : Nat} (h : OwnTwo w w1 e r m) (hm : m ≤ m') : OwnTwo w w1 e r m' := by
  obtain ⟨F, h1, h2, h3⟩ := h
  exact ⟨F, h1.mono hm, h2, h3⟩
theorem OwnTwo.done {w w1 : World} {e r m : Nat} (h : OwnTwo w w1 e r m) (hm : m ≤ 40) {x : Dd} (hx : DdC w x) :
    Calls Tryz.prog 23 #[.pointer (some ⟨e, 0, none⟩), .pointer (some ⟨r, 0, none⟩), x.v] w1 fun en w' => en = .returned (.bool true) ∧ OwnTwo w w' e r (m + 1) := by
  obtain ⟨F, h1, h2, h3⟩ := h
  refine (do_any h1 hm x (hx.outside h3 h2)).mono ?_
  rintro en w' ⟨rfl, F', hp, hk, hf⟩
  refine ⟨rfl, F', hp, fun b q => ?_, h3.trans (hk.below h2 h3.size)⟩
  rcases hf b q with q | q
  · exact h2 b q
  · have := h3.size; omega
def Played (w : World) (en : Ending) (w' : World) : Prop := ∃ e r, en = .returned (.tuple #[.pointer (some ⟨e, 0, none⟩), .pointer (some ⟨r, 0, none⟩), .bool true]) ∧ OwnTwo w w' e r 24
/-- two new ones -/
theorem pair_new {w w1 w2 w3 w4 : World} {e r : Nat} {F1 F2 : Nat → Prop} (h1 : Eng w2 e 5 (fun (j : Nat) => (Bk.mk noSec [] false).flushed) 0 0 [] F1) (hf1 : ∀ b, F1 b → w.heap.size ≤ b) (hB2 : Below w.heap.size w w2) (hB3 : Below w2.heap.size w2 w3)
    (h2 : Qe w4 r 5 (fun (j : Nat) => (Bk.mk noSec [] false).flushed) 0 0 [] [] F2) (hf2 : ∀ b, F2 b → w2.heap.size ≤ b) (hB4 : Below w2.heap.size w2 w4) : OwnTwo w w4 e r 0 := by
  have hs := hB2.size
  refine ⟨fun b => F1 b ∨ F2 b, ⟨_, [], [], [], 0, 0, F1, F2, ⟨h1.fresh hB4, h2, fun b q1 q2 => ?_, Tie.nil, (fun x hx => by cases hx), (fun x hx => by cases hx), Nat.le_refl _, Int.le_refl _, by omega, by omega, Fine.nil⟩, rfl⟩, ?_, hB2.trans (hB4.mono hs)⟩
  · have := h1.lt b q1; have := hf2 b q2; omega
  · rintro b (q | q)
    · exact hf1 b q
    · have := hf2 b q; omega
set_option maxRecDepth 100000 in
set_option maxHeartbeats 2000000 in
theorem play_any (w : World) (A : Option Addr) (cap : Nat) (L : List Dd) (hA : DeedsAt w A L) (hL : ∀ x ∈ L, DdC w x) :
    Calls Tryz.prog 7 #[.slice A L.length cap] w (Played w) := by
  have HD := Lib.hid (cnew (m := 5) (by decide) (by decide) w)
  have HR : Hid (∀ W : World, Calls Tryz.prog 27 #[.int .i64 5] W fun e w' => e = .returned (.pointer (some ⟨W.heap.size + 1, 0, none⟩)) ∧ (∃ F, Ref w' (W.heap.size + 1) 5 (fun _ => zeroBk) 0 F ∧ ∀ b, F b → W.heap.size ≤ b) ∧ Below W.heap.size W w') := fun W => rnew 5 W (by decide) (by decide)
  have HDo : Hid (∀ wr d r i (hi : i < L.length), i < 24 → OwnTwo w wr d r i → Calls Tryz.prog 23 #[.pointer (some ⟨d, 0, none⟩), .pointer (some ⟨r, 0, none⟩), .agg L[i].cs.toArray] wr fun e w' => e = .returned (.bool true) ∧ OwnTwo w w' d r (i + 1)) := fun wr d r i hi hi6 h => h.done (by omega) (hL _ (List.getElem_mem hi))
  have HG : Hid (∀ wr d r i (hi : i < L.length), OwnTwo w wr d r i → ∃ b o, A = some ⟨b, o, none⟩ ∧ wr.rangeAt b (o + i * 4) L[i].cs) := fun wr d r i hi h => by
    obtain ⟨F, _, _, h4⟩ := h
    exact hA.get hi h4
  have hsz : Hid (∀ i (hi : i < L.length), (Tryz.prog.info? 54).map (·.size) = some L[i].cs.length) := fun i hi => sizeDeed
  clear hA hL
  go_enter Tryz.func7, Tryz.ntmps7
  go_wp2_with (first
    | (go_at_call 25; refine HD.out.mono ?_; rintro e x1 ⟨rfl, ⟨F0, hd1, hf1⟩, hb1⟩; have HB1 := Lib.hid hb1; have HN := Lib.hid (enew hd1 (by decide)); clear hd1 hf1 hb1)
    | (go_at_call 24; refine HN.out.mono ?_; rintro e x2 ⟨ge, F1, rfl, he2, hf2, hb2⟩; have HE2 := Lib.hid he2; have HF1 : Hid (∀ b, F1 b → w.heap.size ≤ b) := (fun b q => Nat.le_trans HB1.out.size (hf2 b q)); have HB2 := Lib.hid (HB1.out.trans (hb2.mono HB1.out.size)); clear he2 hf2 hb2)
    | (go_at_call 27; refine (HR.out _).mono ?_; rintro e x3 ⟨rfl, ⟨F0', hr3, hf3⟩, hb3⟩; have HB3 := Lib.hid hb3; have HQn := Lib.hid (qnew hr3 (by decide)); clear hr3 hf3 hb3)
    | (go_at_call 26; refine HQn.out.mono ?_; rintro e x4 ⟨gr, F2, rfl, hq4, hf4, hb4⟩; have O4 : Hid (OwnTwo w x4 ge gr 0) := pair_new (w1 := w) HE2.out HF1.out HB2.out HB3.out hq4 (fun b q => Nat.le_trans HB3.out.size (hf4 b q)) (HB3.out.trans (hb4.mono HB3.out.size)); clear hq4 hf4 hb4))
  go_loopw [7] (fun i wr => ∃ k : Nat, k ≤ L.length ∧ k ≤ 24 ∧ i = .int .i64 k ∧ OwnTwo w wr ge gr k) (fun i _ => L.length - (intOf i).toNat)
  case atStart => exact ⟨0, Nat.zero_le _, Nat.zero_le _, rfl, O4.out⟩
  case round =>
    obtain ⟨k, hk, hk6, rfl, hO⟩ := hrel
    rename World => wr
    have HO := Lib.hid hO
    clear hO
    by_cases hlt : k < L.length
    · have hlt' : (k : Int) < (L.length : Int) := by omega
      have hk0 : (0 : Int) ≤ (k : Int) := by omega
      by_cases h24 : k < 24
      · have h24' : (k : Int) < 24 := by omega
        obtain ⟨b, o, hAe, hr⟩ := HG.out wr ge gr k hlt HO.out
        have HR2 := Lib.hid hr
        have DO := Lib.hid (HDo.out wr ge gr k hlt h24 HO.out)
        have hs := Lib.hid (hsz.out k hlt)
        obtain ⟨X, hX⟩ : ∃ X, X = L[k].cs := ⟨_, rfl⟩
        rw [← hX] at HR2 DO hs
        subst hAe
        clear hr hX
        go_wp2_with (first
          | (refine wpList_load_mid rfl 54 (.tmp 26) rfl b (o + k * 4) rfl X _ HR2.out Tryz.underlying54 rfl hs.out ?_)
          | (go_at_call 23; refine DO.out.mono ?_; rintro e w5 ⟨rfl, h5⟩; have H5 := Lib.hid h5; clear h5))
        go_roundw
        case rel => exact ⟨k + 1, by omega, by omega, by go_num, H5.out⟩
        case measure => simp [intOf]; omega
      · have h24' : ¬ (k : Int) < 24 := by omega
        go_wp2
        go_ret3
        exact ⟨ge, gr, rfl, HO.out.mono (by omega)⟩
    · have hlt' : ¬ (k : Int) < (L.length : Int) := by omega
      go_wp2
      go_ret3
      exact ⟨ge, gr, rfl, HO.out.mono (by omega)⟩
end Go.Proofs.YtegacggkdjgdiaaGreat
