/- MergeOverlaps holds whatever comes in. Here: the walk of the law's text. -/
import Derived.Test.YtkfjkhacchbkeaaZ
import Derived.Test.YtkfjkhacchbkeaaF
namespace Go.Proofs.Ytkfjkhacchbkeaa
set_option linter.unusedVariables false
set_option linter.unusedSimpArgs false
open Go.RowKit

theorem Pats.next {W W' : World} {A : Option Addr} {l : List Pat.Pt} (h : Pat.Pats W W.heap.size A l) (hb : Below W.heap.size W W') : Pat.Pats W' W'.heap.size A l := (Pat.Pats.below h hb).more hb.size
set_option maxRecDepth 100000 in
set_option maxHeartbeats 2000000 in
theorem MergeOverlaps.walk (a0 : Option Addr) (len0 cap0 : Nat) (ps : List Pat.Pt) (W : World) (h0 : Pat.IsPats W a0 len0 cap0 ps) :
    Calls Try.prog 5 #[.slice a0 len0 cap0] W fun e W' => e = .returned (.bool true) ∧ Below W.heap.size W W' := by
  obtain ⟨g1, g2, g3, g4, g5⟩ := h0
  have hl66 : (ps.take 66).length = min 66 len0 := by rw [List.length_take, g1]
  have HP : Hid (Pat.Pats W W.heap.size a0 (ps.take 66)) := Pats.take g4 66
  have HF : Hid (Fine (ps.take 66)) := Fine.take g5 66
  unfold maxLen at g3
  obtain ⟨l, hl⟩ : ∃ l, l = ps.take 66 := ⟨_, rfl⟩
  rw [← hl] at hl66 HP HF
  obtain ⟨n, hn⟩ : ∃ n, n = min 66 len0 := ⟨_, rfl⟩
  rw [← hn] at hl66
  have Hl := Lib.hid hl66
  have hn66 : n ≤ 66 := by omega
  have HOv : Hid (∀ W, Pat.Pats W W.heap.size a0 l → Calls Try.prog 27 #[.slice a0 n cap0] W (OvA W l)) := fun W h => (overlaps_any a0 cap0 n l Hl.out.symm W (by rw [Hl.out]; omega) HF.out h).mono fun e w' h => h.any HF.out
  have HRf : Hid (∀ W, Pat.Pats W W.heap.size a0 l → Calls Try.prog 28 #[.slice a0 n cap0] W (OvA W l)) := fun W h => (refoverlaps_any a0 cap0 n l Hl.out.symm W (by rw [Hl.out]; omega) HF.out h).mono fun e w' h => h.any HF.out
  have HSame : Hid (∀ ls ls3 : List Pat.Pt, (patsB l = true → ls = l) → (patsB l = false → ls = []) → (patsB l = true → ls3 = l) → (patsB l = false → ls3 = []) → ls = ls3) := fun ls ls3 h1 h2 h3 h4 => by
    cases h : patsB l with
    | true => rw [h1 h, h3 h]
    | false => rw [h2 h, h4 h]
  clear hl g4 g5 hl66 g1
  by_cases h66 : 66 < len0
  · obtain rfl : n = 66 := by omega
    have h66i : (66 : Int) < (len0 : Int) := by omega
    clear hn
    go_enter Try.func5, Try.ntmps5
    go_wp2_with (first
      | (go_at_call 14; refine (live_any _).mono ?_; rintro e w1 ⟨rfl, hB1⟩; have HP1 := Lib.hid (Pats.next HP.out hB1); have HB1 := Lib.hid hB1; clear hB1)
      | (go_at_call 27; refine (HOv.out w1 HP1.out).mono ?_; rintro e w2 ⟨hB2, ls, A2, c2, rfl, hI2, hl1, hl2, hF2, hr2, ht2, hf2⟩; have HP2 := Lib.hid (Pats.next HP1.out hB2); have HI2 := Lib.hid hI2; have HS2 := Lib.hid (small_overL hF2 (by omega)); have HT2 := Lib.hid ht2; have HFl := Lib.hid hf2; have HB2 := Lib.hid (HB1.out.trans (hB2.mono HB1.out.size)); clear hB2 hI2 hF2 hr2 ht2 hf2 hl1)
      | (go_at_call 28; refine (HRf.out w2 HP2.out).mono ?_; rintro e w3 ⟨hB3, ls3, A3, c3, rfl, hI3, _, _, _, _, ht3, hf3⟩; obtain rfl : ls = ls3 := HSame.out ls ls3 HT2.out HFl.out ht3 hf3; have HI3 := Lib.hid hI3; have HI23 := Lib.hid (HI2.out.next hB3); have HB3 := Lib.hid (HB2.out.trans (hB3.mono HB2.out.size)); clear hB3 hI3 ht3 hf3)
      | (go_at_call 26; refine (sameItems_any A2 A3 c2 c3 ls.length (overL ls) (length_overL ls).symm w3 (by rw [length_overL]; omega) HS2.out HI23.out HI3.out).mono ?_; rintro e w4 ⟨rfl, hB4⟩; have HB4 := Lib.hid (HB3.out.trans (hB4.mono HB3.out.size)); clear hB4))
    go_ret
    exact ⟨rfl, HB4.out⟩
  · obtain rfl : n = len0 := by omega
    have h66i : ¬ (66 : Int) < (n : Int) := by omega
    clear hn
    go_enter Try.func5, Try.ntmps5
    go_wp2_with (first
      | (go_at_call 14; refine (live_any _).mono ?_; rintro e w1 ⟨rfl, hB1⟩; have HP1 := Lib.hid (Pats.next HP.out hB1); have HB1 := Lib.hid hB1; clear hB1)
      | (go_at_call 27; refine (HOv.out w1 HP1.out).mono ?_; rintro e w2 ⟨hB2, ls, A2, c2, rfl, hI2, hl1, hl2, hF2, hr2, ht2, hf2⟩; have HP2 := Lib.hid (Pats.next HP1.out hB2); have HI2 := Lib.hid hI2; have HS2 := Lib.hid (small_overL hF2 (by omega)); have HT2 := Lib.hid ht2; have HFl := Lib.hid hf2; have HB2 := Lib.hid (HB1.out.trans (hB2.mono HB1.out.size)); clear hB2 hI2 hF2 hr2 ht2 hf2 hl1)
      | (go_at_call 28; refine (HRf.out w2 HP2.out).mono ?_; rintro e w3 ⟨hB3, ls3, A3, c3, rfl, hI3, _, _, _, _, ht3, hf3⟩; obtain rfl : ls = ls3 := HSame.out ls ls3 HT2.out HFl.out ht3 hf3; have HI3 := Lib.hid hI3; have HI23 := Lib.hid (HI2.out.next hB3); have HB3 := Lib.hid (HB2.out.trans (hB3.mono HB2.out.size)); clear hB3 hI3 ht3 hf3)
      | (go_at_call 26; refine (sameItems_any A2 A3 c2 c3 ls.length (overL ls) (length_overL ls).symm w3 (by rw [length_overL]; omega) HS2.out HI23.out HI3.out).mono ?_; rintro e w4 ⟨rfl, hB4⟩; have HB4 := Lib.hid (HB3.out.trans (hB4.mono HB3.out.size)); clear hB4))
    go_ret
    exact ⟨rfl, HB4.out⟩
end Go.Proofs.Ytkfjkhacchbkeaa
