/- EngineBlock. Here: the walk of the law's text. -/
import Derived.Test.YtegacggkdjgdiaaRA
import Derived.Test.YtegacggkdjgdiaaEV
import Derived.WalkKit
import Derived.OpenShut
set_option linter.unusedVariables false
set_option linter.unusedSimpArgs false
namespace Go.Proofs.Ytegacggkdjgdiaa
open Go.RowKit
theorem bts_text {w : World} {B : Nat} {A : Option Addr} {l : List Int} (hb : Bts w B A l) {n : Nat} (c : Nat) (hn : l.length = n) (h0 : 0 < n) : (convert 23 9 (.slice A n c)).run Try.prog w = .ok (.string (strOfNums l)) w := by
  subst hn
  obtain ⟨b, o, e, _, hc⟩ := hb.2 h0
  subst e
  refine run_convert_bytes_arg w 23 5 Try.underlying23 Try.underlying5 b o l.length c l rfl (fun i hi => ?_) 9 Try.underlying9
  exact hc i hi
/-- two engines, one beside the other -/
structure Duo (w wr : World) (e f : Nat) (S0 : Nat → Bk) (l0 : List Wr) (k : Int) (cc0 : Nat) (F3 : Nat → Prop) (S : Nat → Bk) (l : List Wr) (cc : Nat) (F1 : Nat → Prop) : Prop where
  one : Eng wr e 5 S cc k l F1
  two : Eng wr f 5 S0 cc0 k l0 F3
  sep : ∀ b, F1 b → ¬ F3 b
  lo : ∀ b, F1 b → w.heap.size ≤ b
  tie : ∃ lv t, Tie l lv t
  fine : Fine S l
  same : ∀ j : Nat, putL (S j).s (onL l (j : Int)) = putL (S0 j).s (onL l0 (j : Int))
  below : Below w.heap.size w wr
namespace Duo
variable {w wr w' : World} {e f : Nat} {S0 : Nat → Bk} {l0 : List Wr} {k : Int} {cc0 : Nat} {F3 : Nat → Prop} {S : Nat → Bk} {l : List Wr} {cc : Nat} {F1 : Nat → Prop}
theorem fresh (h : Duo w wr e f S0 l0 k cc0 F3 S l cc F1) (hB : Below wr.heap.size wr w') : Duo w w' e f S0 l0 k cc0 F3 S l cc F1 :=
  ⟨h.one.fresh hB, h.two.fresh hB, h.sep, h.lo, h.tie, h.fine, h.same, h.below.trans (hB.mono h.below.size)⟩
theorem went {S' : Nat → Bk} {l' : List Wr} {cc' : Nat} {F1' : Nat → Prop} (h : Duo w wr e f S0 l0 k cc0 F3 S l cc F1) (hE : Eng w' e 5 S' cc' k l' F1') (hk : Kept wr w' F1) (hf : ∀ b, F1' b → F1 b ∨ wr.heap.size ≤ b) (ht : ∃ lv t, Tie l' lv t) (hfi : Fine S' l') (hs : ∀ j : Nat, putL (S' j).s (onL l' (j : Int)) = putL (S j).s (onL l (j : Int))) : Duo w w' e f S0 l0 k cc0 F3 S' l' cc' F1' := by
  have hsz := h.below.size
  refine ⟨hE, h.two.keep hk (fun b q1 q2 => h.sep b q2 q1) h.one.ni, fun b q1 q2 => ?_, fun b q => ?_, ht, hfi, fun j => (hs j).trans (h.same j), h.below.trans (hk.below h.lo hsz)⟩
  · rcases hf b q1 with q | q
    · exact h.sep b q q2
    · have := h.two.lt b q2; omega
  · rcases hf b q with q | q
    · exact h.lo b q
    · omega
theorem wrote {i : Nat} {F1' : Nat → Prop} (h : Duo w wr e f S0 l0 k cc0 F3 S l cc F1) (hE : Eng w' e 5 (wrS S l i) (cc + 1) k (wrL S l i) F1') (hk : Kept wr w' F1) (hf : ∀ b, F1' b → F1 b ∨ wr.heap.size ≤ b) : Duo w w' e f S0 l0 k cc0 F3 (wrS S l i) (wrL S l i) (cc + 1) F1' := by
  obtain ⟨lv, t, ht⟩ := h.tie
  have hq : ∃ t', QWrote S lv t i t' := by
    unfold QWrote
    split
    · exact ⟨_, none, 0, rfl⟩
    · exact ⟨_, rfl⟩
  obtain ⟨t', hq⟩ := hq
  exact h.went hE hk hf ⟨lv, t', ht.write S i hq⟩ (h.fine.write ht i) (fun j => Fine.same_write S l i j)
theorem flushed {F1' : Nat → Prop} (h : Duo w wr e f S0 l0 k cc0 F3 S l cc F1) (hE : Eng w' e 5 (fun j => (S j).flushed) cc k (leftL l) F1') (hk : Kept wr w' F1) (hf : ∀ b, F1' b → F1 b ∨ wr.heap.size ≤ b) : Duo w w' e f S0 l0 k cc0 F3 (fun j => (S j).flushed) (leftL l) cc F1' := by
  obtain ⟨lv, t, ht⟩ := h.tie
  exact h.went hE hk hf ⟨_, _, ht.flush⟩ (h.fine.flush ht h.one.rights.1) (fun j => h.fine.same_flush ht h.one.rights.1 j)
end Duo
/-- a Write at whatever block -/
theorem duo_write {w wr : World} {e f : Nat} {S0 : Nat → Bk} {l0 : List Wr} {k : Int} {cc0 : Nat} {F3 : Nat → Prop} {S : Nat → Bk} {l : List Wr} {cc : Nat} {F1 : Nat → Prop} (h : Duo w wr e f S0 l0 k cc0 F3 S l cc F1) (i : Nat) (hc : cc < 90000) :
    Calls Try.prog 12 #[.pointer (some ⟨e, 0, none⟩), .int .i64 (i : Int)] wr fun en w' => ∃ N E, en = .returned (.tuple #[.int .i64 N, .int .i64 E]) ∧ ∃ S' l' F1', Duo w w' e f S0 l0 k cc0 F3 S' l' (cc + 1) F1' := by
  by_cases hi : i < 5
  · refine (ewrite_any h.one hi (by omega)).mono ?_
    rintro en w' ⟨rfl, F1', hE, hk, hf⟩
    exact ⟨_, _, rfl, _, _, F1', h.wrote hE hk hf⟩
  · refine (ewrite_no h.one (i : Int) (by omega)).mono ?_
    rintro en w' ⟨rfl, hB⟩
    have h2 := h.fresh hB
    exact ⟨_, _, rfl, _, _, F1, ⟨h2.one.mono (by omega), h2.two, h2.sep, h2.lo, h2.tie, h2.fine, h2.same, h2.below⟩⟩
theorem duo_flush {w wr : World} {e f : Nat} {S0 : Nat → Bk} {l0 : List Wr} {k : Int} {cc0 : Nat} {F3 : Nat → Prop} {S : Nat → Bk} {l : List Wr} {cc : Nat} {F1 : Nat → Prop} (h : Duo w wr e f S0 l0 k cc0 F3 S l cc F1) (hc : cc < 90000) :
    Calls Try.prog 13 #[.pointer (some ⟨e, 0, none⟩)] wr fun en w' => en = .returned (.int .i64 0) ∧ ∃ S' l' F1', Duo w w' e f S0 l0 k cc0 F3 S' l' cc F1' := by
  refine (eflush h.one (by omega)).mono ?_
  rintro en w' ⟨rfl, F1', hE, hk, hf⟩
  exact ⟨rfl, _, _, F1', h.flushed hE hk hf⟩
namespace EngineBlock
set_option maxRecDepth 100000 in
set_option maxHeartbeats 4000000 in
theorem walk (a0 : Option Addr) (len0 cap0 : Nat) (z0 : List Dd) (a1 : Option Addr) (len1 cap1 : Nat) (z1 : List Int) (w : World) (h0 : z0.length = len0 ∧ DeedsAt w a0 z0 ∧ ∀ x ∈ z0, DdC w x) (h1 : BytesIn w a1 len1 cap1 z1) :
    Calls Try.prog 4 #[.slice a0 len0 cap0, .slice a1 len1 cap1] w fun e w' => e = .returned (.bool true) ∧ Below w.heap.size w w' := by
  obtain ⟨rfl, hA, hL⟩ := h0
  obtain ⟨hl1, hc1, hm1, ha1, hr1⟩ := h1
  have HP := Lib.hid (play_any w a0 cap0 z0 hA hL)
  have HR1 := Lib.hid hr1
  have HA1 := Lib.hid ha1
  have HL1 := Lib.hid hl1
  unfold maxLen at hm1
  clear hA hL hl1 ha1 hr1
  generalize z0.length = len0 at HP
  unfold Played at HP
  go_enter Try.func4, Try.ntmps4
  go_wp2_with (first
    | (go_at_call 20; refine HP.out.mono ?_; rintro en x1 ⟨e, r, rfl, hO⟩; have HO := Lib.hid hO; clear hO)
    | (go_at_call 19; refine (live_any _).mono ?_; rintro en x2 ⟨rfl, hb2⟩; have HO2 := Lib.hid (HO.out.next hb2); obtain ⟨S0, l0, k, cc0, hcc0, F1, hE0, hT0, hF0, hlo, hB2⟩ : ∃ S l k cc, cc ≤ 60000 ∧ ∃ F1, Eng x2 e 5 S cc k l F1 ∧ (∃ lv t, Tie l lv t) ∧ Fine S l ∧ (∀ b, F1 b → w.heap.size ≤ b) ∧ Below w.heap.size w x2 := (by obtain ⟨F, ⟨S, l, lv, t, k, cc, F1, F2, hP, rfl⟩, h2, h3⟩ := HO2.out; exact ⟨S, l, k, cc, by have := hP.cb; omega, F1, hP.eng, ⟨lv, t, hP.tie⟩, hP.fine, fun b q => h2 b (.inl q), h3⟩); have HE0 := Lib.hid hE0; have HT0 := Lib.hid hT0; have HF0 := Lib.hid hF0; have Hlo := Lib.hid hlo; have HB2 := Lib.hid hB2; have HFo := Lib.hid (efork hE0 (by omega)); clear hb2 hE0 hT0 hF0 hlo hB2)
    | (go_at_call 21; refine HFo.out.mono ?_; rintro en x3 ⟨f, F3, rfl, hE3, hf3, hb3⟩; have HDuo : Hid (Duo w x3 e f S0 l0 k cc0 F3 S0 l0 cc0 F1) := ⟨HE0.out.fresh hb3, hE3, fun b q1 q2 => (by have := HE0.out.lt b q1; have := hf3 b q2; omega), Hlo.out, HT0.out, HF0.out, fun _ => rfl, HB2.out.trans (hb3.mono HB2.out.size)⟩; clear hE3 hf3 hb3))
  clear HFo HP
  go_loopw [9] (fun q wr => ∃ (j : Nat) (S : Nat → Bk) (l : List Wr) (F1 : Nat → Prop), j ≤ len1 ∧ j ≤ 20 ∧ q = .int .i64 j ∧ Hid (Duo w wr e f S0 l0 k cc0 F3 S l (cc0 + j) F1)) (fun q _ => len1 - (intOf q).toNat)
  case atStart => exact ⟨0, S0, l0, F1, Nat.zero_le _, Nat.zero_le _, rfl, HDuo.out⟩
  case round =>
    obtain ⟨j, S, l, F1', hj, hj20, rfl, hD⟩ := hrel
    rename World => wr
    have hB := Lib.hid hD.out.below
    by_cases hlt : j < len1 ∧ j < 20
    · obtain ⟨hlt, hlt20⟩ := hlt
      have hltj : (j : Int) < (len1 : Int) := by omega
      have hlt20i : (j : Int) < 20 := by omega
      have hj0 : (0 : Int) ≤ (j : Int) := by omega
      have hjz : j < z1.length := by rw [HL1.out]; exact hlt
      obtain ⟨zb, zo, rfl, hzb, hzc⟩ := HR1.out (by omega)
      have hc := (hB.out.cell (p := ⟨zb, zo + j, none⟩) hzb).trans (hzc j hjz)
      have hz8 := HA1.out _ (List.getElem_mem hjz)
      obtain ⟨z, hz⟩ : ∃ z, z = z1[j] := ⟨_, rfl⟩
      rw [← hz] at hc hz8
      obtain ⟨m6, hm6⟩ : ∃ m6 : Nat, m6 = z.toNat % 6 := ⟨_, rfl⟩
      have hzi : z % 6 = (m6 : Int) := by omega
      have hzbw : zb < wr.heap.size := Nat.lt_of_lt_of_le hzb hB.out.size
      have HW := Lib.hid (duo_write hD.out m6 (by omega))
      have Hzc : Hid (∀ W, Below w.heap.size w W → W.cell? ⟨zb, zo + j, none⟩ = some (.int .u8 z)) := fun W hW => by rw [hz]; exact (hW.cell (p := ⟨zb, zo + j, none⟩) hzb).trans (hzc j hjz)
      have hcc1 : cc0 + j + 1 < 90000 := by omega
      clear hz hm6 hzc
      by_cases h3 : z % 5 = 0
      · go_wp2_with (first
          | (go_at_call 12; refine HW.out.mono ?_; rintro en x4 ⟨N4, E4, rfl, S4, l4, F4, hD4⟩; have HD4 := Lib.hid hD4; have hc4 := Hzc.out _ hD4.below; have hzb4 : zb < x4.heap.size := Nat.lt_of_lt_of_le hzb hD4.below.size; have HFl := Lib.hid (duo_flush hD4 hcc1); clear hD4)
          | (go_at_call 13; refine HFl.out.mono ?_; rintro en x5 ⟨rfl, S5, l5, F5, hD5⟩; have HD5 := Lib.hid hD5; clear hD5))
        go_roundw
        case rel => exact ⟨j + 1, S5, l5, F5, by omega, by omega, by go_num, HD5.out⟩
        case measure => simp [intOf]; omega
      · go_wp2_with (go_at_call 12; refine HW.out.mono ?_; rintro en x4 ⟨N4, E4, rfl, S4, l4, F4, hD4⟩; have HD4 := Lib.hid hD4; have hc4 := Hzc.out _ hD4.below; have hzb4 : zb < x4.heap.size := Nat.lt_of_lt_of_le hzb hD4.below.size; clear hD4)
        go_roundw
        case rel => exact ⟨j + 1, S4, l4, F4, by omega, by omega, by go_num, HD4.out⟩
        case measure => simp [intOf]; omega
    · by_cases hlt0 : j < len1
      all_goals (
        have hq0 : (0 : Int) ≤ (j : Int) := by omega
        first
          | (have hq1 : (j : Int) < (len1 : Int) := by omega)
          | (have hq1 : ¬ (j : Int) < (len1 : Int) := by omega)
        have hq2 : (j : Int) < (len1 : Int) → ¬ (j : Int) < 20 := by omega
        first
          | (have hq3 : ¬ (j : Int) < 20 := hq2 hq1)
          | skip
        clear hq2
        go_wp2
        go_loopw [10] (fun q wq => ∃ i : Nat, i ≤ 5 ∧ q = .int .i64 i ∧ Hid (Duo w wq e f S0 l0 k cc0 F3 S l (cc0 + j) F1')) (fun q _ => 5 - (intOf q).toNat)
        case atStart => exact ⟨0, Nat.zero_le _, rfl, hD.out⟩
        case round =>
          obtain ⟨i, hi, rfl, hDq⟩ := hrel
          rename World => wq
          by_cases hi5 : i < 5
          · have hi5i : (i : Int) < 5 := by omega
            have HB1 := Lib.hid (eblock hDq.out.one hi5)
            have Hsame := Lib.hid (hDq.out.same i)
            obtain ⟨T, hT⟩ : ∃ T, T = putL (S0 i).s (onL l0 (i : Int)) := ⟨_, rfl⟩
            rw [Hsame.out, ← hT] at HB1
            have HB2 : Hid (∀ W, Below wq.heap.size wq W → Calls Try.prog 22 #[.pointer (some ⟨f, 0, none⟩), .int .i64 (i : Int)] W fun e w' => ∃ A c, e = .returned (.tuple #[.slice A 32 c, .int .i64 0]) ∧ 32 ≤ c ∧ c ≤ maxLen ∧ Bts w' w'.heap.size A T ∧ T.length = 32 ∧ Below W.heap.size W w') := fun W hW => by rw [hT]; exact eblock (hDq.out.two.fresh hW) hi5
            clear hT Hsame
            go_wp2_with (first
              | (go_at_call 22; (with_reducible refine HB1.out.mono ?_); rintro en y1 ⟨A1, c1, rfl, hc1, hm1, hb1, hl1, hB1⟩; have HX1 := Lib.hid hB1; have Hb1 := Lib.hid hb1; have Hl1 := Lib.hid hl1; clear hc1 hm1 hb1 hl1 hB1)
              | (go_at_call 22; (with_reducible refine (HB2.out y1 HX1.out).mono ?_); rintro en y2 ⟨A2, c2, rfl, hc2, hm2, hb2, hl2, hB2⟩; have HX2 := Lib.hid (HX1.out.trans (hB2.mono HX1.out.size)); have ht1 := bts_text (Hb1.out.below hB2) c1 Hl1.out (by decide); have ht2 := bts_text hb2 c2 Hl1.out (by decide); clear hc2 hm2 hb2 hl2 hB2))
            go_roundw
            case rel => exact ⟨i + 1, by omega, by go_num, hDq.out.fresh HX2.out⟩
            case measure => simp [intOf]; omega
          · obtain rfl : i = 5 := by omega
            have hi5i : ¬ (5 : Int) < 5 := by omega
            have N1 := Lib.hid (enext hDq.out.one)
            have N2 := Lib.hid (enext hDq.out.two)
            go_wp2_with (first
              | (go_at_call 23; (with_reducible refine N1.out.mono ?_); rintro en y1 ⟨rfl, rfl⟩)
              | (go_at_call 23; (with_reducible refine N2.out.mono ?_); rintro en y1 ⟨rfl, rfl⟩))
            go_ret
            exact ⟨rfl, hDq.out.below⟩)
end EngineBlock
end Go.Proofs.Ytegacggkdjgdiaa
