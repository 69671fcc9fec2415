/- Write of an engine at whatever block; Sync. -/
import Derived.Test.YtegacggkdjgdiaaEQ
set_option linter.unusedVariables false
set_option linter.unusedSimpArgs false
namespace Go.Proofs.Ytegacggkdjgdiaa
open Go.RowKit

/-- is there something ready that did not stand in the last Write? -/
def wact (l : List Wr) (i : Nat) : Bool := (readyL l (i : Int)).any fun x => !x.wr
def wgo (S : Nat → Bk) (l : List Wr) (i : Nat) : Bool := wact l i && !(S i).b
def wrS (S : Nat → Bk) (l : List Wr) (i : Nat) : Nat → Bk := if wgo S l i then upd S i ⟨(S i).s, (S i).v ++ [putL (S i).s (readyL l (i : Int))], (S i).b⟩ else S
def wrL (S : Nat → Bk) (l : List Wr) (i : Nat) : List Wr := if wgo S l i then markL l (readyL l (i : Int)) else l
def wrN (S : Nat → Bk) (l : List Wr) (i : Nat) : Int := if wgo S l i then ((readyL l (i : Int)).length : Int) else 0
def wrE (S : Nat → Bk) (l : List Wr) (i : Nat) : Int := if wact l i && (S i).b then 10 else 0
theorem length_wrL (S : Nat → Bk) (l : List Wr) (i : Nat) : (wrL S l i).length = l.length := by
  unfold wrL; split
  · exact length_markL _ _
  · rfl
theorem ewrite_any {w : World} {ge n cc : Nat} {S : Nat → Bk} {k : Int} {l : List Wr} {F : Nat → Prop} (h : Eng w ge n S cc k l F) {i : Nat} (hi : i < n) (hc : cc < 99999) :
    Calls Try.prog 12 #[.pointer (some ⟨ge, 0, none⟩), .int .i64 (i : Int)] w fun e w' => e = .returned (.tuple #[.int .i64 (wrN S l i), .int .i64 (wrE S l i)]) ∧ Went w w' F (Eng w' ge n (wrS S l i) (cc + 1) k (wrL S l i)) := by
  unfold wrN wrE wrS wrL wgo
  cases hu : wact l i with
  | false =>
    refine (ewrite_idle h hi hu).mono ?_
    rintro e w' ⟨rfl, hB⟩
    exact ⟨rfl, Went.of_below' ((h.fresh hB).mono (by omega)) hB⟩
  | true =>
    cases hb : (S i).b with
    | true =>
      refine (ewrite_bad h hi hu hb).mono ?_
      rintro e w' ⟨rfl, hB⟩
      exact ⟨rfl, Went.of_below' ((h.fresh hB).mono (by omega)) hB⟩
    | false =>
      refine (ewrite h hi hu hb hc).mono ?_
      rintro e w' ⟨rfl, hw⟩
      rw [hb] at hw
      exact ⟨rfl, hw⟩
/-- a Write of the first blocks, one behind the other -/
def rndS (S : Nat → Bk) (l : List Wr) : Nat → (Nat → Bk) × List Wr
  | 0 => (S, l)
  | j + 1 => (wrS (rndS S l j).1 (rndS S l j).2 j, wrL (rndS S l j).1 (rndS S l j).2 j)
theorem length_rnd (S : Nat → Bk) (l : List Wr) (j : Nat) : (rndS S l j).2.length = l.length := by
  induction j with
  | zero => rfl
  | succ j ih => unfold rndS; rw [length_wrL, ih]
/-- a round of Sync -/
def rouS (n : Nat) (S : Nat → Bk) (l : List Wr) : Nat → Bk := fun j => ((rndS S l n).1 j).flushed
def rouL (n : Nat) (S : Nat → Bk) (l : List Wr) : List Wr := leftL (rndS S l n).2
theorem length_rouL (n : Nat) (S : Nat → Bk) (l : List Wr) : (rouL n S l).length ≤ l.length := by
  unfold rouL
  have := (leftL_sub (rndS S l n).2).length_le
  rw [length_rnd] at this
  exact this
/-- what Sync makes, and its error -/
inductive Synced (n : Nat) : (Nat → Bk) → List Wr → (Nat → Bk) → List Wr → Int → Prop
  | done {S : Nat → Bk} : Synced n S [] S [] 0
  | stuck {S : Nat → Bk} {l : List Wr} (h : l ≠ []) (he : (rouL n S l).length = l.length) : Synced n S l (rouS n S l) (rouL n S l) 10
  | more {S : Nat → Bk} {l : List Wr} {S' : Nat → Bk} {l' : List Wr} {e : Int} (h : l ≠ []) (he : (rouL n S l).length ≠ l.length) (hr : Synced n (rouS n S l) (rouL n S l) S' l' e) : Synced n S l S' l' e
theorem went_trans {w w1 w2 : World} {F F1 F2 : Nat → Prop} (hk : Kept w w1 F) (hf : ∀ b, F1 b → F b ∨ w.heap.size ≤ b) (hk2 : Kept w1 w2 F1) (hf2 : ∀ b, F2 b → F1 b ∨ w1.heap.size ≤ b) : Kept w w2 F ∧ ∀ b, F2 b → F b ∨ w.heap.size ≤ b :=
  ⟨hk.trans hk2 hf, fun b q => by
    rcases hf2 b q with q | q
    · exact hf b q
    · have := hk.size; exact .inr (by omega)⟩
set_option maxRecDepth 100000 in
set_option maxHeartbeats 4000000 in
theorem esync {w : World} {ge n cc : Nat} {S : Nat → Bk} {k : Int} {l : List Wr} {F : Nat → Prop} (h : Eng w ge n S cc k l F) (hc : cc ≤ 70000) :
    Calls Try.prog 26 #[.pointer (some ⟨ge, 0, none⟩)] w fun e w' => ∃ S' l' r, e = .returned (.int .i64 r) ∧ Synced n S l S' l' r ∧ Went w w' F (fun F' => ∃ cc', cc' ≤ cc + 20000 ∧ Eng w' ge n S' cc' k l' F') := by
  have hn96 : n ≤ 96 := by obtain ⟨gd, A, c, Fd, h, rfl⟩ := h; exact (h.disk.size).2.1
  have hge : ge < w.heap.size := h.lt _ h.ptr
  have hfew : l.length ≤ 200 := by obtain ⟨gd, A, c, Fd, h, rfl⟩ := h; exact h.few
  have H := Lib.hid h
  have Hc2 : Hid (∀ (W : World) S' c' l' F', Eng W ge n S' c' k l' F' → ∃ A c, W.cell? ⟨ge, 2, none⟩ = some (.slice A l'.length c) ∧ ge < W.heap.size ∧ l'.length ≤ 200) := fun W S' c' l' F' hE => by
    obtain ⟨gd, A, c, Fd, h, rfl⟩ := hE
    exact ⟨A, c, h.head.c2, h.head.lt, h.few⟩
  clear h
  go_enter Try.func26, Try.ntmps26
  go_wp2
  go_loopg [3, 4] l.length (fun m _ _ wr => ∃ (S1 : Nat → Bk) (l1 : List Wr) (c1 : Nat) (F1 : Nat → Prop), l1.length ≤ m ∧ Hid (Eng wr ge n S1 c1 k l1 F1) ∧ c1 + 97 * m ≤ cc + 97 * l.length ∧ Hid (∀ S' l' r, Synced n S1 l1 S' l' r → Synced n S l S' l' r) ∧ Hid (Kept w wr F) ∧ Hid (∀ b, F1 b → F b ∨ w.heap.size ≤ b))
  case atStart => exact ⟨S, l, cc, F, Nat.le_refl _, H.out, Nat.le_refl _, fun _ _ _ q => q, Kept.refl _ _, fun b q => .inl q⟩
  case round =>
    obtain ⟨S1, l1, c1, F1, hlm, hE, hcc, hsy, hK, hF⟩ := hrel
    obtain ⟨A1, cp1, e2, hg1, hf1⟩ := Hc2.out _ _ _ _ _ hE.out
    by_cases hnil : l1 = []
    · subst hnil
      have h0 : ¬ (0 : Int) < ((([] : List Wr).length : Nat) : Int) := by simp
      go_wp2
      go_ret
      exact ⟨S1, [], 0, rfl, hsy.out _ _ _ Synced.done, F1, ⟨c1, by simp at hlm; omega, hE.out⟩, hK.out, hF.out⟩
    · have hpos : 0 < l1.length := List.length_pos_iff.2 hnil
      have hposi : (0 : Int) < (l1.length : Int) := by omega
      have Hnil := Lib.hid hnil
      obtain ⟨ln, hln⟩ : ∃ ln, ln = l1.length := ⟨_, rfl⟩
      have Hln := Lib.hid hln
      rw [← hln] at e2 hposi hf1 hlm
      have HSz := Lib.hid (esize hE.out)
      clear hnil hpos hln
      go_wp2_with (go_at_call 14; refine HSz.out.mono ?_; rintro e w1 ⟨rfl, rfl⟩)
      go_loopw [22, 4] (fun q _ wi => ∃ (j : Nat) (F2 : Nat → Prop), j ≤ n ∧ q = .int .i64 j ∧ Hid (Eng wi ge n (rndS S1 l1 j).1 (c1 + j) k (rndS S1 l1 j).2 F2) ∧ Hid (Kept w wi F) ∧ Hid (∀ b, F2 b → F b ∨ w.heap.size ≤ b)) (fun q _ _ => n - (intOf q).toNat)
      case atStart => exact ⟨0, F1, Nat.zero_le _, rfl, hE.out, hK.out, hF.out⟩
      case round =>
        obtain ⟨j, F2, hj, rfl, hE2, hK2, hF2⟩ := hrel
        rename World => wi
        by_cases hlt : j < n
        · have hlti : (j : Int) < (n : Int) := by omega
          have hj0 : (0 : Int) ≤ (j : Int) := by omega
          have HW := Lib.hid (ewrite_any hE2.out hlt (by omega))
          generalize wrN (rndS S1 l1 j).1 (rndS S1 l1 j).2 j = r1 at HW
          generalize wrE (rndS S1 l1 j).1 (rndS S1 l1 j).2 j = r2 at HW
          go_wp2_with (go_at_call 12; refine HW.out.mono ?_; rintro e w2 ⟨rfl, F3, hE3, hk3, hf3⟩; have HE3 := Lib.hid hE3; have HK3 := Lib.hid hk3; have HF3 := Lib.hid hf3; clear hE3 hk3 hf3)
          go_roundw
          case rel =>
            obtain ⟨t1, t2⟩ := went_trans hK2.out hF2.out HK3.out HF3.out
            exact ⟨j + 1, F3, by omega, by go_num, HE3.out, t1, t2⟩
          case measure => simp [intOf]; omega
        · obtain rfl : j = n := by omega
          have hlti : ¬ (j : Int) < (j : Int) := by omega
          have HFl := Lib.hid (eflush hE2.out (by omega))
          have hrl := length_rouL j S1 l1
          by_cases heq : (rouL j S1 l1).length = ln
          · have Heq := Lib.hid heq
            go_wp2_with (go_at_call 13; refine HFl.out.mono ?_; rintro e w3 ⟨rfl, F3, hE3, hk3, hf3⟩; have HE3 : Hid (Eng w3 ge j (rouS j S1 l1) (c1 + j) k (rouL j S1 l1) F3) := hE3; have HK3 := Lib.hid hk3; have HF3 := Lib.hid hf3; obtain ⟨A3, cp3, e3, hg3, _⟩ := Hc2.out _ _ _ _ _ HE3.out; rw [Heq.out] at e3; clear hE3 hk3 hf3)
            go_ret
            obtain ⟨t1, t2⟩ := went_trans hK2.out hF2.out HK3.out HF3.out
            exact ⟨_, _, 10, rfl, hsy.out _ _ _ (Synced.stuck Hnil.out (by rw [Heq.out, Hln.out])), F3, ⟨c1 + j, by omega, HE3.out⟩, t1, t2⟩
          · have hlr : (rouL j S1 l1).length < ln := by rw [Hln.out] at heq ⊢; omega
            have hne : ¬ (((rouL j S1 l1).length : Nat) : Int) = (ln : Int) := by omega
            have hneb : (((rouL j S1 l1).length : Int) == (ln : Int)) = false := by rw [beq_eq_false_iff_ne]; exact hne
            have Heq := Lib.hid heq
            obtain ⟨l3, hl3⟩ : ∃ l3, l3 = rouL j S1 l1 := ⟨_, rfl⟩
            have Hl3 := Lib.hid hl3
            rw [← hl3] at hlr hne hneb
            clear heq hl3 hrl
            go_wp2_with (go_at_call 13; refine HFl.out.mono ?_; rintro e w3 ⟨rfl, F3, hE3, hk3, hf3⟩; have HE3 : Hid (Eng w3 ge j (rouS j S1 l1) (c1 + j) k l3 F3) := (by rw [Hl3.out]; exact hE3); have HK3 := Lib.hid hk3; have HF3 := Lib.hid hf3; obtain ⟨A3, cp3, e3, hg3, _⟩ := Hc2.out _ _ _ _ _ HE3.out; clear hE3 hk3 hf3)
            go_roundg l3.length
            case rel =>
              obtain ⟨t1, t2⟩ := went_trans hK2.out hF2.out HK3.out HF3.out
              exact ⟨_, l3, c1 + j, F3, Nat.le_refl _, HE3.out, by omega, fun S' l' r q => hsy.out _ _ _ (Synced.more Hnil.out (by rw [← Hln.out]; exact Heq.out) (by rw [Hl3.out] at q; exact q)), t1, t2⟩
            case measure => omega
end Go.Proofs.Ytegacggkdjgdiaa
