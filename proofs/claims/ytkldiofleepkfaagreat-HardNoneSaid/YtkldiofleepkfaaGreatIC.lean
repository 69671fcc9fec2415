/- Write of any block, Flush and Sync of an engine that writes together. -/
import Derived.Test.YtkldiofleepkfaaGreatIB
set_option linter.unusedVariables false
set_option linter.unusedSimpArgs false
namespace Go.Proofs.YtkldiofleepkfaaGreat.Hd
open Go.RowKit
open Go.Maps (Keyed)
/-- would a Write of a block send a unit more -/
def wact (s : Hs) (i : Nat) : Bool := (readyU s.l (i : Int)).any fun u => !s.sent.contains u
def wgo (S : Nat → Bk) (s : Hs) (i : Nat) : Bool := wact s i && !(S i).b
/-- the disk, what it is besides, the number and the error of a Write -/
def wrS (S : Nat → Bk) (s : Hs) (i : Nat) : Nat → Bk := if wgo S s i then upd S i ⟨(S i).s, (S i).v ++ [putH (S i).s (setU s.l (readyU s.l (i : Int)))], (S i).b⟩ else S
def wrH (S : Nat → Bk) (s : Hs) (i : Nat) : Hs := if wgo S s i then { s with sent := s.sent ++ readyU s.l (i : Int) } else s
def wrN (S : Nat → Bk) (s : Hs) (i : Nat) : Int := if wgo S s i then ((setU s.l (readyU s.l (i : Int))).length : Int) else 0
def wrE (S : Nat → Bk) (s : Hs) (i : Nat) : Int := if wact s i && (S i).b then 10 else 0
theorem wrH_k (S : Nat → Bk) (s : Hs) (i : Nat) : (wrH S s i).k = s.k := by unfold wrH; split <;> rfl
theorem wrH_l (S : Nat → Bk) (s : Hs) (i : Nat) : (wrH S s i).l = s.l := by unfold wrH; split <;> rfl
theorem wrH_cnt {S : Nat → Bk} {s : Hs} {i : Nat} (h : s.Cnt) : (wrH S s i).Cnt := by unfold wrH; split; exact ⟨h.j0, h.i0, h.k0, h.le⟩; exact h
/-- behind a Flush -/
def flH (s : Hs) : Hs := { s with l := lessU s.l s.sent, sent := [] }
theorem flH_cnt {s : Hs} (h : s.Cnt) : (flH s).Cnt := ⟨h.j0, h.i0, h.k0, h.le⟩
section
variable {w : World} {g n cc : Nat} {S : Nat → Bk} {s : Hs} {F : Nat → Prop}
theorem EngS.fresh {w' : World} (h : EngS w g n S cc s F) (hb : Below w.heap.size w w') : EngS w' g n S cc s F := Eng.fresh h hb
theorem EngS.upto {cc' : Nat} (h : EngS w g n S cc s F) (hc : cc ≤ cc') : EngS w g n S cc' s F := Eng.mono h hc
theorem EngS.lt (h : EngS w g n S cc s F) : ∀ b, F b → b < w.heap.size := Eng.lt h
theorem hwrite_any (h : EngS w g n S cc s F) {i : Nat} (hi : i < n) (hcc : cc ≤ 99998) (hk : s.k ≤ 1000000) :
    Calls Tryz.prog 19 #[.pointer (some ⟨g, 0, none⟩), .int .i64 (i : Int)] w fun e w' => e = .returned (.tuple #[.int .i64 (wrN S s i), .int .i64 (wrE S s i)]) ∧ Went w w' F (EngS w' g n (wrS S s i) (cc + 1) (wrH S s i)) := by
  unfold wrN wrE wrS wrH wgo
  cases hu : wact s i with
  | false =>
    refine (hwrite_idle h (by omega) hk hi hu).mono ?_
    rintro e w' ⟨rfl, hB⟩
    exact ⟨rfl, Went.of_below' ((h.fresh hB).upto (by omega)) hB⟩
  | true =>
    cases hb : (S i).b with
    | true =>
      refine (hwrite_bad h (by omega) hk hi hu hb).mono ?_
      rintro e w' ⟨rfl, hB⟩
      exact ⟨rfl, Went.of_below' ((h.fresh hB).upto (by omega)) hB⟩
    | false =>
      refine (hwrite_ok h hcc hk hi hu hb).mono ?_
      rintro e w' ⟨rfl, hw⟩
      rw [hb] at hw
      exact ⟨rfl, hw⟩
theorem hflush_any (h : EngS w g n S cc s F) (hcc : cc < 100000) (hk : s.k ≤ 1000000) :
    Calls Tryz.prog 21 #[.pointer (some ⟨g, 0, none⟩)] w fun e w' => e = .returned (.int .i64 0) ∧ Went w w' F (EngS w' g n (fun j => (S j).flushed) cc (flH s)) := hflush h hcc hk
end
theorem units_lessT (l : List Hw) (T : List Int) : (units (lessU l T)).length ≤ (units l).length := by
  unfold units heads
  rw [List.length_map, List.length_map]
  exact ((List.filter_sublist (l := l) (p := fun x => !T.contains x.u)).filter (fun x : Hw => x.num == x.u)).length_le
theorem units_none {l : List Hw} (h : Ok l) (e : units l = []) : l = [] := by
  cases l with
  | nil => rfl
  | cons x r =>
    obtain ⟨y, hy, e1, e2, _⟩ := h.head x List.mem_cons_self
    have : y.num ∈ units (x :: r) := mem_units.2 ⟨y, hy, rfl, by rw [e2, e1]⟩
    rw [e] at this; cases this
/-- a Write of the first blocks, one behind the other -/
def rnd (S : Nat → Bk) (s : Hs) : Nat → (Nat → Bk) × Hs
  | 0 => (S, s)
  | j + 1 => (wrS (rnd S s j).1 (rnd S s j).2 j, wrH (rnd S s j).1 (rnd S s j).2 j)
theorem rnd_k (S : Nat → Bk) (s : Hs) (j : Nat) : (rnd S s j).2.k = s.k := by
  induction j with
  | zero => rfl
  | succ j ih => unfold rnd; rw [wrH_k, ih]
theorem rnd_l (S : Nat → Bk) (s : Hs) (j : Nat) : (rnd S s j).2.l = s.l := by
  induction j with
  | zero => rfl
  | succ j ih => unfold rnd; rw [wrH_l, ih]
/-- a round of Sync -/
def rouS (n : Nat) (S : Nat → Bk) (s : Hs) : Nat → Bk := fun j => ((rnd S s n).1 j).flushed
def rouH (n : Nat) (S : Nat → Bk) (s : Hs) : Hs := flH (rnd S s n).2
theorem rouH_k (n : Nat) (S : Nat → Bk) (s : Hs) : (rouH n S s).k = s.k := rnd_k S s n
theorem rouH_len (n : Nat) (S : Nat → Bk) (s : Hs) : (units (rouH n S s).l).length ≤ (units s.l).length := by
  unfold rouH flH
  have h := units_lessT (rnd S s n).2.l (rnd S s n).2.sent
  rw [rnd_l] at h ⊢
  exact h
/-- what Sync makes, and its error -/
inductive Synced (n : Nat) : (Nat → Bk) → Hs → (Nat → Bk) → Hs → Int → Prop
  | done {S : Nat → Bk} {s : Hs} (h : s.l = []) : Synced n S s S s 0
  | stuck {S : Nat → Bk} {s : Hs} (h : s.l ≠ []) (he : (units (rouH n S s).l).length = (units s.l).length) : Synced n S s (rouS n S s) (rouH n S s) 10
  | more {S : Nat → Bk} {s : Hs} {S' : Nat → Bk} {s' : Hs} {e : Int} (h : s.l ≠ []) (he : (units (rouH n S s).l).length ≠ (units s.l).length) (hr : Synced n (rouS n S s) (rouH n S s) S' s' e) : Synced n S s S' s' e
set_option maxRecDepth 100000 in
set_option maxHeartbeats 4000000 in
theorem hsync {w : World} {g n cc : Nat} {S : Nat → Bk} {s : Hs} {F : Nat → Prop} (h : EngS w g n S cc s F) (hc : cc ≤ 70000) (hn5 : n ≤ 5) (hk : s.k ≤ 1000000) :
    Calls Tryz.prog 25 #[.pointer (some ⟨g, 0, none⟩)] w fun e w' => ∃ S' s' r, e = .returned (.int .i64 r) ∧ Synced n S s S' s' r ∧ Went w w' F (fun F' => ∃ cc', cc' ≤ cc + 1200 ∧ EngS w' g n S' cc' s' F') := by
  have hge : g < w.heap.size := by obtain ⟨gd, m, Fd, h, rfl⟩ := h; exact h.glt
  have hfew : (units s.l).length ≤ 200 := by obtain ⟨gd, m, Fd, h, rfl⟩ := h; exact Nat.le_trans (units_len _) h.few
  have H := Lib.hid h
  have Hc2 : Hid (∀ (W : World) S' c' s' F', EngS W g n S' c' s' F' → ∃ (gb : Nat) (D : DataW Value), W.cell? ⟨g, 5, none⟩ = some (.map (some gb)) ∧ W.ownsMap Tryz.prog 3 RV gb c' D ∧ Maps.size D = (units s'.l).length ∧ g < W.heap.size ∧ (units s'.l).length ≤ 200 ∧ (units s'.l = [] → s'.l = [])) := fun W S' c' s' F' hE => by
    obtain ⟨gd, m, Fd, h, rfl⟩ := hE
    obtain ⟨D, h1, h2⟩ := h.usize
    exact ⟨_, D, h.c5, h1, h2, h.glt, Nat.le_trans (units_len _) h.few, units_none h.ok⟩
  clear h
  go_enter Tryz.func25, Tryz.ntmps25
  go_wp2
  go_loopg [3, 4] (units s.l).length (fun m _ _ wr => ∃ (S1 : Nat → Bk) (s1 : Hs) (c1 : Nat) (F1 : Nat → Prop), (units s1.l).length ≤ m ∧ Hid (EngS wr g n S1 c1 s1 F1) ∧ Hid (s1.k = s.k) ∧ c1 + 6 * m ≤ cc + 6 * (units s.l).length ∧ Hid (∀ S' s' r, Synced n S1 s1 S' s' r → Synced n S s S' s' r) ∧ Hid (Kept w wr F) ∧ Hid (∀ b, F1 b → F b ∨ w.heap.size ≤ b))
  case atStart => exact ⟨S, s, cc, F, Nat.le_refl _, H.out, rfl, Nat.le_refl _, fun _ _ _ q => q, Kept.refl _ _, fun b q => .inl q⟩
  case round =>
    obtain ⟨S1, s1, c1, F1, hlm, hE, hks, hcc, hsy, hK, hF⟩ := hrel
    obtain ⟨gb, D1, e5, hD1, hDs, hg1, hf1, hno⟩ := Hc2.out _ _ _ _ _ hE.out
    have HD1 := Lib.hid hD1
    have Hno := Lib.hid hno
    obtain ⟨ln, hln⟩ : ∃ ln, ln = (units s1.l).length := ⟨_, rfl⟩
    have Hln := Lib.hid hln
    have HDs : Hid (Maps.size D1 = ln) := hDs.trans hln.symm
    rw [← hln] at hf1 hlm
    clear hD1 hno hDs hln
    by_cases hnil : ln = 0
    · subst hnil
      have h0 : ¬ (0 : Int) < ((0 : Nat) : Int) := by simp
      go_wp2_with (at_len; refine wpList_len_own _ rfl _ 87 rfl 3 108 Tryz.underlying87 RV gb c1 D1 rfl HD1.out ?_; rw [HDs.out])
      go_ret
      exact ⟨S1, s1, 0, rfl, hsy.out _ _ _ (Synced.done (Hno.out (List.length_eq_zero_iff.1 Hln.out.symm))), F1, ⟨c1, by simp at hlm; omega, hE.out⟩, hK.out, hF.out⟩
    · have hpos : 0 < ln := by omega
      have hposi : (0 : Int) < (ln : Int) := by omega
      have Hnil : Hid (s1.l ≠ []) := fun e => by have := Hln.out; rw [e] at this; exact hnil this
      have HSz := Lib.hid (hsize hE.out)
      clear hnil hpos
      go_wp2_with (first
        | (at_len; refine wpList_len_own _ rfl _ 87 rfl 3 108 Tryz.underlying87 RV gb c1 D1 rfl HD1.out ?_; rw [HDs.out])
        | (go_at_call 29; refine HSz.out.mono ?_; rintro e w1 ⟨rfl, rfl⟩))
      go_loopw [20, 4] (fun q _ wi => ∃ (j : Nat) (F2 : Nat → Prop), j ≤ n ∧ q = .int .i64 j ∧ Hid (EngS wi g n (rnd S1 s1 j).1 (c1 + j) (rnd S1 s1 j).2 F2) ∧ Hid (Kept w wi F) ∧ Hid (∀ b, F2 b → F b ∨ w.heap.size ≤ b)) (fun q _ _ => n - (intOf q).toNat)
      case atStart => exact ⟨0, F1, Nat.zero_le _, rfl, hE.out, hK.out, hF.out⟩
      case round =>
        obtain ⟨j, F2, hj, rfl, hE2, hK2, hF2⟩ := hrel
        rename World => wi
        have hk2 : (rnd S1 s1 j).2.k ≤ 1000000 := by rw [rnd_k, hks.out]; exact hk
        have Hk2 := Lib.hid hk2
        clear hk2
        by_cases hlt : j < n
        · have hlti : (j : Int) < (n : Int) := by omega
          have hj0 : (0 : Int) ≤ (j : Int) := by omega
          have HW := Lib.hid (hwrite_any hE2.out hlt (by omega) Hk2.out)
          generalize wrN (rnd S1 s1 j).1 (rnd S1 s1 j).2 j = r1 at HW
          generalize wrE (rnd S1 s1 j).1 (rnd S1 s1 j).2 j = r2 at HW
          go_wp2_with (go_at_call 19; refine HW.out.mono ?_; rintro e w2 ⟨rfl, F3, hE3, hk3, hf3⟩; have HE3 := Lib.hid hE3; have HK3 := Lib.hid hk3; have HF3 := Lib.hid hf3; clear hE3 hk3 hf3)
          go_roundw
          case rel =>
            obtain ⟨t1, t2⟩ := went_trans hK2.out hF2.out HK3.out HF3.out
            exact ⟨j + 1, F3, by omega, by go_num, HE3.out, t1, t2⟩
          case measure => simp [intOf]; omega
        · obtain rfl : j = n := by omega
          have hlti : ¬ (j : Int) < (j : Int) := by omega
          have HFl := Lib.hid (hflush_any hE2.out (by omega) Hk2.out)
          obtain ⟨l3, hl3⟩ : ∃ l3, l3 = (units (rouH j S1 s1).l).length := ⟨_, rfl⟩
          have Hl3 := Lib.hid hl3
          have hrl : l3 ≤ ln := by rw [hl3, Hln.out]; exact rouH_len j S1 s1
          clear hl3
          by_cases heq : l3 = ln
          · have Heq := Lib.hid heq
            clear hrl heq
            go_wp2_with (first
              | (at_len; refine wpList_len_own _ rfl _ 87 rfl 3 108 Tryz.underlying87 RV gb3 (c1 + j) D3 rfl HD3.out ?_; rw [HDs3.out])
              | (go_at_call 21; refine HFl.out.mono ?_; rintro e w3 ⟨rfl, F3, hE3, hk3, hf3⟩; have HE3 : Hid (EngS w3 g j (rouS j S1 s1) (c1 + j) (rouH j S1 s1) F3) := hE3; have HK3 := Lib.hid hk3; have HF3 := Lib.hid hf3; obtain ⟨gb3, D3, e3, hD3, hDs3, hg3, _⟩ := Hc2.out _ _ _ _ _ HE3.out; have HD3 := Lib.hid hD3; have HDs3 : Hid (Maps.size D3 = ln) := hDs3.trans (Hl3.out.symm.trans Heq.out); clear hE3 hk3 hf3 hD3 hDs3))
            go_ret
            obtain ⟨t1, t2⟩ := went_trans hK2.out hF2.out HK3.out HF3.out
            exact ⟨_, _, 10, rfl, hsy.out _ _ _ (Synced.stuck Hnil.out (by rw [← Hl3.out, Heq.out, Hln.out])), F3, ⟨c1 + j, by omega, HE3.out⟩, t1, t2⟩
          · have hlr : l3 < ln := by omega
            have hne : ¬ ((l3 : Int) = (ln : Int)) := by omega
            have hneb : ((l3 : Int) == (ln : Int)) = false := by rw [beq_eq_false_iff_ne]; exact hne
            have Heq := Lib.hid heq
            clear heq hrl
            go_wp2_with (first
              | (at_len; refine wpList_len_own _ rfl _ 87 rfl 3 108 Tryz.underlying87 RV gb3 (c1 + j) D3 rfl HD3.out ?_; rw [HDs3.out])
              | (go_at_call 21; refine HFl.out.mono ?_; rintro e w3 ⟨rfl, F3, hE3, hk3, hf3⟩; have HE3 : Hid (EngS w3 g j (rouS j S1 s1) (c1 + j) (rouH j S1 s1) F3) := hE3; have HK3 := Lib.hid hk3; have HF3 := Lib.hid hf3; obtain ⟨gb3, D3, e3, hD3, hDs3, hg3, _⟩ := Hc2.out _ _ _ _ _ HE3.out; have HD3 := Lib.hid hD3; have HDs3 : Hid (Maps.size D3 = l3) := hDs3.trans Hl3.out.symm; clear hE3 hk3 hf3 hD3 hDs3))
            go_roundg l3
            case rel =>
              obtain ⟨t1, t2⟩ := went_trans hK2.out hF2.out HK3.out HF3.out
              exact ⟨_, _, c1 + j, F3, Nat.le_of_eq Hl3.out.symm, HE3.out, (rouH_k j S1 s1).trans hks.out, by omega, fun S' s' r q => hsy.out _ _ _ (Synced.more Hnil.out (by rw [← Hln.out, ← Hl3.out]; exact Heq.out) q), t1, t2⟩
            case measure => omega
end Go.Proofs.YtkldiofleepkfaaGreat.Hd
