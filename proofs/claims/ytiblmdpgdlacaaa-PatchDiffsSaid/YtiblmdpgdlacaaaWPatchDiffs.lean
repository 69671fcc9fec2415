/- PatchDiffs is true of every block and two bytes, and leaves its arguments as they are. Conditions: none. Here: the walk of the law's text. -/
import Derived.Test.YtiblmdpgdlacaaaUC
namespace Go.Proofs.Ytiblmdpgdlacaaa
open Go.RowKit

def diffA (bl : Int) (a b : List Int) : List Pt := if a.length = 32 ∧ b.length = 32 ∧ 0 ≤ bl ∧ bl < 96 then diffP bl b (df a b) 32 else []
section
variable {A A2 : Option Addr} {n c m c2 : Nat} {a b : List Int} {w : World} {bl : Int}
theorem diff_uni (h1 : Bts w w.heap.size A a) (h2 : Bts w w.heap.size A2 b) (hn : n = a.length) (hm : m = b.length) (hc2 : m ≤ c2) :
    Calls Try.prog 29 #[.int .i64 bl, .slice A n c, .slice A2 m c2] w fun e w' => ∃ v, e = .returned v ∧ OwnP w' w.heap.size v (diffA bl a b) ∧ Below w.heap.size w w' := by
  subst hn hm
  unfold diffA
  by_cases h : a.length = 32 ∧ b.length = 32 ∧ 0 ≤ bl ∧ bl < 96
  · rw [if_pos h, h.1, h.2.1]
    exact diff_yes bl A A2 c c2 a b w h.2.2.1 h.2.2.2 h1 h2 h.1 h.2.1 (by omega)
  · rw [if_neg h]
    refine (diff_bad bl A A2 _ c _ c2 w (by omega)).mono ?_
    rintro e w' ⟨rfl, rfl⟩
    exact ⟨_, rfl, World.ownsRow_nil _ _ _ _, Below.refl _ _⟩
theorem refdiff_uni (h1 : Bts w w.heap.size A a) (h2 : Bts w w.heap.size A2 b) (hn : n = a.length) (hm : m = b.length) (hc2 : m ≤ c2) :
    Calls Try.prog 30 #[.int .i64 bl, .slice A n c, .slice A2 m c2] w fun e w' => ∃ v, e = .returned v ∧ OwnP w' w.heap.size v (diffA bl a b) ∧ Below w.heap.size w w' := by
  subst hn hm
  unfold diffA
  by_cases h : a.length = 32 ∧ b.length = 32 ∧ 0 ≤ bl ∧ bl < 96
  · rw [if_pos h, h.1, h.2.1]
    exact refdiff_yes bl A A2 c c2 a b w h.2.2.1 h.2.2.2 h1 h2 h.1 h.2.1 (by omega)
  · rw [if_neg h]
    refine (refdiff_bad bl A A2 _ c _ c2 w (by omega)).mono ?_
    rintro e w' ⟨rfl, rfl⟩
    exact ⟨_, rfl, World.ownsRow_nil _ _ _ _, Below.refl _ _⟩
end
theorem length_diffA (bl : Int) (a b : List Int) : (diffA bl a b).length ≤ 32 := by
  unfold diffA
  split
  · exact length_diffP _ _ _ _
  · simp
theorem Qt.pats {w w' : World} {B : Nat} {A : Option Addr} {l : List Pt} (q : Qt w w') (h : Pats w B A l) : Pats w' B A l := by obtain ⟨n, rfl⟩ := q; exact h

set_option maxRecDepth 100000 in
set_option maxHeartbeats 1000000 in
theorem same_any (A1 A2 : Option Addr) (c1 c2 n : Nat) (l : List Pt) (w : World) (B1 B2 : Nat) (h1 : Pats w B1 A1 l) (h2 : Pats w B2 A2 l) (hn : n = l.length) (hl : l.length ≤ 1000) :
    Calls Try.prog 28 #[.slice A1 n c1, .slice A2 n c2] w fun e w' => e = .returned (.bool true) ∧ Below w.heap.size w w' := by
  subst hn
  have H1 := Lib.hid h1
  have H2 := Lib.hid h2
  clear h1 h2
  go_enter Try.func28, Try.ntmps28
  go_wp2
  go_loopw [5] (fun i wr => ∃ k : Nat, k ≤ l.length ∧ i = .int .i64 k ∧ Qt w wr) (fun i _ => l.length - (intOf i).toNat)
  case atStart => exact ⟨0, Nat.zero_le _, rfl, Qt.refl _⟩
  case round =>
    obtain ⟨k, hk, rfl, hq⟩ := hrel
    rename World => wr
    by_cases hlt : k < l.length
    · have hlti : (k : Int) < (l.length : Int) := by omega
      have hk0 : (0 : Int) ≤ (k : Int) := by omega
      obtain ⟨b1, o1, rfl, _, e1⟩ := (hq.pats H1.out) (by omega)
      obtain ⟨b2, o2, rfl, _, e2⟩ := (hq.pats H2.out) (by omega)
      obtain ⟨x0, x1, x2⟩ := e1 k hlt
      obtain ⟨y0, y1, y2⟩ := e2 k hlt
      obtain ⟨r, hr⟩ : ∃ r, r = pn l k := ⟨_, rfl⟩
      rw [← hr] at x0 x1 x2 y0 y1 y2
      have Hq := Lib.hid hq
      clear hq e1 e2 hr
      obtain ⟨rb, ro, rs⟩ := r
      simp only at x0 x1 x2 y0 y1 y2
      go_wp2_with fail
      go_quiet (fail)
      go_wp2
      go_roundw
      case rel => exact ⟨k + 1, by omega, by go_num, Hq.out.more _⟩
      case measure => simp [intOf]; omega
    · have hlti : ¬ (k : Int) < (l.length : Int) := by omega
      go_wp2
      go_ret
      exact ⟨rfl, hq.below _⟩
end Go.Proofs.Ytiblmdpgdlacaaa
namespace Go.Proofs.Ytiblmdpgdlacaaa.patchDiffs
open Go.RowKit

set_option maxRecDepth 100000 in
set_option maxHeartbeats 1000000 in
theorem walk (bl : Int) (a : Option Addr) (len cap : Nat) (z : List Int) (a2 : Option Addr) (len2 cap2 : Nat) (z2 : List Int) (w : World) (_ : (Lit.int .i64 bl).wf = true) (h0 : IsRow .u8 w a len cap z) (h1 : IsRow .u8 w a2 len2 cap2 z2) :
    Calls Try.prog 6 #[.int .i64 bl, .slice a len cap, .slice a2 len2 cap2] w fun e w' => e = .returned (.bool true) ∧ Below w.heap.size w w' := by
  obtain ⟨l, hl, hc1, hc2, hb⟩ := few_row h0
  obtain ⟨l2, hl2, hd1, hd2, hb2⟩ := few_row h1
  have F := Lib.hid (fun W => few_any a len cap W hc1 hc2)
  have G := Lib.hid (fun W => few_any a2 len2 cap2 W hd1 hd2)
  rw [← hl] at F
  rw [← hl2] at G
  have C1 := Lib.hid (fun W (h : Below w.heap.size w W) => diff_uni (bl := bl) (c := cap) (c2 := cap2) ((hb.below h).more h.size) ((hb2.below h).more h.size) rfl rfl (by omega))
  have C2 := Lib.hid (fun W (h : Below w.heap.size w W) => refdiff_uni (bl := bl) (c := cap) (c2 := cap2) ((hb.below h).more h.size) ((hb2.below h).more h.size) rfl rfl (by omega))
  have HD := Lib.hid (length_diffA bl l l2)
  obtain ⟨D, hD⟩ : ∃ D, D = diffA bl l l2 := ⟨_, rfl⟩
  rw [← hD] at C1 C2 HD
  obtain ⟨n, hn⟩ : ∃ n, n = l.length := ⟨_, rfl⟩
  obtain ⟨m, hm⟩ : ∃ m, m = l2.length := ⟨_, rfl⟩
  rw [← hn] at F C1 C2
  rw [← hm] at G C1 C2
  clear hb hb2 hD hn hm hl hl2 h0 h1 hc1 hc2 hd1 hd2
  go_enter Try.func6, Try.ntmps6
  go_wp2_with fail
  refine (live_any _).mono ?_
  rintro e w1 ⟨rfl, hB1⟩
  have HB1 := Lib.hid hB1
  clear hB1
  go_wp2_with (first
    | (go_at_call 11; (with_reducible refine (F.out _).mono ?_); rintro e w' ⟨rfl, rfl⟩)
    | (go_at_call 11; (with_reducible refine (G.out _).mono ?_); rintro e w' ⟨rfl, rfl⟩))
  refine (C1.out _ HB1.out).mono ?_
  rintro e w2 ⟨v1, rfl, ho1, hB2⟩
  obtain ⟨A1, c1, rfl, -, -, hp1⟩ := ho1.form
  have P1 := Lib.hid hp1
  have HB2 := Lib.hid (HB1.out.trans (hB2.mono HB1.out.size))
  clear ho1 hp1 hB2
  go_wp2_with (first
    | (go_at_call 11; (with_reducible refine (F.out _).mono ?_); rintro e w' ⟨rfl, rfl⟩)
    | (go_at_call 11; (with_reducible refine (G.out _).mono ?_); rintro e w' ⟨rfl, rfl⟩))
  refine (C2.out _ HB2.out).mono ?_
  rintro e w3 ⟨v2, rfl, ho2, hB3⟩
  obtain ⟨A2, c2, rfl, -, -, hp2⟩ := ho2.form
  have P2 := Lib.hid (show Pats w3 w3.heap.size A1 D ∧ Pats w3 w3.heap.size A2 D from ⟨(P1.out.below hB3).more hB3.size, hp2⟩)
  have HB3 := Lib.hid (HB2.out.trans (hB3.mono HB2.out.size))
  clear ho2 hp2 hB3
  go_wp2_with fail
  refine (same_any A1 A2 c1 c2 _ D _ _ _ P2.out.1 P2.out.2 rfl (by have := HD.out; omega)).mono ?_
  rintro e w4 ⟨rfl, hB4⟩
  have HB4 := Lib.hid (HB3.out.trans (hB4.mono HB3.out.size))
  clear hB4
  go_wp2
  go_ret
  exact ⟨rfl, HB4.out⟩
end Go.Proofs.Ytiblmdpgdlacaaa.patchDiffs
