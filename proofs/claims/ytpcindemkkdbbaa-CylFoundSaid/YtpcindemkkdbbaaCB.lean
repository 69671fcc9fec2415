/- Contracts of Spread, the program's and the document's. -/
import Derived.Test.YtpcindemkkdbbaaCA
import Derived.RegionTactic
import Derived.ChangeAlike
namespace Go.Proofs.Ytpcindemkkdbbaa
set_option linter.unusedVariables false
set_option linter.unusedSimpArgs false
open Go.RowKit

def mostTo (m : Int) (l : List Cy) : Nat → Int
  | 0 => m
  | k + 1 => max (mostTo m l k) (cyN l k).fb
def leastTo (m : Int) (l : List Cy) : Nat → Int
  | 0 => m
  | k + 1 => min (leastTo m l k) (cyN l k).fb
theorem most_in {l : List Cy} {m : Int} (hm : 0 ≤ m ∧ m ≤ 64) (h : ∀ i, i < l.length → 0 ≤ (cyN l i).fb ∧ (cyN l i).fb ≤ 64) : ∀ k : Nat, k ≤ l.length → 0 ≤ mostTo m l k ∧ mostTo m l k ≤ 64 := by
  intro k
  induction k with
  | zero => intro _; exact hm
  | succ k ih =>
    intro hk
    have h1 := ih (by omega)
    have h2 := h k (by omega)
    simp only [mostTo]; omega
theorem least_in {l : List Cy} {m : Int} (hm : 0 ≤ m ∧ m ≤ 64) (h : ∀ i, i < l.length → 0 ≤ (cyN l i).fb ∧ (cyN l i).fb ≤ 64) : ∀ k : Nat, k ≤ l.length → 0 ≤ leastTo m l k ∧ leastTo m l k ≤ 64 := by
  intro k
  induction k with
  | zero => intro _; exact hm
  | succ k ih =>
    intro hk
    have h1 := ih (by omega)
    have h2 := h k (by omega)
    simp only [leastTo]; omega
theorem most_same {l : List Cy} (h : ∀ i, i < l.length → 0 ≤ (cyN l i).fb ∧ (cyN l i).fb ≤ 64) : ∀ k : Nat, k < l.length → mostTo (cyN l 0).fb l (k + 1) = mostTo 0 l (k + 1) ∧ leastTo (cyN l 0).fb l (k + 1) = leastTo 64 l (k + 1) := by
  intro k
  induction k with
  | zero =>
    intro hk
    have := h 0 hk
    simp only [mostTo, leastTo]; omega
  | succ k ih =>
    intro hk
    obtain ⟨h1, h2⟩ := ih (by omega)
    have e1 : mostTo (cyN l 0).fb l (k + 1 + 1) = max (mostTo (cyN l 0).fb l (k + 1)) (cyN l (k + 1)).fb := rfl
    have e2 : leastTo (cyN l 0).fb l (k + 1 + 1) = min (leastTo (cyN l 0).fb l (k + 1)) (cyN l (k + 1)).fb := rfl
    rw [e1, e2, h1, h2]
    exact ⟨rfl, rfl⟩
def spreadL (l : List Cy) : Int := if wholeL l then mostTo 0 l l.length - leastTo 64 l l.length else 0

set_option maxRecDepth 100000 in
set_option maxHeartbeats 2000000 in
theorem spread_any (A : Option Addr) (c n : Nat) (l : List Cy) (hn : n = l.length) (w : World) (hs : SmallL l) (hI : Cyls w w.heap.size A l) :
    Calls Try.prog 41 #[.slice A n c] w fun e w' => e = .returned (.int .i64 (spreadL l)) ∧ Below w.heap.size w w' := by
  have hn1 : n ≤ 1000 := by have := hs.1; omega
  have HWh : Hid (Calls Try.prog 31 #[.slice A n c] w fun e w' => e = .returned (.bool (wholeL l)) ∧ Below w.heap.size w w') := whole_any A c n l hn w hs hI
  obtain ⟨Q, hQ⟩ : ∃ Q : Ending → World → Prop, Q = fun e w' => e = .returned (.int .i64 (spreadL l)) ∧ Below w.heap.size w w' := ⟨_, rfl⟩
  rw [← hQ]
  by_cases hW : wholeL l = true
  · have HQ : Hid (∀ w', Below w.heap.size w w' → Q (.returned (.int .i64 (mostTo 0 l n - leastTo 64 l n))) w') := by unfold Hid; rw [hQ]; exact fun w' h => ⟨by unfold spreadL; rw [if_pos hW, hn], h⟩
    have hWo := (wholeL_iff l).1 hW
    have hn16 : n ≤ 16 := by have := hWo.n2; omega
    have HSB := Lib.hid (most_in (l := l) (m := 0) (by omega) fun i hi => (hWo.ok i hi).fb_in)
    have HSI := Lib.hid (least_in (l := l) (m := 64) (by omega) fun i hi => (hWo.ok i hi).fb_in)
    have HO := Lib.hid hWo
    rw [hW] at HWh
    have Hn := Lib.hid hn
    have HI := Lib.hid hI
    clear hQ hI hs hn hW hWo
    go_enter Try.func41, Try.ntmps41
    go_wp2_with fail
    refine HWh.out.mono ?_
    rintro e W1 ⟨rfl, hB1⟩
    have HB1 := Lib.hid hB1
    clear hB1
    go_wp2_with fail
    go_loopw [3, 4, 12] (fun x y i wr => ∃ k : Nat, k ≤ n ∧ i = .int .i64 k ∧ x = .int .i64 (mostTo 0 l k) ∧ y = .int .i64 (leastTo 64 l k) ∧ Below w.heap.size w wr) (fun _ _ i _ => n - (intOf i).toNat)
    case atStart => exact ⟨0, Nat.zero_le _, rfl, rfl, rfl, HB1.out⟩
    case round =>
      obtain ⟨k, hk, rfl, rfl, rfl, hB⟩ := hrel
      rename World => wr
      have HB := Lib.hid hB
      have hsz := hB.size
      have hk0 : (0 : Int) ≤ (k : Int) := by omega
      by_cases hlt : k < n
      · have hlti : (k : Int) < (n : Int) := by omega
        have hkl : k < l.length := by rw [← Hn.out]; exact hlt
        obtain ⟨b, off, Ak, ck, A2k, c2k, rfl, hb, hx⟩ := HI.out.at_ hkl
        replace hx := (hx.keep (w' := wr) hb (fun p hp => hB.cell hp)).more hB.size
        obtain ⟨c0, c1, c2, c3, c4, c5, c6, hU, hV⟩ := hx
        have hb1 := HSB.out k (by omega)
        have hi1 := HSI.out k (by omega)
        have Hb2 : Hid (mostTo 0 l (k + 1) = max (mostTo 0 l k) (cyN l k).fb) := rfl
        have Hi2 : Hid (leastTo 64 l (k + 1) = min (leastTo 64 l k) (cyN l k).fb) := rfl
        have hf1 := (HO.out.ok k hkl).fb_in
        obtain ⟨sb, hsb⟩ : ∃ sb, sb = mostTo 0 l k := ⟨_, rfl⟩
        obtain ⟨si, hsi⟩ : ∃ si, si = leastTo 64 l k := ⟨_, rfl⟩
        rw [← hsb] at hb1 Hb2 ⊢
        rw [← hsi] at hi1 Hi2 ⊢
        obtain ⟨x, hx⟩ : ∃ x, x = cyN l k := ⟨_, rfl⟩
        rw [← hx] at c0 c1 c2 c3 c4 c5 c6 hf1 Hb2 Hi2
        clear hx hU hV hkl hB hsb hsi
        obtain ⟨ix, bl, fb, fi, ro, us, is⟩ := x
        simp only at c0 c1 c2 c3 c4 c5 c6 hf1 Hb2 Hi2
        have f1 := hf1.1
        have f2 := hf1.2
        have f5 := hb1.1
        have f6 := hb1.2
        have f7 := hi1.1
        have f8 := hi1.2
        obtain ⟨n1, h1⟩ : ∃ n1, n1 = us.length := ⟨_, rfl⟩
        obtain ⟨n2, h2⟩ : ∃ n2, n2 = is.length := ⟨_, rfl⟩
        rw [← h1] at c5
        rw [← h2] at c6
        have HB3 := Lib.hid (HB.out.alloc hsz (.cells #[.int .i64 ix, .int .i64 bl, .int .i64 fb, .int .i64 fi, .int .i64 ro, .slice Ak n1 ck, .slice A2k n2 c2k] 24))
        have z := seven (Go.heap_alloc_new wr (.cells #[.int .i64 ix, .int .i64 bl, .int .i64 fb, .int .i64 fi, .int .i64 ro, .slice Ak n1 ck, .slice A2k n2 c2k] 24))
        have z2 := z.2.2.1
        clear h1 h2 hf1 hb1 hi1 z
        go_wp2_with fail
        generalize wr.alloc (.cells #[.int .i64 ix, .int .i64 bl, .int .i64 fb, .int .i64 fi, .int .i64 ro, .slice Ak n1 ck, .slice A2k n2 c2k] 24) = wz at z2 HB3 ⊢
        go_region
        go_wp2_with fail
        go_roundw
        case rel => exact ⟨k + 1, by omega, by go_num, by rw [Hb2.out], by rw [Hi2.out], ⟨HB3.out.os, HB3.out.tape, HB3.out.output, HB3.out.size, HB3.out.block⟩⟩
        case measure => simp [intOf]; omega
      · have hlti : ¬ (k : Int) < (n : Int) := by omega
        obtain rfl : k = n := by omega
        have hb1 := HSB.out k (by rw [← Hn.out]; omega)
        have hi1 := HSI.out k (by rw [← Hn.out]; omega)
        obtain ⟨sb, hsb⟩ : ∃ sb, sb = mostTo 0 l k := ⟨_, rfl⟩
        obtain ⟨si, hsi⟩ : ∃ si, si = leastTo 64 l k := ⟨_, rfl⟩
        rw [← hsb] at hb1 HQ ⊢
        rw [← hsi] at hi1 HQ ⊢
        have f5 := hb1.1
        have f6 := hb1.2
        have f7 := hi1.1
        have f8 := hi1.2
        clear hB hb1 hi1 hsb hsi
        go_wp2_with fail
        exact HQ.out _ HB.out
  · have hW' : wholeL l = false := by simpa using hW
    have HQ : Hid (∀ w', Below w.heap.size w w' → Q (.returned (.int .i64 0)) w') := by unfold Hid; rw [hQ]; exact fun w' h => ⟨by unfold spreadL; rw [if_neg hW], h⟩
    rw [hW'] at HWh
    clear hQ hI hs hn hW hW'
    go_enter Try.func41, Try.ntmps41
    go_wp2_with fail
    refine HWh.out.mono ?_
    rintro e W1 ⟨rfl, hB1⟩
    have HB1 := Lib.hid hB1
    clear hB1
    go_wp2_with fail
    exact HQ.out _ HB1.out

set_option maxRecDepth 100000 in
set_option maxHeartbeats 4000000 in
theorem refspread_any (A : Option Addr) (c n : Nat) (l : List Cy) (hn : n = l.length) (w : World) (hs : SmallL l) (hI : Cyls w w.heap.size A l) :
    Calls Try.prog 42 #[.slice A n c] w fun e w' => e = .returned (.int .i64 (spreadL l)) ∧ Below w.heap.size w w' := by
  have hn1 : n ≤ 1000 := by have := hs.1; omega
  have HWh : Hid (Calls Try.prog 32 #[.slice A n c] w fun e w' => e = .returned (.bool (wholeL l)) ∧ Below w.heap.size w w') := refwhole_any A c n l hn w hs hI
  obtain ⟨Q, hQ⟩ : ∃ Q : Ending → World → Prop, Q = fun e w' => e = .returned (.int .i64 (spreadL l)) ∧ Below w.heap.size w w' := ⟨_, rfl⟩
  rw [← hQ]
  by_cases hW : wholeL l = true
  · have hWo := (wholeL_iff l).1 hW
    have hn0 : 0 < n := by have := hWo.n1; omega
    have hb64 : ∀ i, i < l.length → 0 ≤ (cyN l i).fb ∧ (cyN l i).fb ≤ 64 := fun i hi => (hWo.ok i hi).fb_in
    have HQ : Hid (∀ w', Below w.heap.size w w' → Q (.returned (.int .i64 (mostTo (cyN l 0).fb l n - leastTo (cyN l 0).fb l n))) w') := by
      unfold Hid; rw [hQ]
      intro w' h
      obtain ⟨m, rfl⟩ : ∃ m, n = m + 1 := ⟨n - 1, by omega⟩
      obtain ⟨h1, h2⟩ := most_same hb64 m (by omega)
      exact ⟨by unfold spreadL; rw [if_pos hW, ← hn, h1, h2], h⟩
    have hn16 : n ≤ 16 := by have := hWo.n2; omega
    have HSB := Lib.hid (most_in (l := l) (hb64 0 (by omega)) hb64)
    have HSI := Lib.hid (least_in (l := l) (hb64 0 (by omega)) hb64)
    have HO := Lib.hid hb64
    rw [hW] at HWh
    have Hn := Lib.hid hn
    have HI := Lib.hid hI
    have hn0i : (0 : Int) < (n : Int) := by omega
    obtain ⟨b, off, A0, ch0, A20, c20, hA, hb, hx0⟩ := hI.at_ (k := 0) (by omega)
    have HC0 : Hid (∀ W, Below w.heap.size w W → W.cell? ⟨b, off + 0 * 7 + 2, none⟩ = some (.int .i64 (cyN l 0).fb)) := fun W hW => (hW.cell (p := ⟨b, off + 0 * 7 + 2, none⟩) hb).trans hx0.c2
    obtain ⟨z, hz⟩ : ∃ z, z = (cyN l 0).fb := ⟨_, rfl⟩
    rw [← hz] at HQ HSB HSI HC0
    clear hQ hI hs hn hW hWo hx0 hb64 hz
    subst hA
    go_enter Try.func42, Try.ntmps42
    go_wp2_with fail
    refine HWh.out.mono ?_
    rintro e W1 ⟨rfl, hB1⟩
    have HB1 := Lib.hid hB1
    have k0 := HC0.out _ hB1
    rw [Nat.zero_mul, Nat.add_zero] at k0
    clear hB1
    go_wp2_with fail
    go_quiet (fail)
    go_wp2_with fail
    go_loopw [3, 4, 5] (fun x y i wr => ∃ k : Nat, k ≤ n ∧ i = .int .i64 k ∧ x = .int .i64 (mostTo z l k) ∧ y = .int .i64 (leastTo z l k) ∧ Below w.heap.size w wr) (fun _ _ i _ => n - (intOf i).toNat)
    case atStart => exact ⟨0, Nat.zero_le _, rfl, rfl, rfl, bdn HB1.out _⟩
    case round =>
      obtain ⟨k, hk, rfl, rfl, rfl, hB⟩ := hrel
      rename World => wr
      have HB := Lib.hid hB
      have hsz := hB.size
      have hk0 : (0 : Int) ≤ (k : Int) := by omega
      by_cases hlt : k < n
      · have hlti : (k : Int) < (n : Int) := by omega
        have hkl : k < l.length := by rw [← Hn.out]; exact hlt
        obtain ⟨b', off', Ak, ck, A2k, c2k, he, hb', hx⟩ := HI.out.at_ hkl
        cases he
        have c2 := (hB.cell (p := ⟨b, off + k * 7 + 2, none⟩) hb).trans hx.c2
        have hb1 := HSB.out k (by omega)
        have hi1 := HSI.out k (by omega)
        have Hb2 : Hid (mostTo z l (k + 1) = max (mostTo z l k) (cyN l k).fb) := rfl
        have Hi2 : Hid (leastTo z l (k + 1) = min (leastTo z l k) (cyN l k).fb) := rfl
        have hf1 := HO.out k hkl
        obtain ⟨sb, hsb⟩ : ∃ sb, sb = mostTo z l k := ⟨_, rfl⟩
        obtain ⟨si, hsi⟩ : ∃ si, si = leastTo z l k := ⟨_, rfl⟩
        rw [← hsb] at hb1 Hb2 ⊢
        rw [← hsi] at hi1 Hi2 ⊢
        obtain ⟨fb, hfb⟩ : ∃ x, x = (cyN l k).fb := ⟨_, rfl⟩
        rw [← hfb] at c2 hf1 Hb2 Hi2
        clear hx hkl hB hsb hsi hfb
        have f1 := hf1.1
        have f2 := hf1.2
        have f5 := hb1.1
        have f6 := hb1.2
        have f7 := hi1.1
        have f8 := hi1.2
        clear hf1 hb1 hi1
        by_cases h1 : sb < fb
        · have Hb3 : Hid (mostTo z l (k + 1) = fb) := Hb2.out.trans (by omega)
          by_cases h2 : fb < si
          · have Hi3 : Hid (leastTo z l (k + 1) = fb) := Hi2.out.trans (by omega)
            go_wp2_with fail
            go_roundw
            case rel => exact ⟨k + 1, by omega, by go_num, by rw [Hb3.out], by rw [Hi3.out], HB.out⟩
            case measure => simp [intOf]; omega
          · have Hi3 : Hid (leastTo z l (k + 1) = si) := Hi2.out.trans (by omega)
            go_wp2_with fail
            go_roundw
            case rel => exact ⟨k + 1, by omega, by go_num, by rw [Hb3.out], by rw [Hi3.out], HB.out⟩
            case measure => simp [intOf]; omega
        · have Hb3 : Hid (mostTo z l (k + 1) = sb) := Hb2.out.trans (by omega)
          by_cases h2 : fb < si
          · have Hi3 : Hid (leastTo z l (k + 1) = fb) := Hi2.out.trans (by omega)
            go_wp2_with fail
            go_roundw
            case rel => exact ⟨k + 1, by omega, by go_num, by rw [Hb3.out], by rw [Hi3.out], HB.out⟩
            case measure => simp [intOf]; omega
          · have Hi3 : Hid (leastTo z l (k + 1) = si) := Hi2.out.trans (by omega)
            go_wp2_with fail
            go_roundw
            case rel => exact ⟨k + 1, by omega, by go_num, by rw [Hb3.out], by rw [Hi3.out], HB.out⟩
            case measure => simp [intOf]; omega
      · have hlti : ¬ (k : Int) < (n : Int) := by omega
        obtain rfl : k = n := by omega
        have hb1 := HSB.out k (by rw [← Hn.out]; omega)
        have hi1 := HSI.out k (by rw [← Hn.out]; omega)
        obtain ⟨sb, hsb⟩ : ∃ sb, sb = mostTo z l k := ⟨_, rfl⟩
        obtain ⟨si, hsi⟩ : ∃ si, si = leastTo z l k := ⟨_, rfl⟩
        rw [← hsb] at hb1 HQ ⊢
        rw [← hsi] at hi1 HQ ⊢
        have f5 := hb1.1
        have f6 := hb1.2
        have f7 := hi1.1
        have f8 := hi1.2
        clear hB hb1 hi1 hsb hsi
        go_wp2_with fail
        exact HQ.out _ HB.out
  · have hW' : wholeL l = false := by simpa using hW
    have HQ : Hid (∀ w', Below w.heap.size w w' → Q (.returned (.int .i64 0)) w') := by unfold Hid; rw [hQ]; exact fun w' h => ⟨by unfold spreadL; rw [if_neg hW], h⟩
    rw [hW'] at HWh
    clear hQ hI hs hn hW hW'
    go_enter Try.func42, Try.ntmps42
    go_wp2_with fail
    refine HWh.out.mono ?_
    rintro e W1 ⟨rfl, hB1⟩
    have HB1 := Lib.hid hB1
    clear hB1
    go_wp2_with fail
    exact HQ.out _ HB1.out
end Go.Proofs.Ytpcindemkkdbbaa
