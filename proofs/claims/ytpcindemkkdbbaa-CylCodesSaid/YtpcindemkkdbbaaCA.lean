/- Contracts of Free, the program's and the document's. -/
import Derived.Test.YtpcindemkkdbbaaRD
namespace Go.Proofs.Ytpcindemkkdbbaa
set_option linter.unusedVariables false
set_option linter.unusedSimpArgs false
open Go.RowKit

theorem rise_len {m : Int} {l : List Int} (h : Rise m l) (hm : 0 ≤ m) : (l.length : Int) ≤ m := by
  have key : ∀ (l : List Int) (lo : Int), l.Pairwise (· < ·) → (∀ x ∈ l, lo ≤ x ∧ x < m) → lo ≤ m → (l.length : Int) ≤ m - lo := by
    intro l
    induction l with
    | nil => intro lo _ _ h; simp; omega
    | cons a q ih =>
      intro lo hp hb hlo
      rw [List.pairwise_cons] at hp
      have h1 := hb a (by simp)
      have := ih (a + 1) hp.2 (fun x hx => ⟨by have := hp.1 x hx; omega, (hb x (by simp [hx])).2⟩) (by omega)
      rw [List.length_cons]; omega
  have := key l 0 h.2 h.1 hm
  omega
theorem RightC.fb_in {x : Cy} (h : RightC x) : 0 ≤ x.fb ∧ x.fb ≤ 64 := by
  have := rise_len h.us (by have := h.bl.1; omega)
  have := h.fb; have := h.bl
  omega
theorem RightC.fi_in {x : Cy} (h : RightC x) : 0 ≤ x.fi ∧ x.fi ≤ 16 := by
  have := rise_len h.is (by omega)
  have := h.fi
  omega
/-- the sum over the first k groups -/
def sumF (f : Cy → Int) (l : List Cy) : Nat → Int
  | 0 => 0
  | k + 1 => sumF f l k + f (cyN l k)
theorem sum_in {f : Cy → Int} {l : List Cy} {m : Int} (h : ∀ i, i < l.length → 0 ≤ f (cyN l i) ∧ f (cyN l i) ≤ m) : ∀ k : Nat, k ≤ l.length → 0 ≤ sumF f l k ∧ sumF f l k ≤ m * k := by
  intro k
  induction k with
  | zero => intro _; simp [sumF]
  | succ k ih =>
    intro hk
    have h1 := ih (by omega)
    have h2 := h k (by omega)
    have e : m * ((k + 1 : Nat) : Int) = m * k + m := by rw [Int.natCast_add, Int.mul_add]; simp
    rw [e]
    exact ⟨by simp only [sumF]; omega, by simp only [sumF]; omega⟩
def freeB (l : List Cy) : Int := if wholeL l then sumF Cy.fb l l.length else 0
def freeI (l : List Cy) : Int := if wholeL l then sumF Cy.fi l l.length else 0
def FreeSays (w : World) (l : List Cy) (e : Ending) (w' : World) : Prop := e = .returned (.tuple #[.int .i64 (freeB l), .int .i64 (freeI l)]) ∧ Below w.heap.size w w'

set_option maxRecDepth 100000 in
set_option maxHeartbeats 2000000 in
theorem free_any (A : Option Addr) (c n : Nat) (l : List Cy) (hn : n = l.length) (w : World) (hs : SmallL l) (hI : Cyls w w.heap.size A l) :
    Calls Try.prog 39 #[.slice A n c] w (FreeSays w l) := by
  have hn1 : n ≤ 1000 := by have := hs.1; omega
  have HWh : Hid (Calls Try.prog 31 #[.slice A n c] w fun e w' => e = .returned (.bool (wholeL l)) ∧ Below w.heap.size w w') := whole_any A c n l hn w hs hI
  obtain ⟨Q, hQ⟩ : ∃ Q, Q = FreeSays w l := ⟨_, rfl⟩
  rw [← hQ]
  by_cases hW : wholeL l = true
  · have HQ : Hid (∀ w', Below w.heap.size w w' → Q (.returned (.tuple #[.int .i64 (sumF Cy.fb l n), .int .i64 (sumF Cy.fi l n)])) w') := by unfold Hid; rw [hQ]; exact fun w' h => ⟨by unfold freeB freeI; rw [if_pos hW, if_pos hW, hn], h⟩
    have hWo := (wholeL_iff l).1 hW
    have hn16 : n ≤ 16 := by have := hWo.n2; omega
    have HSB := Lib.hid (sum_in (f := Cy.fb) (l := l) (m := 64) fun i hi => (hWo.ok i hi).fb_in)
    have HSI := Lib.hid (sum_in (f := Cy.fi) (l := l) (m := 16) fun i hi => (hWo.ok i hi).fi_in)
    have HO := Lib.hid hWo
    rw [hW] at HWh
    have Hn := Lib.hid hn
    have HI := Lib.hid hI
    clear hQ hI hs hn hW hWo
    go_enter Try.func39, Try.ntmps39
    go_wp2_with fail
    refine HWh.out.mono ?_
    rintro e W1 ⟨rfl, hB1⟩
    have HB1 := Lib.hid hB1
    clear hB1
    go_wp2_with fail
    go_loopw [2, 3, 11] (fun x y i wr => ∃ k : Nat, k ≤ n ∧ i = .int .i64 k ∧ x = .int .i64 (sumF Cy.fb l k) ∧ y = .int .i64 (sumF Cy.fi l k) ∧ Below w.heap.size w wr) (fun _ _ i _ => n - (intOf i).toNat)
    case atStart => exact ⟨0, Nat.zero_le _, rfl, rfl, rfl, HB1.out⟩
    case round =>
      obtain ⟨k, hk, rfl, rfl, rfl, hB⟩ := hrel
      rename World => wr
      have HB := Lib.hid hB
      have hsz := hB.size
      have hk0 : (0 : Int) ≤ (k : Int) := by omega
      by_cases hlt : k < n
      · have hlti : (k : Int) < (n : Int) := by omega
        have hkl : k < l.length := by rw [← Hn.out]; exact hlt
        obtain ⟨b, off, Ak, ck, A2k, c2k, rfl, hb, hx⟩ := HI.out.at_ hkl
        replace hx := (hx.keep (w' := wr) hb (fun p hp => hB.cell hp)).more hB.size
        obtain ⟨c0, c1, c2, c3, c4, c5, c6, hU, hV⟩ := hx
        have hb1 := HSB.out k (by omega)
        have hi1 := HSI.out k (by omega)
        have Hb2 : Hid (sumF Cy.fb l (k + 1) = sumF Cy.fb l k + (cyN l k).fb) := rfl
        have Hi2 : Hid (sumF Cy.fi l (k + 1) = sumF Cy.fi l k + (cyN l k).fi) := rfl
        have hf1 := (HO.out.ok k hkl).fb_in
        have hf2 := (HO.out.ok k hkl).fi_in
        obtain ⟨sb, hsb⟩ : ∃ sb, sb = sumF Cy.fb l k := ⟨_, rfl⟩
        obtain ⟨si, hsi⟩ : ∃ si, si = sumF Cy.fi l k := ⟨_, rfl⟩
        rw [← hsb] at hb1 Hb2 ⊢
        rw [← hsi] at hi1 Hi2 ⊢
        obtain ⟨x, hx⟩ : ∃ x, x = cyN l k := ⟨_, rfl⟩
        rw [← hx] at c0 c1 c2 c3 c4 c5 c6 hf1 hf2 Hb2 Hi2
        clear hx hU hV hkl hB hsb hsi
        obtain ⟨ix, bl, fb, fi, ro, us, is⟩ := x
        simp only at c0 c1 c2 c3 c4 c5 c6 hf1 hf2 Hb2 Hi2
        have f1 := hf1.1
        have f2 := hf1.2
        have f3 := hf2.1
        have f4 := hf2.2
        have f5 := hb1.1
        have f6 : sb ≤ 1024 := by omega
        have f7 := hi1.1
        have f8 : si ≤ 256 := by omega
        obtain ⟨n1, h1⟩ : ∃ n1, n1 = us.length := ⟨_, rfl⟩
        obtain ⟨n2, h2⟩ : ∃ n2, n2 = is.length := ⟨_, rfl⟩
        rw [← h1] at c5
        rw [← h2] at c6
        have HB3 := Lib.hid (HB.out.alloc hsz (.cells #[.int .i64 ix, .int .i64 bl, .int .i64 fb, .int .i64 fi, .int .i64 ro, .slice Ak n1 ck, .slice A2k n2 c2k] 24))
        clear h1 h2 hf1 hf2 hb1 hi1
        go_wp2_with fail
        go_roundw
        case rel => exact ⟨k + 1, by omega, by go_num, by rw [Hb2.out], by rw [Hi2.out], HB3.out⟩
        case measure => simp [intOf]; omega
      · have hlti : ¬ (k : Int) < (n : Int) := by omega
        obtain rfl : k = n := by omega
        clear hB
        go_wp2_with fail
        exact HQ.out _ HB.out
  · have hW' : wholeL l = false := by simpa using hW
    have HQ : Hid (∀ w', Below w.heap.size w w' → Q (.returned (.tuple #[.int .i64 0, .int .i64 0])) w') := by unfold Hid; rw [hQ]; exact fun w' h => ⟨by unfold freeB freeI; rw [if_neg hW, if_neg hW], h⟩
    rw [hW'] at HWh
    clear hQ hI hs hn hW hW'
    go_enter Try.func39, Try.ntmps39
    go_wp2_with fail
    refine HWh.out.mono ?_
    rintro e W1 ⟨rfl, hB1⟩
    have HB1 := Lib.hid hB1
    clear hB1
    go_wp2_with fail
    exact HQ.out _ HB1.out

set_option maxRecDepth 100000 in
set_option maxHeartbeats 2000000 in
theorem reffree_any (A : Option Addr) (c n : Nat) (l : List Cy) (hn : n = l.length) (w : World) (hs : SmallL l) (hI : Cyls w w.heap.size A l) :
    Calls Try.prog 40 #[.slice A n c] w (FreeSays w l) := by
  have hn1 : n ≤ 1000 := by have := hs.1; omega
  have HWh : Hid (∀ W, Below w.heap.size w W → Calls Try.prog 32 #[.slice A n c] W fun e w' => e = .returned (.bool (wholeL l)) ∧ Below W.heap.size W w') := fun W hB => refwhole_any A c n l hn W hs (hI.next hB)
  obtain ⟨Q, hQ⟩ : ∃ Q, Q = FreeSays w l := ⟨_, rfl⟩
  rw [← hQ]
  by_cases hW : wholeL l = true
  · have HQ : Hid (∀ w', Below w.heap.size w w' → Q (.returned (.tuple #[.int .i64 (sumF Cy.fb l n), .int .i64 (sumF Cy.fi l n)])) w') := by unfold Hid; rw [hQ]; exact fun w' h => ⟨by unfold freeB freeI; rw [if_pos hW, if_pos hW, hn], h⟩
    have hWo := (wholeL_iff l).1 hW
    have hn16 : n ≤ 16 := by have := hWo.n2; omega
    have HSB := Lib.hid (sum_in (f := Cy.fb) (l := l) (m := 64) fun i hi => (hWo.ok i hi).fb_in)
    have HSI := Lib.hid (sum_in (f := Cy.fi) (l := l) (m := 16) fun i hi => (hWo.ok i hi).fi_in)
    have HO := Lib.hid hWo
    rw [hW] at HWh
    have Hn := Lib.hid hn
    have HI := Lib.hid hI
    clear hQ hI hs hn hW hWo
    go_enter Try.func40, Try.ntmps40
    go_wp2_with fail
    go_loopw [4, 5, 6] (fun x y i wr => ∃ k : Nat, k ≤ n ∧ i = .int .i64 k ∧ x = .int .i64 (sumF Cy.fb l k) ∧ y = .int .i64 (sumF Cy.fi l k) ∧ Below w.heap.size w wr) (fun _ _ i _ => n - (intOf i).toNat)
    case atStart => exact ⟨0, Nat.zero_le _, rfl, rfl, rfl, Below.refl _ _⟩
    case round =>
      obtain ⟨k, hk, rfl, rfl, rfl, hB⟩ := hrel
      rename World => wr
      have HB := Lib.hid hB
      have hsz := hB.size
      have hk0 : (0 : Int) ≤ (k : Int) := by omega
      by_cases hlt : k < n
      · have hlti : (k : Int) < (n : Int) := by omega
        have hkl : k < l.length := by rw [← Hn.out]; exact hlt
        obtain ⟨b, off, Ak, ck, A2k, c2k, rfl, hb, hx⟩ := HI.out.at_ hkl
        obtain ⟨_, _, c2, c3, _, _, _, _, _⟩ := hx
        have HC2 : Hid (∀ W, Below w.heap.size w W → W.cell? ⟨b, off + k * 7 + 2, none⟩ = some (.int .i64 (cyN l k).fb)) := fun W hW => (hW.cell (p := ⟨b, off + k * 7 + 2, none⟩) hb).trans c2
        have HC3 : Hid (∀ W, Below w.heap.size w W → W.cell? ⟨b, off + k * 7 + 3, none⟩ = some (.int .i64 (cyN l k).fi)) := fun W hW => (hW.cell (p := ⟨b, off + k * 7 + 3, none⟩) hb).trans c3
        have hb1 := HSB.out k (by omega)
        have hi1 := HSI.out k (by omega)
        have Hb2 : Hid (sumF Cy.fb l (k + 1) = sumF Cy.fb l k + (cyN l k).fb) := rfl
        have Hi2 : Hid (sumF Cy.fi l (k + 1) = sumF Cy.fi l k + (cyN l k).fi) := rfl
        have hf1 := (HO.out.ok k hkl).fb_in
        have hf2 := (HO.out.ok k hkl).fi_in
        obtain ⟨sb, hsb⟩ : ∃ sb, sb = sumF Cy.fb l k := ⟨_, rfl⟩
        obtain ⟨si, hsi⟩ : ∃ si, si = sumF Cy.fi l k := ⟨_, rfl⟩
        rw [← hsb] at hb1 Hb2 ⊢
        rw [← hsi] at hi1 Hi2 ⊢
        obtain ⟨fb, hfb⟩ : ∃ x, x = (cyN l k).fb := ⟨_, rfl⟩
        obtain ⟨fi, hfi⟩ : ∃ x, x = (cyN l k).fi := ⟨_, rfl⟩
        rw [← hfb] at HC2 hf1 Hb2
        rw [← hfi] at HC3 hf2 Hi2
        clear hkl hB hsb hsi c2 c3 hfb hfi
        have f1 := hf1.1
        have f2 := hf1.2
        have f3 := hf2.1
        have f4 := hf2.2
        have f5 := hb1.1
        have f6 : sb ≤ 1024 := by omega
        have f7 := hi1.1
        have f8 : si ≤ 256 := by omega
        clear hf1 hf2 hb1 hi1
        go_wp2_with fail
        refine (HWh.out _ HB.out).mono ?_
        rintro e w3 ⟨rfl, hB3⟩
        have hBw3 := HB.out.trans (hB3.mono hsz)
        have HB3 := Lib.hid hBw3
        have k2 := HC2.out _ hBw3
        have k3 := HC3.out _ hBw3
        clear hB3 hBw3
        go_wp2_with fail
        go_roundw
        case rel => exact ⟨k + 1, by omega, by go_num, by rw [Hb2.out], by rw [Hi2.out], HB3.out⟩
        case measure => simp [intOf]; omega
      · have hlti : ¬ (k : Int) < (n : Int) := by omega
        obtain rfl : k = n := by omega
        clear hB
        go_wp2_with fail
        refine (HWh.out _ HB.out).mono ?_
        rintro e w3 ⟨rfl, hB3⟩
        have HB3 := Lib.hid (HB.out.trans (hB3.mono hsz))
        clear hB3
        go_wp2_with fail
        exact HQ.out _ HB3.out
  · have hW' : wholeL l = false := by simpa using hW
    have HQ : Hid (∀ w', Below w.heap.size w w' → Q (.returned (.tuple #[.int .i64 0, .int .i64 0])) w') := by unfold Hid; rw [hQ]; exact fun w' h => ⟨by unfold freeB freeI; rw [if_neg hW, if_neg hW], h⟩
    rw [hW'] at HWh
    clear hQ hI hs hn hW hW'
    go_enter Try.func40, Try.ntmps40
    go_wp2_with fail
    go_loopw [4, 5, 6] (fun x y i wr => i = .int .i64 0 ∧ x = .int .i64 0 ∧ y = .int .i64 0 ∧ wr = w) (fun _ _ i _ => 0)
    case atStart => exact ⟨rfl, rfl, rfl, rfl⟩
    case round =>
      obtain ⟨rfl, rfl, rfl, rfl⟩ := hrel
      go_wp2_with fail
      refine (HWh.out _ (Below.refl _ _)).mono ?_
      rintro e w3 ⟨rfl, hB3⟩
      have HB3 := Lib.hid hB3
      clear hB3
      go_wp2_with fail
      exact HQ.out _ HB3.out
end Go.Proofs.Ytpcindemkkdbbaa
