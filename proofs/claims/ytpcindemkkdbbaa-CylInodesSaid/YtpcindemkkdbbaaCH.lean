/- Contract of the document's SameAll. -/
import Derived.Test.YtpcindemkkdbbaaCD
import Derived.Deep.RegionHeld3
namespace Go.Proofs.Ytpcindemkkdbbaa
set_option linter.unusedVariables false
set_option linter.unusedSimpArgs false
open Go.RowKit

def sameTo (a b : List Cy) (k : Nat) : Bool := (List.range k).all fun i => sameC (cyN a i) (cyN b i)
def sameL (a b : List Cy) : Bool := decide (a.length = b.length) && sameTo a b a.length
theorem sameTo_succ (a b : List Cy) (k : Nat) : sameTo a b (k + 1) = (sameTo a b k && sameC (cyN a k) (cyN b k)) := by simp [sameTo, List.range_succ]
theorem sameL_iff {a b : List Cy} : sameL a b = true ↔ a = b := by
  unfold sameL sameTo
  simp only [Bool.and_eq_true, decide_eq_true_eq, List.all_eq_true, List.mem_range, sameC_iff]
  exact ⟨fun ⟨h, h2⟩ => ext_cyN h h2, fun h => by subst h; exact ⟨rfl, fun _ _ => rfl⟩⟩
theorem sameL_stop {a b : List Cy} {k : Nat} (hk : k < a.length) (h : sameC (cyN a k) (cyN b k) = false) : sameL a b = false := by
  rw [Bool.eq_false_iff]
  intro ht
  rw [sameL_iff.1 ht, sameC_iff.2 rfl] at h
  cases h
theorem sameL_len {a b : List Cy} (h : a.length ≠ b.length) : sameL a b = false := by
  unfold sameL; rw [decide_eq_false h]; rfl
theorem sameL_end {a b : List Cy} (h : a.length = b.length) (h2 : sameTo a b a.length = true) : sameL a b = true := by
  unfold sameL; rw [decide_eq_true h, h2]; rfl
theorem cells_two {W : World} {B b o : Nat} {x : Cy} {A A2 : Option Addr} {c d : Nat} (h : CyAt W B b o x A c A2 d) : W.cell? ⟨b, o, none⟩ = some (.int .i64 x.ix) ∧ W.cell? ⟨b, o + 1, none⟩ = some (.int .i64 x.bl) ∧ W.cell? ⟨b, o + 2, none⟩ = some (.int .i64 x.fb) ∧ W.cell? ⟨b, o + 3, none⟩ = some (.int .i64 x.fi) ∧ W.cell? ⟨b, o + 4, none⟩ = some (.int .i64 x.ro) ∧ W.cell? ⟨b, o + 5, none⟩ = some (.slice A x.us.length c) ∧ W.cell? ⟨b, o + 6, none⟩ = some (.slice A2 x.is.length d) := ⟨h.c0, h.c1, h.c2, h.c3, h.c4, h.c5, h.c6⟩

set_option maxRecDepth 100000 in
set_option maxHeartbeats 4000000 in
theorem sameall_any (A : Option Addr) (c n : Nat) (l : List Cy) (B : Option Addr) (d m : Nat) (l2 : List Cy) (hn : n = l.length) (hm : m = l2.length) (w : World) (hs : SmallL l) (hs2 : SmallL l2) (hI : Cyls w w.heap.size A l) (hJ : Cyls w w.heap.size B l2) :
    Calls Try.prog 30 #[.slice A n c, .slice B m d] w fun e w' => e = .returned (.bool (sameL l l2)) ∧ Below w.heap.size w w' := by
  have hn1 : n ≤ 1000 := by have := hs.1; omega
  have hm1 : m ≤ 1000 := by have := hs2.1; omega
  have Hn := Lib.hid hn
  have Hm := Lib.hid hm
  have HI := Lib.hid hI
  have HJ := Lib.hid hJ
  have HS := Lib.hid hs.2
  have HS2 := Lib.hid hs2.2
  have H1 := Lib.hid (fun h => @sameL_len l l2 h)
  have H2 := Lib.hid (fun k => @sameL_stop l l2 k)
  have H3 := Lib.hid (fun h => @sameL_end l l2 h)
  have H4 := Lib.hid (sameTo_succ l l2)
  clear hI hJ hs hs2 hn hm
  by_cases hnm : n = m
  · subst hnm
    go_enter Try.func30, Try.ntmps30
    go_wp2_with fail
    go_loopw [5] (fun i wr => ∃ k : Nat, k ≤ n ∧ i = .int .i64 k ∧ sameTo l l2 k = true ∧ Below w.heap.size w wr) (fun i _ => n - (intOf i).toNat)
    case atStart => exact ⟨0, Nat.zero_le _, rfl, rfl, Below.refl _ _⟩
    case round =>
      obtain ⟨k, hk, rfl, hok, hB⟩ := hrel
      rename World => wr
      have Hok := Lib.hid hok
      have HB := Lib.hid hB
      have hsz := hB.size
      have hk0 : (0 : Int) ≤ (k : Int) := by omega
      clear hok
      by_cases hlt : k < n
      · have hlti : (k : Int) < (n : Int) := by omega
        have hkl : k < l.length := by rw [← Hn.out]; exact hlt
        have hkl2 : k < l2.length := by rw [← Hm.out]; exact hlt
        obtain ⟨b, off, Ak, ck, A2k, c2k, rfl, hb, hx⟩ := HI.out.at_ hkl
        obtain ⟨b2, off2, Bk, dk, B2k, d2k, rfl, hb2, hy⟩ := HJ.out.at_ hkl2
        replace hx := (hx.keep (w' := wr) hb (fun p hp => hB.cell hp)).more hB.size
        replace hy := (hy.keep (w' := wr) hb2 (fun p hp => hB.cell hp)).more hB.size
        have HF : Hid (∀ W, Below wr.heap.size wr W → Calls Try.prog 22 #[(cyN l k).v Ak ck A2k c2k, (cyN l2 k).v Bk dk B2k d2k] W fun e w' => e = .returned (.bool (sameC (cyN l k) (cyN l2 k))) ∧ Below W.heap.size W w') := fun W hW => refSame_any (cyN l k) (cyN l2 k) Ak ck A2k c2k Bk dk B2k d2k W (HS.out k hkl) (HS2.out k hkl2) (hx.us.next hW) (hx.is.next hW) (hy.us.next hW) (hy.is.next hW)
        have Hst := Lib.hid (H2.out k hkl)
        have Hsu := Lib.hid (H4.out k)
        have hc1 := cells_two hx
        have hc2 := cells_two hy
        obtain ⟨x, hx'⟩ : ∃ x, x = cyN l k := ⟨_, rfl⟩
        obtain ⟨y, hy'⟩ : ∃ y, y = cyN l2 k := ⟨_, rfl⟩
        rw [← hx'] at hc1 HF Hst Hsu
        rw [← hy'] at hc2 HF Hst Hsu
        obtain ⟨r, hr⟩ : ∃ r, r = sameC x y := ⟨_, rfl⟩
        rw [← hr] at HF Hst Hsu
        clear hx hy hx' hy' hr hkl hkl2 hB
        obtain ⟨aix, abl, afb, afi, aro, aus, ais⟩ := x
        obtain ⟨bix, bbl, bfb, bfi, bro, bus, bis⟩ := y
        unfold Cy.v at HF
        simp only at hc1 hc2 HF
        generalize aus.length = n1 at hc1 HF
        generalize ais.length = n2 at hc1 HF
        generalize bus.length = n3 at hc2 HF
        generalize bis.length = n4 at hc2 HF
        have X0 := Lib.hid (And.intro hc1 hc2)
        have hblt : b < wr.heap.size := by omega
        have hblt2 : b2 < wr.heap.size := by omega
        go_wp2_with fail
        go_region_held3 (fun W => (W.cell? ⟨b, off + k * 7, none⟩ = some (.int .i64 aix) ∧ W.cell? ⟨b, off + k * 7 + 1, none⟩ = some (.int .i64 abl) ∧ W.cell? ⟨b, off + k * 7 + 2, none⟩ = some (.int .i64 afb) ∧ W.cell? ⟨b, off + k * 7 + 3, none⟩ = some (.int .i64 afi) ∧ W.cell? ⟨b, off + k * 7 + 4, none⟩ = some (.int .i64 aro) ∧ W.cell? ⟨b, off + k * 7 + 5, none⟩ = some (.slice Ak n1 ck) ∧ W.cell? ⟨b, off + k * 7 + 6, none⟩ = some (.slice A2k n2 c2k)) ∧ (W.cell? ⟨b2, off2 + k * 7, none⟩ = some (.int .i64 bix) ∧ W.cell? ⟨b2, off2 + k * 7 + 1, none⟩ = some (.int .i64 bbl) ∧ W.cell? ⟨b2, off2 + k * 7 + 2, none⟩ = some (.int .i64 bfb) ∧ W.cell? ⟨b2, off2 + k * 7 + 3, none⟩ = some (.int .i64 bfi) ∧ W.cell? ⟨b2, off2 + k * 7 + 4, none⟩ = some (.int .i64 bro) ∧ W.cell? ⟨b2, off2 + k * 7 + 5, none⟩ = some (.slice Bk n3 dk) ∧ W.cell? ⟨b2, off2 + k * 7 + 6, none⟩ = some (.slice B2k n4 d2k))) (first | exact X0.out | exact X1.out)
          (first | (go_at_call 22; (with_reducible refine (HF.out _ (Below.refl _ wr).drew).mono ?_); rintro e w3 ⟨rfl, hB3⟩; have hB30 : Below wr.heap.size wr w3 := ⟨hB3.os, hB3.tape, hB3.output, hB3.size, hB3.block⟩; have ec : ∀ i, w3.cell? ⟨b, i, none⟩ = wr.cell? ⟨b, i, none⟩ := fun i => hB30.cell (p := ⟨b, i, none⟩) hblt; have ec2 : ∀ i, w3.cell? ⟨b2, i, none⟩ = wr.cell? ⟨b2, i, none⟩ := fun i => hB30.cell (p := ⟨b2, i, none⟩) hblt2; have X1 := Lib.hid (And.intro (And.intro ((ec _).trans X0.out.1.1) (And.intro ((ec _).trans X0.out.1.2.1) (And.intro ((ec _).trans X0.out.1.2.2.1) (And.intro ((ec _).trans X0.out.1.2.2.2.1) (And.intro ((ec _).trans X0.out.1.2.2.2.2.1) (And.intro ((ec _).trans X0.out.1.2.2.2.2.2.1) ((ec _).trans X0.out.1.2.2.2.2.2.2))))))) (And.intro ((ec2 _).trans X0.out.2.1) (And.intro ((ec2 _).trans X0.out.2.2.1) (And.intro ((ec2 _).trans X0.out.2.2.2.1) (And.intro ((ec2 _).trans X0.out.2.2.2.2.1) (And.intro ((ec2 _).trans X0.out.2.2.2.2.2.1) (And.intro ((ec2 _).trans X0.out.2.2.2.2.2.2.1) ((ec2 _).trans X0.out.2.2.2.2.2.2.2)))))))); have HB3 : Hid (Below w.heap.size w w3) := HB.out.trans (hB30.mono hsz); clear ec ec2 hB3 hB30))
        all_goals
          cases r with
          | false =>
            have Hf := Lib.hid (Hst.out rfl)
            go_wp2_with fail
            go_ret
            exact ⟨ret_bool Hf.out.symm, HB3.out⟩
          | true =>
            go_wp2_with fail
            go_roundw
            case rel => exact ⟨k + 1, by omega, by go_num, by rw [Hsu.out, Hok.out]; rfl, HB3.out⟩
            case measure => simp [intOf]; omega
      · have hlti : ¬ (k : Int) < (n : Int) := by omega
        obtain rfl : k = n := by omega
        have Hf := Lib.hid (H3.out (by rw [← Hn.out, ← Hm.out]) (by rw [← Hn.out]; exact Hok.out))
        clear hB
        go_wp2_with fail
        go_ret
        exact ⟨ret_bool Hf.out.symm, HB.out⟩
  · have Hf := Lib.hid (H1.out (by rw [← Hn.out, ← Hm.out]; exact hnm))
    have hne : ((n : Int) == (m : Int)) = false := beq_eq_false_iff_ne.2 (by omega)
    have hne2 : ((n : Int) != (m : Int)) = true := bne_iff_ne.2 (by omega)
    have hni : ¬ (n : Int) = (m : Int) := by omega
    go_enter Try.func30, Try.ntmps30
    go_wp2_with fail
    go_ret
    exact ⟨ret_bool Hf.out.symm, Below.refl _ _⟩
end Go.Proofs.Ytpcindemkkdbbaa
