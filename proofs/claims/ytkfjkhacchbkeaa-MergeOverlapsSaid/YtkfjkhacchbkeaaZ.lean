/- Contract of SameItems, at the same items. -/
import Derived.Test.YtkfjkhacchbkeaaY
import Derived.Test.YtkfjkhacchbkeaaGYF
namespace Go.Proofs.Ytkfjkhacchbkeaa
set_option linter.unusedVariables false
set_option linter.unusedSimpArgs false
open Go.RowKit

set_option maxRecDepth 100000 in
set_option maxHeartbeats 1000000 in
theorem sameItems_any (A1 A2 : Option Addr) (c1 c2 n : Nat) (l : List It) (hn : n = l.length) (w : World) (hl : l.length ≤ 1000) (hs : Small l) (h1 : Items w w.heap.size A1 l) (h2 : Items w w.heap.size A2 l) :
    Calls Try.prog 26 #[.slice A1 n c1, .slice A2 n c2] w fun e w' => e = .returned (.bool true) ∧ Below w.heap.size w w' := by
  have H1 := Lib.hid h1
  have H2 := Lib.hid h2
  have HS := Lib.hid hs
  have Hn := Lib.hid hn
  have hn1 : n ≤ 1000 := by omega
  clear h1 h2 hs hn hl
  go_enter Try.func26, Try.ntmps26
  go_wp2_with fail
  go_loopw [5] (fun i wr => ∃ k : Nat, k ≤ n ∧ i = .int .i64 k ∧ Quiet w wr) (fun i _ => n - (intOf i).toNat)
  case atStart => exact ⟨0, Nat.zero_le _, rfl, Quiet.refl _⟩
  case round =>
    obtain ⟨k, hk, rfl, hq⟩ := hrel
    rename World => wr
    have Hq := Lib.hid hq
    by_cases hlt : k < n
    · have hlti : (k : Int) < (n : Int) := by omega
      have hk0 : (0 : Int) ≤ (k : Int) := by omega
      obtain ⟨b1, o1, A1k, c1k, rfl, hb1, hx1⟩ := H1.out.at_ (k := k) (by rw [← Hn.out]; exact hlt)
      obtain ⟨b2, o2, A2k, c2k, rfl, hb2, hx2⟩ := H2.out.at_ (k := k) (by rw [← Hn.out]; exact hlt)
      have hB := hq.belowR (B := w.heap.size)
      obtain ⟨d0, d1, d2, _, _⟩ := hx1.keep (w' := wr) hb1 (fun p hp => hB.cell hp)
      obtain ⟨e0, e1, e2, _, _⟩ := hx2.keep (w' := wr) hb2 (fun p hp => hB.cell hp)
      obtain ⟨x, hx⟩ : ∃ x, x = itN l k := ⟨_, rfl⟩
      rw [← hx] at d0 d1 d2 e0 e1 e2
      clear hx hx1 hx2 hB hq
      obtain ⟨⟨pb, po, pss⟩, d⟩ := x
      simp only at d0 d1 d2 e0 e1 e2
      go_wp2_with fail
      go_quiet (fail)
      go_wp2
      go_roundw
      case rel => exact ⟨k + 1, by omega, by go_num, Hq.out.trans ⟨_, rfl⟩⟩
      case measure => simp [intOf]; omega
    · have hlti : ¬ (k : Int) < (n : Int) := by omega
      obtain rfl : k = n := by omega
      have hB := hq.belowR (B := w.heap.size)
      have HI1 := Lib.hid (H1.out.next hB)
      have HI2 := Lib.hid (H2.out.next hB)
      have HB := Lib.hid hB
      clear hq hB
      go_wp2_with fail
      refine (refDepsOf_any A1 c1 k l Hn.out wr (by rw [← Hn.out]; exact hn1) HI1.out).mono ?_
      rintro e w3 ⟨A3, c3, rfl, hM3, hB3⟩
      have HM3 := Lib.hid hM3
      have HI3 := Lib.hid (HI2.out.next hB3)
      have HB3 := Lib.hid (HB.out.trans (hB3.mono HB.out.size))
      clear hM3 hB3
      go_wp2_with fail
      refine (refDepsOf_any A2 c2 k l Hn.out w3 (by rw [← Hn.out]; exact hn1) HI3.out).mono ?_
      rintro e w4 ⟨A4, c4, rfl, hM4, hB4⟩
      have HM4 := Lib.hid hM4
      have HM5 := Lib.hid (HM3.out.next hB4)
      have HB4 := Lib.hid (HB3.out.trans (hB4.mono HB3.out.size))
      clear hM4 hB4
      go_wp2_with fail
      refine (same_rows A3 A4 c3 c4 l.length l.length (depsI l) w4 (length_depsI l).symm (length_depsI l).symm HM5.out HM4.out (by rw [length_depsI, ← Hn.out]; exact hn1) (fun j hj => by rw [length_depsI] at hj; rw [rowI_depsI hj]; exact (HS.out j hj).2)).mono ?_
      rintro e w5 ⟨rfl, hB5⟩
      have HB5 := Lib.hid (HB4.out.trans (hB5.mono HB4.out.size))
      clear hB5
      go_wp2_with fail
      go_ret
      exact ⟨rfl, HB5.out⟩
end Go.Proofs.Ytkfjkhacchbkeaa
