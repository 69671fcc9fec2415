/- Contracts of the last one ahead on a block, and of letsAll. -/
import Derived.Test.YtkfjkhacchbkeaaI
namespace Go.Proofs.Ytkfjkhacchbkeaa
set_option linter.unusedVariables false
set_option linter.unusedSimpArgs false
open Go.RowKit

def blkOf (l : List It) (i : Nat) : Int := (itN l i).p.b
def homeV : Option Nat → Value
  | some n => .tuple #[.int .i64 ((n : Nat) : Int), .bool true]
  | none => .tuple #[.int .i64 0, .bool false]
theorem homeT_succ (bl : Nat → Int) (i n : Nat) : homeT bl i (n + 1) = if bl n = bl i then some n else homeT bl i n := rfl

set_option maxRecDepth 100000 in
set_option maxHeartbeats 2000000 in
theorem home_any (i : Nat) (bI : Nat) (A : Option Addr) (c n : Nat) (l : List It) (hn : n = l.length) (hi : i < n) (hn1 : n ≤ 1000) (w : World) (B : Nat) (hI : Items w B A l) (hb : w.cell? ⟨bI, 0, none⟩ = some (.slice A n c)) :
    Calls Try.prog 43 #[.int .i64 i, .pointer (some ⟨bI, 0, none⟩)] w fun e w' => e = .returned (homeV (homeN (blkOf l) i)) ∧ Quiet w w' := by
  obtain ⟨b, off, Af, Cf, rfl, hbB, hc⟩ := hI (by omega)
  have HC : Hid (∀ m, m < n → w.cell? ⟨b, off + m * 4, none⟩ = some (.int .i64 (blkOf l m))) := fun m hm => (hc m (by omega)).c0
  have hi0 : (0 : Int) ≤ (i : Int) := by omega
  have hin : (i : Int) < (n : Int) := by omega
  clear hI hc hn
  go_enter Try.func43, Try.ntmps43
  go_wp2_with fail
  go_loopw [5] (fun v wr => ∃ j : Nat, j ≤ i ∧ v = .int .i64 ((j : Int) - 1) ∧ homeN (blkOf l) i = homeT (blkOf l) i j ∧ Quiet w wr) (fun v _ => (intOf v + 1).toNat)
  case atStart => exact ⟨i, Nat.le_refl _, rfl, rfl, Quiet.refl _⟩
  case round =>
    obtain ⟨j, hj, rfl, hh, hq⟩ := hrel
    rename World => wr
    have Hh := Lib.hid hh
    have Hq := Lib.hid hq
    clear hh
    rcases Nat.eq_zero_or_pos j with h0 | h0
    · subst h0
      have ex : ((0 : Nat) : Int) - 1 = -1 := by omega
      rw [ex]
      have Hn : Hid (homeN (blkOf l) i = none) := by unfold Hid; rw [Hh.out]; rfl
      clear hq
      go_wp2_with fail
      go_ret2
      exact ⟨by rw [Hn.out]; rfl, Hq.out⟩
    · obtain ⟨m, rfl⟩ : ∃ m, j = m + 1 := ⟨j - 1, by omega⟩
      have ex : ((m + 1 : Nat) : Int) - 1 = (m : Int) := by omega
      rw [ex]
      have hm0 : (0 : Int) ≤ (m : Int) := by omega
      have hmn : (m : Int) < (n : Int) := by omega
      have e1 : wr.cell? ⟨bI, 0, none⟩ = some (.slice (some ⟨b, off, none⟩) n c) := by obtain ⟨q, rfl⟩ := hq; exact hb
      have e2 : wr.cell? ⟨b, off + m * 4, none⟩ = some (.int .i64 (blkOf l m)) := by obtain ⟨q, rfl⟩ := hq; exact HC.out m (by omega)
      have e3 : wr.cell? ⟨b, off + i * 4, none⟩ = some (.int .i64 (blkOf l i)) := by obtain ⟨q, rfl⟩ := hq; exact HC.out i hi
      have Hs := Lib.hid (homeT_succ (blkOf l) i m)
      obtain ⟨x, hx⟩ : ∃ x, x = blkOf l m := ⟨_, rfl⟩
      obtain ⟨y, hy⟩ : ∃ y, y = blkOf l i := ⟨_, rfl⟩
      rw [← hx] at e2 Hs
      rw [← hy] at e3 Hs
      clear hx hy hq
      by_cases hxy : x = y
      · have Hr : Hid (homeN (blkOf l) i = some m) := by unfold Hid; rw [Hh.out, Hs.out, if_pos hxy]
        subst hxy
        go_wp2_with fail
        go_quiet (fail)
        go_wp2
        go_ret2
        exact ⟨by rw [Hr.out]; rfl, Hq.out.trans ⟨_, rfl⟩⟩
      · have Hr : Hid (homeN (blkOf l) i = homeT (blkOf l) i m) := by unfold Hid; rw [Hh.out, Hs.out, if_neg hxy]
        have hb1 : (x == y) = false := by simp [hxy]
        clear hxy
        go_wp2_with fail
        go_quiet (fail)
        go_wp2
        go_roundw
        case rel => exact ⟨m, by omega, rfl, Hr.out, Hq.out.trans ⟨_, rfl⟩⟩
        case measure => simp [intOf]

set_option maxRecDepth 100000 in
set_option maxHeartbeats 2000000 in
theorem letsAll_any (i : Nat) (Ag : Option Addr) (cg kg : Nat) (grp : List Nat) (bf cf bD : Nat) (A : Option Addr) (c kD : Nat) (D : List (List Nat)) (hkg : kg = grp.length) (hkD : kD = D.length) (hD : OkD D) (hi : i < D.length) (hgl : grp.length ≤ 100000) (w : World)
    (hM : Mat w w.heap.size A (rowsI D)) (hG : Ints w w.heap.size Ag (natsI grp)) (hb : w.cell? ⟨bD, 0, none⟩ = some (.slice A kD c)) (hf : w.cell? ⟨bf, 0, none⟩ = some (.func (.func 44) #[] #[.pointer (some ⟨bD, 0, none⟩)])) :
    Calls Try.prog 64 #[.int .i64 i, .slice Ag kg cg, .slice (some ⟨bf, 0, none⟩) 1 cf] w fun e w' => e = .returned (.bool (fitsB D i grp)) ∧ Below w.heap.size w w' := by
  have HB := Lib.hid (behind_any i Ag cg kg grp bD A c kD D hkg hkD hD hi hgl w hM hG hb)
  obtain ⟨r, hr⟩ : ∃ r, r = fitsB D i grp := ⟨_, rfl⟩
  rw [← hr] at HB ⊢
  clear hM hG hkg hkD hr
  go_enter Try.func64, Try.ntmps64
  go_wp2_with fail
  go_loopw [11] (fun v wr => (v = .int .i64 0 ∧ wr = w) ∨ (v = .int .i64 1 ∧ r = true ∧ Below w.heap.size w wr)) (fun v _ => (2 - intOf v).toNat)
  case atStart => exact .inl ⟨rfl, rfl⟩
  case round =>
    rename World => wr
    rcases hrel with ⟨rfl, rfl⟩ | ⟨rfl, rfl, hB⟩
    · cases r with
      | true =>
        go_wp2_with (go_at_call 44; refine HB.out.mono ?_; rintro e w' ⟨rfl, hB1⟩; have HB1 := Lib.hid hB1; clear hB1)
        go_roundw
        case rel => exact .inr ⟨rfl, trivial, HB1.out⟩
        case measure => simp [intOf]
      | false =>
        go_wp2_with (go_at_call 44; refine HB.out.mono ?_; rintro e w' ⟨rfl, hB1⟩; have HB1 := Lib.hid hB1; clear hB1)
        go_ret
        exact ⟨rfl, HB1.out⟩
    · have HB1 := Lib.hid hB
      clear hB
      go_wp2_with fail
      go_ret
      exact ⟨rfl, HB1.out⟩
end Go.Proofs.Ytkfjkhacchbkeaa
