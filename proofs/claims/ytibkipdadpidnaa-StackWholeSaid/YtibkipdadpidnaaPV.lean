/- The document's own Apply: what it answers is a row of its own. -/
import Derived.Test.YtibkipdadpidnaaPJ
import Derived.Test.YtibkipdadpidnaaPU
set_option linter.unusedVariables false
set_option linter.unusedSimpArgs false
set_option maxRecDepth 100000
namespace Go.Proofs.Ytibkipdadpidnaa.Pat
open Go.RowKit
theorem base_le {w : World} {B B' : Nat} {e : TypeId} {size n : Nat} {v : Value} {xs : List Value} (h : w.ownsRow B e size v n xs) (hB : B' ≤ B) : w.ownsRow B' e size v n xs := by
  refine ⟨h.1, ?_⟩
  rcases h.2 with h0 | ⟨g, cap, cur, rfl, hb, rest⟩
  · exact .inl h0
  · exact .inr ⟨g, cap, cur, rfl, Nat.le_trans hB hb, rest⟩
set_option maxRecDepth 100000 in
set_option maxHeartbeats 1000000 in
theorem ref_own (A : Option Addr) (c : Nat) (l : List Int) (p : Pt) (w : World) (hb : Bts w w.heap.size A l) (hl : l.length = 32) (hr : p.right = true) :
    Calls Try.prog 69 #[.slice A 32 c, p.v] w fun e w' => ∃ g c, e = .returned (.tuple #[.slice (some ⟨g, 0, none⟩) 32 c, .int .i64 0]) ∧ w'.ownsRow w.heap.size 5 1 (.slice (some ⟨g, 0, none⟩) 32 c) 32 (bytesV (put l p)) ∧ Below w.heap.size w w' := by
  obtain ⟨p1, p2, p3, p4, p5, p6⟩ := Pt.right_out hr
  have hps : p.s.size ≤ 1000 := by omega
  have R := Lib.hid (fun W => refright_any p W ⟨by omega, by omega, by unfold maxLen; omega⟩)
  rw [hr] at R
  have HN := Lib.hid (fun w1 hB => @St1.next w _ w1 p (St1.start w p) hB)
  have HB : Hid (∀ W, St1 w p W → Bts W W.heap.size A l) := fun W h => (hb.below h.1).more h.1.size
  have HZ := Lib.hid (putK_zero l p)
  have HA := Lib.hid (putK_all l p)
  have HK := Lib.hid (fun k => @length_putK l p hr hl k)
  have HS := Lib.hid (fun k => @putK_succ l p hr hl k)
  have HY := Lib.hid (putK_bytes hb.1 p)
  have Hl := Lib.hid hl
  clear hb hl hr
  obtain ⟨b, o, s⟩ := p
  obtain ⟨n, rfl⟩ := Int.eq_ofNat_of_zero_le p3
  simp only [Int.toNat_natCast] at HS
  unfold Pt.v at *
  simp only [Pt.cs] at *
  go_enter Try.func69, Try.ntmps69
  go_wp2_with fail
  refine (R.out _).mono ?_
  rintro e w1 ⟨rfl, hB1⟩
  have t1 := Lib.hid (HN.out _ (by simpa using hB1))
  have hbt := HB.out _ t1.out
  have hbt' : Bts (w1.alloc (.cells #[] 5)) w1.heap.size A l := hbt.below (below_alloc1 w1 _)
  clear hB1 hbt
  go_wp2_with (at_builtin; refine wpList_append_bytes rfl (.tmp 16) (.tmp 17) rfl w1.heap.size _ 0 [] rfl (own_empty w1) w1.heap.size A l c 32 Hl.out.symm rfl hbt' (by omega) (by simp) ?_)
  intro v' w2 hown hgrow
  have hB2 := below_copy hgrow
  have t2 := Lib.hid (t1.out.next hB2)
  obtain ⟨g, cap, rfl, hg1, hg2⟩ := hown.form (by omega)
  have Hown : Hid (w2.ownsRow w1.heap.size 5 1 (.slice (some ⟨g, 0, none⟩) 32 cap) 32 (bytesV (putK l ⟨b, n, s⟩ 0))) := by
    unfold Hid; rw [HZ.out]; simpa using hown
  clear hown hgrow hB2 hbt'
  go_wp2
  go_loopw [7] (fun i wr => ∃ k : Nat, k ≤ s.size ∧ i = .int .i64 k ∧ St1 w ⟨b, n, s⟩ wr ∧ wr.ownsRow w1.heap.size 5 1 (.slice (some ⟨g, 0, none⟩) 32 cap) 32 (bytesV (putK l ⟨b, n, s⟩ k))) (fun i _ => s.size - (intOf i).toNat)
  case atStart => exact ⟨0, Nat.zero_le _, rfl, t2.out, Hown.out⟩
  case round =>
    obtain ⟨k, hk, rfl, hst, hown⟩ := hrel
    rename World => wr
    obtain ⟨c0, c1, c2⟩ := hst.2.cells
    simp only at c0 c1 c2
    have T := Lib.hid hst
    have O := Lib.hid hown
    by_cases hlt : k < s.size
    · have hlti : (k : Int) < (s.size : Int) := by omega
      have hk0 : (0 : Int) ≤ (k : Int) := by omega
      have hc1 : wr.cell? ⟨g, n + k, none⟩ = some (.int .u8 (nth (putK l ⟨b, n, s⟩ k) (n + k))) := by
        rw [hown.cellAt _ (by omega), bytesV, List.getElem?_map, List.getElem?_eq_getElem (by rw [HK.out]; omega), nth_lt (by rw [HK.out]; omega)]; rfl
      have hf1 : wr.frozen? ⟨g, n + k, none⟩ = false := hown.frozenAt _
      have hsum : IntKind.i64.wrap ((n : Int) + (k : Int)) = ((n + k : Nat) : Int) := by rw [IntWalk.i64_in _ (by omega)]; omega
      have hnk : n + k < 32 := by omega
      clear hst hown
      go_wp2_with fail
      go_region
      all_goals go_wp2
      go_roundw
      case rel =>
        refine ⟨k + 1, by omega, by go_num, (T.out.set (by have := t1.out.1.size; omega) (by have := BlkIs.lt t1.out.2; omega) _ _).drew, ?_⟩
        have hs := (O.out.stored (n + k) (.int .u8 (s[k].toNat : Int))).1.drew
        rw [bytesV_set, ← nth_sb s k hlt, ← HS.out k hlt] at hs
        rw [← nth_sb s k hlt]
        exact hs
      case measure => simp [intOf]; omega
    · have hlti : ¬ (k : Int) < (s.size : Int) := by omega
      obtain rfl : k = s.size := by omega
      rw [HA.out] at O
      clear hst hown
      go_wp2
      go_ret2
      exact ⟨g, cap, rfl, base_le O.out (by have := t1.out.1.size; omega), T.out.1⟩
end Go.Proofs.Ytibkipdadpidnaa.Pat
