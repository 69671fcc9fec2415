/- BitsetBack is true of every bytes, and leaves its argument as it is. Conditions: none. Here: the walk of the law's text. -/
import Derived.Test.YtceppcmcokkkoaaX
import Derived.WalkKit
import Derived.OpenShut
namespace Go.Proofs.Ytceppcmcokkkoaa.bitsetBack
open Go.RowKit
set_option maxRecDepth 100000 in
set_option maxHeartbeats 1000000 in
theorem walk (a0 : Option Addr) (len0 cap0 : Nat) (z0 : List Int) (w : World) (w0 : IsRow .u8 w a0 len0 cap0 z0) :
    Calls Try.prog 12 #[.slice a0 len0 cap0] w fun e w' => e = .returned (.bool true) ∧ Below w.heap.size w w' := by
  obtain ⟨h1, h2, h3, h4⟩ := w0.bts
  obtain ⟨l, hl0⟩ : ∃ l, l = (z0.take len0).take 64 := ⟨_, rfl⟩
  have hll : l.length = min 64 len0 := by rw [hl0, List.length_take, h4]
  have hb : Bts w w.heap.size a0 l := by rw [hl0]; exact h3.take 64
  have hl1 : l.length ≤ 1000 := by omega
  have hl64 : l.length ≤ 64 := by omega
  have hin := natsI_in l hl1
  have hmk := make_list l hb.1
  have hhas := has_nth (ones_has l)
  have hon := length_onesTo l l.length
  have ho8 : (natsI (ones l)).length ≤ 100000 := by rw [length_natsI]; unfold ones; omega
  have Hmk := Lib.hid hmk
  have Hhas := Lib.hid hhas
  clear h3 h4 hl0 hmk hhas hon w0
  unfold maxLen at h2
  have hor : (64 < len0 ∧ l.length = 64) ∨ (len0 ≤ 64 ∧ l.length = len0) := by omega
  clear hll
  rcases hor with ⟨hor, hle⟩ | ⟨hor, hle⟩
  all_goals
    have hi64 : (64 : Int) < (len0 : Int) ∨ ¬ (64 : Int) < (len0 : Int) := by omega
    first
      | (have hg : (64 : Int) < (len0 : Int) := by omega)
      | (have hg : ¬ (64 : Int) < (len0 : Int) := by omega)
    have Hle := Lib.hid hle
    clear hle hi64
    go_enter Try.func12, Try.ntmps12
    go_wp2_with fail
    refine (list_at _ _ _ l _ Hle.out hl1 hb).mono ?_
    rintro e wa ⟨A1, c1, rfl, hB1, hi1⟩
    have hba := (hb.below hB1).more hB1.size
    go_wp2_with fail
    refine (make_at _ _ l.length _ _ (by have := Hle.out; omega) (natsI (ones l)) _ (by rw [length_natsI]) hl64 hi1 ho8 hin).mono ?_
    rintro e wb ⟨hB2, ⟨v, rfl, hov, _⟩ | ⟨_, hbad⟩⟩
    · rw [Hmk.out] at hov
      obtain ⟨Av, cv, rfl, _, _, hbv⟩ := hov.form hb.1
      have hB02 : Below w.heap.size w wb := hB1.trans (hB2.mono hB1.size)
      have hbb := hba.below (hB2.mono (Nat.le_refl _))
      clear hov
      go_wp2_with fail
      refine (live_any _).mono ?_
      rintro e wc ⟨rfl, hB3⟩
      have t1 := (hbv.below hB3).text cv
      have t2 := (hbb.below (hB3.mono hB2.size)).text cap0
      rw [Hle.out] at t1 t2
      rw [Hle.out]
      go_wp2
      go_ret
      exact ⟨rfl, hB02.trans (hB3.mono hB02.size)⟩
    · exact absurd hbad Hhas.out
end Go.Proofs.Ytceppcmcokkkoaa.bitsetBack
