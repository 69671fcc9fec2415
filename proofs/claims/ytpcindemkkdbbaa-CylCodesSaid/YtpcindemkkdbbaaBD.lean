/- Contracts of isBlock, Rebuild, New. -/
import Derived.Test.YtpcindemkkdbbaaBA
import Derived.Test.YtpcindemkkdbbaaZ
namespace Go.Proofs.Ytpcindemkkdbbaa
set_option linter.unusedVariables false
set_option linter.unusedSimpArgs false
open Go.RowKit

def isBlk (l : List Cy) (g b : Int) : Bool := amongB g l.length && amongB b (cyN l g.toNat).bl
set_option maxRecDepth 100000 in
set_option maxHeartbeats 2000000 in
theorem isBlock_any (A : Option Addr) (c n : Nat) (l : List Cy) (g b : Int) (hn : n = l.length) (w : World) (hl : l.length ≤ 1000) (hI : Cyls w w.heap.size A l) :
    Calls Try.prog 53 #[.slice A n c, .agg #[.int .i64 g, .int .i64 b]] w fun e w' => e = .returned (.bool (isBlk l g b)) ∧ Below w.heap.size w w' := by
  have hn1 : n ≤ 1000 := by omega
  have HR : Hid (isBlk l g b = (amongB g n && amongB b (cyN l g.toNat).bl)) := by unfold Hid isBlk; rw [hn]
  have HB : Hid (∀ o q, Below w.heap.size w ((w.alloc o).drewN q)) := fun o q => bdn ((Below.refl _ _).alloc (Nat.le_refl _) _) q
  obtain ⟨R, hR⟩ : ∃ R, R = isBlk l g b := ⟨_, rfl⟩
  rw [← hR] at HR ⊢
  clear hR
  obtain ⟨r1, h1⟩ : ∃ r, r = amongB g n := ⟨_, rfl⟩
  have H1 : Hid (∀ W, Calls Try.prog 50 #[.int .i64 g, .int .i64 n] W fun e w' => e = .returned (.bool r1) ∧ w' = W) := by unfold Hid; rw [h1]; exact fun W => (among_any g n W).mono fun _ _ ⟨a, b⟩ => ⟨a, b.symm⟩
  have HA := Lib.hid (fun (t : r1 = true) => amongB_iff.1 (h1 ▸ t))
  rw [← h1] at HR
  clear h1
  have T1 : Hid True := trivial
  cases r1 with
  | false =>
    have Hf : Hid (R = false) := HR.out
    clear hI hn HA
    go_enter Try.func53, Try.ntmps53
    go_wp2
    go_quiet ((go_at_call 50; with_reducible exact Calls.quiet_of_same (H1.out _)))
    go_wp2
    go_ret
    exact ⟨ret_bool Hf.out.symm, HB.out _ _⟩
  | true =>
    obtain ⟨hg0, hgn⟩ := HA.out rfl
    obtain ⟨j, rfl⟩ : ∃ j : Nat, g = (j : Int) := ⟨g.toNat, by omega⟩
    obtain ⟨bb, off, Ak, ck, A2k, c2k, rfl, hb, hx⟩ := hI.at_ (k := j) (by omega)
    have hj : ((j : Int)).toNat = j := by simp
    rw [hj] at HR
    obtain ⟨_, c1, _, _, _, _, _, _, _⟩ := hx.keep (w' := w.alloc (.cells #[.int .i64 j, .int .i64 b] 41)) hb (fun p hp => ((Below.refl _ w).alloc (Nat.le_refl _) _).cell hp)
    obtain ⟨bl, hbl⟩ : ∃ bl, bl = (cyN l j).bl := ⟨_, rfl⟩
    rw [← hbl] at c1 HR
    clear hx hbl hI hn hj HA
    obtain ⟨r2, h2⟩ : ∃ r, r = amongB b bl := ⟨_, rfl⟩
    have H2 : Hid (∀ W, Calls Try.prog 50 #[.int .i64 b, .int .i64 bl] W fun e w' => e = .returned (.bool r2) ∧ w' = W) := by unfold Hid; rw [h2]; exact fun W => (among_any b bl W).mono fun _ _ ⟨a, b⟩ => ⟨a, b.symm⟩
    rw [← h2] at HR
    have Hf : Hid (R = r2) := HR.out.trans (by simp)
    clear h2 HR
    go_enter Try.func53, Try.ntmps53
    go_wp2
    go_quiet ((first | (go_at_call 50; with_reducible exact Calls.quiet_of_same (H1.out _)) | (go_at_call 50; with_reducible exact Calls.quiet_of_same (H2.out _))))
    go_wp2
    go_ret
    exact ⟨ret_bool Hf.out.symm, HB.out _ _⟩

/-- a group whose counts are reckoned anew -/
def recount (x : Cy) : Cy := { x with fb := x.bl - x.us.length, fi := 16 - x.is.length }
/-- what New and Rebuild answer: a group of one's own, an error -/
def CySays (w : World) (x : Cy) (er : Int) (e : Ending) (w' : World) : Prop :=
  ∃ A c A2 d, e = .returned (.tuple #[x.v A c A2 d, .int .i64 er]) ∧ RowI w' w.heap.size A c x.us ∧ RowI w' w.heap.size A2 d x.is ∧ (∀ b, own A = some b → own A2 ≠ some b) ∧ Below w.heap.size w w'
end Go.Proofs.Ytpcindemkkdbbaa
