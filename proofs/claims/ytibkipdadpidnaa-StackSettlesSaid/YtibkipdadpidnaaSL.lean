/- Roll of both; the bytes' texts. -/
import Derived.Test.YtibkipdadpidnaaSK
set_option linter.unusedVariables false
set_option linter.unusedSimpArgs false
namespace Go.Proofs.Ytibkipdadpidnaa
open Go.RowKit
open Pat (Pt AllB undoP nth)
/-- the bytes with those of some alone -/
def onlyB (s : Sk) (m : List Int) : List Int := withL (fun n => decide (n ∈ m)) s.f s.l
def rollF (s : Sk) (m : List Int) : List Int := if mayE s.l m = 0 then onlyB s m else []
def GivesR (w : World) (f : List Int) (E : Int) (e : Ending) (w' : World) : Prop := ∃ A n c, e = .returned (.tuple #[.slice A n c, .int .i64 E]) ∧ n = f.length ∧ Pat.Bts w' w'.heap.size A f ∧ Below w.heap.size w w'
section
variable {B c g r : Nat} {s u : Sk} {w : World}
theorem q_roll (t : Two B w g r s u) (hO : Ok c s) (hc : c ≤ 190) (A0 : Option Addr) (c0 : Nat) (m : List Int) (hm : m.length ≤ 900) (hmw : ∀ x ∈ m, WfI x) (hI : Ints w w.heap.size A0 m) : Calls Try.prog 14 #[.pointer (some ⟨g, 0, none⟩), .slice A0 m.length c0] w (GivesR w (rollF s m) (mayE s.l m)) := by
  obtain ⟨L, h⟩ := t.p
  have h2 := hO.len
  unfold rollF
  by_cases q : mayE s.l m = 0
  · rw [if_pos q]
    exact (proll_ok B g L s w A0 c0 m h hO.r hO.rise (hO.wf (by omega)) (by omega) hm hmw hI q).mono fun e w' ⟨d, e1, e2, e3, e4⟩ => by
      have hl := withL_len (k := fun n => decide (n ∈ m)) hO.r h.len
      exact ⟨_, 32, 32, by rw [q]; exact e1, hl.symm, bts_blk e2 (withL_all h.all) hl, e4⟩
  · rw [if_neg q]
    exact (proll_no B g L s w A0 c0 m h hO.r hO.rise (hO.wf (by omega)) (by omega) hm hmw hI q).mono fun e w' ⟨e1, e2⟩ => ⟨none, 0, 0, e1, rfl, Pat.Bts.nil, e2⟩
theorem d_roll (t : Two B w g r u s) (hO : Ok c s) (hc : c ≤ 190) (hf : s.f.length = 32) (A0 : Option Addr) (c0 : Nat) (m : List Int) (hm : m.length ≤ 900) (hI : Ints w w.heap.size A0 m) : Calls Try.prog 16 #[.pointer (some ⟨r, 0, none⟩), .slice A0 m.length c0] w (GivesR w (rollF s m) (mayE s.l m)) := by
  obtain ⟨bA, bc, A, c', h⟩ := t.r
  have h2 := hO.len
  unfold rollF
  by_cases q : mayE s.l m = 0
  · rw [if_pos q]
    exact (rroll_ok B r bA A bc c' s w A0 c0 m h hO.r (by omega) (by omega) hI q).mono fun e w' ⟨d, c2, e1, e2, e3⟩ => by
      have hl := withL_len (k := fun n => decide (n ∈ m)) hO.r hf
      exact ⟨_, 32, c2, by rw [q]; exact e1, hl.symm, (own_bts e2 (withL_all h.all) hl).2.1, e3⟩
  · rw [if_neg q]
    exact (rroll_no B r bA A bc c' s w A0 c0 m h hO.r (by omega) (by omega) hI q).mono fun e w' ⟨e1, e2⟩ => ⟨none, 0, 0, e1, rfl, Pat.Bts.nil, e2⟩
end
end Go.Proofs.Ytibkipdadpidnaa
