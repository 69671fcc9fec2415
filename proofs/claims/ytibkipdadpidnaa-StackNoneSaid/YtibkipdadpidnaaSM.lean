/- A nil stack. -/
import Derived.Test.YtibkipdadpidnaaSK
set_option linter.unusedVariables false
set_option linter.unusedSimpArgs false
namespace Go.Proofs.Ytibkipdadpidnaa
open Go.RowKit
open Pat (Pt AllB undoP nth)
section
variable (w : World) (n m : Int) (A : Option Addr) (len c : Nat)
theorem nask : Calls Try.prog 49 #[.pointer none, .int .i64 n] w fun e w' => e = .returned (.tuple #[.pointer none, .int .i64 1]) ∧ w = w' := by
  go_enter Try.func49, Try.ntmps49
  go_wp2
  go_ret2
  exact ⟨rfl, rfl⟩
theorem npick : Calls Try.prog 41 #[.pointer none, .slice A len c] w fun e w' => e = .returned (.tuple #[.map none, .int .i64 1]) ∧ w = w' := by
  go_enter Try.func41, Try.ntmps41
  go_wp2
  go_ret2
  exact ⟨rfl, rfl⟩
theorem npush (p : Pt) : Calls Try.prog 18 #[.pointer none, p.v] w fun e w' => e = .returned (.tuple #[.int .i64 0, .int .i64 1]) ∧ Below w.heap.size w w' := by
  have HB : Hid (Below w.heap.size w (w.alloc (.cells p.cs.toArray 38))) := Pat.below_alloc1 w _
  obtain ⟨pb, po, ps⟩ := p
  unfold Pat.Pt.v
  simp only [Pat.Pt.cs] at HB
  go_enter Try.func18, Try.ntmps18
  go_wp2
  go_ret2
  exact ⟨rfl, HB.out⟩
theorem npop : Calls Try.prog 20 #[.pointer none] w fun e w' => e = .returned (.tuple #[Pat.zeroP.v, .int .i64 1]) ∧ Below w.heap.size w w' := by
  have HB1 : Hid (Below w.heap.size w (w.alloc (.cells #[.int .i64 0, .int .i64 0, .string ⟨#[]⟩] 38))) := (Below.refl _ _).alloc (Nat.le_refl _) _
  have HX : Hid (Pat.Boxed (w.alloc (.cells #[.int .i64 0, .int .i64 0, .string ⟨#[]⟩] 38)) w.heap.size Pat.zeroP) := Pat.boxed1 w Pat.zeroP
  go_enter Try.func20, Try.ntmps20
  go_wp2
  refine bodyPost_ret (v := .tuple #[Pat.zeroP.v, .int .i64 1]) ?_ rfl ⟨rfl, HB1.out⟩
  exact Pat.results_cell_row_tmp rfl _ _ w.heap.size 38 Pat.zeroP.cs.toArray (0, 0) _ rfl HX.out Try.underlying38 rfl Pat.info38 _ rfl
theorem nget : Calls Try.prog 26 #[.pointer none, .int .i64 n] w fun e w' => e = .returned (.tuple #[Pat.zeroP.v, .bool false]) ∧ Below w.heap.size w w' := by
  have HB1 : Hid (Below w.heap.size w (w.alloc (.cells #[.int .i64 0, .int .i64 0, .string ⟨#[]⟩] 38))) := (Below.refl _ _).alloc (Nat.le_refl _) _
  have HX : Hid (Pat.Boxed (w.alloc (.cells #[.int .i64 0, .int .i64 0, .string ⟨#[]⟩] 38)) w.heap.size Pat.zeroP) := Pat.boxed1 w Pat.zeroP
  have HA := Lib.hid (fun W => nask W n)
  go_enter Try.func26, Try.ntmps26
  go_wp2_with (go_at_call 49; (with_reducible refine (HA.out _).mono ?_); rintro e w5 ⟨rfl, rfl⟩)
  refine bodyPost_ret (v := .tuple #[Pat.zeroP.v, .bool false]) ?_ rfl ⟨rfl, HB1.out⟩
  exact Pat.results_cell_row_tmp rfl _ _ w.heap.size 38 Pat.zeroP.cs.toArray (0, 0) _ rfl HX.out Try.underlying38 rfl Pat.info38 _ rfl
theorem nroll : Calls Try.prog 14 #[.pointer none, .slice A len c] w fun e w' => e = .returned (.tuple #[.slice none 0 0, .int .i64 1]) ∧ w = w' := by
  have HA := Lib.hid (fun W => npick W A len c)
  go_enter Try.func14, Try.ntmps14
  go_wp2_with (go_at_call 41; (with_reducible refine (HA.out _).mono ?_); rintro e w5 ⟨rfl, rfl⟩)
  go_ret2
  exact ⟨rfl, rfl⟩
theorem nsettle : Calls Try.prog 24 #[.pointer none, .slice A len c] w fun e w' => e = .returned (.int .i64 1) ∧ w = w' := by
  have HA := Lib.hid (fun W => npick W A len c)
  go_enter Try.func24, Try.ntmps24
  go_wp2_with (go_at_call 41; (with_reducible refine (HA.out _).mono ?_); rintro e w5 ⟨rfl, rfl⟩)
  go_ret
  exact ⟨rfl, rfl⟩
theorem nsquash : Calls Try.prog 23 #[.pointer none, .int .i64 n, .int .i64 m] w fun e w' => e = .returned (.int .i64 1) ∧ w = w' := by
  have HA := Lib.hid (fun W => nask W n)
  go_enter Try.func23, Try.ntmps23
  go_wp2_with (go_at_call 49; (with_reducible refine (HA.out _).mono ?_); rintro e w5 ⟨rfl, rfl⟩)
  go_ret
  exact ⟨rfl, rfl⟩
theorem nunder : Calls Try.prog 19 #[.pointer none, .int .i64 n] w fun e w' => e = .returned (.tuple #[.string ⟨#[]⟩, .int .i64 1]) ∧ Below w.heap.size w w' := by
  have HB1 : Hid (Below w.heap.size w (w.alloc (.cells #[.int .i64 n] 3))) := (Below.refl _ _).alloc (Nat.le_refl _) _
  have HA := Lib.hid (fun W => nask W n)
  go_enter Try.func19, Try.ntmps19
  go_wp2_with (go_at_call 49; (with_reducible refine (HA.out _).mono ?_); rintro e w5 ⟨rfl, rfl⟩)
  go_ret2
  exact ⟨rfl, HB1.out⟩
theorem nbytes : Calls Try.prog 17 #[.pointer none] w fun e w' => e = .returned (.slice none 0 0) ∧ w = w' := by
  go_enter Try.func17, Try.ntmps17
  go_wp2
  go_ret
  exact ⟨rfl, rfl⟩
theorem nbase : Calls Try.prog 22 #[.pointer none] w fun e w' => e = .returned (.slice none 0 0) ∧ w = w' := by
  go_enter Try.func22, Try.ntmps22
  go_wp2
  go_ret
  exact ⟨rfl, rfl⟩
theorem nwaiting : Calls Try.prog 21 #[.pointer none] w fun e w' => e = .returned (.slice none 0 0) ∧ w = w' := by
  go_enter Try.func21, Try.ntmps21
  go_wp2
  go_ret
  exact ⟨rfl, rfl⟩
theorem nneeds : Calls Try.prog 25 #[.pointer none, .int .i64 n] w fun e w' => e = .returned (.slice none 0 0) ∧ w = w' := by
  have HA := Lib.hid (fun W => nask W n)
  go_enter Try.func25, Try.ntmps25
  go_wp2_with (go_at_call 49; (with_reducible refine (HA.out _).mono ?_); rintro e w5 ⟨rfl, rfl⟩)
  go_ret
  exact ⟨rfl, rfl⟩
theorem nfork : Calls Try.prog 28 #[.pointer none] w fun e w' => e = .returned (.pointer none) ∧ w = w' := by
  go_enter Try.func28, Try.ntmps28
  go_wp2
  go_ret
  exact ⟨rfl, rfl⟩
end
end Go.Proofs.Ytibkipdadpidnaa
