/- The program's arm: the one that is nearest; those on one side; the first that waited too long. -/
import Derived.Test.YtpelocpjfmmceaaH
set_option linter.unusedVariables false
set_option linter.unusedSimpArgs false
namespace Go.Proofs.Ytpelocpjfmmceaa
open Go.RowKit

section
variable (B g : Nat) (A : Option Addr) (c : Nat) (x : Ar)
set_option maxRecDepth 100000 in
set_option maxHeartbeats 2000000 in
theorem near1_any (cb : Nat) (w : World) (hC : PAt B w g A c x) (hs : x.s < 1024) (hn : 1 ≤ x.n) (hn64 : x.n ≤ 64) (hbox : w.cell? ⟨cb, 0, none⟩ = some (.pointer (some ⟨g, 0, none⟩))) (a b : Int) (ha0 : 0 ≤ a) (ha1 : a < 1024) (hb0 : 0 ≤ b) (hb1 : b < 1024) :
    Calls Try.prog 76 #[.int .i64 a, .int .i64 b, .pointer (some ⟨cb, 0, none⟩)] w fun e w' => e = .returned (.bool (nearB x.s x.n a b)) ∧ Below w.heap.size w w' := by
  have hcb : cb < w.heap.size := by simpa using World.block_lt_of_cell? w _ hbox
  have HA : Hid (∀ W, Below w.heap.size w W → Calls Try.prog 44 #[.pointer (some ⟨g, 0, none⟩), .int .i64 a] W fun e w' => e = .returned (.int .i64 (far x.s a.toNat x.n : Nat)) ∧ Below W.heap.size W w') := fun W hW => away_any B g A c x a W (hC.fresh hW) hs hn hn64 ha0 ha1
  have HB : Hid (∀ W, Below w.heap.size w W → Calls Try.prog 44 #[.pointer (some ⟨g, 0, none⟩), .int .i64 b] W fun e w' => e = .returned (.int .i64 (far x.s b.toNat x.n : Nat)) ∧ Below W.heap.size W w') := fun W hW => away_any B g A c x b W (hC.fresh hW) hs hn hn64 hb0 hb1
  have Hd := Lib.hid (near_is x.s x.n a b)
  generalize nearB x.s x.n a b = r at *
  generalize (far x.s a.toNat x.n : Int) = fa at *
  generalize (far x.s b.toNat x.n : Int) = fb at *
  have HC1 := Lib.hid (fun W => compare_any fa fb W)
  have HC2 := Lib.hid (fun W => compare_any a b W)
  generalize cmpI fa fb = p at *
  generalize cmpI a b = q at *
  have HO : Hid (∀ (W W2 : World), W2 = W.alloc (.cells #[.int .i64 p, .int .i64 q] 3) → Calls Try.prog 77 #[.slice (some ⟨W.heap.size, 0, none⟩) 2 2] W2 fun e w' => e = .returned (.int .i64 (orI p q)) ∧ W2 = w') := fun W W2 e => by
    subst e
    have := heap_alloc_new W (.cells #[.int .i64 p, .int .i64 q] 3)
    exact or_any p q W.heap.size _ (cell_of_row _ W.heap.size 0 _ _ (0, 0) this) (cell_of_row _ W.heap.size 1 _ _ (0, 0) this)
  generalize orI p q = o at *
  have HD0 : Hid (Below w.heap.size w w.drew) := (Below.refl _ _).drew
  have X0 := Lib.hid (show w.drew.cell? ⟨cb, 0, none⟩ = some (.pointer (some ⟨g, 0, none⟩)) from hbox)
  clear hC hs hn hn64 hbox ha0 ha1 hb0 hb1
  go_enter Try.func76, Try.ntmps76
  go_wp2
  go_region_held3 (fun W => W.cell? ⟨cb, 0, none⟩ = some (.pointer (some ⟨g, 0, none⟩))) (first | exact X0.out | exact X3.out | exact X4.out | exact X5.out | go_keep)
    (first
      | (go_at_call 44; (with_reducible refine (HA.out _ HD0.out).mono ?_); rintro e w3 ⟨rfl, hb3⟩; have HB3 := Lib.hid (HD0.out.trans (hb3.mono HD0.out.size)); have X3 : Hid (w3.cell? ⟨cb, 0, none⟩ = some (.pointer (some ⟨g, 0, none⟩))) := (hb3.cell (p := ⟨cb, 0, none⟩) hcb).trans X0.out; clear hb3)
      | (go_at_call 44; (with_reducible refine (HB.out _ HB3.out).mono ?_); rintro e w4 ⟨rfl, hb4⟩; have HB4 := Lib.hid (HB3.out.trans (hb4.mono HB3.out.size)); have X4 : Hid (w4.cell? ⟨cb, 0, none⟩ = some (.pointer (some ⟨g, 0, none⟩))) := (hb4.cell (p := ⟨cb, 0, none⟩) (Nat.lt_of_lt_of_le hcb HB3.out.size)).trans X3.out; clear hb4)
      | (go_at_call 78; (with_reducible refine (HC1.out _).mono ?_); rintro e w' ⟨rfl, rfl⟩)
      | (go_at_call 78; (with_reducible refine (HC2.out _).mono ?_); rintro e w' ⟨rfl, rfl⟩)
      | (go_at_call 77; (with_reducible refine (HO.out _ _ rfl).mono ?_); rintro e w' ⟨rfl, rfl⟩)
      | fail)
  all_goals
    go_wp2
    go_ret
    exact ⟨ret_bool Hd.out, HB4.out.alloc HB4.out.size _⟩
end
end Go.Proofs.Ytpelocpjfmmceaa
