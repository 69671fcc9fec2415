/- The document's own arm: how far it is to a block. -/
import Derived.Test.YtpelocpjfmmceaaRQ
import Derived.Deep.Cut
import Derived.Deep.CutRange
set_option linter.unusedVariables false
set_option linter.unusedSimpArgs false
namespace Go.Proofs.Ytpelocpjfmmceaa
open Go.RowKit

set_option maxRecDepth 100000 in
set_option maxHeartbeats 4000000 in
theorem raway_any (B g : Nat) (A : Option Addr) (c : Nat) (x : Ar) (b : Int) (w : World) (hC : RAt B w g A c x) (hs : x.s < 1024) (hn : 1 ≤ x.n) (hn64 : x.n ≤ 64) (h0 : 0 ≤ b) (h1 : b < 1024) :
    Calls Try.prog 55 #[.pointer (some ⟨g, 0, none⟩), .int .i64 b] w fun e w' => e = .returned (.int .i64 (far x.s b.toNat x.n : Nat)) ∧ Below w.heap.size w w' := by
  have hg := hC.glt
  have HA := Lib.hid (fun W => refat_of (x.s : Int) (x.n : Int) x.s x.n rfl rfl hs hn hn64 W)
  have HA2 := Lib.hid (fun W => refat_of b (x.n : Int) b.toNat x.n (by omega) rfl (by omega) hn hn64 W)
  have HW := Lib.hid (fun W => refway_of x.s b.toNat x.n hs (by omega) hn hn64 W)
  have HS : Hid (∀ W, Below w.heap.size w W → W.cell? ⟨g, 2, none⟩ = some (.int .i64 x.s) ∧ W.cell? ⟨g, 1, none⟩ = some (.int .i64 x.n)) := fun W hW => ⟨(rcells (hC.fresh hW)).2.2.1, (rcells (hC.fresh hW)).2.1⟩
  have hst := fun (W : World) (a : Addr) (m : Mode) (x : Nat) => run_store_float Try.prog W a m .f64 x
  unfold ptR at HA HA2 HW
  generalize far x.s b.toNat x.n = d at *
  generalize fl ((x.s / x.n : Nat) : Int) = zx at *
  generalize fl ((x.s % x.n : Nat) : Int) = zy at *
  generalize fl ((b.toNat / x.n : Nat) : Int) = zu at *
  generalize fl ((b.toNat % x.n : Nat) : Int) = zv at *
  generalize (x.s : Int) = s at *
  generalize (x.n : Int) = n at *
  have HS0 := Lib.hid (HS.out w (Below.refl _ _))
  have HSd := Lib.hid (HS.out w.drew (Below.refl _ _).drew)
  have HSa : Hid (∀ o, (w.alloc o).cell? ⟨g, 2, none⟩ = some (.int .i64 s) ∧ (w.alloc o).cell? ⟨g, 1, none⟩ = some (.int .i64 n)) := fun o => HS.out _ ((Below.refl _ _).alloc (Nat.le_refl _) _)
  have HSb : Hid (∀ o, ((w.alloc o).drew).cell? ⟨g, 2, none⟩ = some (.int .i64 s) ∧ ((w.alloc o).drew).cell? ⟨g, 1, none⟩ = some (.int .i64 n)) := fun o => HS.out _ ((Below.refl _ _).alloc (Nat.le_refl _) _).drew
  clear hC hs hn hn64 h0 h1
  go_enter Try.func55, Try.ntmps55
  go_upto_region 1 with fail
  go_cut [5, 6] from 9 to 20 (fun s5 s6 wx => ∃ p : Nat, s5 = .pointer (some ⟨p, 0, none⟩) ∧ wx.cell? ⟨p, 0, none⟩ = some (.float .f64 zx) ∧ wx.cell? ⟨p, 1, none⟩ = some (.float .f64 zy) ∧ p < wx.heap.size ∧ Below w.heap.size w wx)
  case first =>
    go_region_held3 (fun W => W.cell? ⟨g, 2, none⟩ = some (.int .i64 s) ∧ W.cell? ⟨g, 1, none⟩ = some (.int .i64 n)) (first | exact HS0.out | (with_reducible exact HSd.out) | (with_reducible exact HSa.out _) | (with_reducible exact HSb.out _) | (with_reducible exact HS5.out) | (with_reducible exact HS5a.out _) | (with_reducible exact HS5s.out _ _) | go_keep)
      (first
        | (go_at_call 73; (with_reducible refine (HA.out w.drew).mono ?_); rintro e w5 ⟨rfl, hB5⟩; have hB5w : Below w.heap.size w w5 := (Below.refl _ w).drew.trans hB5; have HS5 := Lib.hid (HS.out w5 hB5w); have HS5a : Hid (∀ o, (w5.alloc o).cell? ⟨g, 2, none⟩ = some (.int .i64 s) ∧ (w5.alloc o).cell? ⟨g, 1, none⟩ = some (.int .i64 n)) := (fun o => HS.out _ (hB5w.alloc hB5w.size _)); have HB5 := Lib.hid hB5w; clear hB5w hB5)
        | (go_at_call 73; (with_reducible refine (HA.out _).mono ?_); rintro e w5 ⟨rfl, hB5⟩; have hsz1 : ((w.alloc (.cells #[.float .f64 0, .float .f64 0] 92)).drew).heap.size = w.heap.size + 1 := (by show (w.alloc _).heap.size = _; simp); have hB5w : Below w.heap.size w w5 := ((Below.refl _ w).alloc (Nat.le_refl _) (.cells #[.float .f64 0, .float .f64 0] 92)).drew.trans (hB5.mono (by rw [hsz1]; omega)); have y1 : w5.heap[w.heap.size]? = some (.cells #[.float .f64 0, .float .f64 0] 92 (0, 0)) := (hB5.block w.heap.size (by rw [hsz1]; omega)).trans (Go.heap_alloc_new w _); have k0 := cell_of_row w5 _ 0 _ _ (0, 0) y1; have k1 := cell_of_row w5 _ 1 _ _ (0, 0) y1; simp only [List.getElem?_toArray, List.getElem?_cons_zero, List.getElem?_cons_succ] at k0 k1; have f0 := frozen_of_row w5 _ 0 _ _ y1; have f1 := frozen_of_row w5 _ 1 _ _ y1; have ly1 := (Array.getElem?_eq_some_iff.1 y1).1; have Y1 := Lib.hid y1; clear y1; have HS5 := Lib.hid (HS.out w5 hB5w); have HS5s : Hid (∀ v0 v1, ((w5.setCell ⟨w.heap.size, 0, none⟩ v0).setCell ⟨w.heap.size, 1, none⟩ v1).cell? ⟨g, 2, none⟩ = some (.int .i64 s) ∧ ((w5.setCell ⟨w.heap.size, 0, none⟩ v0).setCell ⟨w.heap.size, 1, none⟩ v1).cell? ⟨g, 1, none⟩ = some (.int .i64 n)) := (fun v0 v1 => HS.out _ ((hB5w.setCell (p := ⟨w.heap.size, 0, none⟩) (Nat.le_refl _) v0).setCell (p := ⟨w.heap.size, 1, none⟩) (Nat.le_refl _) v1)); have HB5 := Lib.hid hB5w; clear hB5w hB5)
        | fail)
    · go_wp2_with fail
      go_meet
      have y := heap_alloc_new w5 (.cells #[.float .f64 zx, .float .f64 zy] 92)
      exact ⟨_, rfl, cell_of_row _ w5.heap.size 0 _ _ (0, 0) y, cell_of_row _ w5.heap.size 1 _ _ (0, 0) y, (Array.getElem?_eq_some_iff.1 y).1, HB5.out.alloc HB5.out.size _⟩
    all_goals
      go_wp2_with fail
      go_meet
      have y := heap_setCell_same _ w.heap.size 1 _ _ (.float .f64 zy) (heap_setCell_same w5 w.heap.size 0 _ _ (.float .f64 zx) Y1.out)
      exact ⟨_, rfl, cell_of_row _ w.heap.size 0 _ _ (0, 0) y, cell_of_row _ w.heap.size 1 _ _ (0, 0) y, (Array.getElem?_eq_some_iff.1 y).1, (HB5.out.setCell (p := ⟨w.heap.size, 0, none⟩) (Nat.le_refl _) _).setCell (p := ⟨w.heap.size, 1, none⟩) (Nat.le_refl _) _⟩
  case rest =>
    obtain ⟨p, rfl, q0, q1, hp, hB'⟩ := hcut
    rename World => wx
    obtain ⟨_, c1⟩ := HS.out wx hB'
    have HB' := Lib.hid hB'
    have hgx : g < wx.heap.size := Nat.lt_of_lt_of_le hg hB'.size
    clear hB' HS HS0 HSd HSa HSb
    go_wp2_with (first
      | (go_at_call 73; refine (HA2.out wx).mono ?_; rintro e w6 ⟨rfl, hB6⟩; have r0 := (hB6.cell (p := ⟨p, 0, none⟩) hp).trans q0; have r1 := (hB6.cell (p := ⟨p, 1, none⟩) hp).trans q1; have hp6 : p < w6.heap.size := Nat.lt_of_lt_of_le hp hB6.size; have HB6 := Lib.hid (HB'.out.trans (hB6.mono HB'.out.size)); clear hB6)
      | (go_at_call 74; refine (HW.out _).mono ?_; rintro e w7 ⟨rfl, hB7⟩; have HB7 := Lib.hid hB7; clear hB7))
    go_ret
    exact ⟨rfl, (HB6.out.alloc HB6.out.size _).trans (HB7.out.mono (HB6.out.alloc HB6.out.size _).size)⟩
end Go.Proofs.Ytpelocpjfmmceaa
