/- Whatever deed and number come in, ArmNone returns true, and they read afterwards as before. No condition. Here: the walk of the law's text. -/
import Derived.Test.YtpelocpjfmmceaaSG
set_option linter.unusedVariables false
set_option linter.unusedSimpArgs false
namespace Go.Proofs.Ytpelocpjfmmceaa
open Go.RowKit
set_option maxRecDepth 100000 in
set_option maxHeartbeats 2000000 in
theorem fork_nil (w : World) : Calls Try.prog 24 #[.pointer none] w fun e w' => e = .returned (.pointer none) ∧ w = w' := by
  go_enter Try.func24, Try.ntmps24
  go_wp2
  go_ret
  exact ⟨rfl, rfl⟩
set_option maxRecDepth 100000 in
set_option maxHeartbeats 2000000 in
theorem ArmNone.walk (d : Dd) (n : Int) (W : World) (hd : d.p < 256) (hn : (Lit.int .i64 n).wf = true) :
    Calls Try.prog 10 #[d.v, .int .i64 n] W fun e W' => e = .returned (.bool true) ∧ Below W.heap.size W W' := by
  obtain ⟨dk, dn, dp⟩ := d
  dsimp only at hd
  obtain ⟨W1, hW⟩ : ∃ W1, W1 = W.alloc (.cells #[.int .i64 dk, .int .i64 dn, .int .u8 dp] 58) := ⟨_, rfl⟩
  have hB0 : Below W.heap.size W W1 := by rw [hW]; exact (Below.refl _ _).alloc (Nat.le_refl _) _
  have hbx : W1.heap[W.heap.size]? = some (.cells #[.int .i64 dk, .int .i64 dn, .int .u8 dp] 58 (0, 0)) := by rw [hW]; exact heap_alloc_new W _
  have HX : Hid (∀ w2, Below W1.heap.size W1 w2 → w2.cell? ⟨W.heap.size, 1, none⟩ = some (.int .i64 dn) ∧ w2.cell? ⟨W.heap.size, 2, none⟩ = some (.int .u8 dp)) := fun w2 h2 => by
    have hlt := (Array.getElem?_eq_some_iff.1 hbx).1
    exact ⟨(h2.cell (p := ⟨W.heap.size, 1, none⟩) hlt).trans (cell_of_row _ _ 1 _ _ (0, 0) hbx), (h2.cell (p := ⟨W.heap.size, 2, none⟩) hlt).trans (cell_of_row _ _ 2 _ _ (0, 0) hbx)⟩
  have HB0 := Lib.hid hB0
  have HN := Lib.hid (fun w => new_any dp n hd w)
  have HR := Lib.hid (fun w => rnew_any dp n hd w)
  have HLv := Lib.hid (fun w => live_any w)
  have X0 := Lib.hid (HX.out W1 (Below.refl _ _))
  have X1 := Lib.hid (HX.out W1.drew (Below.refl _ _).drew)
  have HBd : Hid (Below W1.heap.size W1 W1.drew) := (Below.refl _ _).drew
  rw [hW] at HX HB0 X0 X1 HBd
  unfold Dd.v
  clear hW hB0 hbx hd hn
  cases hok : newOk dp n with
  | true =>
    have HN2 : Hid (∀ w, Calls Try.prog 32 #[.int .u8 dp, .int .i64 n] w fun e w' => ∃ g, e = .returned (.pointer (some ⟨g, 0, none⟩)) ∧ Below w.heap.size w w') := fun w => (HN.out w).mono fun e w' ⟨h1, h2⟩ => by
      rcases h2 with ⟨_, g, q, _⟩ | ⟨q, _⟩
      · exact ⟨g, q, h1⟩
      · rw [hok] at q; cases q
    have HR2 : Hid (∀ w, Calls Try.prog 33 #[.int .u8 dp, .int .i64 n] w fun e w' => ∃ g, e = .returned (.pointer (some ⟨g, 0, none⟩)) ∧ Below w.heap.size w w') := fun w => (HR.out w).mono fun e w' ⟨h1, h2⟩ => by
      rcases h2 with ⟨_, g, q, _⟩ | ⟨q, _⟩
      · exact ⟨g, q, h1⟩
      · rw [hok] at q; cases q
    clear hok HN HR
    go_enter Try.func10, Try.ntmps10
    go_wp2_with (go_at_call 19; refine (next_nil _).mono ?_; rintro e w' ⟨rfl, rfl⟩)
    dsimp only [List.append]
    go_region_held3 (fun w => w.cell? ⟨W.heap.size, 1, none⟩ = some (.int .i64 dn) ∧ w.cell? ⟨W.heap.size, 2, none⟩ = some (.int .u8 dp)) (first | exact X0.out | exact X1.out | exact X2.out | exact X3.out | exact X4.out | exact X5.out)
      (first
      | (go_at_call 12; (with_reducible refine (HLv.out _).mono ?_); rintro e w2 ⟨rfl, hb2⟩; have HB2 := Lib.hid (HBd.out.trans (hb2.mono HBd.out.size)); have X2 := Lib.hid (HX.out w2 HB2.out); clear hb2)
      | (go_at_call 20; (with_reducible refine (ask_nil _ _).mono ?_); rintro e w' ⟨rfl, rfl⟩)
      | (go_at_call 27; (with_reducible refine (cancel_nil _ _).mono ?_); rintro e w' ⟨rfl, rfl⟩)
      | (go_at_call 28; (with_reducible refine (set_nil _ _).mono ?_); rintro e w' ⟨rfl, rfl⟩)
      | (go_at_call 18; (with_reducible refine (waiting_nil _).mono ?_); rintro e w' ⟨rfl, rfl⟩)
      | (go_at_call 21; (with_reducible refine (age_nil _ _).mono ?_); rintro e w3 ⟨rfl, hb3⟩; have HB3 := Lib.hid (HB2.out.trans (hb3.mono HB2.out.size)); have X3 := Lib.hid (HX.out w3 HB3.out); clear hb3)
      | (go_at_call 29; (with_reducible refine (at_nil _).mono ?_); rintro e w' ⟨rfl, rfl⟩)
      | (go_at_call 30; (with_reducible refine (moved_nil _).mono ?_); rintro e w' ⟨rfl, rfl⟩)
      | (go_at_call 31; (with_reducible refine (up_nil _).mono ?_); rintro e w' ⟨rfl, rfl⟩)
      | (go_at_call 24; (with_reducible refine (fork_nil _).mono ?_); rintro e w' ⟨rfl, rfl⟩)
      | (go_at_call 32; (with_reducible refine (HN2.out _).mono ?_); rintro e w4 ⟨g4, rfl, hb4⟩; have HB4 := Lib.hid (HB3.out.trans (hb4.mono HB3.out.size)); have X4 := Lib.hid (HX.out w4 HB4.out); clear hb4)
      | (go_at_call 33; (with_reducible refine (HR2.out _).mono ?_); rintro e w5 ⟨g5, rfl, hb5⟩; have HB5 := Lib.hid (HB4.out.trans (hb5.mono HB4.out.size)); have X5 := Lib.hid (HX.out w5 HB5.out); clear hb5)
      | fail)
    all_goals
      go_wp2
      go_ret
      exact ⟨by simp, HB0.out.trans (HB5.out.mono HB0.out.size)⟩
  | false =>
    have HN2 : Hid (∀ w, Calls Try.prog 32 #[.int .u8 dp, .int .i64 n] w fun e w' => e = .returned (.pointer none) ∧ Below w.heap.size w w') := fun w => (HN.out w).mono fun e w' ⟨h1, h2⟩ => by
      rcases h2 with ⟨q, _⟩ | ⟨_, q⟩
      · rw [hok] at q; cases q
      · exact ⟨q, h1⟩
    have HR2 : Hid (∀ w, Calls Try.prog 33 #[.int .u8 dp, .int .i64 n] w fun e w' => e = .returned (.pointer none) ∧ Below w.heap.size w w') := fun w => (HR.out w).mono fun e w' ⟨h1, h2⟩ => by
      rcases h2 with ⟨q, _⟩ | ⟨_, q⟩
      · rw [hok] at q; cases q
      · exact ⟨q, h1⟩
    clear hok HN HR
    go_enter Try.func10, Try.ntmps10
    go_wp2_with (go_at_call 19; refine (next_nil _).mono ?_; rintro e w' ⟨rfl, rfl⟩)
    dsimp only [List.append]
    go_region_held3 (fun w => w.cell? ⟨W.heap.size, 1, none⟩ = some (.int .i64 dn) ∧ w.cell? ⟨W.heap.size, 2, none⟩ = some (.int .u8 dp)) (first | exact X0.out | exact X1.out | exact X2.out | exact X3.out | exact X4.out | exact X5.out)
      (first
      | (go_at_call 12; (with_reducible refine (HLv.out _).mono ?_); rintro e w2 ⟨rfl, hb2⟩; have HB2 := Lib.hid (HBd.out.trans (hb2.mono HBd.out.size)); have X2 := Lib.hid (HX.out w2 HB2.out); clear hb2)
      | (go_at_call 20; (with_reducible refine (ask_nil _ _).mono ?_); rintro e w' ⟨rfl, rfl⟩)
      | (go_at_call 27; (with_reducible refine (cancel_nil _ _).mono ?_); rintro e w' ⟨rfl, rfl⟩)
      | (go_at_call 28; (with_reducible refine (set_nil _ _).mono ?_); rintro e w' ⟨rfl, rfl⟩)
      | (go_at_call 18; (with_reducible refine (waiting_nil _).mono ?_); rintro e w' ⟨rfl, rfl⟩)
      | (go_at_call 21; (with_reducible refine (age_nil _ _).mono ?_); rintro e w3 ⟨rfl, hb3⟩; have HB3 := Lib.hid (HB2.out.trans (hb3.mono HB2.out.size)); have X3 := Lib.hid (HX.out w3 HB3.out); clear hb3)
      | (go_at_call 29; (with_reducible refine (at_nil _).mono ?_); rintro e w' ⟨rfl, rfl⟩)
      | (go_at_call 30; (with_reducible refine (moved_nil _).mono ?_); rintro e w' ⟨rfl, rfl⟩)
      | (go_at_call 31; (with_reducible refine (up_nil _).mono ?_); rintro e w' ⟨rfl, rfl⟩)
      | (go_at_call 24; (with_reducible refine (fork_nil _).mono ?_); rintro e w' ⟨rfl, rfl⟩)
      | (go_at_call 32; (with_reducible refine (HN2.out _).mono ?_); rintro e w4 ⟨rfl, hb4⟩; have HB4 := Lib.hid (HB3.out.trans (hb4.mono HB3.out.size)); have X4 := Lib.hid (HX.out w4 HB4.out); clear hb4)
      | (go_at_call 33; (with_reducible refine (HR2.out _).mono ?_); rintro e w5 ⟨rfl, hb5⟩; have HB5 := Lib.hid (HB4.out.trans (hb5.mono HB4.out.size)); have X5 := Lib.hid (HX.out w5 HB5.out); clear hb5)
      | fail)
    all_goals
      go_wp2
      go_ret
      exact ⟨by simp, HB0.out.trans (HB5.out.mono HB0.out.size)⟩
end Go.Proofs.Ytpelocpjfmmceaa
