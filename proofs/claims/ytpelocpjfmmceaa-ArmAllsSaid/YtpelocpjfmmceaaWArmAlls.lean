/- Whatever is asked comes in, ArmAlls returns true, and it reads afterwards as before. No condition. Here: the walk of the law's text. -/
import Derived.Test.YtpelocpjfmmceaaSK
set_option linter.unusedVariables false
set_option linter.unusedSimpArgs false
namespace Go.Proofs.Ytpelocpjfmmceaa
open Go.RowKit
theorem all_tells {p : Nat} {n f : Int} {l : List Int} : ∃ (gl : List Int) (M E : Int), gl.length ≤ 1000 ∧ ∀ w e w', AllSays w p n f l e w' → ∃ A' c', e = .returned (.tuple #[.slice A' gl.length c', .int .i64 M, .int .i64 E]) ∧ Ints w' w'.heap.size A' gl ∧ Below w.heap.size w w' := by
  cases h : allX p n f l with
  | none =>
    refine ⟨[], 0, 2, by simp, fun w e w' ⟨h1, h2⟩ => ?_⟩
    rcases h2 with ⟨y, _, _, q, _⟩ | ⟨_, q⟩
    · rw [h] at q; cases q
    · exact ⟨none, 0, q, fun k => absurd k (by simp), h1⟩
  | some y =>
    obtain ⟨_, a2, a3⟩ := allX_ok h
    refine ⟨goL y y.l.length, (stA y y.l.length).m, 0, by rw [length_goL]; omega, fun w e w' ⟨h1, h2⟩ => ?_⟩
    rcases h2 with ⟨y2, A', c', q, q2, q3⟩ | ⟨q, _⟩
    · rw [h] at q
      cases q
      exact ⟨A', c', by rw [length_goL]; exact q2, q3.ints, h1⟩
    · rw [h] at q; cases q
set_option maxRecDepth 100000 in
set_option maxHeartbeats 4000000 in
theorem ArmAlls.walk (p : Nat) (n f : Int) (a : Option Addr) (len cap : Nat) (l : List Int) (W : World) (hp : p < 256 ∧ IsInts W a len cap l) :
    Calls Try.prog 4 #[.agg #[.int .u8 p, .int .i64 n, .int .i64 f, .slice a len cap]] W fun e W' => e = .returned (.bool true) ∧ Below W.heap.size W W' := by
  obtain ⟨hp, h1, h2, h3, h4⟩ := hp
  obtain ⟨m, hm⟩ : ∃ m, m = if 30 < len then 30 else len := ⟨_, rfl⟩
  have hml : m ≤ 30 ∧ m ≤ len := by rw [hm]; split <;> omega
  have hlm : (l.take m).length = m := by rw [List.length_take]; omega
  have HFw : Hid (∀ w, Calls Try.prog 15 #[.slice a len cap] w fun e w' => e = .returned (.slice a m cap) ∧ w = w') := fun w => by rw [hm]; exact few_any a len cap w h2 h3
  obtain ⟨W1, hW⟩ : ∃ W1, W1 = W.alloc (.cells #[.int .u8 p, .int .i64 n, .int .i64 f, .slice a len cap] 33) := ⟨_, rfl⟩
  have hB0 : Below W.heap.size W W1 := by rw [hW]; exact (Below.refl _ _).alloc (Nat.le_refl _) _
  have hbx : W1.heap[W.heap.size]? = some (.cells #[.int .u8 p, .int .i64 n, .int .i64 f, .slice a len cap] 33 (0, 0)) := by rw [hW]; exact heap_alloc_new W _
  have hi := h4.take m
  obtain ⟨gl, M, E, hgl, htell⟩ := all_tells (p := p) (n := n) (f := f) (l := l.take m)
  have hin : ∀ w2, Below W.heap.size W w2 → Ints w2 w2.heap.size a (l.take m) := fun w2 h => fun hn => by
    obtain ⟨b, off, e, hb, hc⟩ := hi hn
    exact ⟨b, off, e, Nat.lt_of_lt_of_le hb h.size, fun j hj => (h.cell (p := ⟨b, off + j, none⟩) hb).trans (hc j hj)⟩
  have HA : Hid (∀ w2, Below W.heap.size W w2 → Calls Try.prog 14 #[.int .u8 p, .int .i64 n, .int .i64 f, .slice a m cap] w2 fun e w' => ∃ A' c', e = .returned (.tuple #[.slice A' gl.length c', .int .i64 M, .int .i64 E]) ∧ Ints w' w'.heap.size A' gl ∧ Below w2.heap.size w2 w') := fun w2 h => by
    have := (all_any p hp n f a cap (l.take m) w2 (by omega) (hin w2 h)).mono (fun e w' => htell w2 e w')
    rwa [hlm] at this
  have HR : Hid (∀ w2, Below W.heap.size W w2 → Calls Try.prog 16 #[.int .u8 p, .int .i64 n, .int .i64 f, .slice a m cap] w2 fun e w' => ∃ A' c', e = .returned (.tuple #[.slice A' gl.length c', .int .i64 M, .int .i64 E]) ∧ Ints w' w'.heap.size A' gl ∧ Below w2.heap.size w2 w') := fun w2 h => by
    have := (rall_any p hp n f a cap (l.take m) w2 (by omega) (hin w2 h)).mono (fun e w' => htell w2 e w')
    rwa [hlm] at this
  have HX : Hid (∀ w2, Below W1.heap.size W1 w2 → w2.cell? ⟨W.heap.size, 0, none⟩ = some (.int .u8 p) ∧ w2.cell? ⟨W.heap.size, 1, none⟩ = some (.int .i64 n) ∧ w2.cell? ⟨W.heap.size, 2, none⟩ = some (.int .i64 f) ∧ w2.cell? ⟨W.heap.size, 3, none⟩ = some (.slice a len cap)) := fun w2 h2 => by
    have hlt := (Array.getElem?_eq_some_iff.1 hbx).1
    exact ⟨(h2.cell (p := ⟨W.heap.size, 0, none⟩) hlt).trans (cell_of_row _ _ 0 _ _ (0, 0) hbx), (h2.cell (p := ⟨W.heap.size, 1, none⟩) hlt).trans (cell_of_row _ _ 1 _ _ (0, 0) hbx), (h2.cell (p := ⟨W.heap.size, 2, none⟩) hlt).trans (cell_of_row _ _ 2 _ _ (0, 0) hbx), (h2.cell (p := ⟨W.heap.size, 3, none⟩) hlt).trans (cell_of_row _ _ 3 _ _ (0, 0) hbx)⟩
  have HB0 := Lib.hid hB0
  have X0 := Lib.hid (HX.out W1 (Below.refl _ _))
  have X1 := Lib.hid (HX.out W1.drew (Below.refl _ _).drew)
  have HBd : Hid (Below W1.heap.size W1 W1.drew) := (Below.refl _ _).drew
  rw [hW] at HX HB0 X0 X1 HBd
  clear hW hB0 hbx hi hin htell h4 h1 hlm hm hp
  go_enter Try.func4, Try.ntmps4
  go_wp2
  go_region_held3 (fun w => w.cell? ⟨W.heap.size, 0, none⟩ = some (.int .u8 p) ∧ w.cell? ⟨W.heap.size, 1, none⟩ = some (.int .i64 n) ∧ w.cell? ⟨W.heap.size, 2, none⟩ = some (.int .i64 f) ∧ w.cell? ⟨W.heap.size, 3, none⟩ = some (.slice a len cap)) (first | exact X0.out | exact X1.out | exact X2.out)
    (first
    | (go_at_call 15; (with_reducible refine (HFw.out _).mono ?_); rintro e w2 ⟨rfl, rfl⟩)
    | (go_at_call 14; (with_reducible refine (HA.out _ (HB0.out.trans (HBd.out.mono HB0.out.size))).mono ?_); rintro e w2 ⟨A1, c1, rfl, hi2, hb2⟩; have HI2 := Lib.hid hi2; have HB2 := Lib.hid (HBd.out.trans (hb2.mono HBd.out.size)); have X2 := Lib.hid (HX.out w2 HB2.out); clear hb2 hi2))
  all_goals
    have X3 := Lib.hid (HX.out w2.drew HB2.out.drew)
    have HBd2 : Hid (Below w2.heap.size w2 w2.drew) := (Below.refl _ _).drew
    have HB2W := Lib.hid (HB0.out.trans (HB2.out.mono HB0.out.size))
    go_wp2
    go_region_held3 (fun w => w.cell? ⟨W.heap.size, 0, none⟩ = some (.int .u8 p) ∧ w.cell? ⟨W.heap.size, 1, none⟩ = some (.int .i64 n) ∧ w.cell? ⟨W.heap.size, 2, none⟩ = some (.int .i64 f) ∧ w.cell? ⟨W.heap.size, 3, none⟩ = some (.slice a len cap)) (first | exact X2.out | exact X3.out | exact X4.out)
      (first
      | (go_at_call 15; (with_reducible refine (HFw.out _).mono ?_); rintro e w3 ⟨rfl, rfl⟩)
      | (go_at_call 16; (with_reducible refine (HR.out _ (HB2W.out.trans (HBd2.out.mono HB2W.out.size))).mono ?_); rintro e w4 ⟨A2, c2, rfl, hi4, hb4⟩; have HI4 := Lib.hid hi4; have HB4 := Lib.hid (HBd2.out.trans (hb4.mono HBd2.out.size)); have X4 := Lib.hid (HX.out w4 (HB2.out.trans (HB4.out.mono HB2.out.size))); clear hb4 hi4))
  all_goals
    have HB4W := Lib.hid (HB2W.out.trans (HB4.out.mono HB2W.out.size))
    have HS : Hid (∀ w5, Below w4.heap.size w4 w5 → Calls Try.prog 17 #[.slice A1 gl.length c1, .slice A2 gl.length c2] w5 fun e w' => e = .returned (.bool true) ∧ Below w5.heap.size w5 w') := fun w5 h5 => same_ints A1 A2 c1 c2 gl w5 hgl ((HI2.out.next HB4.out).next h5) (HI4.out.next h5)
    go_wp2_with (first
      | (go_at_call 12; refine (live_any _).mono ?_; rintro e w5 ⟨rfl, hb5⟩; have HB5 := Lib.hid hb5; clear hb5)
      | (go_at_call 17; refine (HS.out _ HB5.out).mono ?_; rintro e w6 ⟨rfl, hb6⟩; have HB6 := Lib.hid (HB5.out.trans (hb6.mono HB5.out.size)); clear hb6))
    go_ret
    exact ⟨by simp, HB4W.out.trans (HB6.out.mono HB4W.out.size)⟩
end Go.Proofs.Ytpelocpjfmmceaa
