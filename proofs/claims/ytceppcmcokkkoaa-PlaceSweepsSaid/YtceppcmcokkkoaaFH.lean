/- Contracts of the document's own At where it has none, Way, and from block to block. -/
import Derived.Test.YtceppcmcokkkoaaFG
namespace Go.Proofs.Ytceppcmcokkkoaa
open Go.RowKit

set_option maxRecDepth 100000 in
set_option maxHeartbeats 1000000 in
theorem refat_no (b p : Int) (h : b < 0 ∨ 1024 ≤ b ∨ p < 1 ∨ 64 < p) (w : World) :
    Calls Try.prog 62 #[.int .i64 b, .int .i64 p] w fun e w' => e = .returned (.tuple #[.agg #[.float .f64 0, .float .f64 0], .int .i64 2]) ∧ Below w.heap.size w w' := by
  have hst := fun (W : World) (a : Addr) (m : Mode) (x : Nat) => run_store_float Try.prog W a m .f64 x
  have hB0 : ∀ v t, Below w.heap.size w (w.alloc (.cells v t)) := fun v t => (Below.refl _ w).alloc (Nat.le_refl _) _
  have fin : ∀ (W : World) (a : Act), True := fun _ _ => trivial
  clear fin
  by_cases h1 : b < 0
  · go_enter Try.func62, Try.ntmps62
    go_wp2
    exact bodyPost_ret (v := .tuple #[.agg #[.float .f64 0, .float .f64 0], .int .i64 2]) (by simp [results, Try.results62, go_sem]) rfl ⟨rfl, hB0 _ _⟩
  by_cases h2 : 1024 ≤ b
  · go_enter Try.func62, Try.ntmps62
    go_wp2
    exact bodyPost_ret (v := .tuple #[.agg #[.float .f64 0, .float .f64 0], .int .i64 2]) (by simp [results, Try.results62, go_sem]) rfl ⟨rfl, hB0 _ _⟩
  by_cases h3 : p < 1
  · go_enter Try.func62, Try.ntmps62
    go_wp2
    exact bodyPost_ret (v := .tuple #[.agg #[.float .f64 0, .float .f64 0], .int .i64 2]) (by simp [results, Try.results62, go_sem]) rfl ⟨rfl, hB0 _ _⟩
  · have h4 : 64 < p := by omega
    go_enter Try.func62, Try.ntmps62
    go_wp2
    exact bodyPost_ret (v := .tuple #[.agg #[.float .f64 0, .float .f64 0], .int .i64 2]) (by simp [results, Try.results62, go_sem]) rfl ⟨rfl, hB0 _ _⟩

set_option maxRecDepth 100000 in
set_option maxHeartbeats 1000000 in
theorem refway_any (a b c d : Nat) (ha : a < 1024) (hb : b < 1024) (hc : c < 1024) (hd : d < 1024) (w : World) :
    Calls Try.prog 63 #[ptR a b, ptR c d] w fun e w' => e = .returned (.int .i64 ((((c : Int) - a).natAbs + ((d : Int) - b).natAbs : Nat) : Int)) ∧ Below w.heap.size w w' := by
  have Hp1 := Lib.hid (fun W => plainr_any a b ha hb W)
  have Hp2 := Lib.hid (fun W => plainr_any c d hc hd W)
  have Ha1 := Lib.hid (fun W => apart_any a c ha hc W)
  have Ha2 := Lib.hid (fun W => apart_any b d hb hd W)
  obtain ⟨m, hm⟩ : ∃ m, m = ((c : Int) - a).natAbs := ⟨_, rfl⟩
  obtain ⟨n, hn⟩ : ∃ n, n = ((d : Int) - b).natAbs := ⟨_, rfl⟩
  rw [← hm] at Ha1 ⊢
  rw [← hn] at Ha2 ⊢
  have hm1 : (m : Int) < 1024 := by omega
  have hn1 : (n : Int) < 1024 := by omega
  unfold ptR at Hp1 Hp2 ⊢
  generalize fl (a : Int) = x at *
  generalize fl (b : Int) = y at *
  generalize fl (c : Int) = u at *
  generalize fl (d : Int) = v at *
  clear hm hn
  have hB0 : ∀ v1 t1 v2 t2, Below w.heap.size w ((w.alloc (.cells v1 t1)).alloc (.cells v2 t2)) := fun v1 t1 v2 t2 => ((Below.refl _ w).alloc (Nat.le_refl _) _).alloc (by simp) _
  have c2 : ∀ W1, Below ((w.alloc (.cells #[.float .f64 x, .float .f64 y] 84)).alloc (.cells #[.float .f64 u, .float .f64 v] 84)).heap.size ((w.alloc (.cells #[.float .f64 x, .float .f64 y] 84)).alloc (.cells #[.float .f64 u, .float .f64 v] 84)) W1 → W1.cell? ⟨w.heap.size + 1, 0, none⟩ = some (.float .f64 u) ∧ W1.cell? ⟨w.heap.size + 1, 1, none⟩ = some (.float .f64 v) := by
    intro W1 h1
    have h0 := cells_two_new (w.alloc (.cells #[.float .f64 x, .float .f64 y] 84)) 84 (.float .f64 u) (.float .f64 v)
    have hs : (w.alloc (.cells #[.float .f64 x, .float .f64 y] 84)).heap.size = w.heap.size + 1 := by simp
    have k0 := h0 0 _ rfl
    have k1 := h0 1 _ rfl
    rw [hs] at k0 k1
    refine ⟨(h1.cell (by simp)).trans ?_, (h1.cell (by simp)).trans ?_⟩
    · exact k0
    · exact k1
  have C2 := Lib.hid c2
  clear c2
  go_enter Try.func63, Try.ntmps63
  go_wp2_with fail
  refine (Hp1.out _).mono ?_
  rintro e w1 ⟨rfl, hB1⟩
  obtain ⟨k0, k1⟩ := C2.out _ hB1
  go_wp2_with fail
  refine (Hp2.out _).mono ?_
  rintro e w2 ⟨rfl, hB2⟩
  go_wp2_with fail
  refine (Ha1.out _).mono ?_
  rintro e w' ⟨rfl, rfl⟩
  go_wp2_with fail
  refine (Ha2.out _).mono ?_
  rintro e w' ⟨rfl, rfl⟩
  go_wp2
  go_ret
  exact ⟨ret_int (by omega), ((hB0 _ _ _ _).trans (hB1.mono (by simp; omega))).trans (hB2.mono (by have := hB1.size; simp at this; omega))⟩

/-- what must be of a block and a track -/
theorem refat_of (b p : Int) (i n : Nat) (e1 : b = (i : Int)) (e2 : p = (n : Int)) (hi : i < 1024) (hn : 1 ≤ n) (hn64 : n ≤ 64) (w : World) :
    Calls Try.prog 62 #[.int .i64 b, .int .i64 p] w fun e w' => e = .returned (.tuple #[ptR ((i / n : Nat) : Int) ((i % n : Nat) : Int), .int .i64 0]) ∧ Below w.heap.size w w' := by
  subst e1 e2
  exact refat_yes i n hi hn hn64 w

theorem refway_of (i j n : Nat) (hi : i < 1024) (hj : j < 1024) (hn : 1 ≤ n) (hn64 : n ≤ 64) (w : World) :
    Calls Try.prog 63 #[ptR ((i / n : Nat) : Int) ((i % n : Nat) : Int), ptR ((j / n : Nat) : Int) ((j % n : Nat) : Int)] w fun e w' => e = .returned (.int .i64 (far i j n : Nat)) ∧ Below w.heap.size w w' := by
  have h1 : i / n ≤ i := Nat.div_le_self _ _
  have h2 : j / n ≤ j := Nat.div_le_self _ _
  have h3 : i % n < n := Nat.mod_lt _ (by omega)
  have h4 : j % n < n := Nat.mod_lt _ (by omega)
  exact refway_any (i / n) (i % n) (j / n) (j % n) (by omega) (by omega) (by omega) (by omega) w

theorem two_in {w w' : World} {a b : Value} {t : TypeId} (h : Below (w.alloc (.cells #[a, b] t)).heap.size (w.alloc (.cells #[a, b] t)) w') :
    w'.cell? ⟨w.heap.size, 0, none⟩ = some a ∧ w'.cell? ⟨w.heap.size, 1, none⟩ = some b ∧ w.heap.size < w'.heap.size := by
  have k0 := cells_two_new w t a b 0 a rfl
  have k1 := cells_two_new w t a b 1 b rfl
  have hs : (w.alloc (.cells #[a, b] t)).heap.size = w.heap.size + 1 := by simp
  have := h.size
  rw [hs] at this
  exact ⟨(h.cell (by simp)).trans k0, (h.cell (by simp)).trans k1, by omega⟩

set_option maxRecDepth 100000 in
set_option maxHeartbeats 1000000 in
theorem refstep_any (i j n : Nat) (hi : i < 1024) (hj : j < 1024) (hn : 1 ≤ n) (hn64 : n ≤ 64) (w : World) :
    Calls Try.prog 50 #[.int .i64 (i : Int), .int .i64 (j : Int), .int .i64 (n : Int)] w fun e w' => e = .returned (.int .i64 (far i j n : Nat)) ∧ Below w.heap.size w w' := by
  have Hi := Lib.hid (fun W => refat_yes i n hi hn hn64 W)
  have Hj := Lib.hid (fun W => refat_yes j n hj hn hn64 W)
  have Hw := Lib.hid (fun W => refway_of i j n hi hj hn hn64 W)
  have hst := fun (W : World) (a : Addr) (m : Mode) (x : Nat) => run_store_float Try.prog W a m .f64 x
  unfold ptR at Hi Hj Hw
  generalize far i j n = d at *
  generalize fl ((i / n : Nat) : Int) = x at *
  generalize fl ((i % n : Nat) : Int) = y at *
  generalize fl ((j / n : Nat) : Int) = u at *
  generalize fl ((j % n : Nat) : Int) = v at *
  go_enter Try.func50, Try.ntmps50
  go_wp2_with fail
  refine (Hi.out _).mono ?_
  rintro e w1 ⟨rfl, hB1⟩
  go_wp2_with fail
  refine (Hj.out _).mono ?_
  rintro e w2 ⟨rfl, hB2⟩
  obtain ⟨k0, k1, k2⟩ := two_in hB2
  have k2' : w1.heap.size < (w2.heap.size : Nat) := k2
  go_wp2_with fail
  refine (Hw.out _).mono ?_
  rintro e w3 ⟨rfl, hB3⟩
  go_wp2
  go_ret
  refine ⟨rfl, ?_⟩
  have s1 := hB1.size
  have s2 := hB2.size
  simp at s2
  exact (((hB1.alloc s1 _).trans (hB2.mono (by simp; omega))).alloc (by omega) _).trans (hB3.mono (by simp; omega))
end Go.Proofs.Ytceppcmcokkkoaa
