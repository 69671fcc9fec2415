/- Contracts of the document's own places: At, Way. -/
import Derived.Test.YtpelocpjfmmceaaPB
set_option linter.unusedVariables false
set_option linter.unusedSimpArgs false
namespace Go.Proofs.Ytpelocpjfmmceaa
open Go.RowKit
theorem cells_two_new (W : World) (t : TypeId) (a b : Value) : ∀ (j : Nat) (u : Value), [a, b][j]? = some u → (W.alloc (.cells #[a, b] t)).cell? ((⟨W.heap.size, 0, none⟩ : Addr).add j) = some u := by
  exact fun j u hj => World.news_of_block (heap_alloc_new W _) j u hj
/-- a place of the document's own answers -/
def ptR (a b : Int) : Value := .agg #[.float .f64 (fl a), .float .f64 (fl b)]
theorem ptR_form (a b : Int) : ∃ x y, ptR a b = .agg #[.float .f64 x, .float .f64 y] := ⟨_, _, rfl⟩

set_option maxRecDepth 100000 in
theorem whole_any (n : Nat) (h : n < 1024) (w : World) :
    Calls Try.prog 94 #[.float .f64 (fl (n : Int))] w fun e w' => e = .returned (.tuple #[.int .i64 (n : Int), .bool true]) ∧ w = w' := by
  have i1 := fun W => run_convert_float_int (P := Try.prog) W 75 3 .f64 .i64 (fl n) n (by kernel_rfl) Try.underlying3 (int_fl n (by omega))
  have oa : (FloatKind.f64.format.order (fl (n : Int)) (fl (n : Int)) == some .eq) = true := by rw [order_same n h]; rfl
  have ob : FloatKind.f64.format.order (fl (n : Int)) 13920626448202203136 = some .gt := order_low n h
  have oc : FloatKind.f64.format.order (fl (n : Int)) 4697254411347427328 = some .lt := order_top n h
  have hi : (n : Int) < 1024 := by omega
  have OA : Hid ((FloatKind.f64.format.order (floatOfInt .f64 (n : Int)) (fl (n : Int)) == some .eq) = true) := Lib.hid oa
  clear oa
  go_enter Try.func94, Try.ntmps94
  go_wp2
  go_ret2
  refine ⟨?_, rfl⟩
  show Ending.returned (.tuple #[.int .i64 (n : Int), .bool (FloatKind.f64.format.order (floatOfInt .f64 (n : Int)) (fl (n : Int)) == some .eq)]) = _
  rw [OA.out]

theorem apart_any (a b : Nat) (ha : a < 1024) (hb : b < 1024) (w : World) :
    Calls Try.prog 87 #[.int .i64 (a : Int), .int .i64 (b : Int)] w fun e w' => e = .returned (.int .i64 (((b : Int) - a).natAbs : Nat)) ∧ w = w' := by
  have ha1 : (a : Int) < 1024 := by omega
  have hb1 : (b : Int) < 1024 := by omega
  by_cases h : (a : Int) < (b : Int)
  · have e : (b : Int) - (a : Int) = (((b : Int) - a).natAbs : Nat) := by omega
    have E := Lib.hid e
    clear e
    go_enter Try.func87, Try.ntmps87
    go_wp2
    go_ret
    exact ⟨ret_int E.out, rfl⟩
  · have e : (a : Int) - (b : Int) = (((b : Int) - a).natAbs : Nat) := by omega
    have E := Lib.hid e
    clear e
    go_enter Try.func87, Try.ntmps87
    go_wp2
    go_ret
    exact ⟨ret_int E.out, rfl⟩

set_option maxRecDepth 100000 in
set_option maxHeartbeats 1000000 in
theorem plainr_any (a b : Nat) (ha : a < 1024) (hb : b < 1024) (w : World) :
    Calls Try.prog 86 #[ptR a b] w fun e w' => e = .returned (.tuple #[.int .i64 (a : Int), .int .i64 (b : Int), .bool true]) ∧ Below w.heap.size w w' := by
  have Ha := Lib.hid (fun W => whole_any a ha W)
  have Hb := Lib.hid (fun W => whole_any b hb W)
  have hB0 : ∀ v t, Below w.heap.size w (w.alloc (.cells v t)) := fun v t => (Below.refl _ w).alloc (Nat.le_refl _) _
  unfold ptR
  generalize fl (a : Int) = x at *
  generalize fl (b : Int) = y at *
  go_enter Try.func86, Try.ntmps86
  go_wp2_with fail
  refine (Ha.out _).mono ?_
  rintro e w' ⟨rfl, rfl⟩
  go_wp2_with fail
  refine (Hb.out _).mono ?_
  rintro e w' ⟨rfl, rfl⟩
  go_wp2
  exact bodyPost_ret (v := .tuple #[.int .i64 (a : Int), .int .i64 (b : Int), .bool true]) (by simp [results, Try.results86, go_sem]) rfl ⟨rfl, hB0 _ _⟩

set_option maxRecDepth 100000 in
set_option maxHeartbeats 1000000 in
theorem refat_yes (b p : Nat) (hb : b < 1024) (hp0 : 1 ≤ p) (hp : p ≤ 64) (w : World) :
    Calls Try.prog 73 #[.int .i64 (b : Int), .int .i64 (p : Int)] w fun e w' => e = .returned (.tuple #[ptR ((b / p : Nat) : Int) ((b % p : Nat) : Int), .int .i64 0]) ∧ Below w.heap.size w w' := by
  have h1 : (b : Int) < 1024 := by omega
  have h2 : (1 : Int) ≤ (p : Int) := by omega
  have h3 : (p : Int) ≤ 64 := by omega
  have h4 : ((p : Int) == 0) = false := by simp; omega
  have h5 : ¬ (p : Int) = 0 := by omega
  have h6 : ¬ p = 0 := by omega
  have hst := fun (W : World) (a : Addr) (m : Mode) (x : Nat) => run_store_float Try.prog W a m .f64 x
  have e1 : wrap64 ((b : Int) / (p : Int)) = ((b / p : Nat) : Int) := by
    have h : (b : Int) / (p : Int) = ((b / p : Nat) : Int) := by simp
    have h2 : b / p ≤ b := Nat.div_le_self _ _
    rw [h]
    generalize b / p = q at h2
    exact IntWalk.wrap64_in _ ⟨by omega, by omega⟩
  have e2 : (b : Int) % (p : Int) = ((b % p : Nat) : Int) := by simp
  have E1 := Lib.hid e1
  have E2 := Lib.hid e2
  clear e1 e2
  have hB0 : ∀ v t, Below w.heap.size w (w.alloc (.cells v t)).drew := fun v t => ((Below.refl _ w).alloc (Nat.le_refl _) _).drew
  go_enter Try.func73, Try.ntmps73
  go_wp2
  go_region
  all_goals go_wp2
  refine bodyPost_ret (v := .tuple #[.agg #[.float .f64 (fl (wrap64 ((b : Int) / (p : Int)))), .float .f64 (fl ((b : Int) % (p : Int)))], .int .i64 0]) (by simp [results, Try.results73, go_sem, fl]) rfl ⟨?_, hB0 _ _⟩
  rw [E1.out, E2.out]
  rfl
set_option maxRecDepth 100000 in
set_option maxHeartbeats 1000000 in
theorem refat_no (b p : Int) (h : b < 0 ∨ 1024 ≤ b ∨ p < 1 ∨ 64 < p) (w : World) :
    Calls Try.prog 73 #[.int .i64 b, .int .i64 p] w fun e w' => e = .returned (.tuple #[.agg #[.float .f64 0, .float .f64 0], .int .i64 2]) ∧ Below w.heap.size w w' := by
  have hst := fun (W : World) (a : Addr) (m : Mode) (x : Nat) => run_store_float Try.prog W a m .f64 x
  have hB0 : ∀ v t, Below w.heap.size w (w.alloc (.cells v t)) := fun v t => (Below.refl _ w).alloc (Nat.le_refl _) _
  have fin : ∀ (W : World) (a : Act), True := fun _ _ => trivial
  clear fin
  by_cases h1 : b < 0
  · go_enter Try.func73, Try.ntmps73
    go_wp2
    exact bodyPost_ret (v := .tuple #[.agg #[.float .f64 0, .float .f64 0], .int .i64 2]) (by simp [results, Try.results73, go_sem]) rfl ⟨rfl, hB0 _ _⟩
  by_cases h2 : 1024 ≤ b
  · go_enter Try.func73, Try.ntmps73
    go_wp2
    exact bodyPost_ret (v := .tuple #[.agg #[.float .f64 0, .float .f64 0], .int .i64 2]) (by simp [results, Try.results73, go_sem]) rfl ⟨rfl, hB0 _ _⟩
  by_cases h3 : p < 1
  · go_enter Try.func73, Try.ntmps73
    go_wp2
    exact bodyPost_ret (v := .tuple #[.agg #[.float .f64 0, .float .f64 0], .int .i64 2]) (by simp [results, Try.results73, go_sem]) rfl ⟨rfl, hB0 _ _⟩
  · have h4 : 64 < p := by omega
    go_enter Try.func73, Try.ntmps73
    go_wp2
    exact bodyPost_ret (v := .tuple #[.agg #[.float .f64 0, .float .f64 0], .int .i64 2]) (by simp [results, Try.results73, go_sem]) rfl ⟨rfl, hB0 _ _⟩

set_option maxRecDepth 100000 in
set_option maxHeartbeats 1000000 in
theorem refway_any (a b c d : Nat) (ha : a < 1024) (hb : b < 1024) (hc : c < 1024) (hd : d < 1024) (w : World) :
    Calls Try.prog 74 #[ptR a b, ptR c d] w fun e w' => e = .returned (.int .i64 ((((c : Int) - a).natAbs + ((d : Int) - b).natAbs : Nat) : Int)) ∧ Below w.heap.size w w' := by
  have Hp1 := Lib.hid (fun W => plainr_any a b ha hb W)
  have Hp2 := Lib.hid (fun W => plainr_any c d hc hd W)
  have Ha1 := Lib.hid (fun W => apart_any a c ha hc W)
  have Ha2 := Lib.hid (fun W => apart_any b d hb hd W)
  obtain ⟨m, hm⟩ : ∃ m, m = ((c : Int) - a).natAbs := ⟨_, rfl⟩
  obtain ⟨n, hn⟩ : ∃ n, n = ((d : Int) - b).natAbs := ⟨_, rfl⟩
  rw [← hm] at Ha1 ⊢
  rw [← hn] at Ha2 ⊢
  have hm1 : (m : Int) < 1024 := by omega
  have hn1 : (n : Int) < 1024 := by omega
  unfold ptR at Hp1 Hp2 ⊢
  generalize fl (a : Int) = x at *
  generalize fl (b : Int) = y at *
  generalize fl (c : Int) = u at *
  generalize fl (d : Int) = v at *
  clear hm hn
  have hB0 : ∀ v1 t1 v2 t2, Below w.heap.size w ((w.alloc (.cells v1 t1)).alloc (.cells v2 t2)) := fun v1 t1 v2 t2 => ((Below.refl _ w).alloc (Nat.le_refl _) _).alloc (by simp) _
  have c2 : ∀ W1, Below ((w.alloc (.cells #[.float .f64 x, .float .f64 y] 92)).alloc (.cells #[.float .f64 u, .float .f64 v] 92)).heap.size ((w.alloc (.cells #[.float .f64 x, .float .f64 y] 92)).alloc (.cells #[.float .f64 u, .float .f64 v] 92)) W1 → W1.cell? ⟨w.heap.size + 1, 0, none⟩ = some (.float .f64 u) ∧ W1.cell? ⟨w.heap.size + 1, 1, none⟩ = some (.float .f64 v) := by
    intro W1 h1
    have h0 := cells_two_new (w.alloc (.cells #[.float .f64 x, .float .f64 y] 92)) 92 (.float .f64 u) (.float .f64 v)
    have hs : (w.alloc (.cells #[.float .f64 x, .float .f64 y] 92)).heap.size = w.heap.size + 1 := by simp
    have k0 := h0 0 _ rfl
    have k1 := h0 1 _ rfl
    rw [hs] at k0 k1
    refine ⟨(h1.cell (by simp)).trans ?_, (h1.cell (by simp)).trans ?_⟩
    · exact k0
    · exact k1
  have C2 := Lib.hid c2
  clear c2
  go_enter Try.func74, Try.ntmps74
  go_wp2_with fail
  refine (Hp1.out _).mono ?_
  rintro e w1 ⟨rfl, hB1⟩
  obtain ⟨k0, k1⟩ := C2.out _ hB1
  go_wp2_with fail
  refine (Hp2.out _).mono ?_
  rintro e w2 ⟨rfl, hB2⟩
  go_wp2_with fail
  refine (Ha1.out _).mono ?_
  rintro e w' ⟨rfl, rfl⟩
  go_wp2_with fail
  refine (Ha2.out _).mono ?_
  rintro e w' ⟨rfl, rfl⟩
  go_wp2
  go_ret
  exact ⟨ret_int (by omega), ((hB0 _ _ _ _).trans (hB1.mono (by simp; omega))).trans (hB2.mono (by have := hB1.size; simp at this; omega))⟩

/-- what must be of a block and a track -/
theorem refat_of (b p : Int) (i n : Nat) (e1 : b = (i : Int)) (e2 : p = (n : Int)) (hi : i < 1024) (hn : 1 ≤ n) (hn64 : n ≤ 64) (w : World) :
    Calls Try.prog 73 #[.int .i64 b, .int .i64 p] w fun e w' => e = .returned (.tuple #[ptR ((i / n : Nat) : Int) ((i % n : Nat) : Int), .int .i64 0]) ∧ Below w.heap.size w w' := by
  subst e1 e2
  exact refat_yes i n hi hn hn64 w

theorem refway_of (i j n : Nat) (hi : i < 1024) (hj : j < 1024) (hn : 1 ≤ n) (hn64 : n ≤ 64) (w : World) :
    Calls Try.prog 74 #[ptR ((i / n : Nat) : Int) ((i % n : Nat) : Int), ptR ((j / n : Nat) : Int) ((j % n : Nat) : Int)] w fun e w' => e = .returned (.int .i64 (far i j n : Nat)) ∧ Below w.heap.size w w' := by
  have h1 : i / n ≤ i := Nat.div_le_self _ _
  have h2 : j / n ≤ j := Nat.div_le_self _ _
  have h3 : i % n < n := Nat.mod_lt _ (by omega)
  have h4 : j % n < n := Nat.mod_lt _ (by omega)
  exact refway_any (i / n) (i % n) (j / n) (j % n) (by omega) (by omega) (by omega) (by omega) w

theorem two_in {w w' : World} {a b : Value} {t : TypeId} (h : Below (w.alloc (.cells #[a, b] t)).heap.size (w.alloc (.cells #[a, b] t)) w') :
    w'.cell? ⟨w.heap.size, 0, none⟩ = some a ∧ w'.cell? ⟨w.heap.size, 1, none⟩ = some b ∧ w.heap.size < w'.heap.size := by
  have k0 := cells_two_new w t a b 0 a rfl
  have k1 := cells_two_new w t a b 1 b rfl
  have hs : (w.alloc (.cells #[a, b] t)).heap.size = w.heap.size + 1 := by simp
  have := h.size
  rw [hs] at this
  exact ⟨(h.cell (by simp)).trans k0, (h.cell (by simp)).trans k1, by omega⟩

end Go.Proofs.Ytpelocpjfmmceaa
