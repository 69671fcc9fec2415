/- The program's arm: how far it is to a block; which of two is better. -/
import Derived.Test.YtpelocpjfmmceaaG
import Derived.Test.YtpelocpjfmmceaaPC
set_option linter.unusedVariables false
set_option linter.unusedSimpArgs false
namespace Go.Proofs.Ytpelocpjfmmceaa
open Go.RowKit

theorem nan_any (x : Int) (w : World) : Calls Try.prog 88 #[.int .i64 x] w fun e w' => e = .returned (.bool false) ∧ w = w' := by
  go_enter Try.func88, Try.ntmps88
  go_wp2
  go_ret
  exact ⟨rfl, rfl⟩
theorem less_any (x y : Int) (w : World) : Calls Try.prog 82 #[.int .i64 x, .int .i64 y] w fun e w' => e = .returned (.bool (lessB x y)) ∧ Below w.heap.size w w' := by
  have HX := Lib.hid (fun W => nan_any x W)
  unfold lessB
  go_enter Try.func82, Try.ntmps82
  go_wp2_with (refine (HX.out _).mono ?_; rintro e w' ⟨rfl, rfl⟩)
  go_ret
  exact ⟨rfl, Below.refl _ _⟩
theorem greater_any (x y : Int) (w : World) : Calls Try.prog 90 #[.int .i64 x, .int .i64 y] w fun e w' => e = .returned (.bool (greatB x y)) ∧ Below w.heap.size w w' := by
  have HX := Lib.hid (fun W => less_any y x W)
  have Hg : Hid (greatB x y = lessB y x) := rfl
  rw [Hg.out]
  generalize lessB y x = q at *
  go_enter Try.func90, Try.ntmps90
  go_wp2_with (refine (HX.out _).mono ?_; rintro e w1 ⟨rfl, hb1⟩)
  go_ret
  exact ⟨rfl, hb1⟩
def cmpI (x y : Int) : Int := if x < y then -1 else if y < x then 1 else 0
set_option maxRecDepth 100000 in
theorem compare_any (x y : Int) (w : World) : Calls Try.prog 78 #[.int .i64 x, .int .i64 y] w fun e w' => e = .returned (.int .i64 (cmpI x y)) ∧ w = w' := by
  have HX := Lib.hid (fun W => nan_any x W)
  have HY := Lib.hid (fun W => nan_any y W)
  unfold cmpI
  by_cases h1 : x < y
  · rw [if_pos h1]
    go_enter Try.func78, Try.ntmps78
    go_wp2_with (first | (refine (HX.out _).mono ?_; rintro e w' ⟨rfl, rfl⟩) | (refine (HY.out _).mono ?_; rintro e w' ⟨rfl, rfl⟩))
    go_ret
    exact ⟨rfl, rfl⟩
  · rw [if_neg h1]
    by_cases h2 : y < x
    · rw [if_pos h2]
      go_enter Try.func78, Try.ntmps78
      go_wp2_with (first | (refine (HX.out _).mono ?_; rintro e w' ⟨rfl, rfl⟩) | (refine (HY.out _).mono ?_; rintro e w' ⟨rfl, rfl⟩))
      go_ret
      exact ⟨rfl, rfl⟩
    · rw [if_neg h2]
      go_enter Try.func78, Try.ntmps78
      go_wp2_with (first | (refine (HX.out _).mono ?_; rintro e w' ⟨rfl, rfl⟩) | (refine (HY.out _).mono ?_; rintro e w' ⟨rfl, rfl⟩))
      go_ret
      exact ⟨rfl, rfl⟩
def orI (p q : Int) : Int := if p = 0 then q else p
set_option maxRecDepth 100000 in
set_option maxHeartbeats 1000000 in
theorem or_any (p q : Int) (b : Nat) (w : World) (h0 : w.cell? ⟨b, 0, none⟩ = some (.int .i64 p)) (h1 : w.cell? ⟨b, 1, none⟩ = some (.int .i64 q)) :
    Calls Try.prog 77 #[.slice (some ⟨b, 0, none⟩) 2 2] w fun e w' => e = .returned (.int .i64 (orI p q)) ∧ w = w' := by
  have Ho : Hid (p = 0 → orI p q = q) := fun e => by rw [orI, if_pos e]
  have Hp : Hid (¬ p = 0 → orI p q = p) := fun e => by rw [orI, if_neg e]
  generalize orI p q = r at *
  go_enter Try.func77, Try.ntmps77
  go_wp2
  go_loopw [8] (fun i wr => ∃ k : Nat, k ≤ 2 ∧ i = .int .i64 k ∧ wr = w ∧ Hid (1 ≤ k → p = 0) ∧ Hid (2 ≤ k → q = 0)) (fun i _ => 2 - (intOf i).toNat)
  case atStart => exact ⟨0, by omega, rfl, rfl, fun h => absurd h (by omega), fun h => absurd h (by omega)⟩
  case round =>
    obtain ⟨k, hk, rfl, rfl, hp, hq⟩ := hrel
    match k, hk with
    | 0, _ =>
      by_cases e : p = 0
      · have hb : (p != 0) = false := by simp [e]
        have He := Lib.hid e
        clear e
        go_wp2
        go_roundw
        case rel => exact ⟨1, by omega, rfl, trivial, fun _ => He.out, fun h => absurd h (by omega)⟩
        case measure => simp [intOf]
      · have hb : (p != 0) = true := by simp [e]
        have He := Lib.hid (Hp.out e)
        clear e
        go_wp2
        go_ret
        exact ⟨ret_int He.out.symm, rfl⟩
    | 1, _ =>
      have He := Lib.hid (Ho.out (hp.out (by omega)))
      have Hz := Lib.hid (hp.out (by omega))
      by_cases e : q = 0
      · have hb : (q != 0) = false := by simp [e]
        have He2 := Lib.hid e
        clear e
        go_wp2
        go_roundw
        case rel => exact ⟨2, by omega, rfl, trivial, fun _ => Hz.out, fun _ => He2.out⟩
        case measure => simp [intOf]
      · have hb : (q != 0) = true := by simp [e]
        clear e
        go_wp2
        go_ret
        exact ⟨ret_int He.out.symm, rfl⟩
    | 2, _ =>
      have He := Lib.hid ((Ho.out (hp.out (by omega))).trans (hq.out (by omega)))
      go_wp2
      go_ret
      exact ⟨ret_int He.out.symm, rfl⟩
theorem near_is (s n : Nat) (x y : Int) : decide (orI (cmpI (far s x.toNat n : Int) (far s y.toNat n : Int)) (cmpI x y) < 0) = nearB s n x y := by
  unfold orI nearB
  generalize far s x.toNat n = a
  generalize far s y.toNat n = b
  unfold cmpI
  by_cases h1 : a < b
  · have h1' : (a : Int) < (b : Int) := by omega
    simp [h1, h1']
  · by_cases h2 : b < a
    · have h2' : (b : Int) < (a : Int) := by omega
      have h1' : ¬ (a : Int) < (b : Int) := by omega
      have h3 : a ≠ b := by omega
      simp [h1, h1', h2', h2, h3]
    · have h3 : a = b := by omega
      subst h3
      simp only [Int.lt_irrefl, if_false, if_true, Nat.lt_irrefl, decide_false, decide_true, Bool.true_and, Bool.false_or]
      by_cases h4 : x < y
      · simp [h4]
      · by_cases h5 : y < x <;> simp [h4, h5]
theorem route_one {s n : Nat} {b : Int} (hs : s < 1024) (hn : 1 ≤ n) (hn64 : n ≤ 64) (h0 : 0 ≤ b) (h1 : b < 1024) (A : Option Addr) (c : Nat) (w : World) (hi : Ints w w.heap.size A [b]) :
    Calls Try.prog 65 #[.int .i64 s, .slice A 1 c, .int .i64 n] w fun e w' => e = .returned (.tuple #[.int .i64 (far s b.toNat n : Nat), .int .i64 0]) ∧ Below w.heap.size w w' := by
  refine (route_any A c s n [b] w (by simp) hi).mono ?_
  rintro e w' ⟨hB, ⟨h, rfl⟩ | ⟨h, _⟩⟩
  · refine ⟨?_, hB⟩
    simp [goes, stands, nn, inn]
  · exfalso
    have : fitB (s : Int) [b] (n : Int) = true := by
      unfold fitB okB
      simp
      omega
    rw [this] at h
    cases h
section
variable (B g : Nat) (A : Option Addr) (c : Nat) (x : Ar) (b : Int) (w : World)
set_option maxRecDepth 100000 in
set_option maxHeartbeats 1000000 in
theorem away_any (hC : PAt B w g A c x) (hs : x.s < 1024) (hn : 1 ≤ x.n) (hn64 : x.n ≤ 64) (h0 : 0 ≤ b) (h1 : b < 1024) :
    Calls Try.prog 44 #[.pointer (some ⟨g, 0, none⟩), .int .i64 b] w fun e w' => e = .returned (.int .i64 (far x.s b.toNat x.n : Nat)) ∧ Below w.heap.size w w' := by
  obtain ⟨_, c1, c2, _, _, _⟩ := pcells hC
  have hg := hC.glt
  obtain ⟨W1, hW1⟩ : ∃ W1, W1 = (w.alloc (.cells #[.int .i64 b] 3)).drew := ⟨_, rfl⟩
  have hB1 : Below w.heap.size w W1 := by rw [hW1]; exact ((Below.refl _ _).alloc (Nat.le_refl _) _).drew
  have hnew : W1.heap[w.heap.size]? = some (.cells #[.int .i64 b] 3 (0, 0)) := by rw [hW1]; exact heap_alloc_new w (.cells #[.int .i64 b] 3)
  have HR := Lib.hid (route_one hs hn hn64 h0 h1 (some ⟨w.heap.size, 0, none⟩) 1 W1 (fun _ => ⟨w.heap.size, 0, rfl, (Array.getElem?_eq_some_iff.1 hnew).1, fun j hj => by
    obtain rfl : j = 0 := by simpa using hj
    exact cell_of_row W1 w.heap.size 0 _ _ (0, 0) hnew⟩))
  have hgW : g < W1.heap.size := Nat.lt_of_lt_of_le hg hB1.size
  have HgW := Lib.hid hgW
  have HB1 := Lib.hid hB1
  have X1 := Lib.hid (show W1.cell? ⟨g, 2, none⟩ = some (.int .i64 x.s) ∧ W1.cell? ⟨g, 1, none⟩ = some (.int .i64 x.n) from ⟨(hB1.cell (p := ⟨g, 2, none⟩) hg).trans c2, (hB1.cell (p := ⟨g, 1, none⟩) hg).trans c1⟩)
  rw [hW1] at HR HB1 X1 HgW
  clear hnew hgW hW1
  have hne : g ≠ w.heap.size := by omega
  clear hC hs hn hn64 hB1
  generalize (x.s : Int) = s at *
  generalize (x.n : Int) = n at *
  generalize (far x.s b.toNat x.n) = d at *
  go_enter Try.func44, Try.ntmps44
  go_wp2
  go_region_held3 (fun W => W.cell? ⟨g, 2, none⟩ = some (.int .i64 s) ∧ W.cell? ⟨g, 1, none⟩ = some (.int .i64 n)) (first | exact X1.out | exact X2.out | go_keep)
    (first | (go_at_call 65; (with_reducible refine HR.out.mono ?_); rintro e w3 ⟨rfl, hb3⟩; have HB3 := Lib.hid hb3; have X2 : Hid (w3.cell? ⟨g, 2, none⟩ = some (.int .i64 s) ∧ w3.cell? ⟨g, 1, none⟩ = some (.int .i64 n)) := ⟨(hb3.cell (p := ⟨g, 2, none⟩) HgW.out).trans X1.out.1, (hb3.cell (p := ⟨g, 1, none⟩) HgW.out).trans X1.out.2⟩; clear hb3))
  all_goals
    go_wp2
    go_ret
    exact ⟨rfl, HB1.out.trans (HB3.out.mono HB1.out.size)⟩
end
end Go.Proofs.Ytpelocpjfmmceaa
