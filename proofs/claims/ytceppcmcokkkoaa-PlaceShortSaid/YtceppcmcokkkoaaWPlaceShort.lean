/- PlaceShort is true of every three blocks and a track, and leaves its arguments as they are. Conditions: none. Here: the walk of the law's text. -/
import Derived.Test.YtceppcmcokkkoaaFF
import Derived.WalkKit
import Derived.OpenShut
namespace Go.Proofs.Ytceppcmcokkkoaa.placeShort
open Go.RowKit
set_option maxRecDepth 100000 in
set_option maxHeartbeats 1000000 in
theorem walk (a1 a2 a3 a4 : Int) (w : World) (w1 : (Lit.int .u16 a1).wf = true) (w2 : (Lit.int .u16 a2).wf = true) (w3 : (Lit.int .u16 a3).wf = true) (w4 : (Lit.int .u16 a4).wf = true) :
    Calls Try.prog 7 #[.agg #[.int .u16 a1, .int .u16 a2, .int .u16 a3], .int .u16 a4] w fun e w' => e = .returned (.bool true) ∧ Below w.heap.size w w' := by
  have r1 := bounds_u16 w1
  have r2 := bounds_u16 w2
  have r3 := bounds_u16 w3
  have r4 := bounds_u16 w4
  obtain ⟨a, rfl⟩ := Int.eq_ofNat_of_zero_le r1.1
  obtain ⟨b, rfl⟩ := Int.eq_ofNat_of_zero_le r2.1
  obtain ⟨c, rfl⟩ := Int.eq_ofNat_of_zero_le r3.1
  obtain ⟨p, rfl⟩ := Int.eq_ofNat_of_zero_le r4.1
  clear w1 w2 w3 w4
  obtain ⟨i, hi⟩ : ∃ i, i = a % 1024 := ⟨_, rfl⟩
  obtain ⟨j, hj⟩ : ∃ j, j = b % 1024 := ⟨_, rfl⟩
  obtain ⟨k, hk⟩ : ∃ k, k = c % 1024 := ⟨_, rfl⟩
  obtain ⟨n, hn⟩ : ∃ n, n = p % 64 + 1 := ⟨_, rfl⟩
  have ei : (a : Int) % 1024 = (i : Int) := by omega
  have ej : (b : Int) % 1024 = (j : Int) := by omega
  have ek : (c : Int) % 1024 = (k : Int) := by omega
  have en : (p : Int) % 64 + 1 = (n : Int) := by omega
  have hi1 : i < 1024 := by omega
  have hj1 : j < 1024 := by omega
  have hk1 : k < 1024 := by omega
  have hn1 : 1 ≤ n := by omega
  have hn2 : n ≤ 64 := by omega
  have f1 := far_tri i j k n
  have f2 := far_le i j n hi1 hj1 hn1 hn2
  have f3 := far_le j k n hj1 hk1 hn1 hn2
  have Ei := Lib.hid ei
  have Ej := Lib.hid ej
  have Ek := Lib.hid ek
  have En := Lib.hid en
  obtain ⟨dik, hdik⟩ : ∃ d, d = far i k n := ⟨_, rfl⟩
  obtain ⟨dij, hdij⟩ : ∃ d, d = far i j n := ⟨_, rfl⟩
  obtain ⟨djk, hdjk⟩ : ∃ d, d = far j k n := ⟨_, rfl⟩
  have Wik := Lib.hid (fun W => way_of i k n hi1 hk1 hn1 hn2 W)
  have Wij := Lib.hid (fun W => way_of i j n hi1 hj1 hn1 hn2 W)
  have Wjk := Lib.hid (fun W => way_of j k n hj1 hk1 hn1 hn2 W)
  have Wii := Lib.hid (fun W => way_of i i n hi1 hi1 hn1 hn2 W)
  rw [← hdik] at Wik f1
  rw [← hdij] at Wij f1 f2
  rw [← hdjk] at Wjk f1 f3
  rw [far_self] at Wii
  have hcase : ((dij : Int) == 0) = ((i : Int) == (j : Int)) := by
    rw [Bool.eq_iff_iff, beq_iff_eq, beq_iff_eq]
    constructor
    · intro h
      have : far i j n = 0 := by rw [← hdij]; omega
      have := far_zero this
      omega
    · intro h
      have : i = j := by omega
      subst this
      rw [hdij, far_self]
      rfl
  have Hcase := Lib.hid hcase
  obtain ⟨xi, yi, hpi⟩ := plV_form i n
  obtain ⟨xj, yj, hpj⟩ := plV_form j n
  obtain ⟨xk, yk, hpk⟩ := plV_form k n
  have Ai := Lib.hid (fun W => at_of _ _ i n ei en hi1 hn1 hn2 W)
  have Aj := Lib.hid (fun W => at_of _ _ j n ej en hj1 hn1 hn2 W)
  have Ak := Lib.hid (fun W => at_of _ _ k n ek en hk1 hn1 hn2 W)
  rw [hpi] at Ai Wik Wij Wii
  rw [hpj] at Aj Wij Wjk
  rw [hpk] at Ak Wik Wjk
  have f1' : (dik : Int) ≤ (dij : Int) + (djk : Int) := by omega
  have f2' : (dij : Int) ≤ 1100 := by omega
  have f3' : (djk : Int) ≤ 1100 := by omega
  have hB0 : Below w.heap.size w (w.alloc (.cells #[.int .u16 (a : Int), .int .u16 (b : Int), .int .u16 (c : Int)] 40)) := (Below.refl _ w).alloc (Nat.le_refl _) _
  clear hi hj hk hn ei ej ek en hdik hdij hdjk hcase hpi hpj hpk f1 f2 f3
  go_enter Try.func7, Try.ntmps7
  go_wp2_with fail
  go_quiet (fail)
  have hQ : Quiet (w.alloc (.cells #[.int .u16 (a : Int), .int .u16 (b : Int), .int .u16 (c : Int)] 40)) ((w.alloc (.cells #[.int .u16 (a : Int), .int .u16 (b : Int), .int .u16 (c : Int)] 40)).drewN nq) := ⟨nq, rfl⟩
  generalize (w.alloc (.cells #[.int .u16 (a : Int), .int .u16 (b : Int), .int .u16 (c : Int)] 40)).drewN nq = wx at *
  have hBx := hQ.below hB0
  go_wp2_with fail
  refine (Ai.out _).mono ?_
  rintro e w1 ⟨rfl, hq1⟩
  go_wp2_with fail
  refine (Aj.out _).mono ?_
  rintro e w2 ⟨rfl, hq2⟩
  go_wp2_with fail
  refine (Ak.out _).mono ?_
  rintro e w3 ⟨rfl, hq3⟩
  go_wp2_with fail
  refine (live1_any _).mono ?_
  rintro e w4 ⟨rfl, hq4⟩
  go_wp2_with fail
  refine (Wik.out _).mono ?_
  rintro e w' ⟨rfl, rfl⟩
  go_wp2_with fail
  refine (Wij.out _).mono ?_
  rintro e w' ⟨rfl, rfl⟩
  go_wp2_with fail
  refine (Wjk.out _).mono ?_
  rintro e w' ⟨rfl, rfl⟩
  go_wp2_with fail
  refine (Wii.out _).mono ?_
  rintro e w' ⟨rfl, rfl⟩
  go_wp2_with fail
  refine (Wij.out _).mono ?_
  rintro e w' ⟨rfl, rfl⟩
  go_wp2
  have hB4 := hq4.below (hq3.below (hq2.below (hq1.below hBx)))
  go_ret
  refine ⟨?_, hB4⟩
  rw [Hcase.out, Ei.out, Ej.out]
  simp

end Go.Proofs.Ytceppcmcokkkoaa.placeShort
