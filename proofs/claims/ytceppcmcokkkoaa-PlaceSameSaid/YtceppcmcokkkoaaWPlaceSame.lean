/- PlaceSame is true of every block, list of blocks and track, and leaves its arguments as they are. Conditions: none. Here: the walk of the law's text. -/
import Derived.Test.YtceppcmcokkkoaaSG
import Derived.WalkKit
import Derived.OpenShut
namespace Go.Proofs.Ytceppcmcokkkoaa.placeSame
open Go.RowKit
set_option maxRecDepth 100000 in
set_option maxHeartbeats 1000000 in
theorem walk (a0 : Int) (a1 : Option Addr) (len1 cap1 : Nat) (z1 : List Int) (a2 : Int) (w : World) (w0 : (Lit.int .i64 a0).wf = true) (w1 : IsRow .i64 w a1 len1 cap1 z1) (w2 : (Lit.int .i64 a2).wf = true) :
    Calls Try.prog 6 #[.int .i64 a0, .slice a1 len1 cap1, .int .i64 a2] w fun e w' => e = .returned (.bool true) ∧ Below w.heap.size w w' := by
  have r0 := bounds_i64 w0
  have r2 := bounds_i64 w2
  clear r0 r2
  obtain ⟨l, hl, hlc, hcm, hI, _, hfew⟩ := few_ints w1
  have hl1 : l.length ≤ 1000 := by omega
  have Hfew := Lib.hid hfew
  clear hfew w0 w1 w2
  cases hf : fitB a0 l a2 with
  | false =>
    have Hs := Lib.hid (sweep_no a1 cap1 a0 a2 l w hl1 hI hf)
    clear hf hI
    go_enter Try.func6, Try.ntmps6
    go_wp2_with fail
    refine Hfew.out.mono ?_
    rintro e w' ⟨rfl, rfl⟩
    go_wp2_with fail
    refine Hs.out.mono ?_
    rintro e wa ⟨rfl, hBa⟩
    go_wp2_with fail
    refine (live1_any _).mono ?_
    rintro e wb ⟨rfl, hq⟩
    have hBb := hq.below hBa
    go_wp2
    go_ret
    exact ⟨rfl, hBb⟩
  | true =>
    obtain ⟨i, n, rfl, rfl, hL⟩ := fit_lies hf
    obtain ⟨q, hq⟩ : ∃ q, q = l.map Int.toNat := ⟨_, rfl⟩
    have hlq := lies_nats hL
    rw [← hq] at hlq
    have hql : l.length = q.length := by rw [hq]; simp
    have hqlt : ∀ x ∈ q, x < 1024 := fun x hx => by
      rw [hq] at hx
      obtain ⟨y, hy, rfl⟩ := List.mem_map.1 hx
      obtain ⟨k, hk, rfl⟩ := List.mem_iff_getElem.1 hy
      have := (hL.at_ k hk).2
      unfold nn at this
      rw [nth_lt hk] at this
      exact this
    have hi1 := hL.from_
    have hn1 := hL.lo
    have hn2 := hL.hi
    rw [hlq] at hI
    rw [hql] at Hfew hl hl1
    obtain ⟨S, hS⟩ : ∃ S, S = swR n q.length i q := ⟨_, rfl⟩
    have hSl : S.length = q.length := by rw [hS, length_swR]
    have hSc : ∀ y, S.count y = q.count y := fun y => by rw [hS]; exact swR_count n _ q i y rfl
    have hSlt : ∀ x ∈ S, x < 1024 := fun x hx => by rw [hS] at hx; exact hqlt x ((swR_mem n i q x).1 hx)
    have Hsw := Lib.hid (sweep_of a1 cap1 q.length i n (n : Int) rfl q w rfl hl1 hi1 hn1 hn2 hqlt hI)
    rw [← hS] at Hsw
    have HSl := Lib.hid hSl
    have HSc := Lib.hid hSc
    have HSlt := Lib.hid hSlt
    clear hf hL hlq hq hql hqlt hS hSl hSc hSlt
    go_enter Try.func6, Try.ntmps6
    go_wp2_with fail
    refine Hfew.out.mono ?_
    rintro e w' ⟨rfl, rfl⟩
    go_wp2_with fail
    refine Hsw.out.mono ?_
    rintro e wa ⟨A2, c2, rfl, hI2, hBa⟩
    have HI2 := Lib.hid hI2
    have HI := Lib.hid (hI.below hBa)
    clear hI2
    go_wp2
    go_loopw [9] (fun j wr => ∃ jj : Nat, jj ≤ q.length ∧ j = .int .i64 jj ∧ Quiet wa wr) (fun j _ => q.length - (intOf j).toNat)
    case atStart => exact ⟨0, Nat.zero_le _, rfl, 0, rfl⟩
    case round =>
      obtain ⟨jj, hjj, rfl, hq⟩ := hrel
      rename World => wr
      by_cases hlt : jj < q.length
      · have hlti : (jj : Int) < (q.length : Int) := by omega
        have hj0 : (0 : Int) ≤ (jj : Int) := by omega
        obtain ⟨b, off, rfl, hb, hc⟩ := HI.out.at_ (k := jj) (by rw [length_natsI]; exact hlt)
        rw [nth_nats q jj hlt] at hc
        obtain ⟨x, hx⟩ : ∃ x, x = el q jj := ⟨_, rfl⟩
        rw [← hx] at hc
        have Hc := Lib.hid hc
        have Hq := Lib.hid hq
        clear hx hc hq
        go_wp2
        go_loopw [10, 11, 12] (fun t1 t2 y wy => ∃ k : Nat, k ≤ q.length ∧ y = .int .i64 k ∧ t1 = .int .i64 ((q.take k).count x : Nat) ∧ t2 = .int .i64 ((S.take k).count x : Nat) ∧ Quiet wa wy) (fun _ _ y _ => q.length - (intOf y).toNat)
        case atStart => exact ⟨0, Nat.zero_le _, rfl, by simp, by simp, Hq.out⟩
        case round =>
          obtain ⟨k, hk, rfl, rfl, rfl, hqy⟩ := hrel
          rename World => wy
          by_cases hlt2 : k < q.length
          · have hlti2 : (k : Int) < (q.length : Int) := by omega
            have hk0 : (0 : Int) ≤ (k : Int) := by omega
            obtain ⟨b1, o1, e1, hb1, hc1⟩ := HI.out.at_ (k := k) (by rw [length_natsI]; exact hlt2)
            injection e1 with e1; injection e1 with e2 e3; subst e2; subst e3
            obtain ⟨b2, o2, rfl, hb2, hc2⟩ := HI2.out.at_ (k := k) (by rw [length_natsI]; have := HSl.out; omega)
            rw [nth_nats q k hlt2] at hc1
            rw [nth_nats S k (by have := HSl.out; omega)] at hc2
            have d0 := (hqy.cell _).trans Hc.out
            have d1 := (hqy.cell _).trans hc1
            have d2 := (hqy.cell _).trans hc2
            have n1 := count_take q k x hlt2
            have n2 := count_take S k x (by have := HSl.out; omega)
            have m1 := List.count_le_length (a := x) (l := q.take k)
            have m2 := List.count_le_length (a := x) (l := S.take k)
            rw [List.length_take] at m1 m2
            obtain ⟨y1, hy1⟩ : ∃ y, y = el q k := ⟨_, rfl⟩
            obtain ⟨y2, hy2⟩ : ∃ y, y = el S k := ⟨_, rfl⟩
            obtain ⟨t1, ht1⟩ : ∃ t, t = (q.take k).count x := ⟨_, rfl⟩
            obtain ⟨t2, ht2⟩ : ∃ t, t = (S.take k).count x := ⟨_, rfl⟩
            rw [← hy1] at d1 n1
            rw [← hy2] at d2 n2
            rw [← ht1] at n1 m1 ⊢
            rw [← ht2] at n2 m2 ⊢
            have b1' : (t1 : Int) ≤ 1000 := by omega
            have b2' : (t2 : Int) ≤ 1000 := by omega
            have Hqy := Lib.hid hqy
            have C1 := Lib.hid hc1
            have C2 := Lib.hid hc2
            have hy1' : el q k = y1 := hy1.symm
            have hy2' : el S k = y2 := hy2.symm
            rw [hy1'] at C1
            rw [hy2'] at C2
            clear hc1 hc2 hy1 hy2 hy1' hy2' ht1 ht2 hqy m1 m2
            rcases Classical.em (y1 = x) with h1 | h1 <;> rcases Classical.em (y2 = x) with h2 | h2
            all_goals
              first
                | (have g1 : ((y1 : Int) == (x : Int)) = true := by rw [h1]; simp)
                | (have g1 : ((y1 : Int) == (x : Int)) = false := by rw [beq_eq_false_iff_ne]; omega)
              first
                | (have g2 : ((y2 : Int) == (x : Int)) = true := by rw [h2]; simp)
                | (have g2 : ((y2 : Int) == (x : Int)) = false := by rw [beq_eq_false_iff_ne]; omega)
              first
                | (have g1' : (y1 == x) = true := by rw [h1]; simp)
                | (have g1' : (y1 == x) = false := by rw [beq_eq_false_iff_ne]; omega)
              first
                | (have g2' : (y2 == x) = true := by rw [h2]; simp)
                | (have g2' : (y2 == x) = false := by rw [beq_eq_false_iff_ne]; omega)
              first
                | rw [if_pos h1] at n1
                | rw [if_neg h1] at n1
              first
                | rw [if_pos h2] at n2
                | rw [if_neg h2] at n2
              have N1 := Lib.hid n1
              have N2 := Lib.hid n2
              clear n1 n2 h1 h2
              go_wp2_with fail
              go_quiet (fail)
              have hQ1 : Quiet wa (wy.drewN nq) := Hqy.out.trans2 ⟨nq, rfl⟩
              generalize wy.drewN nq = wz at *
              have HQ1 := Lib.hid hQ1
              have f0 := (hQ1.cell _).trans Hc.out
              have f2 := (hQ1.cell _).trans C2.out
              clear d0 d1 d2 hQ1
              go_wp2_with fail
              go_quiet (fail)
              have HQ2 : Hid (Quiet wa (wz.drewN nq)) := HQ1.out.trans2 ⟨nq, rfl⟩
              generalize wz.drewN nq = wu at *
              go_wp2
              go_roundw
              case rel => exact ⟨k + 1, by omega, by go_num, by rw [N1.out]; simp, by rw [N2.out]; simp, HQ2.out⟩
              case measure => simp [intOf]; omega
          · have hlti2 : ¬ (k : Int) < (q.length : Int) := by omega
            obtain rfl : k = q.length := by omega
            have e1 : (q.take q.length).count x = q.count x := by rw [List.take_length]
            have e2 : (S.take q.length).count x = q.count x := by rw [List.take_of_length_le (by have := HSl.out; omega)]; exact HSc.out x
            rw [e1, e2]
            generalize q.count x = t
            have Hqy := Lib.hid hqy
            clear e1 e2 hqy
            go_wp2
            go_roundw
            case rel => exact ⟨jj + 1, by omega, by go_num, Hqy.out⟩
            case measure => simp [intOf]; omega
      · have hlti : ¬ (jj : Int) < (q.length : Int) := by omega
        obtain rfl : jj = q.length := by omega
        have hBr := hq.below hBa
        have hI2r := HI2.out.keep (fun p _ => hq.cell p) |>.more (show wa.heap.size ≤ wr.heap.size by rw [hq.size]; exact Nat.le_refl _)
        have HR := Lib.hid (route_of A2 c2 q.length i n (n : Int) rfl S wr HSl.out.symm (by have := HSl.out; omega) hi1 hn1 hn2 HSlt.out hI2r)
        clear hI2r hq
        go_wp2_with fail
        refine HR.out.mono ?_
        rintro e wc ⟨⟨r, hr, rfl⟩, hBc⟩
        rw [HSl.out] at hr
        have hri : (r : Int) ≤ 1024 * (q.length : Int) := by omega
        have hqi : (q.length : Int) ≤ 40 := by omega
        have hBc2 := hBr.trans (hBc.mono hBr.size)
        go_wp2_with fail
        refine (live1_any _).mono ?_
        rintro e wd ⟨rfl, hqd⟩
        have hBd := hqd.below hBc2
        go_wp2
        go_ret
        exact ⟨rfl, hBd⟩
end Go.Proofs.Ytceppcmcokkkoaa.placeSame
