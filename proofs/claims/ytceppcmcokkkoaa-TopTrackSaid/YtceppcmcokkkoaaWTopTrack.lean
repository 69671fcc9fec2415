/- TopTrack is true of every bytes, block and track, and leaves its arguments as they are. Conditions: none. Here: the walk of the law's text. -/
import Derived.Test.YtceppcmcokkkoaaSF
import Derived.WalkKit
import Derived.OpenShut
namespace Go.Proofs.Ytceppcmcokkkoaa.topTrack
open Go.RowKit
set_option maxRecDepth 100000 in
set_option maxHeartbeats 1000000 in
theorem walk (a0 : Option Addr) (len0 cap0 : Nat) (z0 : List Int) (a1 : Int) (a2 : Int) (w : World) (w0 : IsRow .u8 w a0 len0 cap0 z0) (w1 : (Lit.int .u8 a1).wf = true) (w2 : (Lit.int .u8 a2).wf = true) :
    Calls Try.prog 16 #[.slice a0 len0 cap0, .int .u8 a1, .int .u8 a2] w fun e w' => e = .returned (.bool true) ∧ Below w.heap.size w w' := by
  obtain ⟨l, nb, hl, hnl, hnc, hcm, hb, hlt8, hcase⟩ : ∃ l : List Int, ∃ n : Nat, l.length ≤ 12 ∧ n = l.length ∧ n ≤ cap0 ∧ cap0 ≤ maxLen ∧ Bts w w.heap.size a0 l ∧ len0 ≤ cap0 ∧ ((12 < len0 ∧ n = 12) ∨ (¬ 12 < len0 ∧ n = len0)) := by
    obtain ⟨h1, h2, h3, h4⟩ := w0.bts
    by_cases h : 12 < len0
    · exact ⟨(z0.take len0).take 12, 12, by simp; omega, by rw [List.length_take, h4]; omega, by omega, h2, h3.take 12, h1, .inl ⟨h, rfl⟩⟩
    · exact ⟨z0.take len0, len0, by omega, h4.symm, h1, h2, h3, h1, .inr ⟨h, rfl⟩⟩
  have r1 := wf_u8 w1
  have r2 := wf_u8 w2
  obtain ⟨i, rfl⟩ := Int.eq_ofNat_of_zero_le r1.1
  obtain ⟨p, rfl⟩ := Int.eq_ofNat_of_zero_le r2.1
  obtain ⟨n, hn⟩ : ∃ n, n = p % 20 + 1 := ⟨_, rfl⟩
  have en : (p : Int) % 20 + 1 = (n : Int) := by omega
  have hn1 : 1 ≤ n := by omega
  have hn2 : n ≤ 64 := by omega
  have hi1 : i < 1024 := by omega
  have hl1 : l.length ≤ 1000 := by omega
  have hon := length_onesTo l l.length
  obtain ⟨q, hq0⟩ : ∃ q, q = ones l := ⟨_, rfl⟩
  have hql : q.length ≤ 96 := by rw [hq0]; unfold ones; omega
  have hql1 : q.length ≤ 1000 := by omega
  have hqlt : ∀ x ∈ q, x < 1024 := fun x hx => by
    rw [hq0] at hx
    have := (mem_ones hx).2
    omega
  obtain ⟨S, hS⟩ : ∃ S, S = swR n q.length i q := ⟨_, rfl⟩
  have hSl : S.length = q.length := by rw [hS, length_swR]
  have hSm : ∀ j, j ∈ S ↔ j ∈ q := fun j => by rw [hS]; exact swR_mem n i q j
  have hmk : accB l.length (natsI S) = l := make_of l hb.1 S (by rw [← hq0]; exact hSm)
  have hSin : inI (natsI S) := fun x hx => by
    obtain ⟨j, hj, rfl⟩ := List.mem_map.1 hx
    have := hqlt j ((hSm j).1 hj)
    omega
  have hhas : ¬ ∃ k, k < (natsI S).length ∧ hasB l.length (nth (natsI S) k) = false := has_nth (fun x hx => by
    obtain ⟨j, hj, rfl⟩ := List.mem_map.1 hx
    exact ones_has l _ (List.mem_map.2 ⟨j, by rw [← hq0]; exact (hSm j).1 hj, rfl⟩))
  have hhead : q ≠ [] → el S 0 = el q (idx n i q) := fun h => by rw [hS]; exact swR_head n i h
  have hidx : q ≠ [] → idx n i q < q.length := fun h => idx_lt n i h
  have Hen := Lib.hid en
  have Hmk := Lib.hid hmk
  have Hhas := Lib.hid hhas
  have HSin := Lib.hid hSin
  have HSl := Lib.hid hSl
  have HS := Lib.hid hS
  have Hqlt := Lib.hid hqlt
  have Hq0 := Lib.hid hq0
  have Hhead := Lib.hid hhead
  have Hidx := Lib.hid hidx
  have Hnl := Lib.hid hnl
  unfold maxLen at hcm
  have hci : (len0 : Int) ≤ (cap0 : Int) := by omega
  clear w0 w1 w2 hn en hon hq0 hqlt hS hSl hSm hmk hSin hhas hhead hidx hnl
  rcases hcase with ⟨h8, rfl⟩ | ⟨h8, rfl⟩
  · have h8i : (12 : Int) < (len0 : Int) := by omega
    go_enter Try.func16, Try.ntmps16
    go_wp2_with fail
    refine (list_at _ _ _ l _ Hnl.out.symm hl1 hb).mono ?_
    rintro e wa ⟨A1, c1, rfl, hB1, hi1'⟩
    rw [← Hq0.out] at hi1' ⊢
    have hba := (hb.below hB1).more hB1.size
    have H2 := Lib.hid (fun W (h : wa = W) => sweep_of A1 c1 q.length i n _ Hen.out q W rfl hql1 hi1 hn1 hn2 Hqlt.out (by rw [← h]; exact hi1'))
    go_wp2_with fail
    refine (H2.out _ rfl).mono ?_
    rintro e wb ⟨A2, c2, rfl, hi2, hB2⟩
    rw [← HS.out] at hi2
    have hB02 := hB1.trans (hB2.mono hB1.size)
    have hbb := (hb.below hB02).more hB02.size
    have hi1b := (hi1'.below hB2).more hB2.size
    go_wp2_with fail
    refine (make_at _ _ l.length _ _ (by have := Hnl.out; omega) (natsI S) _ (by rw [length_natsI]; exact HSl.out.symm) (by omega) hi2 (by rw [length_natsI]; have := HSl.out; omega) HSin.out).mono ?_
    rintro e wc ⟨hB3, ⟨v, rfl, hov, _⟩ | ⟨_, hbad⟩⟩
    · rw [Hmk.out] at hov
      obtain ⟨Av, cv, rfl, _, _, hbv⟩ := hov.form hb.1
      have hB03 := hB02.trans (hB3.mono hB02.size)
      have hbc := (hb.below hB03).more hB03.size
      have hi1c := (hi1b.below hB3).more hB3.size
      have hi2c := (hi2.below hB3).more hB3.size
      have t1 := hbv.text cv
      have t2 := hbc.text cap0
      rw [← Hnl.out] at t1 t2 ⊢
      have hct := count_any a0 cap0 l wc _ hbc hl1
      rw [← Hnl.out, ← Hq0.out] at hct
      have Hct := Lib.hid hct
      have H3 := Lib.hid (next_of A1 c1 q.length i n _ Hen.out q wc rfl hql1 hi1 hn1 hn2 Hqlt.out hi1c)
      clear hov hct
      go_wp2_with fail
      refine Hct.out.mono ?_
      rintro e w' ⟨rfl, rfl⟩
      go_wp2_with fail
      refine H3.out.mono ?_
      rintro e wd ⟨rfl, hB4⟩
      clear t1 t2
      have hB04 := hB03.trans (hB4.mono hB03.size)
      by_cases hqe : q = []
      · subst hqe
        simp only [if_true, ne_eq, not_true_eq_false, decide_false]
        go_wp2
        go_quiet (fail)
        go_wp2
        go_ret
        exact ⟨rfl, (show Quiet wd (wd.drewN nq) from ⟨_, rfl⟩).below hB04⟩
      · rw [if_neg hqe, decide_eq_true (show q ≠ [] from hqe)]
        have hlt := Hidx.out hqe
        have hlp : 0 < q.length := by omega
        have hlpi : (0 : Int) < (q.length : Int) := by omega
        obtain ⟨b1, o1, rfl, hb1, hc1⟩ := (hi1c.below hB4).at_ (k := idx n i q) (by rw [length_natsI]; exact hlt)
        obtain ⟨b2, o2, rfl, hb2, hc2⟩ := (hi2c.below hB4).at_ (k := 0) (by rw [length_natsI]; have := HSl.out; omega)
        rw [nth_nats q _ hlt] at hc1
        rw [nth_nats S 0 (by have := HSl.out; omega), Hhead.out hqe, Nat.add_zero] at hc2
        obtain ⟨k, hk⟩ : ∃ k, k = idx n i q := ⟨_, rfl⟩
        obtain ⟨x, hx⟩ : ∃ x, x = el q (idx n i q) := ⟨_, rfl⟩
        rw [← hx] at hc1 hc2
        rw [← hk] at hc1 hlt ⊢
        have hki : (k : Int) < (q.length : Int) := by omega
        have hk0 : (0 : Int) ≤ (k : Int) := by omega
        clear hk hx hqe
        go_wp2
        go_quiet (fail)
        go_wp2
        go_ret
        exact ⟨rfl, (show Quiet wd (wd.drewN nq) from ⟨_, rfl⟩).below hB04⟩
    · exact absurd hbad Hhas.out
  · have h8i : ¬ (12 : Int) < (nb : Int) := by omega
    have h8d : decide ((12 : Int) < (nb : Int)) = false := by simp; omega
    go_enter Try.func16, Try.ntmps16
    go_wp2_with fail
    refine (list_at _ _ _ l _ Hnl.out.symm hl1 hb).mono ?_
    rintro e wa ⟨A1, c1, rfl, hB1, hi1'⟩
    rw [← Hq0.out] at hi1' ⊢
    have hba := (hb.below hB1).more hB1.size
    have H2 := Lib.hid (fun W (h : wa = W) => sweep_of A1 c1 q.length i n _ Hen.out q W rfl hql1 hi1 hn1 hn2 Hqlt.out (by rw [← h]; exact hi1'))
    go_wp2_with fail
    refine (H2.out _ rfl).mono ?_
    rintro e wb ⟨A2, c2, rfl, hi2, hB2⟩
    rw [← HS.out] at hi2
    have hB02 := hB1.trans (hB2.mono hB1.size)
    have hbb := (hb.below hB02).more hB02.size
    have hi1b := (hi1'.below hB2).more hB2.size
    go_wp2_with fail
    refine (make_at _ _ l.length _ _ (by have := Hnl.out; omega) (natsI S) _ (by rw [length_natsI]; exact HSl.out.symm) (by omega) hi2 (by rw [length_natsI]; have := HSl.out; omega) HSin.out).mono ?_
    rintro e wc ⟨hB3, ⟨v, rfl, hov, _⟩ | ⟨_, hbad⟩⟩
    · rw [Hmk.out] at hov
      obtain ⟨Av, cv, rfl, _, _, hbv⟩ := hov.form hb.1
      have hB03 := hB02.trans (hB3.mono hB02.size)
      have hbc := (hb.below hB03).more hB03.size
      have hi1c := (hi1b.below hB3).more hB3.size
      have hi2c := (hi2.below hB3).more hB3.size
      have t1 := hbv.text cv
      have t2 := hbc.text cap0
      rw [← Hnl.out] at t1 t2 ⊢
      have hct := count_any a0 cap0 l wc _ hbc hl1
      rw [← Hnl.out, ← Hq0.out] at hct
      have Hct := Lib.hid hct
      have H3 := Lib.hid (next_of A1 c1 q.length i n _ Hen.out q wc rfl hql1 hi1 hn1 hn2 Hqlt.out hi1c)
      clear hov hct
      go_wp2_with fail
      refine Hct.out.mono ?_
      rintro e w' ⟨rfl, rfl⟩
      go_wp2_with fail
      refine H3.out.mono ?_
      rintro e wd ⟨rfl, hB4⟩
      clear t1 t2
      have hB04 := hB03.trans (hB4.mono hB03.size)
      by_cases hqe : q = []
      · subst hqe
        simp only [if_true, ne_eq, not_true_eq_false, decide_false]
        go_wp2
        go_quiet (fail)
        go_wp2
        go_ret
        exact ⟨rfl, (show Quiet wd (wd.drewN nq) from ⟨_, rfl⟩).below hB04⟩
      · rw [if_neg hqe, decide_eq_true (show q ≠ [] from hqe)]
        have hlt := Hidx.out hqe
        have hlp : 0 < q.length := by omega
        have hlpi : (0 : Int) < (q.length : Int) := by omega
        obtain ⟨b1, o1, rfl, hb1, hc1⟩ := (hi1c.below hB4).at_ (k := idx n i q) (by rw [length_natsI]; exact hlt)
        obtain ⟨b2, o2, rfl, hb2, hc2⟩ := (hi2c.below hB4).at_ (k := 0) (by rw [length_natsI]; have := HSl.out; omega)
        rw [nth_nats q _ hlt] at hc1
        rw [nth_nats S 0 (by have := HSl.out; omega), Hhead.out hqe, Nat.add_zero] at hc2
        obtain ⟨k, hk⟩ : ∃ k, k = idx n i q := ⟨_, rfl⟩
        obtain ⟨x, hx⟩ : ∃ x, x = el q (idx n i q) := ⟨_, rfl⟩
        rw [← hx] at hc1 hc2
        rw [← hk] at hc1 hlt ⊢
        have hki : (k : Int) < (q.length : Int) := by omega
        have hk0 : (0 : Int) ≤ (k : Int) := by omega
        clear hk hx hqe
        go_wp2
        go_quiet (fail)
        go_wp2
        go_ret
        exact ⟨rfl, (show Quiet wd (wd.drewN nq) from ⟨_, rfl⟩).below hB04⟩
    · exact absurd hbad Hhas.out
end Go.Proofs.Ytceppcmcokkkoaa.topTrack
