/- Whatever size, deeds and block come in, CacheFew returns true, and they read afterwards as before. No condition. Here: the walk of the law's text. -/
import Derived.Test.YthibnnllecdpaaaL
namespace Go.Proofs.Ythibnnllecdpaaa
open Go.RowKit
theorem few_cases (M : Nat) (l : List H) (x : Int) (hn : (blocks l).Nodup) :
    (useE M l x = 2 ∧ useG M l x = -1 ∧ useL M l x = l ∧ (x < 0 ∨ (¬ x < 0 ∧ 96 ≤ x))) ∨ (useE M l x = 11 ∧ useG M l x = -1 ∧ useL M l x = l ∧ ¬ x < 0 ∧ ¬ 96 ≤ x) ∨
    (useE M l x = 0 ∧ useG M l x = -1 ∧ has (useL M l x) x = true ∧ has l x = true ∧ blocks (useL M l x) = blocks l) ∨
    (useE M l x = 0 ∧ useG M l x = -1 ∧ has (useL M l x) x = true ∧ has l x = false) ∨
    (useE M l x = 0 ∧ (useG M l x == -1) = false ∧ has (useL M l x) x = true ∧ has l x = false ∧ has (useL M l x) (useG M l x) = false ∧ (useL M l x).length = l.length) := by
  rcases use_cases M l x with ⟨h, hg, e0, e⟩ | ⟨_, hx, hg, e0, _⟩ | ⟨_, hx, _, hg, e0, _⟩ | ⟨_, hx, _, _, _, e0⟩ | ⟨h, hx, _, _, hg, e0, e⟩
  · left; exact ⟨e0, hg, e, by omega⟩
  · right; right; left
    obtain ⟨r1, _, r3⟩ := few_use hn e0
    exact ⟨e0, hg, r1, hx, r3 hx⟩
  · right; right; right; left
    obtain ⟨r1, _, _⟩ := few_use hn e0
    exact ⟨e0, hg, r1, hx⟩
  · obtain ⟨r1, r2, _⟩ := few_use hn e0
    rcases r2 with r2 | ⟨r2, r3, _⟩
    · right; right; right; left; exact ⟨e0, r2, r1, hx⟩
    · by_cases hg : useG M l x = -1
      · right; right; right; left; exact ⟨e0, hg, r1, hx⟩
      · right; right; right; right; exact ⟨e0, by simpa using hg, r1, hx, r2, r3⟩
  · right; left; exact ⟨e0, hg, e, by omega, by omega⟩
theorem nth_apart {L : List Int} (hn : L.Nodup) {k j : Nat} (hk : k < L.length) (hj : j < k) : (nth L k == nth L j) = false := by
  rw [nth_lt hk, nth_lt (show j < L.length by omega)]
  simp only [beq_eq_false_iff_ne, ne_eq]
  intro e
  have := (List.getElem_inj hn).1 e
  omega
set_option maxRecDepth 100000 in
set_option maxHeartbeats 8000000 in
theorem CacheFew.walk (n : Int) (a1 : Option Addr) (len1 cap1 : Nat) (ds : List D) (x : Int) (W : World) (hn : (Lit.int .u8 n).wf = true) (hd : IsDeeds W a1 len1 cap1 ds) (_hx : (Lit.int .i64 x).wf = true) :
    Calls Try.prog 5 #[.int .u8 n, .slice a1 len1 cap1, .int .i64 x] W fun e W' => e = .returned (.bool true) ∧ Below W.heap.size W W' := by
  obtain ⟨n0, n1⟩ := bounds_u8 hn
  obtain ⟨M, hM⟩ : ∃ M : Nat, n % 8 + 1 = (M : Int) := ⟨(n % 8 + 1).toNat, by omega⟩
  obtain ⟨d1, d2, d3, d4⟩ := hd
  have HP := Lib.hid (play_any n M a1 len1 cap1 ds W n0 n1 hM d1 d2 d3 d4)
  have hM1 : 1 ≤ M := by omega
  have hM8 : M ≤ 8 := by omega
  have HMe := Lib.hid hM
  clear hM d1 d2 d3 d4 hn
  have a0 : 0 ≤ n % 8 := by omega
  have a7 : n % 8 ≤ 7 := by omega
  go_enter Try.func5, Try.ntmps5
  go_wp2_with fail
  refine HP.out.mono ?_
  rintro e w1 ⟨gc, vc, gr, vr, l, rfl, hT, hf, hnd, hB⟩
  have HT := Lib.hid hT
  have HB := Lib.hid hB
  have hl1 : l.length ≤ 1000 := by have := hT.len; have := hT.hM; omega
  have HU := Lib.hid (fun w hc hb => use_any W.heap.size gc M vc l x w hc hT.len hT.hM hb)
  have Hlen := Lib.hid (length_useL (m := M) (x := x) hT.len)
  have Hnd1 := Lib.hid (nodup_use (m := M) (x := x) hnd)
  have Hcs := Lib.hid (few_cases M l x hnd)
  have hll : (useL M l x).length ≤ 1000 := by have := Hlen.out; omega
  have hlM : ((useL M l x).length : Int) ≤ n % 8 + 1 := by rw [HMe.out]; have := Hlen.out; omega
  have Hbl : Hid (∀ s : List H, s.length = (blocks s).length) := fun s => by simp [blocks]
  generalize useG M l x = G at *
  generalize useE M l x = E at *
  generalize useL M l x = l1 at *
  obtain ⟨d, hd⟩ : ∃ d, d = has l x := ⟨_, rfl⟩
  have Hd := Lib.hid hd
  clear hd hT hf hnd hB
  go_wp2_with (first
    | (go_at_call 12; refine (live_any _).mono ?_; rintro e w2 ⟨rfl, hb2⟩; have HT2 := Lib.hid (HT.out.fresh hb2); have HB2 := Lib.hid (HB.out.trans (hb2.mono HB.out.size)); clear hb2)
    | (go_at_call 15; refine (has_any _ gc vc _ l x _ HT2.out.c hl1).mono ?_; rintro e w3 ⟨rfl, hb3⟩; rw [← Hd.out]; have HT3 := Lib.hid (HT2.out.fresh hb3); have HB3 := Lib.hid (HB2.out.trans (hb3.mono HB2.out.size)); clear hb3)
    | (go_at_call 19; (with_reducible refine (list_any2 _ gc v5 _ l1 _ HC5.out hll).mono ?_); rintro e w6 ⟨rfl, hI6, hb6⟩; have HI6 := Lib.hid hI6; have HC6 := Lib.hid (HC5.out.fresh hb6); have HR6 := Lib.hid (HR5.out.fresh hb6); have HI46 := Lib.hid (HI5.out.next hb6); have HB6 := Lib.hid (HB5.out.trans (hb6.mono HB5.out.size)); clear hI6 hb6)
    | (go_at_call 19; (with_reducible refine (list_any2 _ gc vc _ l _ HT3.out.c hl1).mono ?_); rintro e w4 ⟨rfl, hI4, hb4⟩; have HI4 := Lib.hid hI4; have HT4 := Lib.hid (HT3.out.fresh hb4); have HB4 := Lib.hid (HB3.out.trans (hb4.mono HB3.out.size)); clear hI4 hb4)
    | (go_at_call 14; refine (HU.out _ HT4.out.c HB4.out.size).mono ?_; rintro e w5 ⟨rfl, hw5⟩; have hr5 := HT4.out.stays hw5; have HI5 := Lib.hid (keepI HI4.out hw5 HT3.out.c.notAt); obtain ⟨v5, hc5, hb5, hz5⟩ := hw5.next HT4.out.c HB4.out.size; have HC5 := Lib.hid hc5; have HR5 := Lib.hid hr5; have HB5 := Lib.hid (HB4.out.trans hb5); clear hw5 hr5 hc5 hb5 hz5))
  go_loopw [15] (fun i wr => ∃ k : Nat, k ≤ l1.length ∧ i = .int .i64 k ∧ Below w6.heap.size w6 wr) (fun i _ => l1.length - (intOf i).toNat)
  case atStart => exact ⟨0, Nat.zero_le _, rfl, Below.refl _ _⟩
  case round =>
    obtain ⟨k, hk, rfl, hBk⟩ := hrel
    rename World => wr
    have HBk := Lib.hid hBk
    have hk0 : (0 : Int) ≤ (k : Int) := by omega
    clear hBk
    by_cases hlt : k < l1.length
    · have hki : (k : Int) < (l1.length : Int) := by omega
      go_wp2
      obtain ⟨wo, rfl⟩ : ∃ wo : World, wo = wr := ⟨_, rfl⟩
      go_loopw [16] (fun i wr => ∃ j : Nat, j ≤ k ∧ i = .int .i64 j ∧ Below w6.heap.size w6 wr) (fun i _ => k - (intOf i).toNat)
      case atStart => exact ⟨0, Nat.zero_le _, rfl, HBk.out⟩
      case round =>
        obtain ⟨j, hj, rfl, hBj⟩ := hrel
        rename World => wr
        have HBj := Lib.hid hBj
        have hj0 : (0 : Int) ≤ (j : Int) := by omega
        by_cases hltj : j < k
        · have hji : (j : Int) < (k : Int) := by omega
          have hji2 : (j : Int) < (l1.length : Int) := by omega
          have hbl : k < (blocks l1).length := by rw [← Hbl.out]; exact hlt
          have hne := nth_apart Hnd1.out hbl hltj
          obtain ⟨b, off, he, hb, hc⟩ := (HI6.out.next hBj) (by omega)
          cases he
          have c1 := hc k hbl
          have c2 := hc j (by omega)
          rw [Nat.zero_add] at c1 c2
          generalize nth (blocks l1) k = y1 at c1 hne
          generalize nth (blocks l1) j = y2 at c2 hne
          clear hc hBj
          go_wp2_with fail
          go_quiet (fail)
          go_wp2
          go_roundw
          case rel => exact ⟨j + 1, by omega, by go_num, ⟨HBj.out.os, HBj.out.tape, HBj.out.output, HBj.out.size, HBj.out.block⟩⟩
          case measure => simp [intOf]; omega
        · have hji : ¬ (j : Int) < (k : Int) := by omega
          clear hBj
          go_wp2
          go_roundw
          case rel => exact ⟨k + 1, by omega, by go_num, HBj.out⟩
          case measure => simp [intOf]; omega
    · have hki : ¬ (k : Int) < (l1.length : Int) := by omega
      have HCw := Lib.hid (HC6.out.fresh HBk.out)
      have HRw := Lib.hid (HR6.out.fresh HBk.out)
      have HBw := Lib.hid (HB6.out.trans (HBk.out.mono HB6.out.size))
      have HIw := Lib.hid (HI6.out.next HBk.out)
      have HIw4 := Lib.hid (HI46.out.next HBk.out)
      have Hlt2 := Lib.hid HT.out.len
      rcases Hcs.out with ⟨rfl, rfl, rfl, hr⟩ | ⟨rfl, rfl, rfl, hr1, hr2⟩ | ⟨rfl, rfl, h1, h2, h3⟩ | ⟨rfl, rfl, h1, h2⟩ | ⟨rfl, hg, h1, h2, h3, h4⟩
      · have HTw : Hid (Two W.heap.size wr gc v5 gr vr M l1) := ⟨HCw.out, HRw.out, HT.out.len, HT.out.hM, HBw.out.size⟩
        rcases hr with hr | ⟨hr, hr'⟩
        all_goals
          go_wp2_with (go_at_call 13; refine (same_any _ gc gr M v5 vr l1 _ HTw.out).mono ?_; rintro e w7 ⟨rfl, hb7⟩; have HB7 := Lib.hid (HBw.out.trans (hb7.mono HBw.out.size)); clear hb7)
          go_ret
          exact ⟨by simp [*], HB7.out⟩
      · have HTw : Hid (Two W.heap.size wr gc v5 gr vr M l1) := ⟨HCw.out, HRw.out, HT.out.len, HT.out.hM, HBw.out.size⟩
        go_wp2_with (go_at_call 13; refine (same_any _ gc gr M v5 vr l1 _ HTw.out).mono ?_; rintro e w7 ⟨rfl, hb7⟩; have HB7 := Lib.hid (HBw.out.trans (hb7.mono HBw.out.size)); clear hb7)
        go_ret
        exact ⟨by simp [hr1, hr2], HB7.out⟩
      · have Hh1 := Lib.hid h1
        have Hd2 := Lib.hid (Hd.out.trans h2)
        have Hb3 := Lib.hid h3
        obtain rfl : d = true := Hd2.out
        clear h1 h2 h3
        go_wp2_with (first
          | (go_at_call 15; refine (has_any _ gc v5 _ l1 x _ HCw.out hll).mono ?_; rintro e w7 ⟨rfl, hb7⟩; rw [Hh1.out]; have HI7 := Lib.hid (HIw.out.next hb7); have HI74 := Lib.hid (HIw4.out.next hb7); have HB7 := Lib.hid (HBw.out.trans (hb7.mono HBw.out.size)); clear hb7)
          | (go_at_call 20; refine (same_ints _ _ _ _ l.length l1.length (blocks l1) _ (by rw [Hb3.out]; exact Hbl.out l) (Hbl.out l1) (by rw [Hb3.out]; exact HI74.out) HI7.out (by rw [← Hbl.out]; omega)).mono ?_; rintro e w8 ⟨rfl, hb8⟩; have HB8 := Lib.hid (HB7.out.trans (hb8.mono HB7.out.size)); clear hb8))
        go_ret
        exact ⟨by simp, HB8.out⟩
      · have Hh1 := Lib.hid h1
        have Hd2 := Lib.hid (Hd.out.trans h2)
        obtain rfl : d = false := Hd2.out
        clear h1 h2
        go_wp2_with (go_at_call 15; refine (has_any _ gc v5 _ l1 x _ HCw.out hll).mono ?_; rintro e w7 ⟨rfl, hb7⟩; rw [Hh1.out]; have HB7 := Lib.hid (HBw.out.trans (hb7.mono HBw.out.size)); clear hb7)
        go_ret
        exact ⟨by simp, HB7.out⟩
      · have Hh1 := Lib.hid h1
        have Hd2 := Lib.hid (Hd.out.trans h2)
        have Hh3 := Lib.hid h3
        have hlen : ((l1.length : Int) == (l.length : Int)) = true := by rw [h4]; simp
        have hlen2 : (l1.length == l.length) = true := by rw [h4]; simp
        obtain rfl : d = false := Hd2.out
        clear h1 h2 h3 h4
        go_wp2_with (first
          | (go_at_call 15; (with_reducible refine (has_any _ gc v5 _ l1 x _ HCw.out hll).mono ?_); rintro e w7 ⟨rfl, hb7⟩; rw [Hh1.out]; have HC7 := Lib.hid (HCw.out.fresh hb7); have HB7 := Lib.hid (HBw.out.trans (hb7.mono HBw.out.size)); clear hb7)
          | (go_at_call 15; (with_reducible refine (has_any _ gc v5 _ l1 G _ HC7.out hll).mono ?_); rintro e w8 ⟨rfl, hb8⟩; rw [Hh3.out]; have HB8 := Lib.hid (HB7.out.trans (hb8.mono HB7.out.size)); clear hb8))
        go_ret
        exact ⟨by simp, HB8.out⟩
end Go.Proofs.Ythibnnllecdpaaa
