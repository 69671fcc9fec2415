/- Whatever size, deeds and blocks come in, CacheHeld returns true, and they read afterwards as before. No condition. Here: the walk of the law's text. -/
import Derived.Test.YthibnnllecdpaaaO
namespace Go.Proofs.Ythibnnllecdpaaa
open Go.RowKit
theorem use7 {M : Nat} {l : List H} (_hM : 0 < M) : (useE M l 7 = 11 ∧ has l 7 = false ∧ useL M l 7 = l) ∨ (useE M l 7 = 0 ∧ ∀ _ : (blocks l).Nodup, has (useL M l 7) 7 = true) := by
  rcases use_cases M l 7 with ⟨h, _⟩ | ⟨_, _, _, e0, _⟩ | ⟨_, _, _, _, e0, _⟩ | ⟨_, _, _, _, _, e0⟩ | ⟨_, hx, _, _, _, e0, e⟩
  · omega
  · exact .inr ⟨e0, fun h => (few_use h e0).1⟩
  · exact .inr ⟨e0, fun h => (few_use h e0).1⟩
  · exact .inr ⟨e0, fun h => (few_use h e0).1⟩
  · exact .inl ⟨e0, hx, e⟩
theorem stuck_pin {l : List H} {n : Int} (hn : (blocks l).Nodup) (hx : has l 7 = true) (hf : Few n l) (hk : 0 ≤ n) : Stuck (pinL l 7 true) 7 := by
  have e : pinL l 7 true = modH l (idx l 7) (H.pin · 1) := by simp [pinL, hx]
  rw [e]
  refine stuck_mod hn hx (pin_b 1) ?_
  have := hf.nth hk (idx l 7)
  simp [H.can, H.pin]
  intro h
  omega
theorem stuck_dirty {l : List H} (hn : (blocks l).Nodup) (hx : has l 7 = true) : Stuck (dirtyL l 7 true) 7 := by
  have e : dirtyL l 7 true = modH l (idx l 7) (H.dirt · true) := by simp [dirtyL, hx]
  rw [e]
  exact stuck_mod hn hx (dirt_b true) (by simp [H.can, H.dirt])
set_option maxRecDepth 100000 in
set_option maxHeartbeats 4000000 in
theorem CacheHeld.walk (n : Int) (a1 : Option Addr) (len1 cap1 : Nat) (ds : List D) (a2 : Option Addr) (len2 cap2 : Nat) (ys : List Int) (W : World) (hn : (Lit.int .u8 n).wf = true) (hd : IsDeeds W a1 len1 cap1 ds) (hy : IsBytes W a2 len2 cap2 ys) :
    Calls Try.prog 4 #[.int .u8 n, .slice a1 len1 cap1, .slice a2 len2 cap2] W fun e W' => e = .returned (.bool true) ∧ Below W.heap.size W W' := by
  obtain ⟨n0, n1⟩ := bounds_u8 hn
  obtain ⟨M, hM⟩ : ∃ M : Nat, n % 8 + 1 = (M : Int) := ⟨(n % 8 + 1).toNat, by omega⟩
  obtain ⟨d1, d2, d3, d4⟩ := hd
  have HP := Lib.hid (play_any n M a1 len1 cap1 ds W n0 n1 hM d1 d2 d3 d4)
  have hM1 : 1 ≤ M := by omega
  have hM8 : M ≤ 8 := by omega
  have HMe := Lib.hid hM
  clear hM d1 d2 d3 d4 hn
  obtain ⟨rfl, e2, e3, e4⟩ := hy
  have HY := Lib.hid e4
  unfold maxLen at e3
  clear e4
  rcases (show n % 2 = 0 ∨ n % 2 = 1 by omega) with hn2 | hn2
  all_goals
    go_enter Try.func4, Try.ntmps4
    go_wp2_with fail
    refine HP.out.mono ?_
    rintro e w1 ⟨gc, vc, gr, vr, l, rfl, hT, hf, hnd, hB⟩
    have HT := Lib.hid hT
    have HB := Lib.hid hB
    have hl1 : l.length ≤ 1000 := by have := hT.len; have := hT.hM; omega
    have HU := Lib.hid (fun w hc hb => use_any W.heap.size gc M vc l 7 w hc hT.len hT.hM hb)
    have Hlen := Lib.hid (length_useL (m := M) (x := 7) hT.len)
    have Hf1 := Lib.hid (hf.use (by omega) M 7)
    have Hnd1 := Lib.hid (nodup_use (m := M) (x := 7) hnd)
    have hll : (useL M l 7).length ≤ 1000 := by have := Hlen.out; omega
    rcases use7 (M := M) (l := l) (by omega) with ⟨u1, u2, u3⟩ | ⟨u1, u2⟩
    · rw [u1, u3] at HU
      generalize useG M l 7 = G at HU
      have hhas := Lib.hid u2
      clear u1 u2 u3 hT hf hnd hB Hlen Hf1 Hnd1 hll
      go_wp2_with (first
        | (go_at_call 12; refine (live_any _).mono ?_; rintro e w2 ⟨rfl, hb2⟩; have HT2 := Lib.hid (HT.out.fresh hb2); have HB2 := Lib.hid (HB.out.trans (hb2.mono HB.out.size)); clear hb2)
        | (go_at_call 14; refine (HU.out _ HT2.out.c HB2.out.size).mono ?_; rintro e w3 ⟨rfl, hw3⟩; obtain ⟨v3, hc3, hb3, hz3⟩ := hw3.next HT2.out.c HB2.out.size; have HC3 := Lib.hid hc3; have HB3 := Lib.hid (HB2.out.trans hb3); clear hw3 hc3 hb3 hz3)
        | (go_at_call 15; refine (has_any _ gc v3 _ l 7 _ HC3.out hl1).mono ?_; rintro e w4 ⟨rfl, hb4⟩; rw [hhas.out]; have HB4 := Lib.hid (HB3.out.trans (hb4.mono HB3.out.size)); clear hb4))
      go_ret
      exact ⟨rfl, HB4.out⟩
    · rw [u1] at HU
      have u3 := u2 hnd
      generalize useG M l 7 = G at HU
      generalize useL M l 7 = l1 at *
      have HSp := Lib.hid (stuck_pin Hnd1.out u3 Hf1.out (by omega))
      have HSd := Lib.hid (stuck_dirty Hnd1.out u3)
      have Hlp : Hid ((pinL l1 7 true).length ≤ M) := by unfold Hid; rw [length_pinL]; exact Hlen.out
      have Hld : Hid ((dirtyL l1 7 true).length ≤ M) := by unfold Hid; rw [length_dirtyL]; exact Hlen.out
      clear u1 u2 u3 hT hf hnd hB
      go_wp2_with (first
        | (go_at_call 12; refine (live_any _).mono ?_; rintro e w2 ⟨rfl, hb2⟩; have HT2 := Lib.hid (HT.out.fresh hb2); have HB2 := Lib.hid (HB.out.trans (hb2.mono HB.out.size)); clear hb2)
        | (go_at_call 14; refine (HU.out _ HT2.out.c HB2.out.size).mono ?_; rintro e w3 ⟨rfl, hw3⟩; obtain ⟨v3, hc3, hb3, hz3⟩ := hw3.next HT2.out.c HB2.out.size; have HC3 := Lib.hid hc3; have HB3 := Lib.hid (HB2.out.trans hb3); clear hw3 hc3 hb3 hz3)
        | (go_at_call 16; refine (pin_any _ gc v3 _ l1 7 _ true HC3.out hll (Hf1.out.more (by omega))).mono ?_; rintro e w4 ⟨rfl, hw4⟩; obtain ⟨v4, hc4, hb4, hz4⟩ := hw4.next HC3.out HB3.out.size; have HL4 : Hid (∃ l4, CacheAt 69 66 W.heap.size w4 gc v4 M l4 ∧ Stuck l4 7 ∧ l4.length ≤ M) := ⟨_, hc4, HSp.out, Hlp.out⟩; have HB4 := Lib.hid (HB3.out.trans hb4); clear hw4 hc4 hb4 hz4)
        | (go_at_call 17; refine (dirty_any _ gc v3 _ l1 7 _ true HC3.out hll).mono ?_; rintro e w4 ⟨rfl, hw4⟩; obtain ⟨v4, hc4, hb4, hz4⟩ := hw4.next HC3.out HB3.out.size; have HL4 : Hid (∃ l4, CacheAt 69 66 W.heap.size w4 gc v4 M l4 ∧ Stuck l4 7 ∧ l4.length ≤ M) := ⟨_, hc4, HSd.out, Hld.out⟩; have HB4 := Lib.hid (HB3.out.trans hb4); clear hw4 hc4 hb4 hz4))
      clear hn2
      go_loopw [12] (fun i wr => ∃ (k : Nat) (vk : Value) (lk : List H), k ≤ ys.length ∧ k ≤ 60 ∧ i = .int .i64 k ∧ CacheAt 69 66 W.heap.size wr gc vk M lk ∧ Stuck lk 7 ∧ lk.length ≤ M ∧ Below W.heap.size W wr) (fun i _ => ys.length - (intOf i).toNat)
      case atStart => obtain ⟨l4, q1, q2, q3⟩ := HL4.out; exact ⟨0, v4, l4, Nat.zero_le _, Nat.zero_le _, rfl, q1, q2, q3, HB4.out⟩
      case round =>
        obtain ⟨k, vk, lk, hk, hk60, rfl, hC, hS, hlk, hBk⟩ := hrel
        rename World => wr
        have HCk := Lib.hid hC
        have HBk := Lib.hid hBk
        have HS := Lib.hid hS
        have hk0 : (0 : Int) ≤ (k : Int) := by omega
        clear hC hS hBk
        by_cases hlt : k < ys.length ∧ k < 60
        · obtain ⟨hlt, h60⟩ := hlt
          have hlti : (k : Int) < (ys.length : Int) := by omega
          have h60i : (k : Int) < 60 := by omega
          have hy9 := HY.out.next HBk.out
          obtain ⟨y0, y1⟩ := hy9.1 (nth ys k) (by rw [nth_lt hlt]; exact List.getElem_mem hlt)
          obtain ⟨b, off, rfl, hb, hc⟩ := hy9.2 (by omega)
          have c0 := hc k hlt
          clear hy9 hc
          generalize nth ys k = y at c0 y0 y1
          obtain ⟨s1, s2, s3⟩ := HS.out.use (m := M) (x := y % 96) (by omega) (by decide)
          have HUk := Lib.hid (use_any W.heap.size gc M vk lk (y % 96) wr HCk.out hlk (by omega) HBk.out.size)
          have HS5 := Lib.hid s1
          have Hl5 := Lib.hid (length_useL (m := M) (x := y % 96) hlk)
          have hl5 : (useL M lk (y % 96)).length ≤ 1000 := by have := Hl5.out; omega
          have hs2 : (useG M lk (y % 96) == 7) = false := by simpa using s2
          generalize useG M lk (y % 96) = G5 at HUk hs2
          generalize useL M lk (y % 96) = l5 at *
          have e60 : 0 ≤ y % 96 := by omega
          clear s1 s2
          rcases s3 with s3 | s3
          all_goals
            rw [s3] at HUk
            clear s3
            go_wp2_with (first
              | (go_at_call 14; (with_reducible refine HUk.out.mono ?_); rintro e w5 ⟨rfl, hw5⟩; obtain ⟨v5, hc5, hb5, hz5⟩ := hw5.next HCk.out HBk.out.size; have HC5 := Lib.hid hc5; have HB5 := Lib.hid (HBk.out.trans hb5); clear hw5 hc5 hb5 hz5)
              | (go_at_call 15; refine (has_any _ gc v5 _ l5 7 _ HC5.out hl5).mono ?_; rintro e w6 ⟨rfl, hb6⟩; rw [HS5.out.1]; have HC6 := Lib.hid (HC5.out.fresh hb6); have HB6 := Lib.hid (HB5.out.trans (hb6.mono HB5.out.size)); clear hb6))
            go_roundw
            case rel => exact ⟨k + 1, v5, l5, by omega, by omega, by go_num, HC6.out, HS5.out, Hl5.out, HB6.out⟩
            case measure => simp [intOf]; omega
        · have hdr := Lib.hid (stuck_drop HS.out)
          have HDk := Lib.hid (drop_any W.heap.size gc vk M lk 7 wr HCk.out (by omega))
          rw [hdr.out] at HDk
          have ht : ¬ (k : Int) < (ys.length : Int) ∨ ((k : Int) < (ys.length : Int) ∧ k = 60) := by omega
          rcases ht with ht | ⟨ht, rfl⟩
          all_goals
            clear hlt
            go_wp2_with (go_at_call 18; (with_reducible refine HDk.out.mono ?_); rintro e w7 ⟨rfl, hw7⟩; obtain ⟨v7, hc7, hb7, hz7⟩ := hw7.next HCk.out HBk.out.size; have HB7 := Lib.hid (HBk.out.trans hb7); clear hw7 hc7 hb7 hz7)
            go_ret
            exact ⟨rfl, HB7.out⟩
end Go.Proofs.Ythibnnllecdpaaa
