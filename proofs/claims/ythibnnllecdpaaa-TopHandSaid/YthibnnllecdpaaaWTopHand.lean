/- Whatever bytes come in, TopHand returns true, and they read afterwards as before. No condition. Here: the walk of the law's text. -/
import Derived.Test.YthibnnllecdpaaaO
import Derived.Test.YthibnnllecdpaaaNI
import Derived.Test.YthibnnllecdpaaaNJ
namespace Go.Proofs.Ythibnnllecdpaaa
open Go.RowKit
theorem own_mono {w : World} {B B' : Nat} {e : TypeId} {size n : Nat} {v : Value} {xs : List Value} (h : w.ownsRow B e size v n xs) (hB : B' ≤ B) : w.ownsRow B' e size v n xs :=
  ⟨h.1, h.2.imp id fun ⟨g, cap, cur, a, b, r⟩ => ⟨g, cap, cur, a, Nat.le_trans hB b, r⟩⟩
theorem EngAt.mono {B B' : Nat} {w : World} {ge gd : Nat} {k : Int} {v : Value} {l : List Wt} (h : EngAt B w ge gd k v l) (hB : B' ≤ B) : EngAt B' w ge gd k v l := ⟨h.head, h.disk, own_mono h.row hB, Nat.le_trans hB h.lo⟩
theorem CacheAt.mono {T E : TypeId} {B B' : Nat} {w : World} {g : Nat} {v : Value} {m : Int} {l : List H} (h : CacheAt T E B w g v m l) (hB : B' ≤ B) : CacheAt T E B' w g v m l := ⟨h.head, own_mono h.row hB, h.ne, Nat.le_trans hB h.lo⟩
theorem EngAt.low {B : Nat} {w : World} {ge gd : Nat} {k : Int} {v : Value} {l : List Wt} (h : EngAt B w ge gd k v l) : ∀ j, At ge v j → B ≤ j := by
  rintro j (rfl | q)
  · exact h.lo
  · exact (h.row.lt j q).1
/-- an engine and a cache side by side -/
structure Both (B : Nat) (w : World) (ge gd gc : Nat) (k : Int) (A : Option Addr) (cap : Nat) (l : List Wt) (vc : Value) (M : Nat) (lk : List H) (D : List Int) : Prop where
  e : EngAt B w ge gd k (.slice A l.length cap) l
  c : CacheAt 69 66 B w gc vc M lk
  few : ∀ x ∈ l, 0 ≤ x.b ∧ x.b < 40
  hand : Hand lk D
  lo : B ≤ w.heap.size
theorem Both.fresh {B : Nat} {w w' : World} {ge gd gc : Nat} {k : Int} {A : Option Addr} {cap : Nat} {l : List Wt} {vc : Value} {M : Nat} {lk : List H} {D : List Int} (h : Both B w ge gd gc k A cap l vc M lk D) (hb : Below w.heap.size w w') : Both B w' ge gd gc k A cap l vc M lk D :=
  ⟨h.e.fresh hb, h.c.fresh hb, h.few, h.hand, Nat.le_trans h.lo hb.size⟩
/-- behind a call that wrote to the cache -/
theorem Both.went {B : Nat} {w w' : World} {ge gd gc : Nat} {k : Int} {A : Option Addr} {cap : Nat} {l : List Wt} {vc : Value} {M : Nat} {lk lk' : List H} {D D' : List Int} (h : Both B w ge gd gc k A cap l vc M lk D) (hw : Went 69 66 B w gc vc M lk' w') (hh : Hand lk' D') :
    ∃ v', Both B w' ge gd gc k A cap l v' M lk' D' ∧ Kept w w' (At gc vc) ∧ Below B w w' := by
  obtain ⟨v', r, kk, _⟩ := hw
  exact ⟨v', ⟨h.e.besideT kk (Typed.cache h.c) (by decide) (by decide) (by decide) (by decide) (by decide) (by decide), r, h.few, hh, Nat.le_trans h.lo kk.size⟩, kk, kk.below h.c.low h.lo⟩
theorem bl_pos {l : List Wt} (h : ∀ x ∈ l, 0 ≤ x.b ∧ x.b < 40) : ∀ y ∈ bl l, 0 ≤ y := by
  intro y hy
  obtain ⟨x, hx, rfl⟩ := List.mem_map.1 hy
  exact (h x hx).1
theorem Both.added {B : Nat} {w w' : World} {ge gd gc : Nat} {k b : Int} {A : Option Addr} {cap : Nat} {l : List Wt} {vc : Value} {M : Nat} {lk : List H} {D : List Int} (h : Both B w ge gd gc k A cap l vc M lk D) (ha : Added B ge gd k A cap l b w w') (hb : 0 ≤ b ∧ b < 40) :
    ∃ A' cap' x, x.b = b ∧ Both B w' ge gd gc (k + 1) A' cap' (l ++ [x]) vc M lk D ∧ Below B w w' := by
  obtain ⟨A', cap', x, hx, he, kk⟩ := ha
  refine ⟨A', cap', x, hx, ⟨by rw [List.length_append]; exact he, h.c.besideT kk h.e.typed (by decide) (by decide) (by decide) (by decide), fun z hz => ?_, h.hand, Nat.le_trans h.lo kk.size⟩, kk.below h.e.low h.lo⟩
  rcases List.mem_append.1 hz with h1 | h1
  · exact h.few z h1
  · rw [List.mem_singleton] at h1; subst h1; rw [hx]; exact hb
set_option maxRecDepth 100000 in
set_option maxHeartbeats 4000000 in
theorem TopHand.walk (a1 : Option Addr) (len1 cap1 : Nat) (xs : List Int) (a2 : Option Addr) (len2 cap2 : Nat) (ys : List Int) (W : World) (hx : IsBytes W a1 len1 cap1 xs) (hy : IsBytes W a2 len2 cap2 ys) :
    Calls Try.prog 10 #[.slice a1 len1 cap1, .slice a2 len2 cap2] W fun e W' => e = .returned (.bool true) ∧ Below W.heap.size W W' := by
  obtain ⟨rfl, hx2, hx3, hx4⟩ := hx
  obtain ⟨rfl, hy2, hy3, hy4⟩ := hy
  have HX := Lib.hid hx4
  have HY := Lib.hid hy4
  unfold maxLen at hx3 hy3
  clear hx4 hy4
  obtain ⟨M, hM⟩ : ∃ M : Nat, M = 10 := ⟨10, rfl⟩
  have HM : Hid ((M : Int) = 10) := by unfold Hid; omega
  have HM2 := Lib.hid hM
  clear hM
  go_enter Try.func10, Try.ntmps10
  go_wp2_with (first
    | (go_at_call 27; refine (dnew_yes 40 _ (by decide) (by decide)).mono ?_; rintro e w1 ⟨rfl, hd1, hb1⟩; have HD1 := Lib.hid hd1; have HB1 := Lib.hid hb1; clear hd1 hb1)
    | (go_at_call 26; refine (enew_any _ _ HD1.out).mono ?_; rintro e w2 ⟨ge, gd, rfl, he2, hb2⟩; have HE2 := Lib.hid (he2.mono HB1.out.size); have HB2 : Hid (Below W.heap.size W w2) := HB1.out.trans (hb2.mono HB1.out.size); clear he2 hb2)
    | (go_at_call 21; refine (new_yes 10 _ (by decide) (by decide)).mono ?_; rintro e w3 ⟨rfl, hc3, hb3⟩; rw [← HM.out] at hc3; have HE3 := Lib.hid (HE2.out.fresh hb3); have HC3 := Lib.hid (hc3.mono HB2.out.size); have HB3 : Hid (Below W.heap.size W w3) := HB2.out.trans (hb3.mono HB2.out.size); clear hc3 hb3))
  have HH0 : Hid (Both W.heap.size w3 ge gd w2.heap.size ((0 : Nat) : Int) none 0 [] (.slice none 0 0) M [] []) := ⟨HE3.out, HC3.out, by simp, hand_nil, HB3.out.size⟩
  obtain ⟨gc, hgc⟩ : ∃ gc, gc = w2.heap.size := ⟨_, rfl⟩
  rw [← hgc] at HH0 ⊢
  clear hgc HE3 HC3 HE2 HD1 HB1 HB2
  go_loopw [7] (fun i wr => ∃ (k : Nat) (A : Option Addr) (cap : Nat) (l : List Wt) (vc : Value) (lk : List H), k ≤ xs.length ∧ k ≤ 6 ∧ i = .int .i64 k ∧ l.length = k ∧ Both W.heap.size wr ge gd gc (k : Int) A cap l vc M lk (bl l) ∧ Below W.heap.size W wr) (fun i _ => xs.length - (intOf i).toNat)
  case atStart => exact ⟨0, none, 0, [], _, [], Nat.zero_le _, Nat.zero_le _, rfl, rfl, HH0.out, HB3.out⟩
  case round =>
    obtain ⟨k, A, cap, l, vc, lk, hk, hk6, rfl, hlk, hH, hBk⟩ := hrel
    rename World => wr
    have HH := Lib.hid hH
    have HBk := Lib.hid hBk
    have Hlk := Lib.hid hlk
    have hk0 : (0 : Int) ≤ (k : Int) := by omega
    clear hH hBk hlk HH0 HB3
    by_cases hlt : k < xs.length ∧ k < 6
    · obtain ⟨hlt, h6⟩ := hlt
      have hlti : (k : Int) < (xs.length : Int) := by omega
      have h6i : (k : Int) < 6 := by omega
      have hy9 := HX.out.next HBk.out
      obtain ⟨y0, y1⟩ := hy9.1 (nth xs k) (by rw [nth_lt hlt]; exact List.getElem_mem hlt)
      obtain ⟨b, off, rfl, hb, hc⟩ := hy9.2 (by omega)
      have c0 := hc k hlt
      clear hy9 hc
      generalize nth xs k = y at c0 y0 y1
      have e40 : 0 ≤ y % 40 ∧ y % 40 < 40 := by omega
      have HA : Hid (∀ w', Below wr.heap.size wr w' → w'.heap[wr.heap.size]? = some (.cells #[.int .i64 (y % 40), .int .i64 0, .string ⟨#[120]⟩, .slice none 0 0] 61 (0, 0)) → Calls Try.prog 28 #[.pointer (some ⟨ge, 0, none⟩), .slice (some ⟨wr.heap.size, 0, none⟩) 1 1] w' fun e w2 => e = .returned (.tuple #[.int .i64 k, .int .i64 0]) ∧ Added W.heap.size ge gd k A cap l (y % 40) w' w2) :=
        fun w' hb hi => eadd_any W.heap.size ge gd wr.heap.size k A cap l (y % 40) w' (HH.out.e.fresh hb) (by have := Hlk.out; omega) HH.out.few (by omega) (by omega) e40.1 e40.2 (Nat.le_trans HH.out.lo hb.size) hi
      obtain ⟨u1, u2, u3⟩ := HH.out.hand.use' HM2.out (x := y % 40) (by have := Hlk.out; simp [bl]; omega) (bl_pos HH.out.few) (by omega)
      have HU := Lib.hid (fun w hc hb => use_any W.heap.size gc M vc lk (y % 40) w hc (by have := HH.out.hand.len; have := HM2.out; omega) (by have := HM2.out; omega) hb)
      rw [u1] at HU
      have hE0 : dirtyE (useL M lk (y % 40)) (y % 40) = 0 := by simp [dirtyE, u3]
      have Hh2 := Lib.hid u2
      have Hh3 := Lib.hid (u2.dirty u3)
      have HD := Lib.hid (fun w v hc => dirty_any W.heap.size gc v M (useL M lk (y % 40)) (y % 40) w true hc (by have := u2.len; omega))
      rw [hE0] at HD
      generalize useG M lk (y % 40) = G at HU
      generalize dirtyL (useL M lk (y % 40)) (y % 40) true = lk3 at Hh3 HD
      generalize useL M lk (y % 40) = lk2 at Hh2 HU HD
      clear u1 u2 u3 hE0
      go_wp2_with (first
        | (go_at_call 28; refine (HA.out _ ((Below.refl _ _).alloc (Nat.le_refl _) _) (heap_alloc_new wr _)).mono ?_; rintro e w2 ⟨rfl, ha⟩; obtain ⟨A2, cap2, x, hx, hB2, hb2⟩ := (HH.out.fresh ((Below.refl _ _).alloc (Nat.le_refl _) _)).added ha e40; have HH2 := Lib.hid hB2; have Hx := Lib.hid hx; have HB2 : Hid (Below W.heap.size W w2) := (HBk.out.alloc HBk.out.size _).trans hb2; clear ha hx hB2 hb2)
        | (go_at_call 14; (with_reducible refine (HU.out _ HH2.out.c HH2.out.lo).mono ?_); rintro e w4 ⟨rfl, hw4⟩; obtain ⟨v4, hH4, _, hb4⟩ := HH2.out.went hw4 Hh2.out; have HH4 := Lib.hid hH4; have HB4 := Lib.hid (HB2.out.trans hb4); clear hw4 hH4 hb4)
        | (go_at_call 17; (with_reducible refine (HD.out _ _ HH4.out.c).mono ?_); rintro e w5 ⟨rfl, hw5⟩; obtain ⟨v5, hH5, _, hb5⟩ := HH4.out.went hw5 Hh3.out; have HH5 := Lib.hid hH5; have HB5 := Lib.hid (HB4.out.trans hb5); clear hw5 hH5 hb5))
      go_roundw
      case rel =>
        refine ⟨k + 1, A2, cap2, l ++ [x], v5, lk3, by omega, by omega, by go_num, by have := Hlk.out; simp; omega, ?_, HB5.out⟩
        have e1 : ((k + 1 : Nat) : Int) = (k : Int) + 1 := by omega
        have e2 : bl (l ++ [x]) = bl l ++ [y % 40] := by simp [bl, Hx.out]
        rw [e1, e2]
        exact HH5.out
      case measure => simp [intOf]; omega
    · have ht : ¬ (k : Int) < (xs.length : Int) ∨ ((k : Int) < (xs.length : Int) ∧ k = 6) := by omega
      have hpos : Hid (xs.length ≠ 0 → bl l ≠ []) := fun h e => by
        have e1 := congrArg List.length e
        have e2 := Hlk.out
        rw [bl, List.length_map, List.length_nil] at e1
        omega
      have hl6 : Hid (l.length ≤ 6) := by have := Hlk.out; unfold Hid; omega
      rcases ht with ht | ⟨ht, rfl⟩
      all_goals
        clear hlt
        obtain ⟨kk, HP⟩ : ∃ kk : Int, Hid (Both W.heap.size wr ge gd gc kk A cap l vc M lk (bl l)) := ⟨_, HH.out⟩
        clear HH Hlk
        go_wp2
        go_loopw [11] (fun i wq => ∃ (q : Nat) (vq : Value) (lq : List H), q ≤ ys.length ∧ q ≤ 60 ∧ i = .int .i64 q ∧ Both W.heap.size wq ge gd gc kk A cap l vq M lq (bl l) ∧ Below W.heap.size W wq) (fun i _ => ys.length - (intOf i).toNat)
        case atStart => exact ⟨0, vc, lk, Nat.zero_le _, Nat.zero_le _, rfl, HP.out, HBk.out⟩
        case round =>
          obtain ⟨q, vq, lq, hq, hq60, rfl, hH, hBq⟩ := hrel
          rename World => wq
          have HQ := Lib.hid hH
          have HBq := Lib.hid hBq
          have hq0 : (0 : Int) ≤ (q : Int) := by omega
          clear hH hBq HP
          by_cases hlq : q < ys.length ∧ q < 60
          · obtain ⟨hlq, h60⟩ := hlq
            have hlqi : (q : Int) < (ys.length : Int) := by omega
            have h60i : (q : Int) < 60 := by omega
            have hy9 := HY.out.next HBq.out
            obtain ⟨y0, y1⟩ := hy9.1 (nth ys q) (by rw [nth_lt hlq]; exact List.getElem_mem hlq)
            obtain ⟨b, off, rfl, hb, hc⟩ := hy9.2 (by omega)
            have c0 := hc q hlq
            clear hy9 hc
            generalize nth ys q = y at c0 y0 y1
            obtain ⟨u1, u2, u3⟩ := HQ.out.hand.use' HM2.out (x := y % 96) (by have := hl6.out; simp [bl]; omega) (bl_pos HQ.out.few) (by omega)
            have e96 : 0 ≤ y % 96 := by omega
            have HU := Lib.hid (fun w hc hb => use_any W.heap.size gc M vq lq (y % 96) w hc (by have := HQ.out.hand.len; have := HM2.out; omega) (by have := HM2.out; omega) hb)
            rw [u1] at HU
            have Hh2 := Lib.hid u2
            generalize useG M lq (y % 96) = G at HU
            generalize useL M lq (y % 96) = lk2 at Hh2 HU u3
            clear u1 u2 u3
            go_wp2_with (go_at_call 14; (with_reducible refine (HU.out _ HQ.out.c HQ.out.lo).mono ?_); rintro e w6 ⟨rfl, hw6⟩; obtain ⟨v6, hH6, _, hb6⟩ := HQ.out.went hw6 Hh2.out; have HH6 := Lib.hid hH6; have HB6 := Lib.hid (HBq.out.trans hb6); clear hw6 hH6 hb6)
            go_roundw
            case rel => exact ⟨q + 1, v6, lk2, by omega, by omega, by go_num, HH6.out, HB6.out⟩
            case measure => simp [intOf]; omega
          · have hs : ¬ (q : Int) < (ys.length : Int) ∨ ((q : Int) < (ys.length : Int) ∧ q = 60) := by omega
            have HDi := Lib.hid (edirty_any W.heap.size ge gd kk A cap l wq HQ.out.e (by have := hl6.out; omega))
            rcases hs with hs | ⟨hs, rfl⟩
            all_goals
              clear hlq
              go_wp2_with (go_at_call 29; refine HDi.out.mono ?_; rintro e w7 ⟨A7, c7, zs, rfl, ho7, hz7, hn7, hl7, hb7⟩; have HH7 := Lib.hid (HQ.out.fresh hb7); have HO7 : Hid (w7.ownsRow W.heap.size 3 1 (.slice A7 zs.length c7) zs.length (intsV zs)) := own_mono ho7 HQ.out.lo; have HB7 := Lib.hid (HBq.out.trans (hb7.mono HQ.out.lo)); have Hz := Lib.hid hz7; have Hn : Hid (xs.length ≠ 0 → 0 < zs.length) := (fun h => List.length_pos_iff.2 (hn7 (hpos.out h))); have hl7' : zs.length ≤ 6 := (by have := hl6.out; simp [bl] at hl7; omega); clear ho7 hz7 hn7 hl7 hb7)
              go_loopw [15] (fun i wj => ∃ (j : Nat) (vj : Value), j ≤ zs.length ∧ i = .int .i64 j ∧ Both W.heap.size wj ge gd gc kk A cap l vj M lq (bl l) ∧ wj.ownsRow W.heap.size 3 1 (.slice A7 zs.length c7) zs.length (intsV zs) ∧ Below W.heap.size W wj) (fun i _ => zs.length - (intOf i).toNat)
              case atStart => exact ⟨0, vq, Nat.zero_le _, rfl, HH7.out, HO7.out, HB7.out⟩
              case round =>
                obtain ⟨j, vj, hj, rfl, hH, ho, hBj⟩ := hrel
                rename World => wj
                have HJ := Lib.hid hH
                have HOj := Lib.hid ho
                have HBj := Lib.hid hBj
                have hj0 : (0 : Int) ≤ (j : Int) := by omega
                have Hlen : Hid (lq.length ≤ 10) := hH.hand.len
                clear hH hBj HH7 HO7
                by_cases hlj : j < zs.length
                · have hlji : (j : Int) < (zs.length : Int) := by omega
                  obtain ⟨A9, c9, e9, hI⟩ := own_ints ho
                  obtain ⟨rfl, _, rfl⟩ := Value.slice.inj e9
                  obtain ⟨b, off, rfl, hb, c0⟩ := hI.at_ hlj
                  have hzj : nth zs j ∈ zs := by rw [nth_lt hlj]; exact List.getElem_mem hlj
                  have hst := HJ.out.hand.stuck _ (Hz.out _ hzj)
                  clear hzj hI e9 ho
                  generalize nth zs j = z at c0 hst
                  have hdr := stuck_drop hst
                  have hdl := stuck_dropL hst
                  have hhs := hst.1
                  have HHs := Lib.hid (fun w v hc => has_any W.heap.size gc v M lq z w hc (by have := Hlen.out; omega))
                  have HDr := Lib.hid (fun w v hc => drop_any W.heap.size gc v M lq z w hc (by have := Hlen.out; omega))
                  rw [hhs] at HHs
                  rw [hdr, hdl] at HDr
                  clear hst hdr hdl hhs
                  go_wp2_with (first
                    | (go_at_call 15; (with_reducible refine (HHs.out _ _ HJ.out.c).mono ?_); rintro e w8 ⟨rfl, hb8⟩; have HH8 := Lib.hid (HJ.out.fresh hb8); have HO8 := Lib.hid ((Kept.fresh (S := fun _ => False) hb8).row HOj.out (fun _ _ q => q)); have HB8 := Lib.hid (HBj.out.trans (hb8.mono HJ.out.lo)); have c8 : w8.cell? ⟨b, off + j, none⟩ = some (.int .i64 z) := (by rw [hb8.cell (p := ⟨b, off + j, none⟩) hb]; exact c0); clear hb8)
                    | (go_at_call 18; (with_reducible refine (HDr.out _ _ HH8.out.c).mono ?_); rintro e w9 ⟨rfl, hw9⟩; obtain ⟨v9, hH9, hk9, hb9⟩ := HH8.out.went hw9 HH8.out.hand; have HH9 := Lib.hid hH9; have HO9 := Lib.hid (hk9.row HO8.out (row_not (Typed.cache HH8.out.c) HO8.out (by decide) (by decide))); have HB9 := Lib.hid (HB8.out.trans hb9); clear hw9 hH9 hk9 hb9))
                  go_roundw
                  case rel => exact ⟨j + 1, v9, by omega, by go_num, HH9.out, HO9.out, HB9.out⟩
                  case measure => simp [intOf]; omega
                · obtain rfl : j = zs.length := by omega
                  have hlji : ¬ (zs.length : Int) < (zs.length : Int) := by omega
                  have HL := Lib.hid (list_any W.heap.size gc vj M lq wj HJ.out.c (by have := Hlen.out; omega))
                  have hl10 : (lq.length : Int) ≤ 10 := by have := Hlen.out; omega
                  have hd : (xs.length : Int) = 0 ∨ (¬ (xs.length : Int) = 0 ∧ (0 : Int) < (zs.length : Int)) := by
                    have := Hn.out
                    omega
                  clear ho
                  rcases hd with hd | ⟨hd, hd2⟩
                  all_goals
                    go_wp2_with (first
                      | (go_at_call 19; refine HL.out.mono ?_; rintro e w10 ⟨A10, c10, rfl, _, hb10⟩; have HH10 := Lib.hid (HJ.out.fresh hb10); have HB10 := Lib.hid (HBj.out.trans (hb10.mono HJ.out.lo)); clear hb10)
                      | (go_at_call 30; refine (esize_any _ _ _ _ _ _ _ HH10.out.e).mono ?_; rintro e w11 ⟨rfl, rfl⟩))
                    all_goals
                      go_ret
                      exact ⟨rfl, HB10.out⟩
end Go.Proofs.Ythibnnllecdpaaa
