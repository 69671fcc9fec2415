/- Whatever bytes and deeds come in, StackSettles returns true, and they read afterwards as before. No condition. Here: the walk of the law's text. -/
import Derived.Test.YtibkipdadpidnaaSN
set_option linter.unusedVariables false
set_option linter.unusedSimpArgs false
namespace Go.Proofs.Ytibkipdadpidnaa
open Go.RowKit
set_option maxRecDepth 100000 in
set_option maxHeartbeats 4000000 in
theorem StackSettles.walk (a1 : Option Addr) (len1 cap1 : Nat) (bs : List Int) (a2 : Option Addr) (len2 cap2 : Nat) (ds : List Dd) (W : World) (hb : IsBytes W a1 len1 cap1 bs) (hd : IsDeeds W a2 len2 cap2 ds) :
    Calls Try.prog 7 #[.slice a1 len1 cap1, .slice a2 len2 cap2] W fun e W' => e = .returned (.bool true) ∧ Below W.heap.size W W' := by
  obtain ⟨rfl, b2, b3, b4⟩ := hb
  obtain ⟨rfl, d2, d3, d4⟩ := hd
  have HP := Lib.hid (play_any a1 cap1 bs a2 cap2 ds W b4 d2 d3 d4)
  clear b2 b3 b4 d2 d3 d4
  go_enter Try.func7, Try.ntmps7
  go_wp2_with fail
  refine HP.out.mono ?_
  rintro e w1 ⟨g, r, s, rfl, hT, hO, hB⟩
  have HO := Lib.hid hO
  have HN : Hid (∀ V V', Two W.heap.size V g r s s ∧ Below W.heap.size W V → Below V.heap.size V V' → Two W.heap.size V' g r s s ∧ Below W.heap.size W V') := fun V V' h k => ⟨h.1.fresh k, h.2.trans (k.mono h.2.size)⟩
  have HBy : Hid (∀ V, Two W.heap.size V g r s s → Calls Try.prog 17 #[.pointer (some ⟨g, 0, none⟩)] V fun e w' => ∃ d c', e = .returned (.slice (some ⟨d, 0, none⟩) 32 c') ∧ BtB w' g r d (allB s) ∧ Below V.heap.size V w') := fun V t =>
    (q_bytes t hO (by omega)).mono fun e w' ⟨d, c', e1, e2, e3, e4, e5⟩ => ⟨d, c', e1, GivesB.btb t e2 e3 (withL_len hO.r t.len), e5⟩
  have HWt : Hid (∀ V, Two W.heap.size V g r s s → Calls Try.prog 21 #[.pointer (some ⟨g, 0, none⟩)] V (GivesI V (nums s.l))) := fun V t => q_waiting t hO (by omega)
  have H1 := Lib.hid (And.intro hT hB)
  have hnl : (nums s.l).length ≤ 30 := by rw [length_nums]; exact hO.len
  clear hT hO hB
  go_wp2_with (first
    | (go_at_call 12; refine (live_any _).mono ?_; rintro e w2 ⟨rfl, hb2⟩; have H2 := Lib.hid (HN.out _ _ H1.out hb2); clear hb2)
    | (go_at_call 17; (with_reducible refine (HBy.out _ H2.out.1).mono ?_); rintro e w3 ⟨d, c3, rfl, t3, hb3⟩; have H3 := Lib.hid (HN.out _ _ H2.out hb3); have T3 := Lib.hid t3; clear hb3 t3)
    | (go_at_call 21; (with_reducible refine (HWt.out _ H3.out.1).mono ?_); rintro e w4 ⟨A4, c4, rfl, r4, hb4⟩; have H4 := Lib.hid (HN.out _ _ H3.out hb4); have R4 := Lib.hid r4; have T4 := Lib.hid (T3.out.kg (KG.fresh hb4)); clear hb4 r4))
  obtain ⟨B0, hB0⟩ : ∃ B0, B0 = w3.heap.size := ⟨_, rfl⟩
  rw [← hB0] at R4
  clear hB0 H1 H2 H3 T3 HN HBy HWt
  go_loopw [4, 10] (fun rr i wr => ∃ k : Nat, k ≤ s.l.length ∧ rr = .bool false ∧ i = .int .i64 k ∧ Hid (Two W.heap.size wr g r (lowS s k) s ∧ Below W.heap.size W wr) ∧ Hid (BtB wr g r d (allB s)) ∧ Hid (RowI wr B0 A4 c4 (nums s.l))) (fun _ i _ => s.l.length - (intOf i).toNat)
  case atStart => exact ⟨0, Nat.zero_le _, rfl, rfl, H4.out, T4.out, R4.out⟩
  case round =>
    obtain ⟨k, hk, rfl, rfl, hT, hBt, hR⟩ := hrel
    rename World => wr
    have hk0 : (0 : Int) ≤ (k : Int) := by omega
    by_cases hlt : k < s.l.length
    · have hki : (k : Int) < ((nums s.l).length : Int) := by have := length_nums s.l; omega
      obtain ⟨b1, o1, rfl, l1, c1⟩ := hR.out.ints.at_ (show k < (nums s.l).length by have := length_nums s.l; omega)
      have hx : inn (nums s.l) k = (onn s.l k).n := by
        rw [inn_lt (by have := length_nums s.l; omega), onn_lt hlt]; simp [nums]
      rw [hx] at c1
      have HK : Hid (∀ V, Below wr.heap.size wr V → V.cell? ⟨b1, o1 + k, none⟩ = some (.int .i64 (onn s.l k).n)) := fun V h => (h.cell (p := ⟨b1, o1 + k, none⟩) l1).trans c1
      have hon := onn_mem hlt
      have hwf := (HO.out.wf (by omega)) _ hon
      have HNd : Hid (∀ V, Two W.heap.size V g r (lowS s k) s → Calls Try.prog 25 #[.pointer (some ⟨g, 0, none⟩), .int .i64 (onn s.l k).n] V fun e w' => ∃ A' c', e = .returned (.slice A' 0 c') ∧ Below V.heap.size V w') := fun V t =>
        (q_needs t (low_ok HO.out k) (by omega) (onn s.l k).n).mono fun e w' ⟨A', c', e1, e2, e3⟩ => by
          rw [show needsL (lowS s k).l (onn s.l k).n = [] from low_needs hlt HO.out.rise] at e1
          exact ⟨A', c', e1, e3⟩
      have HSt : Hid (∀ V, Two W.heap.size V g r (lowS s k) s → Calls Try.prog 24 #[.pointer (some ⟨g, 0, none⟩), .slice (some ⟨V.heap.size, 0, none⟩) 1 1] (V.alloc (.cells #[.int .i64 (onn s.l k).n] 3)) fun e w' => e = .returned (.int .i64 0) ∧ Two W.heap.size w' g r (lowS s (k + 1)) s ∧ KG g r V w') := fun V t => by
        have hb := Pat.below_alloc1 V (.cells #[.int .i64 (onn s.l k).n] 3)
        have t2 := t.fresh hb
        have hI : Ints (V.alloc (.cells #[.int .i64 (onn s.l k).n] 3)) (V.alloc (.cells #[.int .i64 (onn s.l k).n] 3)).heap.size (some ⟨V.heap.size, 0, none⟩) [(onn s.l k).n] := fun _ =>
          ⟨V.heap.size, 0, rfl, (Array.getElem?_eq_some_iff.1 (heap_alloc_new V (.cells #[.int .i64 (onn s.l k).n] 3))).1, fun j hj => by
            obtain rfl : j = 0 := by simp at hj; omega
            exact cell_of_row _ V.heap.size 0 _ 3 (0, 0) (heap_alloc_new V _)⟩
        refine (q_settle t2 (low_ok HO.out k) (by omega) (some ⟨V.heap.size, 0, none⟩) 1 [(onn s.l k).n] (by simp) (fun x hx => by rw [List.mem_singleton.1 hx]; exact hwf) hI).mono fun e w' ⟨e1, e2, e3⟩ => ?_
        rw [show mayE (lowS s k).l [(onn s.l k).n] = 0 from low_may hlt HO.out.rise] at e1
        rw [low_step hlt HO.out.rise] at e2
        exact ⟨e1, e2, KG.trans (KG.fresh hb) e3⟩
      have HF : Hid (∀ V, Below wr.heap.size wr V → Two W.heap.size V g r (lowS s k) s) := fun V h => hT.out.1.fresh h
      have HE : Hid (∀ V V', Below wr.heap.size wr V → KG g r V V' → Below W.heap.size W V' ∧ BtB V' g r d (allB s) ∧ RowI V' B0 (some ⟨b1, o1, none⟩) c4 (nums s.l)) := fun V V' h1 h2 => by
        have kk : KG g r wr V' := KG.trans (KG.fresh h1) h2
        exact ⟨hT.out.2.trans (hT.out.1.below kk), hBt.out.kg kk, kg_row hT.out.1 hR.out kk⟩
      have X0 := Lib.hid c1
      clear c1 hon hwf hx
      generalize (onn s.l k).n = x at *
      generalize (nums s.l).length = nn at *
      have x0 := X0.out
      go_wp2_with (first
        | (go_at_call 25; (with_reducible refine (HNd.out _ (HF.out _ (Below.refl _ _))).mono ?_); rintro e w5 ⟨A5, c5, rfl, hb5⟩; have B5 := Lib.hid hb5; have x5 := HK.out _ hb5; clear hb5)
        | (go_at_call 24; (with_reducible refine (HSt.out _ (HF.out _ B5.out)).mono ?_); rintro e w6 ⟨rfl, t6, k6⟩; have T6 := Lib.hid t6; have E6 := Lib.hid (HE.out _ _ B5.out k6); clear t6 k6))
      go_roundw
      case rel =>
        first
          | exact ⟨k + 1, by omega, rfl, by go_num, ⟨T6.out, E6.out.1⟩, E6.out.2.1, E6.out.2.2⟩
          | ((repeat apply Exists.intro); exact ⟨⟨k + 1, by omega, rfl, by go_num, ⟨T6.out, E6.out.1⟩, E6.out.2.1, E6.out.2.2⟩, rfl⟩)
      case measure => simp [intOf]; omega
    · obtain rfl : k = s.l.length := by omega
      have hki : ¬ ((s.l.length : Nat) : Int) < ((nums s.l).length : Int) := by have := length_nums s.l; omega
      have hT2 : Two W.heap.size wr g r ⟨allB s, [], s.k⟩ s := by rw [← low_end]; exact hT.out.1
      have hO2 : Ok 30 ⟨allB s, [], s.k⟩ := by rw [← low_end]; exact low_ok HO.out _
      have Hl : Hid (32 = (allB s).length) := hT2.len.symm
      have BD : Hid (Below wr.heap.size wr wr.drew) := (Below.refl _ _).drew
      have HW1 : Hid (∀ V, Below wr.heap.size wr V → Calls Try.prog 21 #[.pointer (some ⟨g, 0, none⟩)] V fun e w' => ∃ A' c', e = .returned (.slice A' 0 c') ∧ Below V.heap.size V w') := fun V h =>
        (q_waiting (hT2.fresh h) hO2 (by omega)).mono fun e w' ⟨A', c', e1, e2, e3⟩ => ⟨A', c', e1, e3⟩
      have HA1 : Hid (∀ V, Below wr.heap.size wr V → Calls Try.prog 22 #[.pointer (some ⟨g, 0, none⟩)] V (GivesB V (allB s))) := fun V h => q_base (hT2.fresh h)
      have HB1 : Hid (∀ V, Below wr.heap.size wr V → Calls Try.prog 17 #[.pointer (some ⟨g, 0, none⟩)] V (GivesB V (allB s))) := fun V h => by
        have h9 := q_bytes (hT2.fresh h) hO2 (by omega)
        rw [show allB (⟨allB s, [], s.k⟩ : Sk) = allB s from rfl] at h9
        exact h9
      have HBw := Lib.hid hT.out.2
      have HTx : Hid (∀ V, Below wr.heap.size wr V → (convert 22 9 (.slice (some ⟨d, 0, none⟩) 32 c3)).run Try.prog V = .ok (.string (strOfNums (allB s))) V) := fun V h => ((hBt.out.b.below h).more h.size).text c3 32 Hl.out
      have TX : Hid (∀ (W : World) (A : Option Addr) (l : List Int) c, 32 = l.length → Pat.Bts W W.heap.size A l → (convert 22 9 (.slice A 32 c)).run Try.prog W = .ok (.string (strOfNums l)) W) := fun W A l c h1 h2 => h2.text c 32 h1
      clear hT hT2 hO2 hBt hR HO H4 T4 R4 HP
      generalize allB s = f1 at *
      generalize (nums s.l).length = nn at *
      go_wp2_with fail
      go_region_law (go_simp; first
          | (go_at_call 21; (with_reducible refine (HW1.out _ BD.out).mono ?_); rintro e w5 ⟨A5, c5, rfl, b5⟩; have B5 := Lib.hid (Below.trans BD.out (Below.mono b5 BD.out.size)); have y5 := HTx.out w5 B5.out; clear b5)
          | (go_at_call 22; (with_reducible refine (HA1.out w5 B5.out).mono ?_); rintro e w6 ⟨d6, c6, rfl, _, t6, _, b6⟩; have B6 := Lib.hid (Below.trans B5.out (Below.mono b6 B5.out.size)); have y6 := TX.out w6 _ _ c6 Hl.out t6; have z6 := HTx.out w6 B6.out; clear t6 b6)
          | (go_at_call 17; (with_reducible refine (HB1.out w6 B6.out).mono ?_); rintro e w7 ⟨d7, c7, rfl, _, t7, _, b7⟩; have B7 := Lib.hid (Below.trans B6.out (Below.mono b7 B6.out.size)); have y7 := TX.out w7 _ _ c7 Hl.out t7; have z7 := HTx.out w7 B7.out; clear t7 b7)
          | fail)
      all_goals
        go_wp2
        go_ret
        exact ⟨rfl, Below.trans HBw.out (Below.mono B7.out HBw.out.size)⟩
end Go.Proofs.Ytibkipdadpidnaa
