/- Whatever bytes, deeds and patch come in, StackPops returns true, and they read afterwards as before. No condition. Here: the walk of the law's text. -/
import Derived.Test.YtibkipdadpidnaaSR
set_option linter.unusedVariables false
set_option linter.unusedSimpArgs false
namespace Go.Proofs.Ytibkipdadpidnaa
open Go.RowKit
open Pat (Pt AllB undoP nth)
set_option maxRecDepth 100000 in
set_option maxHeartbeats 4000000 in
theorem StackPops.walk (a1 : Option Addr) (len1 cap1 : Nat) (bs : List Int) (a2 : Option Addr) (len2 cap2 : Nat) (ds : List Dd) (p : Pat.Pt) (W : World) (hb : IsBytes W a1 len1 cap1 bs) (hd : IsDeeds W a2 len2 cap2 ds) (hp : p.ok) :
    Calls Try.prog 5 #[.slice a1 len1 cap1, .slice a2 len2 cap2, p.v] W fun e W' => e = .returned (.bool true) ∧ Below W.heap.size W W' := by
  obtain ⟨rfl, b2, b3, b4⟩ := hb
  obtain ⟨rfl, d2, d3, d4⟩ := hd
  have hbA := Pat.below_alloc1 W (.cells #[.int .i64 p.b, .int .i64 p.o, .string p.s] 38)
  have HP := Lib.hid (play_any a1 cap1 bs a2 cap2 ds _ ((b4.below hbA).more hbA.size) d2 d3 (d4.up hbA))
  have hbx : Pat.Boxed (W.alloc (.cells #[.int .i64 p.b, .int .i64 p.o, .string p.s] 38)) W.heap.size p := Pat.boxed1 W p
  clear b2 b3 b4 d2 d3 d4
  obtain ⟨W1, hW1⟩ : ∃ W1, W1 = W.alloc (.cells #[.int .i64 p.b, .int .i64 p.o, .string p.s] 38) := ⟨_, rfl⟩
  rw [← hW1] at hbA HP hbx
  have HbA := Lib.hid hbA
  have hblt := Pat.BlkIs.lt hbx
  have HX : Hid (∀ V, Below W1.heap.size W1 V → V.cell? ⟨W.heap.size, 0, none⟩ = some (.int .i64 p.b) ∧ V.cell? ⟨W.heap.size, 1, none⟩ = some (.int .i64 p.o) ∧ V.cell? ⟨W.heap.size, 2, none⟩ = some (.string p.s)) := fun V h => (hbx.below h hblt).cells
  have HE : Hid (∀ V, Below W1.heap.size W1 V → Below W.heap.size W V) := fun V h => hbA.trans (h.mono hbA.size)
  have HW1 := Lib.hid hW1
  clear hbA hbx hW1 hblt
  go_enter Try.func5, Try.ntmps5
  unfold Pat.Pt.v
  go_wp2_with fail
  rw [← HW1.out]
  refine HP.out.mono ?_
  rintro e w1 ⟨g, r, s, rfl, hT, hO, hB⟩
  have HO := Lib.hid hO
  have HN : Hid (∀ V V', Two W1.heap.size V g r s s ∧ Below W1.heap.size W1 V → Below V.heap.size V V' → Two W1.heap.size V' g r s s ∧ Below W1.heap.size W1 V') := fun V V' h k => ⟨h.1.fresh k, h.2.trans (k.mono h.1.lo)⟩
  have HBy : Hid (∀ V, Two W1.heap.size V g r s s → Calls Try.prog 17 #[.pointer (some ⟨g, 0, none⟩)] V fun e w' => ∃ d c', e = .returned (.slice (some ⟨d, 0, none⟩) 32 c') ∧ BtB w' g r d (allB s) ∧ Below V.heap.size V w') := fun V t =>
    (q_bytes t hO (by omega)).mono fun e w' ⟨d, c', e1, e2, e3, e4, e5⟩ => ⟨d, c', e1, GivesB.btb t e2 e3 (withL_len hO.r t.len), e5⟩
  have Hlen : Hid (32 = (allB s).length) := (withL_len hO.r hT.len).symm
  have Hsf : Hid (s.f.length = 32 ∧ AllB s.f) := ⟨hT.len, hT.all⟩
  have H1 := Lib.hid (And.intro hT hB)
  have TX : Hid (∀ (W : World) (A : Option Addr) (l : List Int) c, 32 = l.length → Pat.Bts W W.heap.size A l → (convert 22 9 (.slice A 32 c)).run Try.prog W = .ok (.string (strOfNums l)) W) := fun W A l c h1 h2 => h2.text c 32 h1
  clear hT hO hB HP HW1
  cases hr : p.right with
  | false =>
    have HPu : Hid (∀ V, Two W1.heap.size V g r s s → Calls Try.prog 18 #[.pointer (some ⟨g, 0, none⟩), p.v] V fun e w' => e = .returned (.tuple #[.int .i64 0, .int .i64 3]) ∧ Two W1.heap.size w' g r s s ∧ KG g r V w') := fun V t => by
      have h := q_push t HO.out (by omega) p hp
      unfold pushK pushE push0 at h
      rw [hr, if_neg (by decide), if_neg (by decide), if_neg (by decide)] at h
      exact h
    obtain ⟨pb, po, ps⟩ := p
    unfold Pat.Pt.v at HPu
    simp only at HPu HX
    go_wp2_with (first
      | (go_at_call 12; refine (live_any _).mono ?_; rintro e w2 ⟨rfl, hb2⟩; have H2 := Lib.hid (HN.out _ _ H1.out hb2); clear hb2)
      | (go_at_call 17; (with_reducible refine (HBy.out _ H2.out.1).mono ?_); rintro e w3 ⟨d3, c3, rfl, t3, hb3⟩; have H3 := Lib.hid (HN.out _ _ H2.out hb3); have T3 := Lib.hid t3; have x3 := HX.out w3 H3.out.2; clear hb3 t3)
      | (go_at_call 18; (with_reducible refine (HPu.out _ H3.out.1).mono ?_); rintro e w4 ⟨rfl, t4, k4⟩; have T4 := Lib.hid (T3.out.kg k4); have H4 := Lib.hid (And.intro t4 (H3.out.2.trans (H3.out.1.below k4))); clear t4 k4))
    have BD : Hid (Below w4.heap.size w4 w4.drew) := (Below.refl _ _).drew
    have HB2 : Hid (∀ V, Below w4.heap.size w4 V → Calls Try.prog 17 #[.pointer (some ⟨g, 0, none⟩)] V (GivesB V (allB s))) := fun V h => q_bytes (H4.out.1.fresh h) HO.out (by omega)
    have HS : Hid (∀ V, Below w4.heap.size w4 V → Calls Try.prog 13 #[.pointer (some ⟨g, 0, none⟩), .pointer (some ⟨r, 0, none⟩)] V fun e w' => e = .returned (.bool true) ∧ Below V.heap.size V w') := fun V h => same_any _ g r 30 s _ HO.out (by omega) (H4.out.1.fresh h)
    have HTx : Hid (∀ V, Below w4.heap.size w4 V → (convert 22 9 (.slice (some ⟨d3, 0, none⟩) 32 c3)).run Try.prog V = .ok (.string (strOfNums (allB s))) V) := fun V h => ((T4.out.b.below h).more h.size).text c3 32 Hlen.out
    have HBw := Lib.hid H4.out.2
    have y4 := HTx.out _ BD.out
    clear x3 T3 T4 H1 H2 H3 H4 HBy HPu HO HN Hsf
    generalize allB s = f1 at *
    go_wp2_with fail
    go_region_law (go_simp; first
        | (go_at_call 17; (with_reducible refine (HB2.out _ BD.out).mono ?_); rintro e w5 ⟨d5, c5, rfl, _, t5, _, b5⟩; have B5 := Lib.hid (Below.trans BD.out (Below.mono b5 BD.out.size)); have y5 := TX.out w5 _ _ c5 Hlen.out t5; have z5 := HTx.out w5 B5.out; clear t5 b5)
        | (go_at_call 13; (with_reducible refine (HS.out w5 B5.out).mono ?_); rintro e w6 ⟨rfl, b6⟩; have B6 := Lib.hid (Below.trans B5.out (Below.mono b6 B5.out.size)); clear b6)
        | fail)
    all_goals
      go_wp2
      go_ret
      exact ⟨rfl, HE.out _ (Below.trans HBw.out (Below.mono B6.out HBw.out.size))⟩
  | true =>
    have HPu : Hid (∀ V, Two W1.heap.size V g r s s → Calls Try.prog 18 #[.pointer (some ⟨g, 0, none⟩), p.v] V fun e w' => e = .returned (.tuple #[.int .i64 s.k, .int .i64 0]) ∧ Two W1.heap.size w' g r (pushS s p) s ∧ KG g r V w') := fun V t => by
      have h := q_push t HO.out (by omega) p hp
      unfold pushK pushE push0 at h
      rw [hr, if_pos rfl, if_pos rfl, if_pos rfl] at h
      exact h
    have hO2 : Ok 31 (pushS s p) := by
      have h := HO.out.push p
      unfold push0 at h
      rwa [if_pos hr] at h
    have hO3 : Ok 31 ⟨s.f, s.l, s.k + 1⟩ := by rw [← pop_push s p]; exact hO2.pop
    have HUn : Hid (∀ V, Two W1.heap.size V g r (pushS s p) s → Calls Try.prog 19 #[.pointer (some ⟨g, 0, none⟩), .int .i64 s.k] V fun e w' => e = .returned (.tuple #[.string (undoP (allB s) p).s, .int .i64 0]) ∧ Below V.heap.size V w') := fun V t => by
      have h := q_under t hO2 (by omega) s.k
      rw [push_under HO.out hr, push_undE] at h
      exact h
    have HB2 : Hid (∀ V, Two W1.heap.size V g r (pushS s p) s → Calls Try.prog 17 #[.pointer (some ⟨g, 0, none⟩)] V fun e w' => ∃ d, e = .returned (.slice (some ⟨d, 0, none⟩) 32 32) ∧ Pat.BlkIs w' d 71 (Pat.bytesV (allB (pushS s p))) ∧ V.heap.size ≤ d ∧ Below V.heap.size V w') := fun V t => q_bytes2 t hO2 (by omega)
    have HPo : Hid (∀ V, Two W1.heap.size V g r (pushS s p) s → Calls Try.prog 20 #[.pointer (some ⟨g, 0, none⟩)] V fun e w' => e = .returned (.tuple #[p.v, .int .i64 0]) ∧ Two W1.heap.size w' g r ⟨s.f, s.l, s.k + 1⟩ s ∧ KG g r V w') := fun V t => by
      have h := q_pop t
      rw [(popP_push s p).1, (popP_push s p).2, pop_push] at h
      exact h
    have HS : Hid (∀ V, Two W1.heap.size V g r ⟨s.f, s.l, s.k + 1⟩ s → Calls Try.prog 13 #[.pointer (some ⟨g, 0, none⟩), .pointer (some ⟨r, 0, none⟩)] V fun e w' => e = .returned (.bool true) ∧ Below V.heap.size V w') := fun V t =>
      same_ks _ g r 31 ⟨s.f, s.l, s.k + 1⟩ s.k _ hO3 (HO.out.more (by omega)) (by omega) t
    have HBk : Hid (∀ V w d, Pat.BlkIs w d 71 (Pat.bytesV (allB (pushS s p))) → V.heap.size ≤ d → Below V.heap.size V w → Pat.BlkIs (w.setRow d (splice (Pat.bytesV (allB (pushS s p))) p.o.toNat (Pat.bytesV (Pat.sb (undoP (allB s) p).s))).toArray) d 71 (Pat.bytesV (allB s)) ∧ Below V.heap.size V (w.setRow d (splice (Pat.bytesV (allB (pushS s p))) p.o.toNat (Pat.bytesV (Pat.sb (undoP (allB s) p).s))).toArray)) := fun V w d h1 h2 h3 => back_in HO.out Hsf.out.1 Hsf.out.2 hr h1 h2 h3
    have hus : (undoP (allB s) p).s.size = p.s.size := undo_size (withL_all Hsf.out.2) Hlen.out.symm hr
    have hF2 : (Pat.bytesV (allB (pushS s p))).length = 32 := by
      rw [Pat.length_bytesV, push_all]; exact Pat.length_put hr Hlen.out.symm
    have hBa : Hid (AllB (allB s)) := withL_all Hsf.out.2
    have HN2 : Hid (∀ V V', Two W1.heap.size V g r (pushS s p) s ∧ Below W1.heap.size W1 V → Below V.heap.size V V' → Two W1.heap.size V' g r (pushS s p) s ∧ Below W1.heap.size W1 V') := fun V V' h k => ⟨h.1.fresh k, h.2.trans (k.mono h.1.lo)⟩
    have HBt : Hid (∀ V w d, Two W1.heap.size V g r (pushS s p) s → V.heap.size ≤ d → Pat.BlkIs w d 71 (Pat.bytesV (allB s)) → BtB w g r d (allB s)) := fun V w d t h1 h2 => GivesB.btb t h1 (bts_blk h2 hBa.out Hlen.out.symm) Hlen.out.symm
    obtain ⟨h0, h1, h2, h3, h4, h5⟩ := Pat.Pt.right_out hr
    have HZ : Hid (∀ V, Two W1.heap.size V g r ⟨s.f, s.l, s.k + 1⟩ s → Two W1.heap.size (V.alloc (.cells #[.int .i64 p.b, .int .i64 p.o, .string p.s] 38)) g r ⟨s.f, s.l, s.k + 1⟩ s ∧ Pat.Boxed (V.alloc (.cells #[.int .i64 p.b, .int .i64 p.o, .string p.s] 38)) V.heap.size p) := fun V t => ⟨t.fresh (Pat.below_alloc1 V _), Pat.boxed1 V p⟩
    clear hO2 hO3 hBa HN
    obtain ⟨pb, po, ps⟩ := p
    obtain ⟨n, rfl⟩ := Int.eq_ofNat_of_zero_le h2
    generalize hU : (undoP (allB s) ⟨pb, n, ps⟩).s = U at *
    generalize hG : allB (pushS s ⟨pb, n, ps⟩) = F2 at *
    generalize pushS s ⟨pb, n, ps⟩ = s2 at *
    generalize (⟨s.f, s.l, s.k + 1⟩ : Sk) = s3 at *
    generalize s.k = k at *
    unfold Pat.Pt.v at HPu HPo
    simp only at HPu HPo HX h0 h1 h3 h4 h5 hus HZ
    simp only [Int.toNat_natCast] at HBk
    have hn32 : (n : Int) ≤ 32 := by omega
    have hf1 : U.size ≤ 32 - n := by omega
    have hf2 : n + U.size ≤ (Pat.bytesV F2).length := by omega
    have Hf1 := Lib.hid hf1
    have Hf2 := Lib.hid hf2
    have HF2 := Lib.hid hF2
    have h32n : (32 = n) = False := by simp; omega
    clear hf1 hf2 hF2 hU hG h0 h1 h2 h3 h4 h5
    go_wp2_with (first
      | (go_at_call 12; refine (live_any _).mono ?_; rintro e w2 ⟨rfl, hb2⟩; have H2 := Lib.hid (show Two W1.heap.size w2 g r s s ∧ Below W1.heap.size W1 w2 from ⟨H1.out.1.fresh hb2, H1.out.2.trans (hb2.mono H1.out.1.lo)⟩); clear hb2)
      | (go_at_call 17; (with_reducible refine (HBy.out _ H2.out.1).mono ?_); rintro e w3 ⟨d3, c3, rfl, t3, hb3⟩; have H3 := Lib.hid (show Two W1.heap.size w3 g r s s ∧ Below W1.heap.size W1 w3 from ⟨H2.out.1.fresh hb3, H2.out.2.trans (hb3.mono H2.out.1.lo)⟩); have T3 := Lib.hid t3; have x3 := HX.out w3 H3.out.2; clear hb3 t3)
      | (go_at_call 18; (with_reducible refine (HPu.out _ H3.out.1).mono ?_); rintro e w4 ⟨rfl, t4, k4⟩; have T4 := Lib.hid (T3.out.kg k4); have H4 := Lib.hid (And.intro t4 (H3.out.2.trans (H3.out.1.below k4))); clear t4 k4)
      | (go_at_call 19; (with_reducible refine (HUn.out _ H4.out.1).mono ?_); rintro e w5 ⟨rfl, b5⟩; have T5 := Lib.hid (T4.out.kg (KG.fresh b5)); have H5 := Lib.hid (HN2.out _ _ H4.out b5); clear b5)
      | (go_at_call 17; (with_reducible refine (HB2.out _ H5.out.1).mono ?_); rintro e w6 ⟨d6, rfl, f6, l6, b6⟩; have F6 := Lib.hid f6; have L6 := Lib.hid l6; have B6 := Lib.hid b6; have x6 := HX.out w6 (HN2.out _ _ H5.out b6).2; have hcp := run_copy_text2 w6 22 9 3 5 d6 n (32 - n) (32 - n) U (Pat.bytesV F2) 71 Try.underlying22 Pat.size5 f6 Hf1.out Hf2.out; have X7 := Lib.hid (HBk.out w5 w6 d6 F6.out L6.out B6.out); generalize (w6.setRow d6 (splice (Pat.bytesV F2) n (Pat.bytesV (Pat.sb U))).toArray) = w7 at *; have T7 := Lib.hid (HBt.out w5 w7 d6 H5.out.1 L6.out X7.out.1); have S7 := Lib.hid (T5.out.kg (KG.fresh X7.out.2)); have H7 := Lib.hid (HN2.out _ _ H5.out X7.out.2); clear X7 f6 l6 b6)
      | (go_at_call 20; (with_reducible refine (HPo.out _ H7.out.1).mono ?_); clear hcp; rintro e w8 ⟨rfl, t8, k8⟩; have hz := HZ.out w8 t8; have hz8 := Pat.below_alloc1 w8 (.cells #[.int .i64 pb, .int .i64 n, .string ps] 38); have kk := KG.trans k8 (KG.fresh hz8); have H8 := Lib.hid hz.1; have hbb := H7.out.2.trans (H7.out.1.below kk); have B8 := Lib.hid hbb; have q8 := hz.2.cells; have x8 := HX.out _ hbb; have y8 := TX.out _ _ _ 32 Hlen.out (T7.out.kg kk).b; have z8 := TX.out _ _ _ c3 Hlen.out (S7.out.kg kk).b; clear hz hz8 kk hbb t8 k8)
      | (go_at_call 13; (with_reducible refine (HS.out _ H8.out).mono ?_); rintro e w9 ⟨rfl, b9⟩; have B9 := Lib.hid (B8.out.trans (b9.mono H8.out.lo)); clear b9))
    go_ret
    exact ⟨by simp, HE.out _ B9.out⟩
end Go.Proofs.Ytibkipdadpidnaa
