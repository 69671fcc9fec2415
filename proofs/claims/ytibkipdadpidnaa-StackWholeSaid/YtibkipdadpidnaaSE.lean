/- Both stacks tell the same. -/
import Derived.Test.YtibkipdadpidnaaSD
set_option linter.unusedVariables false
set_option linter.unusedSimpArgs false
namespace Go.Proofs.Ytibkipdadpidnaa
open Go.RowKit
open Pat (Pt AllB undoP nth)
theorem own_emptyI (w : World) : (w.alloc (.cells #[] 3)).ownsRow w.heap.size 3 1 (.slice (some ⟨w.heap.size, 0, none⟩) 0 0) 0 [] := World.ownsRow_made w #[] 0 (Nat.le_refl _) (by simp) (by simp)
theorem Ints.src {w : World} {B : Nat} {A : Option Addr} {l : List Int} (h : Ints w B A l) : ∀ ad, A = some ad → ∀ j u, (intsV l)[j]? = some u → w.cell? (ad.add j) = some u := fun ad e j u hu => by
  have hj : j < l.length := by
    rcases Nat.lt_or_ge j l.length with h1 | h1
    · exact h1
    · rw [List.getElem?_eq_none (by rw [length_intsV]; exact h1)] at hu; cases hu
  rw [intsV_at hj] at hu
  obtain ⟨b, off, e2, _, hc⟩ := h.at_ hj
  subst e
  cases e2
  rw [← hu, ← hc]
  congr 1
  unfold Addr.add
  split
  · rename_i e; rw [e]; rfl
  · rfl
theorem Ints.nil_of {w : World} {B : Nat} {A : Option Addr} {l : List Int} (h : Ints w B A l) (e : A = none) : l.length = 0 := by
  rcases Nat.eq_zero_or_pos l.length with h0 | h0
  · exact h0
  · obtain ⟨b, off, e2, _⟩ := h h0
    rw [e] at e2; cases e2
theorem RowI.intsF {w w' : World} {B : Nat} {A : Option Addr} {c : Nat} {l : List Int} (h : RowI w B A c l) (hb : Below w.heap.size w w') : Ints w' w'.heap.size A l := h.ints.next hb
set_option maxRecDepth 100000 in
set_option maxHeartbeats 4000000 in
theorem same_ks (B g r c : Nat) (s : Sk) (k2 : Int) (w : World) (hO : Ok c s) (hO2 : Ok c ⟨s.f, s.l, k2⟩) (hc : c ≤ 110) (t : Two B w g r s ⟨s.f, s.l, k2⟩) :
    Calls Try.prog 13 #[.pointer (some ⟨g, 0, none⟩), .pointer (some ⟨r, 0, none⟩)] w fun e w' => e = .returned (.bool true) ∧ Below w.heap.size w w' := by
  have HSm : Hid (∀ (W : World) (l : List Int) A3 A4 c3 c4, l.length ≤ 1000 → Ints W W.heap.size A3 l → Ints W W.heap.size A4 l → Calls Try.prog 37 #[.slice A3 l.length c3, .slice A4 l.length c4] W fun e w' => e = .returned (.bool true) ∧ Below W.heap.size W w') := fun W l A3 A4 c3 c4 hl h1 h2 => same_ints A3 A4 c3 c4 l W hl h1 h2
  have HT : Hid (∀ W, Below w.heap.size w W → Two B W g r s ⟨s.f, s.l, k2⟩) := fun W hW => t.fresh hW
  have HO := Lib.hid hO
  have HO2 := Lib.hid hO2
  have hn : (nums s.l).length ≤ 190 := by rw [length_nums]; have := hO.len; omega
  have HW : Hid (∀ W, Below w.heap.size w W → Calls Try.prog 34 #[.pointer (some ⟨r, 0, none⟩)] W (GivesI W (nums s.l))) := fun W hW => by have h := d_waiting (HT.out W hW) HO2.out (by omega); exact h
  obtain ⟨i0, hi0, hz0, hz1, hz2⟩ := info_parts infoI
  have HE0 : Hid (Below w.heap.size w (w.alloc (.cells #[] 3)) ∧ (w.alloc (.cells #[] 3)).ownsRow w.heap.size 3 1 (.slice (some ⟨w.heap.size, 0, none⟩) 0 0) 0 []) := ⟨Pat.below_alloc1 w _, own_emptyI w⟩
  clear t hO hO2
  generalize hns : nums s.l = ns at *
  have HNs := Lib.hid hns
  clear hns
  go_enter Try.func13, Try.ntmps13
  go_wp2_with (first
    | (go_at_call 34; (with_reducible refine (HW.out _ HE0.out.1).mono ?_); rintro e w2 ⟨A2, c2, rfl, r2, b2⟩; have R2 := Lib.hid r2.ints; have O2 := Lib.hid ((Kept.fresh (S := fun _ => False) b2).row HE0.out.2 (fun _ _ q => q)); have B2 := Lib.hid (HE0.out.1.trans (b2.mono HE0.out.1.size)); have hs2 := B2.out.size; clear r2 b2)
    | (at_builtin; refine wpList_append_src rfl (.tmp 15) (.tmp 17) 31 rfl w.heap.size 3 i0 (.int .i64 0) 1 8 Try.underlying31 hi0 hz0 hz1 hz2 rfl (by decide) (.slice (some ⟨w.heap.size, 0, none⟩) 0 0) 0 [] rfl O2.out A2 ns.length c2 (intsV ns) rfl (by rw [length_intsV, Nat.mul_one]) R2.out.src R2.out.nil_of (intsV_one ns) (by unfold maxLen; omega) (by omega) hs2 ns.length (Nat.zero_add _) ?_; intro A3 c3 w3 ho3 hg3 hor3; have O3 := Lib.hid ho3; have B3 := Lib.hid (B2.out.grown hg3 hs2 (fun j e => by cases e; exact Nat.le_refl _)); have hs3 := B3.out.size; clear ho3 hor3 hg3)
    | (at_builtin; refine wpList_append_src rfl (.tmp 18) (.tmp 19) 31 rfl w.heap.size 3 i0 (.int .i64 0) 1 8 Try.underlying31 hi0 hz0 hz1 hz2 rfl (by decide) (.slice A3 ns.length c3) ns.length (intsV ns) rfl (World.ownsRow.alloc O3.out (.cells #[.int .i64 (-1), .int .i64 1048576] 3)) (some ⟨w3.heap.size, 0, none⟩) 2 2 [.int .i64 (-1), .int .i64 1048576] rfl rfl (fun ad e j u hu => by cases e; exact World.news_of_block (heap_alloc_new w3 (.cells #[.int .i64 (-1), .int .i64 1048576] 3)) j u hu) (by intro h; cases h) (by intro u hu; simp at hu; rcases hu with rfl | rfl <;> rfl) (by unfold maxLen; omega) (by omega) (by simp; omega) (ns.length + 2) rfl ?_; intro A5 c5 w5 ho5 hg5 hor5; have O5 := Lib.hid ho5; have B5 := Lib.hid ((B3.out.alloc hs3 (.cells #[.int .i64 (-1), .int .i64 1048576] 3)).grown hg5 (by simp; omega) (fun j e => (World.ownsRow.lt O3.out j e).1)); clear ho5 hor5 hg5))
  have HI : Hid (RowI w5 w.heap.size A5 c5 (ns ++ [-1, 1048576])) := by
    unfold Hid RowI
    rw [List.length_append, intsV_append]
    exact O5.out
  have hl5 : (ns ++ [-1, 1048576]).length = ns.length + 2 := by rw [List.length_append]; rfl
  rw [← hl5]
  have hlt5 : (ns ++ [-1, 1048576]).length ≤ 200 := by omega
  clear O2 O3 O5 R2 B2 B3 hs2 hs3 HW HE0 hl5
  generalize ns ++ [-1, 1048576] = l5 at *
  go_loopw [6] (fun i wr => ∃ k : Nat, k ≤ l5.length ∧ i = .int .i64 k ∧ Hid (Below w.heap.size w wr) ∧ Hid (Ints wr wr.heap.size A5 l5)) (fun i _ => l5.length - (intOf i).toNat)
  case atStart => exact ⟨0, Nat.zero_le _, rfl, B5.out, HI.out.ints⟩
  case round =>
    obtain ⟨k, hk, rfl, hB, hI⟩ := hrel
    rename World => wr
    have hk0 : (0 : Int) ≤ (k : Int) := by omega
    by_cases hlt : k < l5.length
    · have hki : (k : Int) < (l5.length : Int) := by omega
      obtain ⟨b1, o1, rfl, l1, c1⟩ := hI.out.at_ hlt
      have HK : Hid (∀ V, Below wr.heap.size wr V → Below w.heap.size w V ∧ V.cell? ⟨b1, o1 + k, none⟩ = some (.int .i64 (inn l5 k)) ∧ Ints V V.heap.size (some ⟨b1, o1, none⟩) l5 ∧ b1 < V.heap.size) := fun V h => ⟨Below.trans hB.out (Below.mono h hB.out.size), (h.cell (p := ⟨b1, o1 + k, none⟩) l1).trans c1, hI.out.next h, Nat.lt_of_lt_of_le l1 h.size⟩
      have HU1 : Hid (∀ V, Below wr.heap.size wr V → Calls Try.prog 19 #[.pointer (some ⟨g, 0, none⟩), .int .i64 (inn l5 k)] V fun e w' => e = .returned (.tuple #[.string (undT s (inn l5 k)), .int .i64 (undE s (inn l5 k))]) ∧ Below V.heap.size V w') := fun V h => q_under (HT.out V (HK.out V h).1) HO.out (by omega) _
      have HU2 : Hid (∀ V, Below wr.heap.size wr V → Calls Try.prog 35 #[.pointer (some ⟨r, 0, none⟩), .int .i64 (inn l5 k)] V fun e w' => e = .returned (.tuple #[.string (undT s (inn l5 k)), .int .i64 (undE s (inn l5 k))]) ∧ Below V.heap.size V w') := fun V h => by have h := d_under (HT.out V (HK.out V h).1) HO2.out (by omega) (inn l5 k); exact h
      have HG1 : Hid (∀ V, Below wr.heap.size wr V → Calls Try.prog 26 #[.pointer (some ⟨g, 0, none⟩), .int .i64 (inn l5 k)] V fun e w' => e = .returned (.tuple #[(patP s.l (inn l5 k)).v, .bool (isOn s.l (inn l5 k))]) ∧ Below V.heap.size V w') := fun V h => q_get (HT.out V (HK.out V h).1) HO.out _
      have HG2 : Hid (∀ V, Below wr.heap.size wr V → Calls Try.prog 36 #[.pointer (some ⟨r, 0, none⟩), .int .i64 (inn l5 k)] V fun e w' => e = .returned (.tuple #[(patP s.l (inn l5 k)).v, .bool (isOn s.l (inn l5 k))]) ∧ Below V.heap.size V w') := fun V h => by have h := d_get (HT.out V (HK.out V h).1) HO2.out (by omega) (inn l5 k); exact h
      have HN1 : Hid (∀ V, Below wr.heap.size wr V → Calls Try.prog 25 #[.pointer (some ⟨g, 0, none⟩), .int .i64 (inn l5 k)] V (GivesI V (needsL s.l (inn l5 k)))) := fun V h => q_needs (HT.out V (HK.out V h).1) HO.out (by omega) _
      have HN2 : Hid (∀ V, Below wr.heap.size wr V → Calls Try.prog 38 #[.pointer (some ⟨r, 0, none⟩), .int .i64 (inn l5 k)] V (GivesI V (needsL s.l (inn l5 k)))) := fun V h => by have h := d_needs (HT.out V (HK.out V h).1) HO2.out (by omega) (inn l5 k); exact h
      have hnl : (needsL s.l (inn l5 k)).length ≤ 1000 := by
        have := HO.out.len
        have h2 : (needsL s.l (inn l5 k)).length ≤ s.l.length := by
          unfold needsL
          split
          · rw [length_nums]; exact List.length_filter_le _ _
          · exact Nat.zero_le _
        omega
      have HS1 := Lib.hid (fun W A3 A4 c3 c4 => HSm.out W (needsL s.l (inn l5 k)) A3 A4 c3 c4 hnl)
      have HX : Hid (∀ (V : World) (p : Pt), Below wr.heap.size wr V → Below wr.heap.size wr (V.alloc (.cells #[.int .i64 p.b, .int .i64 p.o, .string p.s] 38)) ∧ Pat.Boxed (V.alloc (.cells #[.int .i64 p.b, .int .i64 p.o, .string p.s] 38)) V.heap.size p) := fun V p h => ⟨h.alloc h.size _, Pat.boxed1 V p⟩
      clear hnl hB hI
      generalize undT s (inn l5 k) = ut at *
      generalize undE s (inn l5 k) = ue at *
      generalize isOn s.l (inn l5 k) = io at *
      generalize needsL s.l (inn l5 k) = nl at *
      generalize patP s.l (inn l5 k) = pp at *
      generalize inn l5 k = x at *
      obtain ⟨pb, po, ps⟩ := pp
      unfold Pat.Pt.v at HG1 HG2
      simp only at HG1 HG2
      go_wp2_with (first
        | (go_at_call 19; (with_reducible refine (HU1.out _ (Below.refl _ _)).mono ?_); rintro e w6 ⟨rfl, b6⟩; have B6 := Lib.hid b6; obtain ⟨_, x6, _, l6⟩ := HK.out w6 B6.out; clear b6)
        | (go_at_call 35; (with_reducible refine (HU2.out _ B6.out).mono ?_); rintro e w7 ⟨rfl, b7⟩; have B7 := Lib.hid (Below.trans B6.out (Below.mono b7 B6.out.size)); obtain ⟨_, x7, _, l7⟩ := HK.out w7 B7.out; clear b7)
        | (go_at_call 26; (with_reducible refine (HG1.out _ B7.out).mono ?_); rintro e w8 ⟨rfl, b8⟩; have B8 := Lib.hid (Below.trans B7.out (Below.mono b8 B7.out.size)); have Z8 := Lib.hid (HX.out w8 ⟨pb, po, ps⟩ B8.out); obtain ⟨_, x8, _, l8⟩ := HK.out w8 B8.out; clear b8)
        | (go_at_call 36; (with_reducible refine (HG2.out _ Z8.out.1).mono ?_); rintro e w9 ⟨rfl, b9⟩; have B9 := Lib.hid (Below.trans Z8.out.1 (Below.mono b9 Z8.out.1.size)); have Z9 := Lib.hid (HX.out w9 ⟨pb, po, ps⟩ B9.out); have Y9 := Lib.hid (Z8.out.2.below b9 (Pat.BlkIs.lt Z8.out.2)); clear b9))
      have P1 := Lib.hid (Y9.out.below (Pat.below_alloc1 w9 (.cells #[.int .i64 pb, .int .i64 po, .string ps] 38)) (Pat.BlkIs.lt Y9.out))
      have P2 := Lib.hid Z9.out.2
      have PB := Lib.hid Z9.out.1
      clear Z8 Z9 Y9 B6 B7 B8 B9 x6 x7 x8 l6 l7 l8 HU1 HU2 HG1 HG2 HX
      generalize w9.alloc (.cells #[.int .i64 pb, .int .i64 po, .string ps] 38) = w10 at *
      generalize w8.heap.size = d1 at *
      generalize w9.heap.size = d2 at *
      have HNx : Hid (∀ V, Below w10.heap.size w10 V → (V.cell? ⟨d1, 0, none⟩ = some (.int .i64 pb) ∧ V.cell? ⟨d1, 1, none⟩ = some (.int .i64 po) ∧ V.cell? ⟨d1, 2, none⟩ = some (.string ps) ∧ V.cell? ⟨d2, 0, none⟩ = some (.int .i64 pb) ∧ V.cell? ⟨d2, 1, none⟩ = some (.int .i64 po) ∧ V.cell? ⟨d2, 2, none⟩ = some (.string ps) ∧ V.cell? ⟨b1, o1 + k, none⟩ = some (.int .i64 x)) ∧ Below wr.heap.size wr V) := fun V h => by
        have q1 := (P1.out.below h (Pat.BlkIs.lt P1.out)).cells
        have q2 := (P2.out.below h (Pat.BlkIs.lt P2.out)).cells
        have q3 := Below.trans PB.out (Below.mono h PB.out.size)
        exact ⟨⟨q1.1, q1.2.1, q1.2.2, q2.1, q2.2.1, q2.2.2, (HK.out V q3).2.1⟩, q3⟩
      have hb1 := (HK.out w10 PB.out).2.2.2
      have X0 := Lib.hid (HNx.out w10.drew (Below.refl _ _).drew).1
      have X1 := Lib.hid (HNx.out w10 (Below.refl _ _)).1
      have BD := Lib.hid (show Below w10.heap.size w10 w10.drew from (Below.refl _ _).drew)
      have HM1 := Lib.hid (HN1.out w10.drew (HNx.out _ BD.out).2)
      have HM2 : Hid (∀ V, Below w10.heap.size w10 V → Calls Try.prog 38 #[.pointer (some ⟨r, 0, none⟩), .int .i64 x] V (GivesI V nl)) := fun V h => HN2.out V (HNx.out V h).2
      have hnot : ∀ (x : Bool) (w : World), (Op.unary .not (.bool x)).run Try.prog w = .ok (.bool (!x)) w := fun _ _ => rfl
      go_wp2_with fail
      go_region_held3 (fun V => V.cell? ⟨d1, 0, none⟩ = some (.int .i64 pb) ∧ V.cell? ⟨d1, 1, none⟩ = some (.int .i64 po) ∧ V.cell? ⟨d1, 2, none⟩ = some (.string ps) ∧ V.cell? ⟨d2, 0, none⟩ = some (.int .i64 pb) ∧ V.cell? ⟨d2, 1, none⟩ = some (.int .i64 po) ∧ V.cell? ⟨d2, 2, none⟩ = some (.string ps) ∧ V.cell? ⟨b1, o1 + k, none⟩ = some (.int .i64 x)) (first | exact X0.out | exact X1.out | exact X3.out | exact X4.out | exact X5.out)
        (first
          | (go_at_call 25; (with_reducible refine HM1.out.mono ?_); rintro e w3 ⟨A3, c3, rfl, r3, b3⟩; have B3 := Lib.hid (Below.trans BD.out (Below.mono b3 BD.out.size)); have I3 := Lib.hid r3.ints; have X3 := Lib.hid (HNx.out w3 B3.out).1; clear r3 b3)
          | (go_at_call 38; (with_reducible refine (HM2.out w3 B3.out).mono ?_); rintro e w4 ⟨A4, c4, rfl, r4, b4⟩; have B4 := Lib.hid (Below.trans B3.out (Below.mono b4 B3.out.size)); have I34 := Lib.hid (I3.out.next b4); have I4 := Lib.hid r4.ints; have X4 := Lib.hid (HNx.out w4 B4.out).1; clear r4 b4)
          | (go_at_call 37; (with_reducible refine (HS1.out w4 A3 A4 c3 c4 I34.out I4.out).mono ?_); rintro e w5 ⟨rfl, b5⟩; have B5 := Lib.hid (Below.trans B4.out (Below.mono b5 B4.out.size)); have X5 := Lib.hid (HNx.out w5 B5.out).1; clear b5)
          | fail)
      have HE5 := Lib.hid (HK.out w5 (HNx.out w5 B5.out).2)
      clear X0 X1 X3 X4 X5 HM1 HM2 HNx P1 P2 PB B3 B4 I3 I34 I4
      go_wp2
      go_roundw
      case rel => exact ⟨k + 1, by omega, by go_num, HE5.out.1, HE5.out.2.2.1⟩
      case measure => simp [intOf]; omega
    · obtain rfl : k = l5.length := by omega
      have hki : ¬ (l5.length : Int) < (l5.length : Int) := by omega
      have HTr := Lib.hid (HT.out wr hB.out)
      have Hl1 : Hid (32 = (allB s).length) := (withL_len HO.out.r HTr.out.len).symm
      have Hl2 : Hid (32 = s.f.length) := HTr.out.len.symm
      have BD : Hid (Below wr.heap.size wr wr.drew) := (Below.refl _ _).drew
      have HB1 := Lib.hid (q_bytes (HTr.out.fresh BD.out) HO.out (by omega))
      have HB2 : Hid (∀ V, Below wr.heap.size wr V → Calls Try.prog 39 #[.pointer (some ⟨r, 0, none⟩)] V (GivesB V (allB s))) := fun V h => by have h := d_bytes (HTr.out.fresh h) HO2.out (by omega) Hl2.out.symm; exact h
      have HA1 : Hid (∀ V, Below wr.heap.size wr V → Calls Try.prog 22 #[.pointer (some ⟨g, 0, none⟩)] V (GivesB V s.f)) := fun V h => q_base (HTr.out.fresh h)
      have HA2 : Hid (∀ V, Below wr.heap.size wr V → Calls Try.prog 40 #[.pointer (some ⟨r, 0, none⟩)] V (GivesB V s.f)) := fun V h => by have h := d_base (HTr.out.fresh h) HO2.out (by omega) Hl2.out.symm; exact h
      have HV1 : Hid (∀ V, Below wr.heap.size wr V → Calls Try.prog 21 #[.pointer (some ⟨g, 0, none⟩)] V (GivesI V ns)) := fun V h => by rw [← HNs.out]; exact q_waiting (HTr.out.fresh h) HO.out (by omega)
      have HV2 : Hid (∀ V, Below wr.heap.size wr V → Calls Try.prog 34 #[.pointer (some ⟨r, 0, none⟩)] V (GivesI V ns)) := fun V h => by rw [← HNs.out]; have h := d_waiting (HTr.out.fresh h) HO2.out (by omega); exact h
      have HS1 := Lib.hid (fun W A3 A4 c3 c4 => HSm.out W ns A3 A4 c3 c4 (by omega))
      have HBw := Lib.hid hB.out
      clear hI HTr hB HSm
      generalize allB s = f1 at *
      generalize s.f = f2 at *
      have TX : Hid (∀ (W : World) (A : Option Addr) (l : List Int) c, 32 = l.length → Pat.Bts W W.heap.size A l → (convert 22 9 (.slice A 32 c)).run Try.prog W = .ok (.string (strOfNums l)) W) := fun W A l c h1 h2 => h2.text c 32 h1
      go_wp2_with fail
      go_region_law (go_simp; first
          | (go_at_call 17; (with_reducible refine HB1.out.mono ?_); rintro e w1 ⟨d1, c1, rfl, _, t1, _, b1⟩; have B1 := Lib.hid (Below.trans BD.out (Below.mono b1 BD.out.size)); have y1 := TX.out w1 _ _ c1 Hl1.out t1; have T1 := Lib.hid t1; clear t1 b1)
          | (go_at_call 39; (with_reducible refine (HB2.out w1 B1.out).mono ?_); rintro e w2 ⟨d2, c2, rfl, _, t2, _, b2⟩; have B2 := Lib.hid (Below.trans B1.out (Below.mono b2 B1.out.size)); have y2 := TX.out w2 _ _ c2 Hl1.out t2; have y3 := TX.out w2 _ _ c1 Hl1.out ((T1.out.below b2).more b2.size); clear t2 b2)
          | (go_at_call 22; (with_reducible refine (HA1.out w2 B2.out).mono ?_); rintro e w3 ⟨d3, c3, rfl, _, t3, _, b3⟩; have B3 := Lib.hid (Below.trans B2.out (Below.mono b3 B2.out.size)); have y4 := TX.out w3 _ _ c3 Hl2.out t3; have T3 := Lib.hid t3; clear t3 b3)
          | (go_at_call 40; (with_reducible refine (HA2.out w3 B3.out).mono ?_); rintro e w4 ⟨d4, c4, rfl, _, t4, _, b4⟩; have B4 := Lib.hid (Below.trans B3.out (Below.mono b4 B3.out.size)); have y5 := TX.out w4 _ _ c4 Hl2.out t4; have y6 := TX.out w4 _ _ c3 Hl2.out ((T3.out.below b4).more b4.size); clear t4 b4)
          | (go_at_call 21; (with_reducible refine (HV1.out w4 B4.out).mono ?_); rintro e w5 ⟨A5, c5, rfl, r5, b5⟩; have B5 := Lib.hid (Below.trans B4.out (Below.mono b5 B4.out.size)); have I5 := Lib.hid r5.ints; clear r5 b5)
          | (go_at_call 34; (with_reducible refine (HV2.out w5 B5.out).mono ?_); rintro e w6 ⟨A6, c6, rfl, r6, b6⟩; have B6 := Lib.hid (Below.trans B5.out (Below.mono b6 B5.out.size)); have I56 := Lib.hid (I5.out.next b6); have I6 := Lib.hid r6.ints; clear r6 b6)
          | (go_at_call 37; (with_reducible refine (HS1.out w6 A5 A6 c5 c6 I56.out I6.out).mono ?_); rintro e w7 ⟨rfl, b7⟩; have B7 := Lib.hid (Below.trans B6.out (Below.mono b7 B6.out.size)); clear b7)
          | fail)
      all_goals
        go_wp2
        go_ret
        exact ⟨rfl, Below.trans HBw.out (Below.mono B7.out HBw.out.size)⟩
theorem same_any (B g r c : Nat) (s : Sk) (w : World) (hO : Ok c s) (hc : c ≤ 110) (t : Two B w g r s s) :
    Calls Try.prog 13 #[.pointer (some ⟨g, 0, none⟩), .pointer (some ⟨r, 0, none⟩)] w fun e w' => e = .returned (.bool true) ∧ Below w.heap.size w w' :=
  same_ks B g r c s s.k w hO hO hc t
end Go.Proofs.Ytibkipdadpidnaa
