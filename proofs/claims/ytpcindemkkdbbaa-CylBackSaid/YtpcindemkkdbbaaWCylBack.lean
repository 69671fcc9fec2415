/- CylBack: the walk. -/
import Derived.Test.YtpcindemkkdbbaaEB
import Derived.Test.YtpcindemkkdbbaaCG
import Derived.Test.YtpcindemkkdbbaaON
import Derived.Test.YtpcindemkkdbbaaCD
import Derived.Deep.RegionHeld3
import Derived.BigRegion
namespace Go.Proofs.Ytpcindemkkdbbaa.cylBack
set_option linter.unusedVariables false
set_option linter.unusedSimpArgs false
open Go.RowKit

def boxV (x : Cy) (A : Option Addr) (c : Nat) (B : Option Addr) (d : Nat) : Array Value := #[.int .i64 x.ix, .int .i64 x.bl, .int .i64 x.fb, .int .i64 x.fi, .int .i64 x.ro, .slice A x.us.length c, .slice B x.is.length d]
theorem boxV_v (x : Cy) (A : Option Addr) (c : Nat) (B : Option Addr) (d : Nat) : x.v A c B d = .agg (boxV x A c B d) := rfl
theorem boxV_size (x : Cy) (A : Option Addr) (c : Nat) (B : Option Addr) (d : Nat) : (Try.prog.info? 24).map (·.size) = some (boxV x A c B d).size := by kernel_rfl
theorem boxV_one (x : Cy) (A : Option Addr) (c : Nat) (B : Option Addr) (d : Nat) : (boxV x A c B d).all (·.oneCell') = true := by simp [boxV, Value.oneCell']
theorem setRow_kept (W : World) (g : Nat) (cs : Array Value) : Kept W (W.setRow g cs) (fun k => k = g) := ⟨rfl, rfl, rfl, by simp [World.setRow], fun k _ hn => setRow_other W g k cs hn⟩
theorem two {W : World} {g : Nat} {t : TypeId} {x0 x1 : Value} (h : W.heap[g]? = some (.cells #[x0, x1] t (0, 0))) : W.cell? ⟨g, 0, none⟩ = some x0 ∧ W.cell? ⟨g, 1, none⟩ = some x1 := by
  have h0 := cellAt_of h 0
  have h1 := cellAt_of h 1
  exact ⟨h0, h1⟩

theorem empty5 (w : World) (z : Nat) : (w.alloc (.cells #[] 5)).ownsRow w.heap.size 5 z (.slice (some ⟨w.heap.size, 0, none⟩) 0 0) 0 [] := by
  refine ⟨by simp, .inr ⟨w.heap.size, 0, #[], rfl, Nat.le_refl _, Go.heap_alloc_new w _, Nat.le_refl _, Nat.zero_le _, by simp, by simp⟩⟩
theorem allB_bytes {y : Cy} (hy : RightC y) : Bs.AllB (bytesL y) := by
  intro x hx
  unfold bytesL at hx
  rcases List.mem_append.1 hx with h | h
  · exact allB_front hy x h
  · rw [List.mem_singleton] at h
    rw [h]; exact sumTo_in _ _
theorem row_bts {w : World} {g : Nat} {t : TypeId} {y : Cy} (hy : RightC y) (h : w.heap[g]? = some (.cells (Bs.bytesV (bytesL y)).toArray t (0, 0))) : Bts w w.heap.size (some ⟨g, 0, none⟩) (bytesL y) :=
  ⟨allB_bytes hy, fun _ => ⟨g, 0, rfl, lt_heap h, fun j hj => by rw [Nat.zero_add]; exact row_cell h hj⟩⟩
theorem text_row {w : World} {g c : Nat} {t : TypeId} {l : List Int} {n : Nat} (h : w.heap[g]? = some (.cells (Bs.bytesV l).toArray t (0, 0))) (hn : l.length = n) : (convert 25 9 (.slice (some ⟨g, 0, none⟩) n c)).run Try.prog w = .ok (.string (strOfNums l)) w := by
  subst hn
  refine run_convert_bytes_arg w 25 5 Try.underlying25 Try.underlying5 g 0 l.length c l rfl (fun i hi => ?_) 9 Try.underlying9
  rw [Nat.zero_add]; exact row_cell h hi
theorem bts_text {w : World} {B : Nat} {A : Option Addr} {l : List Int} (hb : Bts w B A l) {n : Nat} (c : Nat) (hn : l.length = n) (h0 : 0 < n) : (convert 25 9 (.slice A n c)).run Try.prog w = .ok (.string (strOfNums l)) w := by
  subst hn
  obtain ⟨b, o, e, _, hc⟩ := hb.2 h0
  subst e
  exact run_convert_bytes_arg w 25 5 Try.underlying25 Try.underlying5 b o l.length c l rfl (fun i hi => hc i hi) 9 Try.underlying9
set_option maxRecDepth 100000 in
set_option maxHeartbeats 4000000 in
theorem walk (x : Cy) (A : Option Addr) (c : Nat) (A2 : Option Addr) (d : Nat) (B : Option Addr) (n k : Nat) (l : List Int) (t0 t1 : Int) (w : World) (hx : CyIn w x A c A2 d) (hl : BtsIn w B n k l) (h0 : 0 ≤ t0 ∧ t0 ≤ 255) (h1 : 0 ≤ t1 ∧ t1 ≤ 255) :
    Calls Try.prog 7 #[x.v A c A2 d, .slice B n k, .agg #[.int .u8 t0, .int .u8 t1]] w fun e w' => e = .returned (.bool true) ∧ Below w.heap.size w w' := by
  obtain ⟨hc, hd, hU, hI⟩ := hx
  obtain ⟨hn, ⟨hk, hm⟩, hB⟩ := hl
  have HO : Hid (∀ W, Below w.heap.size w W → Calls Try.prog 12 #[.agg (boxV x A c A2 d)] W (ForkSays W (capC x))) := fun W hW => one_any x A c A2 d W hc hd (hU.next hW) (hI.next hW)
  rw [boxV_v]
  have Hb1 : Hid ((Try.prog.info? 24).map (·.size) = some (boxV x A c A2 d).size) := boxV_size _ _ _ _ _
  have Hb2 : Hid (∀ P a Q b, (Try.prog.info? 24).map (·.size) = some (boxV (capC x) P a Q b).size) := fun _ _ _ _ => boxV_size _ _ _ _ _
  have Hb3 : Hid (∀ P a Q b, (boxV (capC x) P a Q b).all (·.oneCell') = true) := fun _ _ _ _ => boxV_one _ _ _ _ _
  have Hb4 : Hid (∀ P a Q b, (boxV x A c A2 d).size = (boxV (capC x) P a Q b).size) := fun _ _ _ _ => rfl
  have HZ : Hid (∀ W o p, W = (w.alloc o).alloc p → W.heap[w.heap.size]? = some o ∧ W.heap[w.heap.size + 1]? = some p ∧ Below w.heap.size w W) := fun W o p e => by
    subst e
    have h0 := Go.heap_alloc_new w o
    have h1 := Go.heap_alloc_new (w.alloc o) p
    rw [World.size_alloc] at h1
    exact ⟨(Go.heap_alloc_old _ p (show w.heap.size < (w.alloc o).heap.size by rw [World.size_alloc]; omega)).trans h0, h1, ((Below.refl _ w).alloc (Nat.le_refl _) _).alloc (by simp) p⟩
  have Hs := capC_small x
  generalize capC x = y at *
  generalize boxV x A c A2 d = bx at *
  clear hU hI hc hd
  go_enter Try.func7, Try.ntmps7
  go_upto_region 1 with fail
  generalize hW0 : World.alloc (World.alloc w _) _ = W0
  obtain ⟨b0, b1, hB0⟩ := HZ.out _ _ _ hW0.symm
  have B0 := Lib.hid b0
  have B1 := Lib.hid b1
  have HB0 := Lib.hid hB0
  clear hW0 b0 b1 hB0 HZ
  go_wp2_with (refine wpList_load_row rfl 24 (.tmp 3) rfl w.heap.size rfl 24 bx (0, 0) _ B0.out Try.underlying24 rfl Hb1.out ?_)
  refine (HO.out W0 HB0.out).mono ?_
  rintro e w1 ⟨P, p, P2, p2, rfl, hr1, hr2, hap, hB1⟩
  rw [boxV_v]
  have B0b := Lib.hid ((hB1.block _ (lt_heap B0.out)).trans B0.out)
  have B1b := Lib.hid ((hB1.block _ (lt_heap B1.out)).trans B1.out)
  have HB1 := Lib.hid (HB0.out.trans (hB1.mono HB0.out.size))
  have HI1 := Lib.hid hr1
  have HI2 := Lib.hid hr2
  have Hz0 := Lib.hid (lt_heap B1.out)
  clear hr1 hr2 hap hB1 HO HB0 B0 B1
  go_upto_region 2 with (refine wpList_store_row rfl 24 (.tmp 3) (.tmp 19) rfl w.heap.size (boxV y P p P2 p2) rfl rfl 24 _ B0b.out (Hb2.out _ _ _ _) (Hb4.out _ _ _ _) (Hb3.out _ _ _ _) ?_)
  have C0 := Lib.hid (setRow_heap w1 w.heap.size _ (boxV y P p P2 p2) _ _ B0b.out)
  have hk1 := setRow_kept w1 w.heap.size (boxV y P p P2 p2)
  have C1 := Lib.hid ((setRow_other w1 w.heap.size (w.heap.size + 1) (boxV y P p P2 p2) (by omega)).trans B1b.out)
  have HBc := Lib.hid (HB1.out.trans (hk1.below (fun b q => Nat.le_of_eq q.symm) HB1.out.size))
  have HU := Lib.hid (HI1.out.keep hk1 (fun b q r => by have := (HI1.out.lt q).1; have := Hz0.out; omega)).ints
  have HV := Lib.hid (HI2.out.keep hk1 (fun b q r => by have := (HI2.out.lt q).1; have := Hz0.out; omega)).ints
  generalize World.setRow w1 w.heap.size (boxV y P p P2 p2) = w2 at *
  clear hk1 HI1 HI2 HB1 B0b B1b
  have HEn : Hid (∀ W, Below w2.heap.size w2 W → Calls Try.prog 13 #[.agg (boxV y P p P2 p2)] W (EncSays W y)) := fun W hW => encode_any y P p P2 p2 W Hs.1 Hs.2 (HU.out.next hW) (HV.out.next hW)
  have HD : Hid (∀ W, Below w.heap.size w W → Calls Try.prog 15 #[.slice B n k] W (DecSays W l)) := fun W hW => decode_any B k n l W hn.symm (hB.next hW) (by omega)
  have HLv : Hid (∀ W, Calls Try.prog 21 #[] W fun e w' => e = .returned (.bool true) ∧ Below W.heap.size W w') := fun W => live_any W
  have HBt : Hid (∀ W, Below w.heap.size w W → Bts W W.heap.size B l) := fun W hW => hB.next hW
  clear hB
  simp only [Act.put]
  go_wp2_with (refine wpList_load_row rfl 24 (.tmp 3) rfl w.heap.size rfl 24 (boxV y P p P2 p2) (0, 0) _ C0.out Try.underlying24 rfl (Hb2.out _ _ _ _) ?_)
  refine (HEn.out w2 (Below.refl _ _)).mono ?_
  rintro e w3 hs
  have HE := Lib.hid hs
  clear hs
  rcases HE.out with ⟨hrc, g, rfl, hg, hgr, hB3⟩ | ⟨_, rfl, hB3⟩
  · have HBx := Lib.hid (HBc.out.trans (hB3.mono HBc.out.size))
    go_upto_if 26 with fail
    go_cut [9, 10, 11, 12, 13] from 27 to 72 (fun s9 s10 s11 s12 s13 wx => Below w3.heap.size w3 wx)
    case first =>
      have hry := (rightC_iff y).1 hrc
      have HBt3 : Hid (Bts w3 w3.heap.size (some ⟨g, 0, none⟩) (bytesL y)) := row_bts hry hgr
      have HDx : Hid (∀ W, Below w3.heap.size w3 W → Calls Try.prog 15 #[.slice (some ⟨g, 0, none⟩) 32 32] W (DecSays W (bytesL y))) := fun W hW => decode_any _ 32 32 (bytesL y) W (length_bytesL y).symm (HBt3.out.next hW) (by decide)
      have HU3 := Lib.hid (HU.out.next hB3)
      have HV3 := Lib.hid (HV.out.next hB3)
      have C03 := Lib.hid ((hB3.block _ (lt_heap C0.out)).trans C0.out)
      have C13 := Lib.hid ((hB3.block _ (lt_heap C1.out)).trans C1.out)
      have Hgr := Lib.hid hgr
      have Hok := Lib.hid (okD_bytes hry)
      have Hsd := Lib.hid (said_bytes hry)
      clear HE HEn HU HV C0 C1 hgr hB3 hry HBt3
      go_wp2_with fail
      refine (HDx.out _ (Below.refl _ _)).mono ?_
      rintro e w4 hs
      rcases hs with ⟨_, R, r, R2, r2, rfl, hq1, hq2, _, hB4⟩ | ⟨hno, _⟩
      · rw [Hsd.out] at hq1 hq2 ⊢
        rw [boxV_v]
        have HR1 := Lib.hid hq1.ints
        have HR2 := Lib.hid hq2.ints
        have C04 := Lib.hid ((hB4.block _ (lt_heap C03.out)).trans C03.out)
        have C14 := Lib.hid ((hB4.block _ (lt_heap C13.out)).trans C13.out)
        have HU4 := Lib.hid (HU3.out.next hB4)
        have HV4 := Lib.hid (HV3.out.next hB4)
        have Hgr4 := Lib.hid ((hB4.block _ (lt_heap Hgr.out)).trans Hgr.out)
        have HB4 := Lib.hid hB4
        clear hq1 hq2 hB4 C03 C13 HU3 HV3 Hgr
        go_wp2_with (refine wpList_store_row rfl 24 (.tmp 9) (.tmp 30) rfl w4.heap.size (boxV y R r R2 r2) rfl rfl 24 _ (Go.heap_alloc_new w4 _) (boxV_size _ _ _ _ _) rfl (boxV_one _ _ _ _ _) ?_
                     generalize hw5 : World.setRow (World.alloc w4 _) _ _ = w5
                     have D5 := setRow_heap _ _ _ (boxV y R r R2 r2) _ _ (Go.heap_alloc_new w4 (.cells #[.int .i64 0, .int .i64 0, .int .i64 0, .int .i64 0, .int .i64 0, .slice none 0 0, .slice none 0 0] 24))
                     have hk5 := below_setRow ((Below.refl w4.heap.size w4).alloc (Nat.le_refl _) (.cells #[.int .i64 0, .int .i64 0, .int .i64 0, .int .i64 0, .int .i64 0, .slice none 0 0, .slice none 0 0] 24)) (Nat.le_refl _) (boxV y R r R2 r2)
                     rw [hw5] at D5 hk5
                     have HB5 := Lib.hid hk5
                     obtain ⟨r0, r1, r2', r3, r4, r5, r6⟩ := seven D5
                     obtain ⟨q0, q1, q2, q3, q4, q5, q6⟩ := seven ((hk5.block _ (lt_heap C04.out)).trans C04.out)
                     clear hw5 hk5 D5)
        refine (same_any y y P p P2 p2 R r R2 r2 w5 Hs Hs (HU4.out.next HB5.out) (HV4.out.next HB5.out) (HR1.out.next HB5.out) (HR2.out.next HB5.out)).mono ?_
        rintro e w6 ⟨rfl, hB6⟩
        rw [sameC_iff.2 rfl]
        have HB6 := Lib.hid (HB5.out.trans (hB6.mono HB5.out.size))
        obtain ⟨k0, k1⟩ := two ((HB6.out.block _ (lt_heap C14.out)).trans C14.out)
        have HBz := Lib.hid (HB4.out.trans (HB6.out.mono HB4.out.size))
        clear hB6 r0 r1 r2' r3 r4 r5 r6 q0 q1 q2 q3 q4 q5 q6
        by_cases ht : t1 = 0
        · have htb : (t1 != 0) = false := by simp [ht]
          clear ht
          go_wp2_with fail
          go_meet
          exact HBz.out
        · have htb : (t1 != 0) = true := by simp [ht]
          have Ht := Lib.hid ht
          obtain ⟨i0, hi0, hz0, hz1, hz2⟩ := info_parts Bs.info5
          have Hgr6 := Lib.hid ((HB6.out.block _ (lt_heap Hgr4.out)).trans Hgr4.out)
          have Hl32 : Hid ((Bs.bytesV (bytesL y)).length = 32 * 1) := by unfold Hid; rw [len_bytesV, length_bytesL]
          have Hsrc : Hid (∀ o, ∀ ad, some (⟨g, 0, none⟩ : Addr) = some ad → ∀ (j : Nat) u, (Bs.bytesV (bytesL y))[j]? = some u → (w6.alloc o).cell? (ad.add j) = some u) := fun o ad e j u hu => by
            cases e
            rw [Addr.add_lit, Nat.zero_add, ((Below.refl _ w6).alloc (Nat.le_refl _) o).cell (p := ⟨g, j, none⟩) (lt_heap Hgr6.out), cellAt_of Hgr6.out j]
            simpa using hu
          have Hown : Hid (∀ z, (w6.alloc (.cells #[] 5)).ownsRow w6.heap.size 5 z (.slice (some ⟨w6.heap.size, 0, none⟩) 0 0) 0 []) := fun z => empty5 w6 z
          have C06 := Lib.hid ((HB6.out.block _ (lt_heap C04.out)).trans C04.out)
          have HU6 := Lib.hid (HU4.out.next HB6.out)
          have HV6 := Lib.hid (HV4.out.next HB6.out)
          clear ht HU4 HV4 HR1 HR2 C04 HB5 Hgr4
          go_wp2_with (at_builtin; refine wpList_append_src rfl (.tmp 48) (.tmp 49) 25 rfl w6.heap.size 5 i0 (.int .u8 0) 1 1 Try.underlying25 hi0 hz0 hz1 hz2 rfl (by decide) (.slice (some ⟨w6.heap.size, 0, none⟩) 0 0) 0 [] rfl (Hown.out 1) (some ⟨g, 0, none⟩) 32 32 (Bs.bytesV (bytesL y)) rfl Hl32.out (Hsrc.out _) (fun q => by cases q) (bytesV_one _) (by unfold maxLen; omega) (by omega) (by simp) 32 (by omega) ?_)
          intro A' c' w7 hown hgrow _
          rcases hown.2 with ⟨_, hn0⟩ | ⟨gz, cap, cur, hq, hbz, hgz, hnc, hcm, hcs, htk⟩
          · cases hn0
          · obtain ⟨rfl, _, rfl⟩ := Value.slice.inj hq
            have hk7 := (Kept.fresh (S := fun b => b = w6.heap.size) ((Below.refl _ w6).alloc (Nat.le_refl _) (.cells #[] 5))).trans (Kept.grown (S := fun b => b = w6.heap.size) hgrow (fun k e => .inl (by cases e; rfl))) (fun b q => .inl q)
            have HB7 := Lib.hid (hk7.below (B := w6.heap.size) (fun b q => Nat.le_of_eq q.symm) (Nat.le_refl _))
            have HT7 := Lib.hid ((HB7.out.block _ (lt_heap ((HB6.out.block _ (lt_heap C14.out)).trans C14.out))).trans ((HB6.out.block _ (lt_heap C14.out)).trans C14.out))
            have Hcz : Hid (∀ i, i < 32 → cur[i]? = some (.int .u8 (nth (bytesL y) i))) := fun i hi => by
              have := hown.cellAt i (by omega)
              rw [← cellAt_of hgz i, this, Bs.bytesV, List.getElem?_map, List.getElem?_eq_getElem (by rw [length_bytesL]; exact hi), nth_lt (by rw [length_bytesL]; exact hi)]; rfl
            have Hgz := Lib.hid hgz
            have Hbz := Lib.hid hbz
            clear hown hgrow hk7 hgz hbz htk hq hcs hnc hcm k0 k1
            obtain ⟨j, hj⟩ : ∃ j : Nat, t0.tmod 32 = (j : Int) := ⟨(t0.tmod 32).toNat, by rw [Int.toNat_of_nonneg (Int.tmod_nonneg _ h0.1)]⟩
            have hj32 : (j : Int) < 32 := by rw [← hj]; exact Int.tmod_lt_of_pos _ (by omega)
            have hj0 : (0 : Int) ≤ (j : Int) := by omega
            have kz : w7.cell? ⟨gz, j, none⟩ = some (.int .u8 (nth (bytesL y) j)) := by rw [cellAt_of Hgz.out j]; exact Hcz.out j (by omega)
            have fz := frozen_of_row w7 gz j _ _ Hgz.out
            obtain ⟨k0, k1⟩ := two HT7.out
            have kzd : w7.drew.cell? ⟨gz, j, none⟩ = some (.int .u8 (nth (bytesL y) j)) := kz
            have fzd : w7.drew.frozen? ⟨gz, j, none⟩ = false := fz
            have k0d : w7.drew.cell? ⟨w.heap.size + 1, 0, none⟩ = some (.int .u8 t0) := k0
            have k1d : w7.drew.cell? ⟨w.heap.size + 1, 1, none⟩ = some (.int .u8 t1) := k1
            have Hlz := Lib.hid (lt_heap Hgz.out)
            go_upto_region 9 with fail
            go_region
            have hzv : Hid (nth (bytesL y) j ∈ bytesL y) := nth_mem (by rw [length_bytesL]; omega)
            have hxr := xor_u8 (allB_bytes ((rightC_iff y).1 hrc) _ hzv.out) h1
            generalize bits BinOp.xor IntKind.u8 (nth (bytesL y) j) t1 = xv at hxr ⊢
            have Hne : Hid ((bytesL y).set j xv ≠ bytesL y) := turned_ne (by rw [length_bytesL]; omega) (hxr.2 Ht.out)
            generalize hw8 : World.drew (World.setCell w7 _ _) = w8
            have hg8 : w8.heap[gz]? = some (.cells (cur.setIfInBounds j (.int .u8 xv)) 5 (0, 0)) := by rw [← hw8]; exact set_heap Hgz.out _
            have hb8 : Below w6.heap.size w6 w8 := by
              rw [← hw8]; exact (HB7.out.trans (((Kept.refl w7 (fun b => b = gz)).set (.inl rfl)).below (fun b q => by have := Hbz.out; omega) HB7.out.size)).drew
            have HBt8 : Hid (Bts w8 w8.heap.size (some ⟨gz, 0, none⟩) ((bytesL y).set j xv)) := by
              refine ⟨fun q hq => ?_, fun _ => ⟨gz, 0, rfl, lt_heap hg8, fun i hi => ?_⟩⟩
              · rcases List.mem_or_eq_of_mem_set hq with h | h
                · exact allB_bytes ((rightC_iff y).1 hrc) _ h
                · rw [h]; exact hxr.1
              · rw [List.length_set, length_bytesL] at hi
                have hc := Hcz.out i hi
                obtain ⟨hsz, _⟩ := Array.getElem?_eq_some_iff.1 hc
                rw [Nat.zero_add, cellAt_of hg8 i, Array.getElem?_setIfInBounds, nth_lt (by rw [List.length_set, length_bytesL]; exact hi), List.getElem_set]
                by_cases hij : j = i
                · subst hij
                  rw [if_pos rfl, if_pos rfl, if_pos hsz]
                · rw [if_neg hij, if_neg hij, hc, nth_lt (by rw [length_bytesL]; exact hi)]
            have HB8 := Lib.hid hb8
            have HDz : Hid (∀ W, Below w8.heap.size w8 W → Calls Try.prog 15 #[.slice (some ⟨gz, 0, none⟩) 32 c'] W (DecSays W ((bytesL y).set j xv))) := fun W hW => decode_any _ c' 32 _ W (by rw [List.length_set, length_bytesL]) (HBt8.out.next hW) (by decide)
            clear hw8 hg8 hb8 hxr hzv kz fz k0 k1 kzd fzd k0d k1d hj hj32 hj0 HBt8
            go_wp2_with fail
            refine (HDz.out _ (Below.refl _ _)).mono ?_
            rintro e w9 hs
            rcases hs with ⟨hokz, Z, z, Z2, z2, rfl, hz1, hz2, _, hB9⟩ | ⟨_, rfl, hB9⟩
            · rw [boxV_v]
              have HZ1 := Lib.hid hz1.ints
              have HZ2 := Lib.hid hz2.ints
              have HB9 := Lib.hid (HB8.out.trans (hB9.mono HB8.out.size))
              have Hdif : Hid (sameC (saidC ((bytesL y).set j xv)) y = false) := by
                unfold Hid
                rw [Bool.eq_false_iff]
                exact fun q => okD_turned Hne.out hokz (sameC_iff.1 q)
              have Hsz := said_small ((bytesL y).set j xv)
              generalize saidC ((bytesL y).set j xv) = u at *
              clear hz1 hz2 hB9 hokz
              go_wp2_with (refine wpList_store_row rfl 24 (.tmp 12) (.tmp 64) rfl w9.heap.size (boxV u Z z Z2 z2) rfl rfl 24 _ (Go.heap_alloc_new w9 _) (boxV_size _ _ _ _ _) rfl (boxV_one _ _ _ _ _) ?_
                           generalize hw10 : World.setRow (World.alloc w9 _) _ _ = w10
                           have D5 := setRow_heap _ _ _ (boxV u Z z Z2 z2) _ _ (Go.heap_alloc_new w9 (.cells #[.int .i64 0, .int .i64 0, .int .i64 0, .int .i64 0, .int .i64 0, .slice none 0 0, .slice none 0 0] 24))
                           have hk5 := below_setRow ((Below.refl w9.heap.size w9).alloc (Nat.le_refl _) (.cells #[.int .i64 0, .int .i64 0, .int .i64 0, .int .i64 0, .int .i64 0, .slice none 0 0, .slice none 0 0] 24)) (Nat.le_refl _) (boxV u Z z Z2 z2)
                           rw [hw10] at D5 hk5
                           have HB10 := Lib.hid hk5
                           have HB10w := Lib.hid (HB9.out.trans (hk5.mono HB9.out.size))
                           obtain ⟨r0, r1, r2', r3, r4, r5, r6⟩ := seven D5
                           obtain ⟨q0, q1, q2, q3, q4, q5, q6⟩ := seven ((HB10w.out.block _ (lt_heap C06.out)).trans C06.out)
                           clear hw10 hk5 D5)
              refine (same_any u y Z z Z2 z2 P p P2 p2 w10 Hsz Hs (HZ1.out.next HB10.out) (HZ2.out.next HB10.out) (HU6.out.next HB10w.out) (HV6.out.next HB10w.out)).mono ?_
              rintro e w11 ⟨rfl, hB11⟩
              rw [Hdif.out]
              have HBw := Lib.hid (HBz.out.trans ((HB10w.out.trans (hB11.mono HB10w.out.size)).mono HBz.out.size))
              clear hB11 r0 r1 r2' r3 r4 r5 r6 q0 q1 q2 q3 q4 q5 q6
              go_wp2_with fail
              go_meet
              exact HBw.out
            · unfold zeroC
              have HB9 := Lib.hid (HBz.out.trans ((HB8.out.trans (hB9.mono HB8.out.size)).mono HBz.out.size))
              clear hB9
              go_wp2_with fail
              go_meet
              exact HB9.out.alloc HB9.out.size _
      · rw [Hok.out] at hno; cases hno
    case rest =>
      replace HBx := Lib.hid (HBx.out.trans (hcut.mono HBx.out.size))
      clear HEn HU HV C0 C1 hcut HE hgr hB3
      go_wp2_with fail
      refine (HD.out _ HBx.out).mono ?_
      rintro e w4 hs
      have HS := Lib.hid hs
      clear hs
      rcases HS.out with ⟨hok, R, r, R2, r2, rfl, hq1, hq2, _, hB4⟩ | ⟨hok, rfl, hB4⟩
      · obtain ⟨hlen, hrc, hbl⟩ := okD_said hok
        have HB4 := Lib.hid (HBx.out.trans (hB4.mono HBx.out.size))
        have HR1 := Lib.hid hq1.ints
        have HR2 := Lib.hid hq2.ints
        clear HS hq1 hq2 hB4 hok
        rw [boxV_v]
        have Hsm := said_small l
        go_wp2_with (first
          | (refine wpList_store_row rfl 24 (.tmp 14) (.tmp 76) rfl w4.heap.size (boxV (saidC l) R r R2 r2) rfl rfl 24 _ (Go.heap_alloc_new w4 _) (boxV_size _ _ _ _ _) rfl (boxV_one _ _ _ _ _) ?_
             generalize hw5 : World.setRow (World.alloc w4 _) _ _ = w5
             have D5 := setRow_heap _ _ _ (boxV (saidC l) R r R2 r2) _ _ (Go.heap_alloc_new w4 (.cells #[.int .i64 0, .int .i64 0, .int .i64 0, .int .i64 0, .int .i64 0, .slice none 0 0, .slice none 0 0] 24))
             have hk5 := below_setRow ((Below.refl w4.heap.size w4).alloc (Nat.le_refl _) (.cells #[.int .i64 0, .int .i64 0, .int .i64 0, .int .i64 0, .int .i64 0, .slice none 0 0, .slice none 0 0] 24)) (Nat.le_refl _) (boxV (saidC l) R r R2 r2)
             rw [hw5] at D5 hk5
             have HB5 := Lib.hid hk5
             have D5' := Lib.hid D5
             clear hw5 hk5 D5)
          | (refine wpList_load_row rfl 24 (.tmp 14) rfl w4.heap.size rfl 24 (boxV (saidC l) R r R2 r2) (0, 0) _ D5'.out Try.underlying24 rfl (boxV_size _ _ _ _ _) ?_))
        refine (encode_any (saidC l) R r R2 r2 w5 Hsm.1 Hsm.2 (HR1.out.next HB5.out) (HR2.out.next HB5.out)).mono ?_
        rintro e w6 hs
        rcases hs with ⟨_, g6, rfl, hg6, hgr6, hB6⟩ | ⟨hrc2, _⟩
        · rw [hbl] at hgr6
          have HB6 := Lib.hid (HB4.out.trans ((HB5.out.trans (hB6.mono HB5.out.size)).mono HB4.out.size))
          have Hg6 := Lib.hid hgr6
          clear hgr6 hB6 hg6 hbl
          go_wp2_with fail
          refine (HLv.out _).mono ?_
          rintro e w7 ⟨rfl, hB7⟩
          have hcv1 := text_row (c := 32) ((hB7.block _ (lt_heap Hg6.out)).trans Hg6.out) hlen
          have hcv2 := bts_text (HBt.out w7 (HB6.out.trans (hB7.mono HB6.out.size))) k hn (by omega)
          have HB7 := Lib.hid (HB6.out.trans (hB7.mono HB6.out.size))
          clear hB7 HBt
          go_wp2_with fail
          go_ret
          exact ⟨rfl, HB7.out⟩
        · rw [(rightC_iff _).2 hrc] at hrc2; cases hrc2
      · have HB4 := Lib.hid (HBx.out.trans (hB4.mono HBx.out.size))
        clear HS hB4 hok
        unfold zeroC
        go_wp2_with fail
        refine (HLv.out _).mono ?_
        rintro e w5 ⟨rfl, hB5⟩
        obtain ⟨_, _, _, _, _, r5, _⟩ := seven ((hB5.block w4.heap.size (by simp)).trans (Go.heap_alloc_new w4 _))
        have HB5 := Lib.hid (HB4.out.trans (((Below.refl _ w4).alloc (Nat.le_refl _) _).mono HB4.out.size |>.trans (hB5.mono (by simp; exact Nat.le_succ_of_le HB4.out.size))))
        clear hB5
        go_wp2_with fail
        go_ret
        exact ⟨rfl, HB5.out⟩
  · have HBx := Lib.hid (HBc.out.trans (hB3.mono HBc.out.size))
    clear HEn HU HV C0 C1 HE hB3
    go_wp2_with fail
    refine (HD.out _ HBx.out).mono ?_
    rintro e w4 hs
    have HS := Lib.hid hs
    clear hs
    rcases HS.out with ⟨hok, R, r, R2, r2, rfl, hq1, hq2, _, hB4⟩ | ⟨hok, rfl, hB4⟩
    · obtain ⟨hlen, hrc, hbl⟩ := okD_said hok
      have HB4 := Lib.hid (HBx.out.trans (hB4.mono HBx.out.size))
      have HR1 := Lib.hid hq1.ints
      have HR2 := Lib.hid hq2.ints
      clear HS hq1 hq2 hB4 hok
      rw [boxV_v]
      have Hsm := said_small l
      go_wp2_with (first
        | (refine wpList_store_row rfl 24 (.tmp 14) (.tmp 76) rfl w4.heap.size (boxV (saidC l) R r R2 r2) rfl rfl 24 _ (Go.heap_alloc_new w4 _) (boxV_size _ _ _ _ _) rfl (boxV_one _ _ _ _ _) ?_
           generalize hw5 : World.setRow (World.alloc w4 _) _ _ = w5
           have D5 := setRow_heap _ _ _ (boxV (saidC l) R r R2 r2) _ _ (Go.heap_alloc_new w4 (.cells #[.int .i64 0, .int .i64 0, .int .i64 0, .int .i64 0, .int .i64 0, .slice none 0 0, .slice none 0 0] 24))
           have hk5 := below_setRow ((Below.refl w4.heap.size w4).alloc (Nat.le_refl _) (.cells #[.int .i64 0, .int .i64 0, .int .i64 0, .int .i64 0, .int .i64 0, .slice none 0 0, .slice none 0 0] 24)) (Nat.le_refl _) (boxV (saidC l) R r R2 r2)
           rw [hw5] at D5 hk5
           have HB5 := Lib.hid hk5
           have D5' := Lib.hid D5
           clear hw5 hk5 D5)
        | (refine wpList_load_row rfl 24 (.tmp 14) rfl w4.heap.size rfl 24 (boxV (saidC l) R r R2 r2) (0, 0) _ D5'.out Try.underlying24 rfl (boxV_size _ _ _ _ _) ?_))
      refine (encode_any (saidC l) R r R2 r2 w5 Hsm.1 Hsm.2 (HR1.out.next HB5.out) (HR2.out.next HB5.out)).mono ?_
      rintro e w6 hs
      rcases hs with ⟨_, g6, rfl, hg6, hgr6, hB6⟩ | ⟨hrc2, _⟩
      · rw [hbl] at hgr6
        have HB6 := Lib.hid (HB4.out.trans ((HB5.out.trans (hB6.mono HB5.out.size)).mono HB4.out.size))
        have Hg6 := Lib.hid hgr6
        clear hgr6 hB6 hg6 hbl
        go_wp2_with fail
        refine (HLv.out _).mono ?_
        rintro e w7 ⟨rfl, hB7⟩
        have hcv1 := text_row (c := 32) ((hB7.block _ (lt_heap Hg6.out)).trans Hg6.out) hlen
        have hcv2 := bts_text (HBt.out w7 (HB6.out.trans (hB7.mono HB6.out.size))) k hn (by omega)
        have HB7 := Lib.hid (HB6.out.trans (hB7.mono HB6.out.size))
        clear hB7 HBt
        go_wp2_with fail
        go_ret
        exact ⟨rfl, HB7.out⟩
      · rw [(rightC_iff _).2 hrc] at hrc2; cases hrc2
    · have HB4 := Lib.hid (HBx.out.trans (hB4.mono HBx.out.size))
      clear HS hB4 hok
      unfold zeroC
      go_wp2_with fail
      refine (HLv.out _).mono ?_
      rintro e w5 ⟨rfl, hB5⟩
      obtain ⟨_, _, _, _, _, r5, _⟩ := seven ((hB5.block w4.heap.size (by simp)).trans (Go.heap_alloc_new w4 _))
      have HB5 := Lib.hid (HB4.out.trans (((Below.refl _ w4).alloc (Nat.le_refl _) _).mono HB4.out.size |>.trans (hB5.mono (by simp; exact Nat.le_succ_of_le HB4.out.size))))
      clear hB5
      go_wp2_with fail
      go_ret
      exact ⟨rfl, HB5.out⟩
end Go.Proofs.Ytpcindemkkdbbaa.cylBack
