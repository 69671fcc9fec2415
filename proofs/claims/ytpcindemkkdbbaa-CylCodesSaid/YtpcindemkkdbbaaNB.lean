/- The document's Encode. -/
import Derived.Test.YtpcindemkkdbbaaNA
import Derived.Test.YtpcindemkkdbbaaRE
import Derived.BigRegion
namespace Go.Proofs.Ytpcindemkkdbbaa
set_option linter.unusedVariables false
set_option linter.unusedSimpArgs false
open Go.RowKit
/-- what the document's Encode answers -/
def REncSays (w : World) (x : Cy) (e : Ending) (w' : World) : Prop :=
  (rightC x = true ∧ ∃ g, e = .returned (.tuple #[.slice (some ⟨g, 0, none⟩) 32 32, .int .i64 0]) ∧ w.heap.size ≤ g ∧ w'.heap[g]? = some (.cells (Bs.bytesV (bytesL x)).toArray 5 (0, 0)) ∧ Below w.heap.size w w') ∨ (rightC x = false ∧ e = .returned (.tuple #[.slice none 0 0, .int .i64 3]) ∧ Below w.heap.size w w')
theorem byteV_at {l : List Int} {k : Nat} (h : k < l.length) : (Bs.bytesV l)[k]? = some (.int .u8 (nth l k)) := by
  rw [Bs.bytesV, List.getElem?_map, List.getElem?_eq_getElem h, nth_lt h]; rfl
theorem u8_id {x : Int} (h : 0 ≤ x ∧ x ≤ 255) : IntKind.u8.wrap x = x := by
  have e : IntKind.u8.wrap x = x % 256 := rfl
  omega
theorem shl8 (m : Nat) : (2 : Int) ^ (m % 8) % 256 = Bs.mk8 (m : Int) := by
  unfold Bs.mk8
  rw [show ((m : Int) % 8).toNat = m % 8 from by omega]
  have h2 : m % 8 < 8 := by omega
  generalize m % 8 = j at h2
  have : ∀ k : Fin 8, (2 : Int) ^ k.val % 256 = 2 ^ k.val := by decide
  exact this ⟨j, h2⟩
set_option maxRecDepth 100000 in
set_option maxHeartbeats 4000000 in
theorem refencode_any (x : Cy) (A : Option Addr) (c : Nat) (A2 : Option Addr) (d : Nat) (w : World) (hu : x.us.length ≤ 1000) (hi : x.is.length ≤ 1000) (hU : Ints w w.heap.size A x.us) (hI : Ints w w.heap.size A2 x.is) :
    Calls Try.prog 14 #[x.v A c A2 d] w (REncSays w x) := by
  have HF : Hid (∀ W, Below w.heap.size w W → Calls Try.prog 24 #[x.v A c A2 d] W fun e w' => e = .returned (.bool (rightC x)) ∧ Below W.heap.size W w') := fun W hW => refright_any x A c A2 d W hu hi (hU.next hW) (hI.next hW)
  have HB : Hid (∀ o, Below w.heap.size w (w.alloc o)) := fun o => (Below.refl _ _).alloc (Nat.le_refl _) _
  have HUs := Lib.hid hU
  have HIs := Lib.hid hI
  have HR : Hid (rightC x = true → RightC x) := (rightC_iff x).1
  have Hfin : Hid (∀ z, z = sumTo (frontB x) 31 → rowE x (Bs.accB 8 x.us) (Bs.accB 2 x.is) z = bytesL x) := fun z hz => by rw [hz]; exact rowE_full x
  have Hfr : Hid (∀ k, k < 31 → nth (rowE x (Bs.accB 8 x.us) (Bs.accB 2 x.is) 0) k = nth (frontB x) k) := fun k hk => rowE_front x _ _ 0 (Bs.length_accB _ _) (Bs.length_accB _ _) hk
  obtain ⟨Q, hQ⟩ : ∃ Q, Q = REncSays w x := ⟨_, rfl⟩
  have HQ : Hid (∀ e w', REncSays w x e w' → Q e w') := by unfold Hid; rw [hQ]; exact fun _ _ h => h
  rw [← hQ]
  clear hU hI hQ
  obtain ⟨r, hr⟩ : ∃ r, r = rightC x := ⟨_, rfl⟩
  have Hr := Lib.hid hr
  rw [← hr] at HF HR
  have hmk : ∀ W : World, (Instr.makeSlice 25 (.int .i64 32) (.int .i64 32)).run Try.prog W = .ok (.slice (some ⟨W.heap.size, 0, none⟩) 32 32) (W.alloc (.cells (Bs.bytesV (List.replicate 32 0)).toArray 5)) := fun W => by
    have := run_make_row' (P := Try.prog) 25 5 (.int .u8 0) 1 Try.underlying25 Bs.info5 rfl .i64 .i64 32 (by omega) (by omega) W
    rwa [Bs.made_bytes] at this
  cases r with
  | false =>
    clear hr
    obtain ⟨ix, bl, fb, fi, ro, us, is⟩ := x
    unfold Cy.v at *
    simp only at *
    generalize us.length = nu at *
    generalize is.length = ni at *
    go_enter Try.func14, Try.ntmps14
    go_wp2_with fail
    refine (HF.out _ (HB.out _)).mono ?_
    rintro e w2 ⟨rfl, hB⟩
    have HB2 := Lib.hid ((HB.out _).trans (hB.mono (HB.out _).size))
    clear hB
    go_wp2_with fail
    exact HQ.out _ _ (.inr ⟨Hr.out.symm, rfl, HB2.out⟩)
  | true =>
    have hX := HR.out rfl
    have h3 := hX.ix
    have h4 := hX.bl
    have h5 := hX.ro
    have h6 := hX.fb_in
    have h7 := hX.fi_in
    have k1 := u8_id (x := x.ix) (by omega)
    have k2 := u8_id (x := x.bl) (by omega)
    have k3 := u8_id (x := x.fb) (by omega)
    have k4 := u8_id (x := x.fi) (by omega)
    have k5 := u8_id (x := x.ro) (by omega)
    have Hx := Lib.hid hX
    clear hr HR h3 h4 h5 h6 h7 hX
    have H0 : Hid (∀ (W : World) g, Bs.BlkIs W g 5 (Bs.bytesV (List.replicate 32 0)) → Bs.BlkIs ((((((W.setCell ⟨g, 0, none⟩ (.int .u8 67)).setCell ⟨g, 1, none⟩ (.int .u8 x.ix)).setCell ⟨g, 2, none⟩ (.int .u8 x.bl)).setCell ⟨g, 3, none⟩ (.int .u8 x.fb)).setCell ⟨g, 4, none⟩ (.int .u8 x.fi)).setCell ⟨g, 5, none⟩ (.int .u8 x.ro)) g 5 (Bs.bytesV (rowE x (List.replicate 8 0) (List.replicate 2 0) 0))) := fun W g h =>
      (((((h.set_ 0 _).set_ 1 _).set_ 2 _).set_ 3 _).set_ 4 _).set_ 5 _
    obtain ⟨n1, hn1⟩ : ∃ n1, n1 = x.us.length := ⟨_, rfl⟩
    obtain ⟨n2, hn2⟩ : ∃ n2, n2 = x.is.length := ⟨_, rfl⟩
    have Hn1 := Lib.hid hn1
    have Hn2 := Lib.hid hn2
    have ev : x.v A c A2 d = .agg #[.int .i64 x.ix, .int .i64 x.bl, .int .i64 x.fb, .int .i64 x.fi, .int .i64 x.ro, .slice A n1 c, .slice A2 n2 d] := by rw [hn1, hn2]; rfl
    rw [ev] at HF ⊢
    rw [← hn1] at hu
    rw [← hn2] at hi
    clear ev hn1 hn2
    obtain ⟨ix, hix⟩ : ∃ y, y = x.ix := ⟨_, rfl⟩
    obtain ⟨bl, hbl⟩ : ∃ y, y = x.bl := ⟨_, rfl⟩
    obtain ⟨fb, hfb⟩ : ∃ y, y = x.fb := ⟨_, rfl⟩
    obtain ⟨fi, hfi⟩ : ∃ y, y = x.fi := ⟨_, rfl⟩
    obtain ⟨ro, hro⟩ : ∃ y, y = x.ro := ⟨_, rfl⟩
    rw [← hix] at HF k1 H0 ⊢
    rw [← hbl] at HF k2 H0 ⊢
    rw [← hfb] at HF k3 H0 ⊢
    rw [← hfi] at HF k4 H0 ⊢
    rw [← hro] at HF k5 H0 ⊢
    clear hix hbl hfb hfi hro
    go_enter Try.func14, Try.ntmps14
    go_wp2_with fail
    generalize hbx : Obj.cells #[.int .i64 ix, .int .i64 bl, .int .i64 fb, .int .i64 fi, .int .i64 ro, .slice A n1 c, .slice A2 n2 d] 24 = bx
    have hb1 := HB.out bx
    have h01 := Go.heap_alloc_new w bx
    generalize w.alloc bx = W1 at hb1 h01 ⊢
    subst hbx
    refine (HF.out _ hb1).mono ?_
    rintro e w2 ⟨rfl, hB⟩
    have hbx2 := (hB.block _ (lt_heap h01)).trans h01
    have HB2 := Lib.hid (hb1.trans (hB.mono hb1.size))
    have hs2 : w.heap.size < w2.heap.size := lt_heap hbx2
    have HX2 := Lib.hid hbx2
    clear hB hb1 h01 hbx2 HF
    go_upto_region 4 with fail
    generalize hW3 : World.alloc w2 _ = W3
    have hg3 : Bs.BlkIs W3 w2.heap.size 5 (Bs.bytesV (List.replicate 32 0)) := by subst hW3; exact Go.heap_alloc_new w2 _
    have hB23 : Below w2.heap.size w2 W3 := by subst hW3; exact (Below.refl _ _).alloc (Nat.le_refl _) _
    have hbx3 := (hB23.block _ hs2).trans HX2.out
    obtain ⟨r0, r1, r2, r3, r4, _, _⟩ := seven hbx3
    have f0 := hg3.frozen 0
    have f1 := hg3.frozen 1
    have f2 := hg3.frozen 2
    have f3 := hg3.frozen 3
    have f4 := hg3.frozen 4
    have f5 := hg3.frozen 5
    have z0 : W3.cell? ⟨w2.heap.size, 0, none⟩ = some (.int .u8 0) := hg3.cell 0
    have z1 : W3.cell? ⟨w2.heap.size, 1, none⟩ = some (.int .u8 0) := hg3.cell 1
    have z2 : W3.cell? ⟨w2.heap.size, 2, none⟩ = some (.int .u8 0) := hg3.cell 2
    have z3 : W3.cell? ⟨w2.heap.size, 3, none⟩ = some (.int .u8 0) := hg3.cell 3
    have z4 : W3.cell? ⟨w2.heap.size, 4, none⟩ = some (.int .u8 0) := hg3.cell 4
    have z5 : W3.cell? ⟨w2.heap.size, 5, none⟩ = some (.int .u8 0) := hg3.cell 5
    have hlt3 := hg3.lt
    have HG3 := Lib.hid (H0.out W3 _ hg3)
    have HB23 := Lib.hid hB23
    clear hg3 hB23 hbx3 hW3 H0
    go_cut [4] from 13 to 39 (fun s4 wx => s4 = .slice (some ⟨w2.heap.size, 0, none⟩) 32 32 ∧ Hid (Bs.BlkIs wx w2.heap.size 5 (Bs.bytesV (rowE x (List.replicate 8 0) (List.replicate 2 0) 0))) ∧ Hid (Below w2.heap.size w2 wx))
    case first =>
      have HBf : Hid (∀ v0 v1 v2 v3 v4 v5, Below w2.heap.size w2 ((((((W3.setCell ⟨w2.heap.size, 0, none⟩ v0).setCell ⟨w2.heap.size, 1, none⟩ v1).setCell ⟨w2.heap.size, 2, none⟩ v2).setCell ⟨w2.heap.size, 3, none⟩ v3).setCell ⟨w2.heap.size, 4, none⟩ v4).setCell ⟨w2.heap.size, 5, none⟩ v5)) := fun v0 v1 v2 v3 v4 v5 =>
        (((((HB23.out.setCell (p := ⟨w2.heap.size, 0, none⟩) (Nat.le_refl _) v0).setCell (p := ⟨w2.heap.size, 1, none⟩) (Nat.le_refl _) v1).setCell (p := ⟨w2.heap.size, 2, none⟩) (Nat.le_refl _) v2).setCell (p := ⟨w2.heap.size, 3, none⟩) (Nat.le_refl _) v3).setCell (p := ⟨w2.heap.size, 4, none⟩) (Nat.le_refl _) v4).setCell (p := ⟨w2.heap.size, 5, none⟩) (Nat.le_refl _) v5
      go_region
      go_wp2_with fail
      go_meet
      exact ⟨rfl, HG3.out, (HBf.out _ _ _ _ _ _).drew⟩
    case rest =>
      obtain ⟨rfl, HG, HBx⟩ := hcut
      have Hrg : ∀ u ∈ x.us, ∃ m : Nat, u = m ∧ m < 64 := fun u hu => ⟨u.toNat, by have := Hx.out.us.1 u hu; have := Hx.out.bl; omega, by have := Hx.out.us.1 u hu; have := Hx.out.bl; omega⟩
      have Hri : ∀ u ∈ x.is, ∃ m : Nat, u = m ∧ m < 16 := fun u hu => ⟨u.toNat, by have := Hx.out.is.1 u hu; omega, by have := Hx.out.is.1 u hu; omega⟩
      have HRg := Lib.hid Hrg
      have HRi := Lib.hid Hri
      have HU2 := Lib.hid (HUs.out.next HB2.out)
      have HI2 := Lib.hid (HIs.out.next HB2.out)
      clear Hrg Hri HUs HIs
      go_wp2
      go_loopw [5] (fun i wr => ∃ k : Nat, k ≤ n1 ∧ i = .int .i64 k ∧ Hid (Bs.BlkIs wr w2.heap.size 5 (Bs.bytesV (rowE x (Bs.accB 8 (x.us.take k)) (List.replicate 2 0) 0))) ∧ Hid (Below w2.heap.size w2 wr)) (fun i _ => n1 - (intOf i).toNat)
      case atStart => exact ⟨0, Nat.zero_le _, rfl, HG.out, HBx.out⟩
      case round =>
        obtain ⟨k, hk, rfl, HGk, HBk⟩ := hrel
        rename World => wr
        have hk0 : (0 : Int) ≤ (k : Int) := by omega
        have hbk := (HBk.out.block _ hs2).trans HX2.out
        obtain ⟨_, _, _, _, _, r5, _⟩ := seven hbk
        clear hbk
        by_cases hlt : k < n1
        · have hki : (k : Int) < (n1 : Int) := by omega
          have hkl : k < x.us.length := by rw [← Hn1.out]; exact hlt
          obtain ⟨b, off, rfl, hbl, hcc⟩ := (HU2.out.next HBk.out) (by omega)
          have hcu := hcc k hkl
          obtain ⟨m, hm, hm64⟩ := HRg.out _ (nth_mem hkl)
          have hbit := rowE_bit x hkl (has8 Hx.out) (List.replicate 2 0) 0 rfl
          rw [hm] at hcu hbit
          rw [Int.toNat_natCast] at hbit
          have Hbit := Lib.hid hbit
          have hlR : 6 + m / 8 < (rowE x (Bs.accB 8 (x.us.take k)) (List.replicate 2 0) 0).length := by rw [length_rowE x 0 (Bs.length_accB _ _) rfl]; omega
          have hcg : wr.cell? ⟨w2.heap.size, 6 + m / 8, none⟩ = some (.int .u8 (nth (rowE x (Bs.accB 8 (x.us.take k)) (List.replicate 2 0) 0) (6 + m / 8))) := (HGk.out.cell _).trans (byteV_at hlR)
          have hfg := HGk.out.frozen (6 + m / 8)
          have hlg := HGk.out.lt
          have hSt := Lib.hid (HGk.out.setByte rfl (6 + m / 8) (bits .or .u8 (nth (rowE x (Bs.accB 8 (x.us.take k)) (List.replicate 2 0) 0) (6 + m / 8)) (Bs.mk8 (m : Int))))
          generalize nth (rowE x (Bs.accB 8 (x.us.take k)) (List.replicate 2 0) 0) (6 + m / 8) = old at *
          have hdv : IntKind.i64.wrap ((m : Int) / 8) = (m : Int) / 8 := IntWalk.i64_in _ (by omega)
          have hd6 : IntKind.i64.wrap (6 + (m : Int) / 8) = 6 + (m : Int) / 8 := IntWalk.i64_in _ (by omega)
          have hdm : IntKind.i64.wrap ((m : Int) % 8) = (m : Int) % 8 := IntWalk.i64_in _ (by omega)
          have hix : (6 + (m : Int) / 8).toNat = 6 + m / 8 := by omega
          have him : ((m : Int) % 8).toNat = m % 8 := by omega
          have hm0 : (0 : Int) ≤ (m : Int) % 8 := by omega
          have hi0 : (0 : Int) ≤ 6 + (m : Int) / 8 := by omega
          have hi32 : 6 + (m : Int) / 8 < 32 := by omega
          clear hcc hbit hm hlR
          go_wp2
          go_region
          go_wp2
          go_roundw
          case rel =>
            rw [shl8 m]
            exact ⟨k + 1, by omega, by go_num, by unfold Hid; rw [Hbit.out]; exact hSt.out, (HBk.out.setCell (p := ⟨w2.heap.size, 6 + m / 8, none⟩) (Nat.le_refl _) _).drew⟩
          case measure => simp [intOf]; omega
        · obtain rfl : k = n1 := by omega
          have hki : ¬ (k : Int) < (k : Int) := by omega
          have hGU : Hid (Bs.BlkIs wr w2.heap.size 5 (Bs.bytesV (rowE x (Bs.accB 8 x.us) (Bs.accB 2 (x.is.take 0)) 0))) := by
            have h := HGk.out
            rw [List.take_of_length_le (Nat.le_of_eq Hn1.out.symm)] at h
            exact h
          have HBu := HBk
          clear HGk HBk
          go_wp2
          go_loopw [6] (fun i wr => ∃ k : Nat, k ≤ n2 ∧ i = .int .i64 k ∧ Hid (Bs.BlkIs wr w2.heap.size 5 (Bs.bytesV (rowE x (Bs.accB 8 x.us) (Bs.accB 2 (x.is.take k)) 0))) ∧ Hid (Below w2.heap.size w2 wr)) (fun i _ => n2 - (intOf i).toNat)
          case atStart => exact ⟨0, Nat.zero_le _, rfl, hGU, HBu.out⟩
          case round =>
            obtain ⟨k2, hk2, rfl, HGk, HBk⟩ := hrel
            rename World => wv
            have hk20 : (0 : Int) ≤ (k2 : Int) := by omega
            have hbk := (HBk.out.block _ hs2).trans HX2.out
            obtain ⟨_, _, _, _, _, _, r6⟩ := seven hbk
            clear hbk r5
            by_cases hlt2 : k2 < n2
            · have hki2 : (k2 : Int) < (n2 : Int) := by omega
              have hkl : k2 < x.is.length := by rw [← Hn2.out]; exact hlt2
              obtain ⟨b, off, rfl, hbl, hcc⟩ := (HI2.out.next HBk.out) (by omega)
              have hcu := hcc k2 hkl
              obtain ⟨m, hm, hm64⟩ := HRi.out _ (nth_mem hkl)
              have hbit := rowE_ibit x hkl (has2 Hx.out) (Bs.accB 8 x.us) 0 (Bs.length_accB _ _)
              rw [hm] at hcu hbit
              rw [Int.toNat_natCast] at hbit
              have Hbit := Lib.hid hbit
              have hlR : 14 + m / 8 < (rowE x (Bs.accB 8 x.us) (Bs.accB 2 (x.is.take k2)) 0).length := by rw [length_rowE x 0 (Bs.length_accB _ _) (Bs.length_accB _ _)]; omega
              have hcg : wv.cell? ⟨w2.heap.size, 14 + m / 8, none⟩ = some (.int .u8 (nth (rowE x (Bs.accB 8 x.us) (Bs.accB 2 (x.is.take k2)) 0) (14 + m / 8))) := (HGk.out.cell _).trans (byteV_at hlR)
              have hfg := HGk.out.frozen (14 + m / 8)
              have hlg := HGk.out.lt
              have hSt := Lib.hid (HGk.out.setByte rfl (14 + m / 8) (bits .or .u8 (nth (rowE x (Bs.accB 8 x.us) (Bs.accB 2 (x.is.take k2)) 0) (14 + m / 8)) (Bs.mk8 (m : Int))))
              generalize nth (rowE x (Bs.accB 8 x.us) (Bs.accB 2 (x.is.take k2)) 0) (14 + m / 8) = old at *
              have hdv : IntKind.i64.wrap ((m : Int) / 8) = (m : Int) / 8 := IntWalk.i64_in _ (by omega)
              have hd6 : IntKind.i64.wrap (14 + (m : Int) / 8) = 14 + (m : Int) / 8 := IntWalk.i64_in _ (by omega)
              have hdm : IntKind.i64.wrap ((m : Int) % 8) = (m : Int) % 8 := IntWalk.i64_in _ (by omega)
              have hix : (14 + (m : Int) / 8).toNat = 14 + m / 8 := by omega
              have him : ((m : Int) % 8).toNat = m % 8 := by omega
              have hm0 : (0 : Int) ≤ (m : Int) % 8 := by omega
              have hi0 : (0 : Int) ≤ 14 + (m : Int) / 8 := by omega
              have hi32 : 14 + (m : Int) / 8 < 32 := by omega
              clear hcc hbit hm hlR
              go_wp2
              go_region
              go_wp2
              go_roundw
              case rel =>
                rw [shl8 m]
                exact ⟨k2 + 1, by omega, by go_num, by unfold Hid; rw [Hbit.out]; exact hSt.out, (HBk.out.setCell (p := ⟨w2.heap.size, 14 + m / 8, none⟩) (Nat.le_refl _) _).drew⟩
              case measure => simp [intOf]; omega
            · obtain rfl : k2 = n2 := by omega
              have hki2 : ¬ (k2 : Int) < (k2 : Int) := by omega
              have hGI : Hid (Bs.BlkIs wv w2.heap.size 5 (Bs.bytesV (rowE x (Bs.accB 8 x.us) (Bs.accB 2 x.is) 0))) := by
                have h := HGk.out
                rw [List.take_of_length_le (Nat.le_of_eq Hn2.out.symm)] at h
                exact h
              have HBi := HBk
              clear HGk HBk
              go_wp2
              go_loopw [7, 8] (fun s i wr => ∃ k : Nat, k ≤ 31 ∧ i = .int .i64 k ∧ s = .int .u8 (sumTo (frontB x) k) ∧ Hid (Bs.BlkIs wr w2.heap.size 5 (Bs.bytesV (rowE x (Bs.accB 8 x.us) (Bs.accB 2 x.is) 0))) ∧ Hid (Below w2.heap.size w2 wr)) (fun _ i _ => 31 - (intOf i).toNat)
              case atStart => exact ⟨0, Nat.zero_le _, rfl, rfl, hGI, HBi.out⟩
              case round =>
                obtain ⟨k3, hk3, rfl, rfl, HGk, HBk⟩ := hrel
                rename World => wx
                have hk30 : (0 : Int) ≤ (k3 : Int) := by omega
                clear r6
                have hlR : ∀ q, q < 32 → q < (rowE x (Bs.accB 8 x.us) (Bs.accB 2 x.is) 0).length := fun q hq => by rw [length_rowE x 0 (Bs.length_accB _ _) (Bs.length_accB _ _)]; exact hq
                by_cases hlt3 : k3 < 31
                · have hki3 : (k3 : Int) < 31 := by omega
                  have hki4 : (k3 : Int) < 32 := by omega
                  have hcg : wx.cell? ⟨w2.heap.size, k3, none⟩ = some (.int .u8 (nth (frontB x) k3)) := by
                    rw [← Hfr.out k3 hlt3]; exact (HGk.out.cell _).trans (byteV_at (hlR _ (by omega)))
                  have HS : Hid (sumTo (frontB x) (k3 + 1) = IntKind.u8.wrap (sumTo (frontB x) k3 + nth (frontB x) k3)) := rfl
                  clear hlR
                  generalize nth (frontB x) k3 = y at *
                  generalize sumTo (frontB x) k3 = s0 at *
                  go_wp2
                  go_roundw
                  case rel => exact ⟨k3 + 1, by omega, by go_num, by rw [HS.out]; rfl, HGk.out, HBk.out⟩
                  case measure => simp [intOf]; omega
                · obtain rfl : k3 = 31 := by omega
                  have hki3 : ¬ ((31 : Nat) : Int) < 31 := by omega
                  have hcg : wx.cell? ⟨w2.heap.size, 31, none⟩ = some (.int .u8 (nth (rowE x (Bs.accB 8 x.us) (Bs.accB 2 x.is) 0) 31)) := (HGk.out.cell _).trans (byteV_at (hlR _ (by omega)))
                  have hfg := HGk.out.frozen 31
                  have hlg := HGk.out.lt
                  have hSt : Hid (Bs.BlkIs (wx.setCell ⟨w2.heap.size, 31, none⟩ (.int .u8 (sumTo (frontB x) 31))) w2.heap.size 5 (Bs.bytesV (bytesL x))) := by
                    have h := HGk.out.set_ 31 (.int .u8 (sumTo (frontB x) 31))
                    rw [← Hfin.out _ rfl, ← rowE_sum x 0 (Bs.length_accB _ _) (Bs.length_accB _ _) (sumTo (frontB x) 31)]
                    unfold Bs.bytesV at h ⊢
                    rw [List.map_set]; exact h
                  have HBe : Hid (Below w.heap.size w (wx.setCell ⟨w2.heap.size, 31, none⟩ (.int .u8 (sumTo (frontB x) 31)))) := HB2.out.trans ((HBk.out.setCell (p := ⟨w2.heap.size, 31, none⟩) (Nat.le_refl _) _).mono HB2.out.size)
                  clear hlR
                  generalize nth (rowE x (Bs.accB 8 x.us) (Bs.accB 2 x.is) 0) 31 = y at *
                  generalize sumTo (frontB x) 31 = s0 at *
                  go_wp2
                  exact HQ.out _ _ (.inl ⟨Hr.out.symm, _, rfl, Nat.le_of_lt hs2, hSt.out, HBe.out⟩)
end Go.Proofs.Ytpcindemkkdbbaa
