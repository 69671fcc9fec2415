/- What stood in a Write goes out of the row: DeleteFunc; Flush. -/
import Derived.Test.YtegacggkdjgdiaaEI
set_option linter.unusedVariables false
set_option linter.unusedSimpArgs false
namespace Go.Proofs.Ytegacggkdjgdiaa
open Go.RowKit

def leftL (l : List Wr) : List Wr := l.filter fun x => !x.wr
theorem leftL_step {l : List Wr} {k : Nat} (hk : k < l.length) : leftL (l.take (k + 1)) = if (wn l k).wr = true then leftL (l.take k) else leftL (l.take k) ++ [wn l k] := by
  unfold leftL
  rw [take_wn hk, List.filter_append]
  by_cases e : (wn l k).wr = true
  · rw [if_pos e]; simp [e]
  · rw [if_neg e]; simp at e; simp [e]
theorem leftL_none {l : List Wr} (h : l.any (fun x => x.wr) = false) : leftL l = l := by
  unfold leftL
  rw [List.filter_eq_self]
  intro x hx
  have := List.any_eq_false.1 h x hx
  simpa using this
theorem wn_drop {l m : List Wr} {j : Nat} (h : m.drop j = l.drop j) (hj : j < l.length) (hm : m.length = l.length) : wn m j = wn l j := by
  rw [wn_lt hj, wn_lt (by omega)]
  have h1 := congrArg (fun z => z[0]?) h
  simp only [List.getElem?_drop, Nat.add_zero] at h1
  rw [List.getElem?_eq_getElem hj, List.getElem?_eq_getElem (by omega)] at h1
  exact Option.some.inj h1

set_option maxRecDepth 100000 in
set_option maxHeartbeats 4000000 in
theorem deletef_any (B : Nat) (A : Option Addr) (c : Nat) (l : List Wr) (w : World) (hR : RowW w B A c l) (hl : l.length ≤ 1000) :
    Calls Try.prog 44 #[.slice A l.length c, .func (.func 45) #[] #[]] w fun e w' => e = .returned (.slice A (leftL l).length c) ∧ RowW w' B A c (leftL l) ∧ Kept w w' (fun b => own A = some b) := by
  have HI := Lib.hid (index_wr B A c l w hR hl)
  have HR := Lib.hid hR
  have hcap := hR.cap
  cases ha : l.any (fun x => x.wr) with
  | false =>
    have Hn := Lib.hid (leftL_none ha)
    have hr : idxF (fun x => x.wr) l = -1 := by unfold idxF; rw [ha]; rfl
    rw [hr] at HI
    clear ha hr hR
    go_enter Try.func44, Try.ntmps44
    go_wp2_with (refine HI.out.mono ?_; rintro e w1 ⟨rfl, hb1⟩; have HB1 := Lib.hid hb1; clear hb1)
    go_ret
    rw [Hn.out]
    exact ⟨rfl, HR.out.fresh HB1.out, Kept.fresh HB1.out⟩
  | true =>
    obtain ⟨f, hf⟩ : ∃ f, f = l.findIdx (fun x => x.wr) := ⟨_, rfl⟩
    have hr : idxF (fun x => x.wr) l = (f : Int) := by unfold idxF; rw [ha, hf]; rfl
    have hfl : f < l.length := by
      rw [hf]
      obtain ⟨x, hx, h⟩ := List.any_eq_true.1 ha
      exact List.findIdx_lt_length_of_exists ⟨x, hx, h⟩
    have hfw : (wn l f).wr = true := by
      have h := List.findIdx_getElem (p := fun x : Wr => x.wr) (xs := l) (w := by rw [← hf]; exact hfl)
      rw [wn_lt hfl]
      simp only [hf] at h ⊢
      exact h
    have hfn : ∀ j, j < f → (wn l j).wr = false := fun j hj => by
      have h := List.not_of_lt_findIdx (p := fun x : Wr => x.wr) (xs := l) (i := j) (by rw [← hf]; exact hj)
      rw [wn_lt (by omega)]
      simpa using h
    have Hf0 : Hid (leftL (l.take (f + 1)) = l.take f) := by
      unfold Hid
      rw [leftL_step hfl, if_pos hfw]
      apply leftL_none
      apply idxF_none
      intro j hj
      rw [List.length_take] at hj
      rw [wn_take (by omega)]
      exact hfn j (by omega)
    rw [hr] at HI
    obtain ⟨ab, hA, h3, h4, hb, _, _⟩ := hR.at_ hfl
    have hown := hR.row
    subst hA
    have HO := Lib.hid hown
    have hbB : B ≤ ab := (hR.lt ab rfl).1
    obtain ⟨nn, hnn⟩ : ∃ nn, nn = l.length := ⟨_, rfl⟩
    have Hnn := Lib.hid hnn
    rw [← hnn] at hl h3 hfl HI HO hcap ⊢
    obtain ⟨i0, hi0, hz0, hz1, hz2⟩ := info_parts infoW
    have hcm : c ≤ 9223372036854775807 := by unfold maxLen at h4; omega
    clear ha hf hr hfw hfn hR hown hnn h4
    have hcap0 := hcap.1
    clear hcap
    have hf0 : (0 : Int) ≤ (f : Int) := by omega
    have hfne : ¬ (f : Int) = -1 := by omega
    go_enter Try.func44, Try.ntmps44
    go_wp2_with (refine HI.out.mono ?_; rintro e w1 ⟨rfl, hb1⟩; have HB1 := Lib.hid hb1; clear hb1)
    clear hfne
    have hfe : ((f : Int) == -1) = false := by rw [beq_eq_false_iff_ne]; omega
    rw [hfe]
    clear hfe
    go_loopw [5, 6] (fun p q wr => ∃ (i j : Nat) (m : List Wr), p = .int .i64 i ∧ q = .int .i64 j ∧ i < j ∧ j ≤ nn ∧ m.length = nn ∧ Hid (wr.ownsRow B 90 6 (.slice (some ⟨ab, 0, none⟩) nn c) nn (flatW m)) ∧ Hid (m.take i = leftL (l.take j)) ∧ Hid (m.drop j = l.drop j) ∧ Hid (Kept w wr (fun b => own (some (⟨ab, 0, none⟩ : Addr)) = some b))) (fun _ q _ => nn - (intOf q).toNat)
    case atStart => exact ⟨f, f + 1, l, rfl, by simp, by omega, by omega, Hnn.out.symm, (Kept.fresh (S := fun _ => False) HB1.out).row HO.out (fun _ _ q => q), Hf0.out.symm, rfl, Kept.fresh HB1.out⟩
    case round =>
      obtain ⟨i, j, m, rfl, rfl, hij, hj, hml, hrow, hpre, hsuf, hK⟩ := hrel
      rename World => wr
      have Hml := Lib.hid hml
      by_cases hlt : j < nn
      · have hlti : (j : Int) < (nn : Int) := by omega
        have hj0 : (0 : Int) ≤ (j : Int) := by omega
        have hi1 : (i : Int) < (nn : Int) := by omega
        have hi2 : (0 : Int) ≤ (i : Int) := by omega
        have hjl : j < l.length := by rw [← Hnn.out]; exact hlt
        have hbr : ab < wr.heap.size := (hrow.out.lt ab rfl).2
        have hcs : ∀ x, x < 6 → wr.cell? ⟨ab, j * 6 + x, none⟩ = (wn l j).cs[x]? := fun x hx => by
          rw [hrow.out.cellAt (j * 6 + x) (by omega), flatW_get (by rw [Hml.out]; exact hlt) hx, wn_drop hsuf.out hjl (by rw [Hml.out, Hnn.out])]
        have hth : wr.there ab (i * 6) 6 := fun x hx => by
          refine ⟨?_, hrow.out.frozenAt _⟩
          rw [hrow.out.cellAt (i * 6 + x) (by omega), flatW_get (by rw [Hml.out]; omega) hx]
          have : x < (wn m i).cs.length := by rw [length_cs]; exact hx
          rw [List.getElem?_eq_getElem this]; rfl
        have HT := Lib.hid hth
        have c0 := hcs 0 (by omega)
        have c1 := hcs 1 (by omega)
        have c2 := hcs 2 (by omega)
        have c3 := hcs 3 (by omega)
        have c4 := hcs 4 (by omega)
        have c5 := hcs 5 (by omega)
        have HE := Lib.hid (fun W => written_any (wn l j) W)
        have Hst := Lib.hid (leftL_step hjl)
        clear hcs hth hml
        cases ht : (wn l j).wr with
        | true =>
          rw [ht] at HE
          have Hp2 : Hid (leftL (l.take (j + 1)) = leftL (l.take j)) := by unfold Hid; rw [Hst.out, if_pos ht]
          have Hs2 : Hid (m.drop (j + 1) = l.drop (j + 1)) := by
            have := congrArg (List.drop 1) hsuf.out
            simp [List.drop_drop, Nat.add_comm] at this ⊢
            exact this
          clear ht Hst
          generalize wn l j = x at c0 c1 c2 c3 c4 c5 HE
          obtain ⟨num, ⟨b, o, s⟩, ah, a4, cc, fl⟩ := x
          unfold Wr.v Wr.cs at HE
          simp [Wr.cs] at c0 c1 c2 c3 c4 c5
          generalize ah.length = an at *
          go_wp2_with (refine (HE.out _).mono ?_; rintro e w2 ⟨rfl, hb2⟩; have HB2 : Hid (Below wr.heap.size wr w2) := ((Below.refl _ _).alloc (Nat.le_refl _) _).trans (hb2.mono (by simp)); clear hb2)
          go_roundw
          case rel => exact ⟨i, j + 1, m, rfl, by go_num, by omega, by omega, Hml.out, (Kept.fresh (S := fun _ => False) HB2.out).row hrow.out (fun _ _ q => q), by unfold Hid; rw [Hp2.out]; exact hpre.out, Hs2.out, hK.out.trans (Kept.fresh (S := fun b => own (some (⟨ab, 0, none⟩ : Addr)) = some b) HB2.out) (fun b q => .inl q)⟩
          case measure => simp [intOf]; omega
        | false =>
          rw [ht] at HE
          obtain ⟨x, hx⟩ : ∃ x, x = wn l j := ⟨_, rfl⟩
          have Hp2 : Hid ((m.set i x).take (i + 1) = leftL (l.take (j + 1))) := by
            unfold Hid
            rw [Hst.out, if_neg (by rw [ht]; decide), ← hx, List.take_succ_eq_append_getElem (by rw [List.length_set, Hml.out]; omega), List.getElem_set_self, List.take_set_of_le (Nat.le_refl _), hpre.out]
          have Hs2 : Hid ((m.set i x).drop (j + 1) = l.drop (j + 1)) := by
            unfold Hid
            rw [List.drop_set_of_lt (by omega)]
            have := congrArg (List.drop 1) hsuf.out
            simpa [List.drop_drop, Nat.add_comm] using this
          have Hput : Hid (setV (flatW m) (i * 6) x.cs = flatW (m.set i x)) := flatW_put (by rw [Hml.out]; omega) x
          have hone : Hid (x.cs.toArray.all (·.oneCell') = true) := all_oneCell_toArray (cs_one x)
          rw [← hx] at c0 c1 c2 c3 c4 c5 HE
          clear ht Hst hx
          obtain ⟨num, ⟨b, o, s⟩, ah, a4, cc, fl⟩ := x
          unfold Wr.v Wr.cs at HE
          unfold Wr.cs at hone
          have HX : Hid ((Wr.mk num ⟨b, o, s⟩ ah a4 cc fl).cs = [.int .i64 num, .int .i64 b, .int .i64 o, .string s, .slice a4 ah.length cc, .bool fl]) := rfl
          rw [HX.out] at Hput
          simp [Wr.cs] at c0 c1 c2 c3 c4 c5
          obtain ⟨y, hy⟩ : ∃ y, y = Wr.mk num ⟨b, o, s⟩ ah a4 cc fl := ⟨_, rfl⟩
          rw [← hy] at Hp2 Hs2 Hput
          clear hy HX
          dsimp only at hone
          generalize ah.length = an at *
          go_wp2_with (first
            | (refine (HE.out _).mono ?_; rintro e w2 ⟨rfl, hb2⟩; have HB2 : Hid (Below wr.heap.size wr w2) := ((Below.refl _ _).alloc (Nat.le_refl _) _).trans (hb2.mono (by simp)); have hbx := hb2.block wr.heap.size (by simp); rw [heap_alloc_new] at hbx; have d0 := cell_of_row w2 _ 0 _ 90 (0, 0) hbx; have d1 := cell_of_row w2 _ 1 _ 90 (0, 0) hbx; have d2 := cell_of_row w2 _ 2 _ 90 (0, 0) hbx; have d3 := cell_of_row w2 _ 3 _ 90 (0, 0) hbx; have d4 := cell_of_row w2 _ 4 _ 90 (0, 0) hbx; have d5 := cell_of_row w2 _ 5 _ 90 (0, 0) hbx; simp at d0 d1 d2 d3 d4 d5; clear hbx hb2)
            | (refine wpList_store_mid rfl 90 (.tmp 33) (.tmp 32) rfl ab (i * 6) #[.int .i64 num, .int .i64 b, .int .i64 o, .string s, .slice a4 an cc, .bool fl] rfl rfl (fun z hz => by have := HT.out z hz; exact ⟨by rw [HB2.out.cell (p := ⟨ab, i * 6 + z, none⟩) hbr]; exact this.1, by rw [HB2.out.frozen (p := ⟨ab, i * 6 + z, none⟩) hbr]; exact this.2⟩) (by rw [hi0]; simp [hz1]) hone.out ?_; have hsc := own_setCells [.int .i64 num, .int .i64 b, .int .i64 o, .string s, .slice a4 an cc, .bool fl] (i * 6) (flatW m) w2 ((Kept.fresh (S := fun _ => False) HB2.out).row hrow.out (fun _ _ q => q)); have HSC := Lib.hid hsc; clear hsc; generalize w2.setCells ab (i * 6) _ = w3 at HSC))
          go_roundw
          case rel => exact ⟨i + 1, j + 1, m.set i y, by go_num, by go_num, by omega, by omega, by rw [List.length_set]; exact Hml.out, by have := HSC.out.1; rw [Hput.out] at this; exact this, Hp2.out, Hs2.out, (hK.out.trans (Kept.fresh (S := fun b => own (some (⟨ab, 0, none⟩ : Addr)) = some b) HB2.out) (fun b q => .inl q)).trans (Kept.grown (S := fun b => own (some (⟨ab, 0, none⟩ : Addr)) = some b) HSC.out.2 (fun k e => .inl e)) (fun b q => .inl q)⟩
          case measure => simp [intOf]; omega
      · obtain rfl : j = nn := by omega
        have hlti : ¬ (j : Int) < (j : Int) := by omega
        have hi1 : (i : Int) < (j : Int) := by omega
        have hi2 : (0 : Int) ≤ (i : Int) := by omega
        have Hpr : Hid (m.take i = leftL l) := by unfold Hid; rw [hpre.out, Hnn.out, List.take_length]
        have hlen : Hid ((leftL l).length = i) := by unfold Hid; rw [← Hpr.out, List.length_take, Hml.out]; omega
        have hpo := own_take hrow.out (show i ≤ j by omega)
        rw [flatW_take, Hpr.out] at hpo
        have HPO := Lib.hid hpo
        have hic : i ≤ c := by omega
        have hin : i ≤ j := by omega
        have hne : (c = i) = False := by simp; omega
        obtain ⟨d, hd⟩ : ∃ d, j - i = d + 1 := ⟨j - i - 1, by omega⟩
        have Hd := Lib.hid hd
        clear hpo hd hml hpre hsuf
        go_wp2_with (refine wpList_clear_own rfl (.tmp 38) 70 rfl B 90 i0 zeroH 6 Try.underlying70 hi0 hz0 rfl zeroH_one ab i c d (c - i) (i * 6) (flatW (leftL l)) ?hev HPO.out (by have := Hd.out; omega) rfl ?_; (case hev => simp [Act.eval, Hd.out]); intro w2 how2 hgr2; have How2 := Lib.hid how2; have Hgr2 := Lib.hid hgr2; clear how2 hgr2)
        go_ret
        have k2 : Kept w w2 (fun b => own (some (⟨ab, 0, none⟩ : Addr)) = some b) := hK.out.trans (Kept.grown (S := fun b => own (some (⟨ab, 0, none⟩ : Addr)) = some b) Hgr2.out (fun k e => .inl e)) (fun b q => .inl q)
        rw [hlen.out]
        exact ⟨rfl, ⟨by rw [hlen.out]; exact How2.out, fun x hx => (HR.out.ah x ((List.mem_filter.1 hx).1)).keep k2 HR.out.ni⟩, k2⟩
end Go.Proofs.Ytegacggkdjgdiaa
