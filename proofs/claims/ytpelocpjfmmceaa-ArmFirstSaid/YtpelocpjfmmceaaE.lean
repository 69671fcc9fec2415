/- Rows of requests and of numbers, thinned: DeleteFunc. -/
import Derived.Test.YtpelocpjfmmceaaD
import Derived.Deep.MidRow
import Derived.Great.BuildSlice
set_option linter.unusedVariables false
set_option linter.unusedSimpArgs false
namespace Go.Proofs.Ytpelocpjfmmceaa
open Go.RowKit


set_option maxRecDepth 100000 in
set_option maxHeartbeats 4000000 in
theorem delete_forget (B : Nat) (A : Option Addr) (c : Nat) (l : List Rq) (cb : Nat) (f : Rq → Bool) (w : World) (hR : RowQ 74 w B A c l) (hl : l.length ≤ 1000)
    (hF : ∀ (r : Rq) W, Kept w W (fun b => own A = some b) → Calls Try.prog 64 #[r.v, .pointer (some ⟨cb, 0, none⟩)] W fun e w' => e = .returned (.bool (f r)) ∧ Below W.heap.size W w') :
    Calls Try.prog 63 #[.slice A l.length c, .func (.func 64) #[] #[.pointer (some ⟨cb, 0, none⟩)]] w fun e w' => e = .returned (.slice A (l.filter (fun r => !f r)).length c) ∧ RowQ 74 w' B A c (l.filter (fun r => !f r)) ∧ Kept w w' (fun b => own A = some b) := by
  have HI := Lib.hid (index_forget B A c l cb f w hR hl (fun r W hW => hF r W (Kept.fresh hW)))
  have HR := Lib.hid hR
  have HF := Lib.hid hF
  have hcap := own_cap hR
  clear hF
  cases ha : l.any f with
  | false =>
    have Hn : Hid (l.filter (fun r => !f r) = l) := by
      unfold Hid
      rw [List.filter_eq_self]
      intro x hx
      have := List.any_eq_false.1 ha x hx
      simpa using this
    have hr : idxF f l = -1 := by unfold idxF; rw [ha]; rfl
    rw [hr] at HI
    clear ha hr hR hcap
    go_enter Try.func63, Try.ntmps63
    go_wp2_with (refine HI.out.mono ?_; rintro e w1 ⟨rfl, hb1⟩; have HB1 := Lib.hid hb1; clear hb1)
    go_ret
    rw [Hn.out]
    exact ⟨rfl, (show RowQ 74 w B A c l from HR.out).fresh HB1.out, Kept.fresh HB1.out⟩
  | true =>
    obtain ⟨ff, hf⟩ : ∃ ff, ff = l.findIdx f := ⟨_, rfl⟩
    have hr : idxF f l = (ff : Int) := by unfold idxF; rw [ha, hf]; rfl
    have hfl : ff < l.length := by rw [hf]; exact find_of_any ha
    have hfw : f (rn l ff) = true := by
      have h := List.findIdx_getElem (p := f) (xs := l) (w := by rw [← hf]; exact hfl)
      rw [rn_lt hfl]
      simp only [hf] at h ⊢
      exact h
    have hfn : ∀ j, j < ff → f (rn l j) = false := fun j hj => by
      have h := List.not_of_lt_findIdx (p := f) (xs := l) (i := j) (by rw [← hf]; exact hj)
      rw [rn_lt (by omega)]
      simpa using h
    have Hf0 : Hid ((l.take (ff + 1)).filter (fun r => !f r) = l.take ff) := by
      unfold Hid
      rw [take_rn hfl, List.filter_append, List.filter_cons, if_neg (by rw [hfw]; decide), List.filter_nil, List.append_nil, List.filter_eq_self]
      intro x hx
      obtain ⟨j, hj, rfl⟩ := mem_rn hx
      rw [List.length_take] at hj
      rw [rn_take (by omega), hfn j (by omega)]; rfl
    rw [hr] at HI
    have hown := hR
    obtain ⟨ab, hA, hb, hbB⟩ : ∃ ab, A = some ⟨ab, 0, none⟩ ∧ ab < w.heap.size ∧ B ≤ ab := by
      obtain ⟨b, cap, q, hB, hb⟩ := hR.form (by omega)
      exact ⟨b, (Value.slice.inj q).1, by assumption, by assumption⟩
    subst hA
    have HO : Hid (w.ownsRow B 74 2 (.slice (some ⟨ab, 0, none⟩) l.length c) l.length (flatQ l)) := Lib.hid hown
    obtain ⟨nn, hnn⟩ : ∃ nn, nn = l.length := ⟨_, rfl⟩
    have Hnn := Lib.hid hnn
    rw [← hnn] at hl hfl HI HO hcap ⊢
    obtain ⟨i0, hi0, hz0, hz1, hz2⟩ := info_parts infoQ
    have hcm : c ≤ 9223372036854775807 := by have := hcap.2; unfold maxLen at this; omega
    clear ha hf hr hfw hfn hR hown hnn
    have hcap0 := hcap.1
    clear hcap
    have hf0 : (0 : Int) ≤ (ff : Int) := by omega
    go_enter Try.func63, Try.ntmps63
    go_wp2_with (refine HI.out.mono ?_; rintro e w1 ⟨rfl, hb1⟩; have HB1 := Lib.hid hb1; clear hb1)
    have hfe : ((ff : Int) == -1) = false := by rw [beq_eq_false_iff_ne]; omega
    rw [hfe]
    clear hfe
    go_loopw [5, 6] (fun p q wr => ∃ (i j : Nat) (m : List Rq), p = .int .i64 i ∧ q = .int .i64 j ∧ i < j ∧ j ≤ nn ∧ m.length = nn ∧ Hid (wr.ownsRow B 74 2 (.slice (some ⟨ab, 0, none⟩) nn c) nn (flatQ m)) ∧ Hid (m.take i = (l.take j).filter (fun r => !f r)) ∧ Hid (m.drop j = l.drop j) ∧ Hid (Kept w wr (fun b => own (some (⟨ab, 0, none⟩ : Addr)) = some b))) (fun _ q _ => nn - (intOf q).toNat)
    case atStart => exact ⟨ff, ff + 1, l, rfl, by simp, by omega, by omega, Hnn.out.symm, (Kept.fresh (S := fun _ => False) HB1.out).row HO.out (fun _ _ q => q), Hf0.out.symm, rfl, Kept.fresh HB1.out⟩
    case round =>
      obtain ⟨i, j, m, rfl, rfl, hij, hj, hml, hrow, hpre, hsuf, hK⟩ := hrel
      rename World => wr
      have Hml := Lib.hid hml
      by_cases hlt : j < nn
      · have hlti : (j : Int) < (nn : Int) := by omega
        have hj0 : (0 : Int) ≤ (j : Int) := by omega
        have hi1 : (i : Int) < (nn : Int) := by omega
        have hi2 : (0 : Int) ≤ (i : Int) := by omega
        have hjl : j < l.length := by rw [← Hnn.out]; exact hlt
        have hbr : ab < wr.heap.size := (hrow.out.lt ab rfl).2
        have hcs : ∀ x, x < 2 → wr.cell? ⟨ab, j * 2 + x, none⟩ = (rn l j).cs[x]? := fun x hx => by
          rw [hrow.out.cellAt (j * 2 + x) (by omega), flatQ_get (by rw [Hml.out]; exact hlt) hx, rn_drop hsuf.out hjl (by rw [Hml.out, Hnn.out])]
        have hth : wr.there ab (i * 2) 2 := fun x hx => by
          refine ⟨?_, hrow.out.frozenAt _⟩
          rw [hrow.out.cellAt (i * 2 + x) (by omega), flatQ_get (by rw [Hml.out]; omega) hx]
          have : x < (rn m i).cs.length := by rw [length_cs]; exact hx
          rw [List.getElem?_eq_getElem this]; rfl
        have HT := Lib.hid hth
        have c0 := hcs 0 (by omega)
        have c1 := hcs 1 (by omega)
        have HE := Lib.hid (fun W => HF.out (rn l j) W)
        have Hst := Lib.hid (show (l.take (j + 1)).filter (fun r => !f r) = if (!f (rn l j)) = true then (l.take j).filter (fun r => !f r) ++ [rn l j] else (l.take j).filter (fun r => !f r) from filter_step (fun r => !f r) _ hjl)
        clear hcs hth hml
        cases ht : f (rn l j) with
        | true =>
          rw [ht] at HE
          have Hp2 : Hid ((l.take (j + 1)).filter (fun r => !f r) = (l.take j).filter (fun r => !f r)) := by unfold Hid; rw [Hst.out, ht]; rfl
          have Hs2 : Hid (m.drop (j + 1) = l.drop (j + 1)) := by
            have := congrArg (List.drop 1) hsuf.out
            simp [List.drop_drop, Nat.add_comm] at this ⊢
            exact this
          clear ht Hst
          generalize rn l j = x at c0 c1 HE
          obtain ⟨xb, xa⟩ := x
          unfold Rq.v at HE
          simp [Rq.cs] at c0 c1
          go_wp2_with ((refine (HE.out _ ?_).mono ?_; · exact hK.out.trans (Kept.fresh (S := fun b => own (some (⟨ab, 0, none⟩ : Addr)) = some b) ((Below.refl _ _).alloc (Nat.le_refl _) _)) (fun b q => .inl q)); rintro e w2 ⟨rfl, hb2⟩; have HB2 : Hid (Below wr.heap.size wr w2) := ((Below.refl _ _).alloc (Nat.le_refl _) _).trans (hb2.mono (by simp)); clear hb2)
          go_roundw
          case rel => exact ⟨i, j + 1, m, rfl, by go_num, by omega, by omega, Hml.out, (Kept.fresh (S := fun _ => False) HB2.out).row hrow.out (fun _ _ q => q), by unfold Hid; rw [Hp2.out]; exact hpre.out, Hs2.out, hK.out.trans (Kept.fresh (S := fun b => own (some (⟨ab, 0, none⟩ : Addr)) = some b) HB2.out) (fun b q => .inl q)⟩
          case measure => simp [intOf]; omega
        | false =>
          rw [ht] at HE
          obtain ⟨x, hx⟩ : ∃ x, x = rn l j := ⟨_, rfl⟩
          have Hp2 : Hid ((m.set i x).take (i + 1) = (l.take (j + 1)).filter (fun r => !f r)) := by
            unfold Hid
            rw [Hst.out, if_pos (by rw [ht]; rfl), ← hx, List.take_succ_eq_append_getElem (by rw [List.length_set, Hml.out]; omega), List.getElem_set_self, List.take_set_of_le (Nat.le_refl _), hpre.out]
          have Hs2 : Hid ((m.set i x).drop (j + 1) = l.drop (j + 1)) := by
            unfold Hid
            rw [List.drop_set_of_lt (by omega)]
            have := congrArg (List.drop 1) hsuf.out
            simpa [List.drop_drop, Nat.add_comm] using this
          have Hput : Hid (setV (flatQ m) (i * 2) x.cs = flatQ (m.set i x)) := flatQ_put (by rw [Hml.out]; omega) x
          have hone : Hid (x.cs.toArray.all (·.oneCell') = true) := all_oneCell_toArray (cs_one x)
          rw [← hx] at c0 c1 HE
          clear ht Hst hx
          obtain ⟨xb, xa⟩ := x
          unfold Rq.v at HE
          unfold Rq.cs at hone
          have HX : Hid ((Rq.mk xb xa).cs = [.int .i64 xb, .int .i64 xa]) := rfl
          rw [HX.out] at Hput
          simp [Rq.cs] at c0 c1
          obtain ⟨y, hy⟩ : ∃ y, y = Rq.mk xb xa := ⟨_, rfl⟩
          rw [← hy] at Hp2 Hs2 Hput
          clear hy HX
          dsimp only at hone
          go_wp2_with (first
            | ((refine (HE.out _ ?_).mono ?_; · exact hK.out.trans (Kept.fresh (S := fun b => own (some (⟨ab, 0, none⟩ : Addr)) = some b) ((Below.refl _ _).alloc (Nat.le_refl _) _)) (fun b q => .inl q)); rintro e w2 ⟨rfl, hb2⟩; have HB2 : Hid (Below wr.heap.size wr w2) := ((Below.refl _ _).alloc (Nat.le_refl _) _).trans (hb2.mono (by simp)); have hbx := hb2.block wr.heap.size (by simp); rw [heap_alloc_new] at hbx; have d0 := cell_of_row w2 _ 0 _ 74 (0, 0) hbx; have d1 := cell_of_row w2 _ 1 _ 74 (0, 0) hbx; simp at d0 d1; clear hbx hb2)
            | (refine wpList_store_mid rfl 74 (.tmp 33) (.tmp 32) rfl ab (i * 2) #[.int .i64 xb, .int .i64 xa] rfl rfl (fun z hz => by have := HT.out z hz; exact ⟨by rw [HB2.out.cell (p := ⟨ab, i * 2 + z, none⟩) hbr]; exact this.1, by rw [HB2.out.frozen (p := ⟨ab, i * 2 + z, none⟩) hbr]; exact this.2⟩) (by rw [hi0]; simp [hz1]) hone.out ?_; have hsc := own_setCells [.int .i64 xb, .int .i64 xa] (i * 2) (flatQ m) w2 ((Kept.fresh (S := fun _ => False) HB2.out).row hrow.out (fun _ _ q => q)); have HSC := Lib.hid hsc; clear hsc; generalize w2.setCells ab (i * 2) _ = w3 at HSC))
          go_roundw
          case rel => exact ⟨i + 1, j + 1, m.set i y, by go_num, by go_num, by omega, by omega, by rw [List.length_set]; exact Hml.out, by have := HSC.out.1; rw [Hput.out] at this; exact this, Hp2.out, Hs2.out, (hK.out.trans (Kept.fresh (S := fun b => own (some (⟨ab, 0, none⟩ : Addr)) = some b) HB2.out) (fun b q => .inl q)).trans (Kept.grown (S := fun b => own (some (⟨ab, 0, none⟩ : Addr)) = some b) HSC.out.2 (fun k e => .inl e)) (fun b q => .inl q)⟩
          case measure => simp [intOf]; omega
      · obtain rfl : j = nn := by omega
        have hlti : ¬ (j : Int) < (j : Int) := by omega
        have hi1 : (i : Int) < (j : Int) := by omega
        have hi2 : (0 : Int) ≤ (i : Int) := by omega
        have Hpr : Hid (m.take i = l.filter (fun r => !f r)) := by unfold Hid; rw [hpre.out, Hnn.out, List.take_length]
        have hlen : Hid ((l.filter (fun r => !f r)).length = i) := by unfold Hid; rw [← Hpr.out, List.length_take, Hml.out]; omega
        have hpo := own_take hrow.out (show i ≤ j by omega)
        rw [flatQ_take, Hpr.out] at hpo
        have HPO := Lib.hid hpo
        have hic : i ≤ c := by omega
        have hin : i ≤ j := by omega
        have hne : (c = i) = False := by simp; omega
        obtain ⟨d, hd⟩ : ∃ d, j - i = d + 1 := ⟨j - i - 1, by omega⟩
        have Hd := Lib.hid hd
        clear hpo hd hml hpre hsuf
        go_wp2_with (refine wpList_clear_own rfl (.tmp 38) 65 rfl B 74 i0 zeroQ 2 Try.underlying65 hi0 hz0 rfl zeroQ_one ab i c d (c - i) (i * 2) (flatQ (l.filter (fun r => !f r))) ?hev HPO.out (by have := Hd.out; omega) (by omega) ?_; (case hev => simp [Act.eval, Hd.out]); intro w2 how2 hgr2; have How2 := Lib.hid how2; have Hgr2 := Lib.hid hgr2; clear how2 hgr2)
        go_ret
        have k2 : Kept w w2 (fun b => own (some (⟨ab, 0, none⟩ : Addr)) = some b) := hK.out.trans (Kept.grown (S := fun b => own (some (⟨ab, 0, none⟩ : Addr)) = some b) Hgr2.out (fun k e => .inl e)) (fun b q => .inl q)
        rw [hlen.out]
        exact ⟨rfl, (by have := How2.out; unfold RowQ; rw [hlen.out]; exact this), k2⟩

set_option maxRecDepth 100000 in
set_option maxHeartbeats 4000000 in
theorem delete_side (B : Nat) (A : Option Addr) (c : Nat) (l : List Int) (cb : Nat) (f : Int → Bool) (w : World) (hR : RowI w B A c l) (hl : l.length ≤ 1000)
    (hF : ∀ (r : Int) W, Kept w W (fun b => own A = some b) → Calls Try.prog 92 #[.int .i64 r, .pointer (some ⟨cb, 0, none⟩)] W fun e w' => e = .returned (.bool (f r)) ∧ Below W.heap.size W w') :
    Calls Try.prog 91 #[.slice A l.length c, .func (.func 92) #[] #[.pointer (some ⟨cb, 0, none⟩)]] w fun e w' => e = .returned (.slice A (l.filter (fun r => !f r)).length c) ∧ RowI w' B A c (l.filter (fun r => !f r)) ∧ Kept w w' (fun b => own A = some b) := by
  have HI := Lib.hid (index_side B A c l cb f w hR hl (fun r W hW => hF r W (Kept.fresh hW)))
  have HR := Lib.hid hR
  have HF := Lib.hid hF
  have hcap := own_cap hR
  clear hF
  cases ha : l.any f with
  | false =>
    have Hn : Hid (l.filter (fun r => !f r) = l) := by
      unfold Hid
      rw [List.filter_eq_self]
      intro x hx
      have := List.any_eq_false.1 ha x hx
      simpa using this
    have hr : idxF f l = -1 := by unfold idxF; rw [ha]; rfl
    rw [hr] at HI
    clear ha hr hR hcap
    go_enter Try.func91, Try.ntmps91
    go_wp2_with (refine HI.out.mono ?_; rintro e w1 ⟨rfl, hb1⟩; have HB1 := Lib.hid hb1; clear hb1)
    go_ret
    rw [Hn.out]
    exact ⟨rfl, (show RowI w B A c l from HR.out).fresh HB1.out, Kept.fresh HB1.out⟩
  | true =>
    obtain ⟨ff, hf⟩ : ∃ ff, ff = l.findIdx f := ⟨_, rfl⟩
    have hr : idxF f l = (ff : Int) := by unfold idxF; rw [ha, hf]; rfl
    have hfl : ff < l.length := by rw [hf]; exact find_of_any ha
    have hfw : f (inn l ff) = true := by
      have h := List.findIdx_getElem (p := f) (xs := l) (w := by rw [← hf]; exact hfl)
      rw [inn_lt hfl]
      simp only [hf] at h ⊢
      exact h
    have hfn : ∀ j, j < ff → f (inn l j) = false := fun j hj => by
      have h := List.not_of_lt_findIdx (p := f) (xs := l) (i := j) (by rw [← hf]; exact hj)
      rw [inn_lt (by omega)]
      simpa using h
    have Hf0 : Hid ((l.take (ff + 1)).filter (fun r => !f r) = l.take ff) := by
      unfold Hid
      rw [take_inn hfl, List.filter_append, List.filter_cons, if_neg (by rw [hfw]; decide), List.filter_nil, List.append_nil, List.filter_eq_self]
      intro x hx
      obtain ⟨j, hj, rfl⟩ := mem_inn hx
      rw [List.length_take] at hj
      rw [inn_take (by omega), hfn j (by omega)]; rfl
    rw [hr] at HI
    have hown := hR
    obtain ⟨ab, hA, hb, hbB⟩ : ∃ ab, A = some ⟨ab, 0, none⟩ ∧ ab < w.heap.size ∧ B ≤ ab := by
      obtain ⟨b, cap, q, hB, hb⟩ := hR.form (by omega)
      exact ⟨b, (Value.slice.inj q).1, by assumption, by assumption⟩
    subst hA
    have HO : Hid (w.ownsRow B 3 1 (.slice (some ⟨ab, 0, none⟩) l.length c) l.length (intsV l)) := Lib.hid hown
    obtain ⟨nn, hnn⟩ : ∃ nn, nn = l.length := ⟨_, rfl⟩
    have Hnn := Lib.hid hnn
    rw [← hnn] at hl hfl HI HO hcap ⊢
    obtain ⟨i0, hi0, hz0, hz1, hz2⟩ := info_parts infoI
    have hcm : c ≤ 9223372036854775807 := by have := hcap.2; unfold maxLen at this; omega
    clear ha hf hr hfw hfn hR hown hnn
    have hcap0 := hcap.1
    clear hcap
    have hf0 : (0 : Int) ≤ (ff : Int) := by omega
    go_enter Try.func91, Try.ntmps91
    go_wp2_with (refine HI.out.mono ?_; rintro e w1 ⟨rfl, hb1⟩; have HB1 := Lib.hid hb1; clear hb1)
    have hfe : ((ff : Int) == -1) = false := by rw [beq_eq_false_iff_ne]; omega
    rw [hfe]
    clear hfe
    go_loopw [5, 6] (fun p q wr => ∃ (i j : Nat) (m : List Int), p = .int .i64 i ∧ q = .int .i64 j ∧ i < j ∧ j ≤ nn ∧ m.length = nn ∧ Hid (wr.ownsRow B 3 1 (.slice (some ⟨ab, 0, none⟩) nn c) nn (intsV m)) ∧ Hid (m.take i = (l.take j).filter (fun r => !f r)) ∧ Hid (m.drop j = l.drop j) ∧ Hid (Kept w wr (fun b => own (some (⟨ab, 0, none⟩ : Addr)) = some b))) (fun _ q _ => nn - (intOf q).toNat)
    case atStart => exact ⟨ff, ff + 1, l, rfl, by simp, by omega, by omega, Hnn.out.symm, (Kept.fresh (S := fun _ => False) HB1.out).row HO.out (fun _ _ q => q), Hf0.out.symm, rfl, Kept.fresh HB1.out⟩
    case round =>
      obtain ⟨i, j, m, rfl, rfl, hij, hj, hml, hrow, hpre, hsuf, hK⟩ := hrel
      rename World => wr
      have Hml := Lib.hid hml
      by_cases hlt : j < nn
      · have hlti : (j : Int) < (nn : Int) := by omega
        have hj0 : (0 : Int) ≤ (j : Int) := by omega
        have hi1 : (i : Int) < (nn : Int) := by omega
        have hi2 : (0 : Int) ≤ (i : Int) := by omega
        have hjl : j < l.length := by rw [← Hnn.out]; exact hlt
        have hbr : ab < wr.heap.size := (hrow.out.lt ab rfl).2
        have c0 : wr.cell? ⟨ab, j, none⟩ = some (.int .i64 (inn l j)) := by
          rw [hrow.out.cellAt j (by omega), intsV_at (by rw [Hml.out]; exact hlt), inn_drop hsuf.out hjl (by rw [Hml.out, Hnn.out])]
        have d0 : wr.cell? ⟨ab, i, none⟩ = some (.int .i64 (inn m i)) := by
          rw [hrow.out.cellAt i (by omega), intsV_at (by rw [Hml.out]; omega)]
        have f0 : wr.frozen? ⟨ab, i, none⟩ = false := hrow.out.frozenAt _
        have HE := Lib.hid (fun W => HF.out (inn l j) W)
        have Hst := Lib.hid (show (l.take (j + 1)).filter (fun r => !f r) = if (!f (inn l j)) = true then (l.take j).filter (fun r => !f r) ++ [inn l j] else (l.take j).filter (fun r => !f r) from filter_step (fun r => !f r) _ hjl)
        clear hml
        cases ht : f (inn l j) with
        | true =>
          rw [ht] at HE
          have Hp2 : Hid ((l.take (j + 1)).filter (fun r => !f r) = (l.take j).filter (fun r => !f r)) := by unfold Hid; rw [Hst.out, ht]; rfl
          have Hs2 : Hid (m.drop (j + 1) = l.drop (j + 1)) := by
            have := congrArg (List.drop 1) hsuf.out
            simp [List.drop_drop, Nat.add_comm] at this ⊢
            exact this
          clear ht Hst
          generalize inn l j = x at c0 HE
          go_wp2_with ((refine (HE.out _ hK.out).mono ?_); rintro e w2 ⟨rfl, hb2⟩; have HB2 := Lib.hid hb2; clear hb2)
          go_roundw
          case rel => exact ⟨i, j + 1, m, rfl, by go_num, by omega, by omega, Hml.out, (Kept.fresh (S := fun _ => False) HB2.out).row hrow.out (fun _ _ q => q), by unfold Hid; rw [Hp2.out]; exact hpre.out, Hs2.out, hK.out.trans (Kept.fresh (S := fun b => own (some (⟨ab, 0, none⟩ : Addr)) = some b) HB2.out) (fun b q => .inl q)⟩
          case measure => simp [intOf]; omega
        | false =>
          rw [ht] at HE
          obtain ⟨x, hx⟩ : ∃ x, x = inn l j := ⟨_, rfl⟩
          have Hp2 : Hid ((m.set i x).take (i + 1) = (l.take (j + 1)).filter (fun r => !f r)) := by
            unfold Hid
            rw [Hst.out, if_pos (by rw [ht]; rfl), ← hx, List.take_succ_eq_append_getElem (by rw [List.length_set, Hml.out]; omega), List.getElem_set_self, List.take_set_of_le (Nat.le_refl _), hpre.out]
          have Hs2 : Hid ((m.set i x).drop (j + 1) = l.drop (j + 1)) := by
            unfold Hid
            rw [List.drop_set_of_lt (by omega)]
            have := congrArg (List.drop 1) hsuf.out
            simpa [List.drop_drop, Nat.add_comm] using this
          have Hput : Hid ((intsV m).set i (.int .i64 x) = intsV (m.set i x)) := by unfold Hid intsV; rw [List.map_set]
          rw [← hx] at c0 HE
          clear ht Hst hx
          go_wp2_with ((refine (HE.out _ hK.out).mono ?_); rintro e w2 ⟨rfl, hb2⟩; have d1 := (hb2.cell (p := ⟨ab, i, none⟩) hbr).trans d0; have f1 := (hb2.frozen (p := ⟨ab, i, none⟩) hbr).trans f0; have hsc := ((Kept.fresh (S := fun _ => False) hb2).row hrow.out (fun _ _ q => q)).stored i (.int .i64 x); have HSC := Lib.hid hsc; have HB2 := Lib.hid hb2; clear hb2 hsc)
          go_roundw
          case rel => exact ⟨i + 1, j + 1, m.set i x, by go_num, by go_num, by omega, by omega, by rw [List.length_set]; exact Hml.out, by have := HSC.out.1; rw [Hput.out] at this; exact this, Hp2.out, Hs2.out, (hK.out.trans (Kept.fresh (S := fun b => own (some (⟨ab, 0, none⟩ : Addr)) = some b) HB2.out) (fun b q => .inl q)).trans (Kept.grown (S := fun b => own (some (⟨ab, 0, none⟩ : Addr)) = some b) HSC.out.2 (fun k e => .inl e)) (fun b q => .inl q)⟩
          case measure => simp [intOf]; omega
      · obtain rfl : j = nn := by omega
        have hlti : ¬ (j : Int) < (j : Int) := by omega
        have hi1 : (i : Int) < (j : Int) := by omega
        have hi2 : (0 : Int) ≤ (i : Int) := by omega
        have Hpr : Hid (m.take i = l.filter (fun r => !f r)) := by unfold Hid; rw [hpre.out, Hnn.out, List.take_length]
        have hlen : Hid ((l.filter (fun r => !f r)).length = i) := by unfold Hid; rw [← Hpr.out, List.length_take, Hml.out]; omega
        have hpo := own_take hrow.out (show i ≤ j by omega)
        rw [intsV_take', Hpr.out] at hpo
        have HPO := Lib.hid hpo
        have hic : i ≤ c := by omega
        have hin : i ≤ j := by omega
        have hne : (c = i) = False := by simp; omega
        obtain ⟨d, hd⟩ : ∃ d, j - i = d + 1 := ⟨j - i - 1, by omega⟩
        have Hd := Lib.hid hd
        clear hpo hd hml hpre hsuf
        go_wp2_with (refine wpList_clear_own rfl (.tmp 38) 31 rfl B 3 i0 (.int .i64 0) 1 Try.underlying31 hi0 hz0 rfl zeroI_one ab i c d (c - i) i (intsV (l.filter (fun r => !f r))) ?hev HPO.out (by have := Hd.out; omega) (by omega) ?_; (case hev => simp [Act.eval, Hd.out]); intro w2 how2 hgr2; have How2 := Lib.hid how2; have Hgr2 := Lib.hid hgr2; clear how2 hgr2)
        go_ret
        have k2 : Kept w w2 (fun b => own (some (⟨ab, 0, none⟩ : Addr)) = some b) := hK.out.trans (Kept.grown (S := fun b => own (some (⟨ab, 0, none⟩ : Addr)) = some b) Hgr2.out (fun k e => .inl e)) (fun b q => .inl q)
        rw [hlen.out]
        exact ⟨rfl, (by have := How2.out; unfold RowI; rw [hlen.out]; exact this), k2⟩
end Go.Proofs.Ytpelocpjfmmceaa
