/- Items that a call makes, one behind the other; the document's Overlaps. -/
import Derived.Test.YtkfjkhacchbkeaaV
import Derived.Test.YtkfjkhacchbkeaaX
namespace Go.Proofs.Ytkfjkhacchbkeaa
set_option linter.unusedVariables false
set_option linter.unusedSimpArgs false
open Go.RowKit

theorem itN_snoc (ls : List It) (x : It) (j : Nat) : itN (ls ++ [x]) j = if j = ls.length then x else itN ls j := by
  unfold itN
  rw [List.getD_eq_getElem?_getD, List.getD_eq_getElem?_getD, List.getElem?_append]
  by_cases h : j < ls.length
  · rw [if_pos h, if_neg (by omega)]
  · rw [if_neg h]
    by_cases e : j = ls.length
    · subst e; simp
    · rw [if_neg e, List.getElem?_eq_none (by simp; omega), List.getElem?_eq_none (by omega)]
structure RItems (base : Nat) (W : World) (ls : List It) (v : Value) (vs : Nat → Value) : Prop where
  own : W.ownsRow base 46 4 v ls.length (itV ls.length fun j => ((itN ls j).p, vs j))
  rows : ∀ j, j < ls.length → W.ownsRow base 3 1 (vs j) (itN ls j).d.length (intsV (itN ls j).d)
theorem RItems.next {base : Nat} {W W' : World} {ls : List It} {v : Value} {vs : Nat → Value} (h : RItems base W ls v vs) (hb : Below W.heap.size W W') : RItems base W' ls v vs :=
  ⟨own_lay h.own hb, fun j hj => own_lay (h.rows j hj) hb⟩
theorem RItems.nil (base : Nat) (W : World) : RItems base W [] (.slice none 0 0) (fun _ => undef) := ⟨World.ownsRow_nil _ _ _ _, fun j hj => absurd hj (Nat.not_lt_zero _)⟩
theorem RItems.push {base : Nat} {W w6 : World} {ls : List It} {v v' xv : Value} {vs : Nat → Value} {x : It} {t : Obj} (h : RItems base W ls v vs) (hr : W.ownsRow base 3 1 xv x.d.length (intsV x.d))
    (hown : w6.ownsRow base 46 4 v' (ls.length + 1) (itV ls.length (fun j => ((itN ls j).p, vs j)) ++ [.int .i64 x.p.b, .int .i64 x.p.o, .string x.p.s, xv])) (hg : (W.alloc t).grownBy w6 v.ownBlock) :
    RItems base w6 (ls ++ [x]) v' (fun j => if j = ls.length then xv else vs j) := by
  have hga := h.own.alloc t
  refine ⟨?_, fun j hj => ?_⟩
  · rw [List.length_append, List.length_singleton, itV_succ]
    have e1 : itV ls.length (fun j => ((itN (ls ++ [x]) j).p, if j = ls.length then xv else vs j)) = itV ls.length (fun j => ((itN ls j).p, vs j)) := by
      refine itV_ext (length_itV _ _) fun i hi => ?_
      rw [itV_at _ hi]
      congr 1
      unfold itC
      have hik : ¬ i / 4 = ls.length := by omega
      simp only [itN_snoc, if_neg hik]
    rw [e1]
    simp only [itN_snoc, if_true]
    exact hown
  · rw [itN_snoc]
    by_cases e : j = ls.length
    · simp only [if_pos e]
      exact (hr.alloc t).kept hg (own_apart (hr.alloc t) hga (by decide))
    · simp only [if_neg e]
      have hj' : j < ls.length := by simp at hj; omega
      exact ((h.rows j hj').alloc t).kept hg (own_apart ((h.rows j hj').alloc t) hga (by decide))
theorem RItems.items {base : Nat} {W : World} {ls : List It} {v : Value} {vs : Nat → Value} (h : RItems base W ls v vs) : ∃ A c, v = .slice A ls.length c ∧ Items W W.heap.size A ls := by
  rcases h.own.2 with ⟨e, e0⟩ | ⟨g, cap, cur, e, hbg, hg, hnc, hcm, _⟩
  · refine ⟨none, 0, by rw [e, e0], fun h0 => by omega⟩
  · refine ⟨_, cap, e, fun h0 => ?_⟩
    have ho := h.own
    rw [e] at ho
    have hrow : ∀ j, ∃ A c, j < ls.length → vs j = .slice A (itN ls j).d.length c ∧ Ints W W.heap.size A (itN ls j).d := fun j => by
      by_cases hj : j < ls.length
      · obtain ⟨Aj, cj, ej, _, _, hI⟩ := own_ints (h.rows j hj)
        exact ⟨Aj, cj, fun _ => ⟨ej, hI⟩⟩
      · exact ⟨none, 0, fun h => absurd h hj⟩
    obtain ⟨Af, hA⟩ := Classical.axiomOfChoice hrow
    obtain ⟨Cf, hC⟩ := Classical.axiomOfChoice hA
    refine ⟨g, 0, Af, Cf, rfl, (ho.lt g rfl).2, fun j hj => ?_⟩
    obtain ⟨e3, hI⟩ := hC j hj
    have hc : ∀ i, i < 4 → W.cell? ⟨g, j * 4 + i, none⟩ = some (itC (fun j => ((itN ls j).p, vs j)) (j * 4 + i)) := fun i hi => by
      rw [ho.cellAt _ (by omega), itV_at _ (by omega)]
    refine ⟨?_, ?_, ?_, ?_, hI⟩
    · have := hc 0 (by omega); rw [Nat.add_zero, itC0] at this; rw [Nat.zero_add]; exact this
    · have := hc 1 (by omega); rw [itC1] at this; rw [Nat.zero_add]; exact this
    · have := hc 2 (by omega); rw [itC2] at this; rw [Nat.zero_add]; exact this
    · have := hc 3 (by omega); rw [itC3] at this; rw [Nat.zero_add, ← e3]; exact this
theorem overL_take (l : List Pat.Pt) {k : Nat} (h : k < l.length) : (overL l).take (k + 1) = (overL l).take k ++ [⟨Pat.pn l k, natsI (overTo l k k)⟩] := by
  rw [List.take_succ_eq_append_getElem (by rw [length_overL]; exact h)]
  simp [overL]
theorem patsB_stop {l : List Pat.Pt} {k : Nat} (hk : k < l.length) (h : (Pat.pn l k).right = false) : patsB l = false := by
  unfold patsB
  rw [Bool.and_eq_false_iff]
  right
  rw [Bool.eq_false_iff]
  intro ht
  have := List.all_eq_true.1 ht k (List.mem_range.2 hk)
  rw [h] at this; cases this

/-- within a round: the k-th one's numbers -/
structure RfIn (w wr w3 : World) (l : List Pat.Pt) (k j : Nat) (v5 : Value) : Prop where
  row : w3.ownsRow wr.heap.size 3 1 v5 (overTo l k j).length (natsV (overTo l k j))
  below : Below wr.heap.size wr w3
theorem RfIn.next {w wr w3 w4 : World} {l : List Pat.Pt} {k j : Nat} {v5 : Value} (h : RfIn w wr w3 l k j v5) (hb : Below w3.heap.size w3 w4) : RfIn w wr w4 l k j v5 :=
  ⟨own_lay h.row hb, h.below.trans (hb.mono h.below.size)⟩
theorem RfIn.drew {w wr w3 : World} {l : List Pat.Pt} {k j : Nat} {v5 : Value} (h : RfIn w wr w3 l k j v5) : RfIn w wr w3.drew l k j v5 := h.next (Quiet.belowR ⟨1, rfl⟩)
theorem RfIn.skip {w wr w3 : World} {l : List Pat.Pt} {k j : Nat} {v5 : Value} (h : RfIn w wr w3 l k j v5) (ho : (Pat.pn l j).over (Pat.pn l k) = false) : RfIn w wr w3 l k (j + 1) v5 := by
  have e : overTo l k (j + 1) = overTo l k j := by rw [overTo_succ, ho]; simp
  exact ⟨by rw [e]; exact h.row, h.below⟩

set_option maxRecDepth 100000 in
set_option maxHeartbeats 2000000 in
theorem refoverlaps_any (A : Option Addr) (c n : Nat) (l : List Pat.Pt) (hn : n = l.length) (w : World) (hl : l.length ≤ 1000) (hs : Fine l) (hI : Pat.Pats w w.heap.size A l) :
    Calls Try.prog 28 #[.slice A n c] w (OverSays w l) := by
  have Hlong := Lib.hid (@patsB_long l)
  have HI := Lib.hid hI
  have Hn := Lib.hid hn
  have HF := Lib.hid hs
  have Hdef : Hid (patsB l = (decide (l.length ≤ 64) && (List.range l.length).all fun k => (Pat.pn l k).right)) := rfl
  clear hI hs
  by_cases h64 : n ≤ 64
  · obtain ⟨i0, hi, hz0, hz1, hz2⟩ := info_parts info3
    obtain ⟨j0, hj0, hy0, hy1, hy2⟩ := info_parts info46
    clear hn hl
    have h64' : (n : Int) ≤ 64 := by omega
    go_enter Try.func28, Try.ntmps28
    go_wp2_with fail
    go_loopw [3, 4] (fun v i wr => ∃ (k : Nat) (vs : Nat → Value), k ≤ n ∧ i = .int .i64 k ∧ RItems w.heap.size wr ((overL l).take k) v vs ∧ (∀ j, j < k → (Pat.pn l j).right = true) ∧ Below w.heap.size w wr) (fun _ i _ => n - (intOf i).toNat)
    case atStart => exact ⟨0, _, Nat.zero_le _, rfl, RItems.nil _ _, (fun j hj => absurd hj (Nat.not_lt_zero _)), Below.refl _ _⟩
    case round =>
      obtain ⟨k, vs, hk, rfl, hst, hrt, hB⟩ := hrel
      rename World => wr
      have Hst := Lib.hid hst
      have Hrt := Lib.hid hrt
      have HB := Lib.hid hB
      clear hst hrt
      by_cases hlt : k < n
      · have hlti : (k : Int) < (n : Int) := by omega
        have hk0 : (0 : Int) ≤ (k : Int) := by omega
        have hkl : k < l.length := by rw [← Hn.out]; exact hlt
        obtain ⟨bA, offA, rfl, hbA, hcA⟩ := HI.out (by omega)
        have HcA := Lib.hid hcA
        obtain ⟨d0, d1, d2⟩ := hcA k hkl
        rw [← hB.cell (p := ⟨bA, _, none⟩) hbA] at d0 d1 d2
        have hpk := HF.out k hkl
        have Hst2 := Lib.hid (@patsB_stop l k hkl)
        have Htk := Lib.hid (overL_take l hkl)
        have htl : ((overL l).take k).length = k := by rw [List.length_take, length_overL]; omega
        have Htl := Lib.hid htl
        obtain ⟨p, hp⟩ : ∃ p, p = Pat.pn l k := ⟨_, rfl⟩
        rw [← hp] at d0 d1 d2 hpk Hst2 Htk
        have Hp := Lib.hid hp
        have HRp := Lib.hid (fun W => Pat.refright_any p W hpk)
        obtain ⟨r, hr⟩ : ∃ r, r = p.right := ⟨_, rfl⟩
        rw [← hr] at HRp Hst2
        have Hr := Lib.hid hr
        clear hp hr hcA htl hB
        obtain ⟨pb, po, pss⟩ := p
        unfold Pat.Pt.v at HRp
        simp only at d0 d1 d2 HRp
        have hbAw := Nat.lt_of_lt_of_le hbA HB.out.size
        cases r with
        | false =>
          have Hf := Lib.hid (Hst2.out rfl)
          go_wp2_with fail
          refine (HRp.out _).mono ?_
          rintro e w3 ⟨rfl, hB3⟩
          have HB3 := Lib.hid (HB.out.trans (hB3.mono HB.out.size))
          clear hB3
          go_wp2_with fail
          go_ret
          exact ⟨HB3.out, .inr ⟨Hf.out, rfl⟩⟩
        | true =>
          go_wp2_with fail
          refine (HRp.out _).mono ?_
          rintro e w3 ⟨rfl, hB3⟩
          have HI0 : Hid (RfIn w wr w3 l k 0 (.slice none 0 0)) := ⟨World.ownsRow_nil _ _ _ _, hB3⟩
          clear hB3 HRp d0 d1 d2
          go_wp2_with fail
          go_loopw [5, 6] (fun v5 i w3 => ∃ (j : Nat), j ≤ k ∧ i = .int .i64 j ∧ RfIn w wr w3 l k j v5) (fun _ i _ => k - (intOf i).toNat)
          case atStart => exact ⟨0, Nat.zero_le _, rfl, HI0.out⟩
          case round =>
            obtain ⟨j, hj, rfl, hin⟩ := hrel
            rename World => w3
            have HS := Lib.hid hin.drew
            have HS0 := Lib.hid hin
            clear hin HI0
            have hol := overTo_len l k j
            by_cases hltj : j < k
            · have hltji : (j : Int) < (k : Int) := by omega
              have hj0 : (0 : Int) ≤ (j : Int) := by omega
              have hjn : (j : Int) < (n : Int) := by omega
              have hjl : j < l.length := by rw [← Hn.out]; omega
              have HOv := Lib.hid (fun W => Pat.refoverlap_any (Pat.pn l j) ⟨pb, po, pss⟩ W (HF.out j hjl) hpk)
              have HC : Hid (∀ W, Below wr.heap.size wr W → W.cell? ⟨bA, offA + j * 3, none⟩ = some (.int .i64 (Pat.pn l j).b) ∧ W.cell? ⟨bA, offA + j * 3 + 1, none⟩ = some (.int .i64 (Pat.pn l j).o) ∧ W.cell? ⟨bA, offA + j * 3 + 2, none⟩ = some (.string (Pat.pn l j).s) ∧
                  W.cell? ⟨bA, offA + k * 3, none⟩ = some (.int .i64 pb) ∧ W.cell? ⟨bA, offA + k * 3 + 1, none⟩ = some (.int .i64 po) ∧ W.cell? ⟨bA, offA + k * 3 + 2, none⟩ = some (.string pss)) := fun W h => by
                have h' := HB.out.trans (h.mono HB.out.size)
                obtain ⟨e0, e1, e2⟩ := HcA.out j hjl
                obtain ⟨g0, g1, g2⟩ := HcA.out k (by rw [← Hn.out]; exact hlt)
                rw [← Hp.out] at g0 g1 g2
                exact ⟨(h'.cell (p := ⟨bA, _, none⟩) hbA).trans e0, (h'.cell (p := ⟨bA, _, none⟩) hbA).trans e1, (h'.cell (p := ⟨bA, _, none⟩) hbA).trans e2, (h'.cell (p := ⟨bA, _, none⟩) hbA).trans g0, (h'.cell (p := ⟨bA, _, none⟩) hbA).trans g1, (h'.cell (p := ⟨bA, _, none⟩) hbA).trans g2⟩
              obtain ⟨q, hq⟩ : ∃ q, q = Pat.pn l j := ⟨_, rfl⟩
              rw [← hq] at HOv HC
              have Hq := Lib.hid hq
              clear hq hjl
              obtain ⟨qb, qo, qs⟩ := q
              obtain ⟨ov, hov⟩ : ∃ ov, ov = (Pat.Pt.mk qb qo qs).over ⟨pb, po, pss⟩ := ⟨_, rfl⟩
              rw [← hov] at HOv
              have Hov : Hid ((Pat.pn l j).over (Pat.pn l k) = ov) := by unfold Hid; rw [← Hq.out, ← Hp.out, hov]
              have Hsu := Lib.hid (overTo_succ l k j)
              clear hov
              unfold Pat.Pt.v at HOv
              simp only at HOv HC
              have X := Lib.hid (HC.out _ HS.out.below)
              go_wp2_with fail
              refine wp_region_held_drew (S := (fun W => W.cell? ⟨bA, offA + j * 3, none⟩ = some (.int .i64 qb) ∧ W.cell? ⟨bA, offA + j * 3 + 1, none⟩ = some (.int .i64 qo) ∧ W.cell? ⟨bA, offA + j * 3 + 2, none⟩ = some (.string qs) ∧
        W.cell? ⟨bA, offA + k * 3, none⟩ = some (.int .i64 pb) ∧ W.cell? ⟨bA, offA + k * 3 + 1, none⟩ = some (.int .i64 po) ∧ W.cell? ⟨bA, offA + k * 3 + 2, none⟩ = some (.string pss))) (by kernel_rfl) (X.out) (fun hHeld => ?_)
              refine takeH (i := 0) (some 27) (v := ?_) rfl rfl (by kernel_rfl) (by kernel_rfl) (by kernel_rfl) (fun _ _ _ h => h) (by rfl) ?_ (by assumption) ?_
              rotate_left
              · (intro w hSw; (try dsimp only at hSw); go_simp; try with_reducible rfl)
              simp only [Act.put, List.setIfInBounds_toArray, List.set_cons_zero, List.set_cons_succ]
              refine takeH (i := 1) (some 28) (v := ?_) rfl rfl (by kernel_rfl) (by kernel_rfl) (by kernel_rfl) (fun _ _ _ h => h) (by rfl) ?_ (by assumption) ?_
              rotate_left
              · (intro w hSw; (try dsimp only at hSw); go_simp; try with_reducible rfl)
              simp only [Act.put, List.setIfInBounds_toArray, List.set_cons_zero, List.set_cons_succ]
              refine takeH (i := 2) (some 29) (v := ?_) rfl rfl (by kernel_rfl) (by kernel_rfl) (by kernel_rfl) (fun _ _ _ h => h) (by rfl) ?_ (by assumption) ?_
              rotate_left
              · (intro w hSw; (try dsimp only at hSw); go_simp; try with_reducible rfl)
              simp only [Act.put, List.setIfInBounds_toArray, List.set_cons_zero, List.set_cons_succ]
              refine takeH (i := 3) (some 30) (v := ?_) rfl rfl (by kernel_rfl) (by kernel_rfl) (by kernel_rfl) (fun _ _ _ h => h) (by rfl) ?_ (by assumption) ?_
              rotate_left
              · (intro w hSw; (try dsimp only at hSw); go_simp; try with_reducible rfl)
              simp only [Act.put, List.setIfInBounds_toArray, List.set_cons_zero, List.set_cons_succ]
              refine takeH (i := 4) (some 31) (v := ?_) rfl rfl (by kernel_rfl) (by kernel_rfl) (by kernel_rfl) (fun _ _ _ h => h) (by rfl) ?_ (by assumption) ?_
              rotate_left
              · (intro w hSw; (try dsimp only at hSw); go_simp; try with_reducible rfl)
              simp only [Act.put, List.setIfInBounds_toArray, List.set_cons_zero, List.set_cons_succ]
              refine takeH (i := 5) (some 32) (v := ?_) rfl rfl (by kernel_rfl) (by kernel_rfl) (by kernel_rfl) (fun _ _ _ h => h) (by rfl) ?_ (by assumption) ?_
              rotate_left
              · (intro w hSw; (try dsimp only at hSw); go_simp; try with_reducible rfl)
              simp only [Act.put, List.setIfInBounds_toArray, List.set_cons_zero, List.set_cons_succ]
              refine takeH (i := 6) (some 33) (v := ?_) rfl rfl (by kernel_rfl) (by kernel_rfl) (by kernel_rfl) (fun _ _ _ h => h) (by rfl) ?_ (by assumption) ?_
              rotate_left
              · (intro w hSw; (try dsimp only at hSw); go_simp; try with_reducible rfl)
              simp only [Act.put, List.setIfInBounds_toArray, List.set_cons_zero, List.set_cons_succ]
              refine takeH (i := 7) (some 34) (v := ?_) rfl rfl (by kernel_rfl) (by kernel_rfl) (by kernel_rfl) (fun _ _ _ h => h) (by rfl) ?_ (by assumption) ?_
              rotate_left
              · (intro w hSw; (try dsimp only at hSw); go_simp; try with_reducible rfl)
              simp only [Act.put, List.setIfInBounds_toArray, List.set_cons_zero, List.set_cons_succ]
              refine wpAnyH_ready (rs := [8]) (by kernel_rfl) (by simp) ?_
              refine AllReadyH.cons rfl (fun K hK => ?_) AllReadyH.nil
              go_simp
              ((with_reducible refine (HOv.out _).mono ?_); rintro e w4 ⟨rfl, hB4⟩; replace HS := Lib.hid (HS.out.next hB4); replace X := Lib.hid (HC.out _ HS.out.below))
              refine hK _ _ (X.out) (fun hHeld => ?_)
              clear hK K
              try simp only [Act.put, List.setIfInBounds_toArray, List.set_cons_zero, List.set_cons_succ]
              refine wpAnyH_done (by kernel_rfl) ?_ _
              have hsz := HS.out.below.size
              cases ov with
              | false =>
                have Hx := Lib.hid (HS.out.skip Hov.out)
                go_wp2_with fail
                go_roundw
                case rel => exact ⟨j + 1, by omega, by go_num, Hx.out⟩
                case measure => simp [intOf]; omega
              | true =>
                have hown := HS.out.row
                go_wp2_with (at_builtin; refine wpList_append_own _ rfl _ _ 29 rfl wr.heap.size 3 i0 (.int .i64 0) 1 8 Try.underlying29 hi hz0 hz1 hz2 rfl (by decide) _ _ _ rfl (hown.alloc _) ⟨w4.heap.size, 0, none⟩ 1 1 [.int .i64 ((j : Nat) : Int)] rfl rfl (cell_one_new _ _ _) (by simp [Value.oneCell']) (by unfold maxLen; omega) (by omega) (by simp; omega) ?_; intro v' w5 hown' hgrow _; have hB5 : Below wr.heap.size wr w5 := HS.out.below.trans ((((Below.refl _ w4).alloc hsz _)).grown hgrow (by simp; omega) (fun j e => (hown.lt j e).1)); have Hown := Lib.hid hown'; have HB5 := Lib.hid hB5; clear hown' hB5 hgrow)
                go_roundw
                case rel =>
                  refine ⟨j + 1, by omega, by go_num, ⟨?_, HB5.out⟩⟩
                  have e : overTo l k (j + 1) = overTo l k j ++ [j] := by rw [Hsu.out, Hov.out]; simp
                  rw [e]; simpa [natsV] using Hown.out
                case measure => simp [intOf]; omega
            · have hltji : ¬ (j : Int) < (k : Int) := by omega
              obtain rfl : j = k := by omega
              have hrow := HS0.out.row
              rw [natsV_intsV] at hrow
              obtain ⟨A5, c5, rfl, _, _, _⟩ := own_ints (n := (overTo l j j).length) hrow
              have Hst3 := Lib.hid (Hst.out.next HS0.out.below)
              have HB3 := Lib.hid (HB.out.trans (HS0.out.below.mono HB.out.size))
              have hrow2 : w3.ownsRow w.heap.size 3 1 (.slice A5 (natsI (overTo l j j)).length c5) (natsI (overTo l j j)).length (intsV (natsI (overTo l j j))) := by
                rw [length_natsI] at hrow ⊢
                exact own_mono hrow HB.out.size
              have Hrow := Lib.hid hrow2
              obtain ⟨d0, d1, d2⟩ := HcA.out j (by rw [← Hn.out]; exact hlt)
              rw [← HB3.out.cell (p := ⟨bA, _, none⟩) hbA, ← Hp.out] at d0 d1 d2
              have hgp := Hst3.out.own
              rw [Htl.out] at hgp
              have hszw := HB3.out.size
              have Hrt1 : Hid (∀ i, i < j + 1 → (Pat.pn l i).right = true) := fun i hi => by
                by_cases e : i = j
                · rw [e, ← Hp.out]; exact Hr.out.symm
                · exact Hrt.out i (by omega)
              obtain ⟨q, hq⟩ : ∃ q, q = (natsI (overTo l j j)).length := ⟨_, rfl⟩
              rw [← hq]
              have Hq2 := Lib.hid hq
              clear hrow hrow2 hq
              go_wp2_with (at_builtin; refine wpList_append_own _ rfl _ _ 22 rfl w.heap.size 46 j0 (.agg #[.int .i64 0, .int .i64 0, .string ByteArray.empty, .slice none 0 0]) 4 56 Try.underlying22 hj0 hy0 hy1 hy2 rfl (by decide) _ _ _ rfl (hgp.alloc _) ⟨w3.heap.size, 0, none⟩ 1 1 [.int .i64 pb, .int .i64 po, .string pss, .slice A5 q c5] rfl rfl (cells_new w3 #[.int .i64 pb, .int .i64 po, .string pss, .slice A5 q c5] 46) (by simp [Value.oneCell']) (by unfold maxLen; omega) (by omega) (by simp; omega) ?_; intro v' w6 hown' hgrow _; rw [Hq2.out] at hown'; have hpush := RItems.push (x := ⟨⟨pb, po, pss⟩, natsI (overTo l j j)⟩) Hst3.out Hrow.out (by rw [Htl.out]; exact hown') hgrow; have hB6 : Below w.heap.size w w6 := HB3.out.trans ((((Below.refl _ w3).alloc hszw _)).grown hgrow (by simp; omega) (fun j e => (hgp.lt j e).1)); have Hpush := Lib.hid hpush; have HB6 := Lib.hid hB6; clear hpush hB6 hown' hgrow)
              go_roundw
              case rel => exact ⟨j + 1, _, by omega, by go_num, by rw [Htk.out]; exact Hpush.out, Hrt1.out, HB6.out⟩
              case measure => simp [intOf]; omega
      · have hlti : ¬ (k : Int) < (n : Int) := by omega
        obtain rfl : k = n := by omega
        have hall : (overL l).take k = overL l := by rw [List.take_of_length_le]; rw [length_overL, ← Hn.out]; exact Nat.le_refl _
        have hst := Hst.out
        rw [hall] at hst
        obtain ⟨Av, cv, rfl, hm⟩ := hst.items
        have Hm := Lib.hid hm
        have Hpb : Hid (patsB l = true) := by
          unfold Hid
          rw [Hdef.out, Bool.and_eq_true, decide_eq_true_eq, ← Hn.out]
          exact ⟨h64, List.all_eq_true.2 fun j hj => Hrt.out j (List.mem_range.1 hj)⟩
        rw [length_overL]
        clear hst hm hB hall
        go_wp2_with fail
        go_ret
        exact ⟨HB.out, .inl ⟨Hpb.out, Av, cv, rfl, Hm.out⟩⟩
  · have Hf := Lib.hid (Hlong.out (by rw [← Hn.out]; exact h64))
    have h64' : ¬ (n : Int) ≤ 64 := by omega
    go_enter Try.func28, Try.ntmps28
    go_wp2_with fail
    go_ret
    exact ⟨Below.refl _ _, .inr ⟨Hf.out, rfl⟩⟩
end Go.Proofs.Ytkfjkhacchbkeaa
