/- Contract of Overlaps. -/
import Derived.Test.YtkfjkhacchbkeaaD
namespace Go.Proofs.Ytkfjkhacchbkeaa
set_option linter.unusedVariables false
set_option linter.unusedSimpArgs false
open Go.RowKit

/-- a row of numbers in a block between two others -/
def RowAt (W : World) (lo hi : Nat) (v : Value) (q : List Nat) : Prop :=
  ∃ A c, v = .slice A q.length c ∧ (0 < q.length → ∃ b off, A = some ⟨b, off, none⟩ ∧ lo < b ∧ b < hi ∧ ∀ j, j < q.length → W.cell? ⟨b, off + j, none⟩ = some (.int .i64 ((el q j : Nat) : Int)))
def Mid (lo hi : Nat) (W W' : World) : Prop := ∀ b, lo < b → b < hi → W'.heap[b]? = W.heap[b]?
theorem Mid.trans {lo hi : Nat} {W W' W'' : World} (h : Mid lo hi W W') (k : Mid lo hi W' W'') : Mid lo hi W W'' := fun b h1 h2 => (k b h1 h2).trans (h b h1 h2)
theorem Mid.less {lo hi hi' : Nat} {W W' : World} (h : Mid lo hi W W') (k : hi' ≤ hi) : Mid lo hi' W W' := fun b h1 h2 => h b h1 (by omega)
theorem RowAt.keep {W W' : World} {lo hi : Nat} {v : Value} {q : List Nat} (h : RowAt W lo hi v q) (k : Mid lo hi W W') : RowAt W' lo hi v q := by
  obtain ⟨A, c, e, hq⟩ := h
  refine ⟨A, c, e, fun h0 => ?_⟩
  obtain ⟨b, off, e, h1, h2, hc⟩ := hq h0
  exact ⟨b, off, e, h1, h2, fun j hj => (World.cell?_of_block (k b h1 h2)).trans (hc j hj)⟩
theorem RowAt.more {W : World} {lo hi hi' : Nat} {v : Value} {q : List Nat} (h : RowAt W lo hi v q) (k : hi ≤ hi') : RowAt W lo hi' v q := by
  obtain ⟨A, c, e, hq⟩ := h
  refine ⟨A, c, e, fun h0 => ?_⟩
  obtain ⟨b, off, e, h1, h2, hc⟩ := hq h0
  exact ⟨b, off, e, h1, by omega, hc⟩
theorem RowAt.of_own {W : World} {lo base : Nat} {v : Value} {q : List Nat} (h : W.ownsRow base 3 1 v q.length (natsV q)) (hb : lo < base) : RowAt W lo W.heap.size v q := by
  rcases h.2 with ⟨rfl, hn⟩ | ⟨g, cap, cur, rfl, hbg, hg, hnc, hcm, _⟩
  · exact ⟨none, 0, by rw [hn], fun h => by omega⟩
  · refine ⟨_, cap, rfl, fun h0 => ⟨g, 0, rfl, by omega, (h.lt g rfl).2, fun j hj => ?_⟩⟩
    rw [Nat.zero_add, h.cellAt j (by omega), natsV, List.getElem?_map, List.getElem?_eq_getElem hj, el_lt hj]; rfl
structure OvSt (w wr : World) (l : List Pat.Pt) (n k : Nat) (st : Nat → Pat.Pt × Value) : Prop where
  blk : BlkIs wr w.heap.size 46 (itV n st)
  pat : ∀ j, j < k → (st j).1 = Pat.pn l j
  zero : ∀ j, k ≤ j → st j = st0 j
  rows : ∀ j, j < k → RowAt wr w.heap.size wr.heap.size (st j).2 (overTo l j j)
  below : Below w.heap.size w wr
/-- within a round: the k-th item's row is being made -/
structure OvIn (w wr w3 : World) (l : List Pat.Pt) (n k j : Nat) (st : Nat → Pat.Pt × Value) (p : Pat.Pt) (v : Value) : Prop where
  blk : BlkIs w3 w.heap.size 46 (itV n (upd st k (p, v)))
  row : w3.ownsRow (wr.heap.size + 1) 3 1 v (overTo l k j).length (natsV (overTo l k j))
  box : Pat.Boxed w3 wr.heap.size p
  mid : Mid w.heap.size wr.heap.size wr w3
  size : wr.heap.size + 1 ≤ w3.heap.size
  below : Below w.heap.size w w3
theorem OvIn.next {w wr w3 w4 : World} {l : List Pat.Pt} {n k j : Nat} {st : Nat → Pat.Pt × Value} {p : Pat.Pt} {v : Value} (h : OvIn w wr w3 l n k j st p v) (hb : Below w3.heap.size w3 w4) : OvIn w wr w4 l n k j st p v :=
  ⟨h.blk.below hb h.blk.lt, own_lay h.row hb, Pat.Boxed.below h.box hb (Pat.BlkIs.lt h.box), h.mid.trans (fun b h1 h2 => hb.block b (by have := h.size; omega)), Nat.le_trans h.size hb.size, h.below.trans (hb.mono h.below.size)⟩
theorem OvIn.drew {w wr w3 : World} {l : List Pat.Pt} {n k j : Nat} {st : Nat → Pat.Pt × Value} {p : Pat.Pt} {v : Value} (h : OvIn w wr w3 l n k j st p v) : OvIn w wr w3.drew l n k j st p v :=
  h.next (Quiet.belowR ⟨1, rfl⟩)
theorem OvIn.skip {w wr w3 : World} {l : List Pat.Pt} {n k j : Nat} {st : Nat → Pat.Pt × Value} {p : Pat.Pt} {v : Value} (h : OvIn w wr w3 l n k j st p v) (ho : (Pat.pn l j).over (Pat.pn l k) = false) : OvIn w wr w3 l n k (j + 1) st p v := by
  have e : overTo l k (j + 1) = overTo l k j := by rw [overTo_succ, ho]; simp
  exact ⟨h.blk, by rw [e]; exact h.row, h.box, h.mid, h.size, h.below⟩
theorem OvIn.done {w wr w3 : World} {l : List Pat.Pt} {n k : Nat} {st : Nat → Pat.Pt × Value} {v : Value} (hs : OvSt w wr l n k st) (h : OvIn w wr w3 l n k k st (Pat.pn l k) v) : OvSt w w3 l n (k + 1) (upd st k (Pat.pn l k, v)) := by
  have hlt := hs.blk.lt
  refine ⟨h.blk, fun j hj => ?_, fun j hj => ?_, fun j hj => ?_, h.below⟩
  · by_cases e : j = k
    · subst e; rw [upd_self]
    · rw [upd_ne _ _ e]; exact hs.pat j (by omega)
  · rw [upd_ne _ _ (by omega)]; exact hs.zero j (by omega)
  · by_cases e : j = k
    · subst e; rw [upd_self]; exact RowAt.of_own h.row (by omega)
    · rw [upd_ne _ _ e]; exact ((hs.rows j (by omega)).keep h.mid).more (by have := h.size; omega)
theorem OvSt.items {w wr : World} {l : List Pat.Pt} {n : Nat} {st : Nat → Pat.Pt × Value} (hn : n = l.length) (h : OvSt w wr l n n st) : Items wr wr.heap.size (some ⟨w.heap.size, 0, none⟩) (overL l) := by
  subst hn
  intro h0
  have hrow : ∀ j, ∃ A c, j < l.length → (st j).2 = .slice A (overTo l j j).length c ∧ Ints wr wr.heap.size A (natsI (overTo l j j)) := fun j => by
    by_cases hj : j < l.length
    · obtain ⟨A, c, e, hq⟩ := h.rows j hj
      refine ⟨A, c, fun _ => ⟨e, fun h0 => ?_⟩⟩
      rw [length_natsI] at h0
      obtain ⟨b, off, e, h1, h2, hc⟩ := hq h0
      refine ⟨b, off, e, h2, fun i hi => ?_⟩
      rw [length_natsI] at hi
      rw [hc i hi, nth_nats _ _ hi]
    · exact ⟨none, 0, fun h => absurd h hj⟩
  obtain ⟨Af, hA⟩ := Classical.axiomOfChoice hrow
  obtain ⟨Cf, hC⟩ := Classical.axiomOfChoice hA
  refine ⟨w.heap.size, 0, Af, Cf, rfl, h.blk.lt, fun j hj => ?_⟩
  rw [length_overL] at hj
  obtain ⟨e, hI⟩ := hC j hj
  rw [itN_overL hj, Nat.zero_add]
  have hp := h.pat j hj
  refine ⟨?_, ?_, ?_, ?_, hI⟩
  · rw [h.blk.cell, itV_at _ (by omega), itC0, hp]
  · rw [h.blk.cell, itV_at _ (by omega), itC1, hp]
  · rw [h.blk.cell, itV_at _ (by omega), itC2, hp]
  · rw [h.blk.cell, itV_at _ (by omega), itC3, e, length_natsI]

theorem upd_upd (st : Nat → Pat.Pt × Value) (k : Nat) (x y : Pat.Pt × Value) : upd (upd st k x) k y = upd st k y := by funext j; unfold upd; split <;> rfl
/-- a row that grows by one, behind an append -/
theorem OvIn.hit {w wr w4 w5 : World} {l : List Pat.Pt} {n k j : Nat} {st : Nat → Pat.Pt × Value} {p : Pat.Pt} {v v' : Value} (hG : w.heap.size < wr.heap.size) (hk : k < n) (h : OvIn w wr w4 l n k j st p v) (ho : (Pat.pn l j).over (Pat.pn l k) = true)
    (hown : w5.ownsRow (wr.heap.size + 1) 3 1 v' ((overTo l k j).length + 1) (natsV (overTo l k j) ++ [.int .i64 ((j : Nat) : Int)])) {o : Obj} (hgrow : (w4.alloc o).grownBy w5 v.ownBlock) :
    BlkIs w5 w.heap.size 46 (itV n (upd st k (p, v))) ∧ OvIn w wr (w5.setCell ⟨w.heap.size, k * 4 + 3, none⟩ v') l n k (j + 1) st p v' := by
  have G1 : w4.grownBy w5 v.ownBlock := (World.grownBy_alloc w4 o v.ownBlock).trans hgrow
  have hkeep : ∀ b, b < wr.heap.size + 1 → w5.heap[b]? = w4.heap[b]? := fun b hb =>
    G1.block b (by have := h.size; omega) (fun e => by have := (h.row.lt b e.symm).1; omega)
  have hb5 : BlkIs w5 w.heap.size 46 (itV n (upd st k (p, v))) := by
    have := h.blk; unfold BlkIs at this ⊢; rw [hkeep _ (by omega)]; exact this
  have hset := hb5.set_ (k * 4 + 3) v'
  rw [itV_row n _ k v' hk, upd_upd, upd_self] at hset
  have e : overTo l k (j + 1) = overTo l k j ++ [j] := by rw [overTo_succ, ho]; simp
  have hs5 : w4.heap.size ≤ w5.heap.size := G1.size
  have hB5 : Below w.heap.size w w5 := h.below.grown G1 h.below.size (fun j e => by have := (h.row.lt j e).1; omega)
  refine ⟨hb5, hset, ?_, ?_, ?_, ?_, hB5.setCell (p := ⟨w.heap.size, k * 4 + 3, none⟩) (Nat.le_refl _) _⟩
  · rw [e]
    have := ownsRow_setCell_below hown (a := ⟨w.heap.size, k * 4 + 3, none⟩) (show w.heap.size < wr.heap.size + 1 by omega) v'
    simpa [natsV] using this
  · have hbx : Pat.Boxed w5 wr.heap.size p := by
      have := h.box; unfold Pat.Boxed Pat.BlkIs at this ⊢; rw [hkeep _ (by omega)]; exact this
    unfold Pat.Boxed Pat.BlkIs at hbx ⊢
    rw [(grownBy_set w5 w.heap.size (k * 4 + 3) v').block _ (by have := h.size; omega) (fun e => by injection e with e; omega)]
    exact hbx
  · refine h.mid.trans fun b h1 h2 => ?_
    rw [(grownBy_set w5 w.heap.size (k * 4 + 3) v').block _ (by have := h.size; omega) (fun e => by injection e with e; omega)]
    exact hkeep b (by omega)
  · have := h.size; simp [World.setCell]; omega

def OverSays (w : World) (l : List Pat.Pt) (e : Ending) (w' : World) : Prop :=
  Below w.heap.size w w' ∧ ((patsB l = true ∧ ∃ A c, e = .returned (.slice A l.length c) ∧ Items w' w'.heap.size A (overL l)) ∨ (patsB l = false ∧ e = .returned (.slice none 0 0)))
theorem patsB_long {l : List Pat.Pt} (h : ¬ l.length ≤ 64) : patsB l = false := by simp [patsB, h]

set_option maxRecDepth 100000 in
set_option maxHeartbeats 2000000 in
theorem overlaps_any (A : Option Addr) (c n : Nat) (l : List Pat.Pt) (hn : n = l.length) (w : World) (hl : l.length ≤ 1000) (hs : Fine l) (hI : Pat.Pats w w.heap.size A l) :
    Calls Try.prog 27 #[.slice A n c] w (OverSays w l) := by
  have Hlong := Lib.hid (@patsB_long l)
  have HI := Lib.hid hI
  have Hn := Lib.hid hn
  have HF := Lib.hid hs
  clear hI hs
  by_cases h64 : n ≤ 64
  · obtain ⟨M, hM, hmk⟩ := make_items n (by omega)
    have HM := Lib.hid hM
    obtain ⟨i0, hi, hz0, hz1, hz2⟩ := info_parts info3
    clear hM hn hl
    have h64' : (n : Int) ≤ 64 := by omega
    go_enter Try.func27, Try.ntmps27
    go_wp2_with fail
    clear hmk
    go_loopw [15] (fun i wr => ∃ (k : Nat) (st : Nat → Pat.Pt × Value), k ≤ n ∧ i = .int .i64 k ∧ OvSt w wr l n k st) (fun i _ => n - (intOf i).toNat)
    case atStart =>
      have h1 := BlkIs.new w 46 M
      rw [HM.out] at h1
      exact ⟨0, st0, Nat.zero_le _, rfl, h1, fun j hj => by omega, fun _ _ => rfl, fun j hj => by omega, (Below.refl _ _).alloc (Nat.le_refl _) _⟩
    case round =>
      obtain ⟨k, st, hk, rfl, hst⟩ := hrel
      rename World => wr
      have Hst := Lib.hid hst
      clear hst
      by_cases hlt : k < n
      · have hlti : (k : Int) < (n : Int) := by omega
        have hk0 : (0 : Int) ≤ (k : Int) := by omega
        have hkl : k < l.length := by rw [← Hn.out]; exact hlt
        obtain ⟨bA, offA, rfl, hbA, hcA⟩ := HI.out (by omega)
        have HcA := Lib.hid hcA
        obtain ⟨d0, d1, d2⟩ := hcA k hkl
        have hB := Hst.out.below
        rw [← hB.cell (p := ⟨bA, _, none⟩) hbA] at d0 d1 d2
        have hG := Hst.out.blk.lt
        have g0 : wr.cell? ⟨w.heap.size, k * 4, none⟩ = some (.int .i64 0) := by rw [Hst.out.blk.cell, itV_at _ (by omega), itC0, Hst.out.zero k (Nat.le_refl _)]; rfl
        have g1 : wr.cell? ⟨w.heap.size, k * 4 + 1, none⟩ = some (.int .i64 0) := by rw [Hst.out.blk.cell, itV_at _ (by omega), itC1, Hst.out.zero k (Nat.le_refl _)]; rfl
        have g2 : wr.cell? ⟨w.heap.size, k * 4 + 2, none⟩ = some (.string ByteArray.empty) := by rw [Hst.out.blk.cell, itV_at _ (by omega), itC2, Hst.out.zero k (Nat.le_refl _)]; rfl
        have f0 := Hst.out.blk.frozen (k * 4)
        have f1 := Hst.out.blk.frozen (k * 4 + 1)
        have f2 := Hst.out.blk.frozen (k * 4 + 2)
        have Hin0 : Hid (∀ W, W = (((wr.setCell ⟨w.heap.size, k * 4, none⟩ (.int .i64 (Pat.pn l k).b)).setCell ⟨w.heap.size, k * 4 + 1, none⟩ (.int .i64 (Pat.pn l k).o)).setCell ⟨w.heap.size, k * 4 + 2, none⟩ (.string (Pat.pn l k).s)).alloc (.cells (Pat.pn l k).cs.toArray 44) →
            OvIn w wr W l n k 0 st (Pat.pn l k) (.slice none 0 0)) := by
          rintro W rfl
          have h1 := ((Hst.out.blk.set_ (k * 4) (.int .i64 (Pat.pn l k).b)).set_ (k * 4 + 1) (.int .i64 (Pat.pn l k).o)).set_ (k * 4 + 2) (.string (Pat.pn l k).s)
          rw [itV_patch n st k (Pat.pn l k) hlt, Hst.out.zero k (Nat.le_refl _)] at h1
          have hB1 := ((hB.setCell (p := ⟨w.heap.size, k * 4, none⟩) (Nat.le_refl _) (.int .i64 (Pat.pn l k).b)).setCell (p := ⟨w.heap.size, k * 4 + 1, none⟩) (Nat.le_refl _) (.int .i64 (Pat.pn l k).o)).setCell (p := ⟨w.heap.size, k * 4 + 2, none⟩) (Nat.le_refl _) (.string (Pat.pn l k).s)
          refine ⟨h1.alloc _, World.ownsRow_nil _ _ _ _, ?_, ?_, by simp [World.setCell], hB1.alloc (by simpa [World.setCell] using Nat.le_of_lt hG) _⟩
          · have := Pat.boxed1 (((wr.setCell ⟨w.heap.size, k * 4, none⟩ (.int .i64 (Pat.pn l k).b)).setCell ⟨w.heap.size, k * 4 + 1, none⟩ (.int .i64 (Pat.pn l k).o)).setCell ⟨w.heap.size, k * 4 + 2, none⟩ (.string (Pat.pn l k).s)) (Pat.pn l k)
            simpa [World.setCell] using this
          · intro b h1 h2
            have hg := ((grownBy_set wr w.heap.size (k * 4) (.int .i64 (Pat.pn l k).b)).trans (grownBy_set _ w.heap.size (k * 4 + 1) (.int .i64 (Pat.pn l k).o))).trans (grownBy_set _ w.heap.size (k * 4 + 2) (.string (Pat.pn l k).s))
            exact (hg.trans (World.grownBy_alloc _ (.cells (Pat.pn l k).cs.toArray 44) _)).block b h2 (fun e => by injection e with e; omega)
        have Hdone : Hid (∀ w3 v, OvIn w wr w3 l n k k st (Pat.pn l k) v → OvSt w w3 l n (k + 1) (upd st k (Pat.pn l k, v))) := fun w3 v h => OvIn.done Hst.out h
        have hpk := HF.out k hkl
        have Hp : Hid (∃ p, p = Pat.pn l k) := ⟨_, rfl⟩
        obtain ⟨p, hp⟩ := Hp.out
        rw [← hp] at d0 d1 d2 Hin0 Hdone hpk
        have Hp := Lib.hid hp
        clear hp hkl hcA hB
        obtain ⟨pb, po, ps⟩ := p
        simp only [Pat.Pt.cs] at d0 d1 d2 Hin0
        go_wp2_with fail
        have HB0 := Lib.hid (Hin0.out _ rfl)
        clear Hin0 g0 g1 g2 f0 f1 f2 d0 d1 d2
        go_loopw [26] (fun i w3 => ∃ (j : Nat) (v : Value), j ≤ k ∧ i = .int .i64 j ∧ OvIn w wr w3 l n k j st ⟨pb, po, ps⟩ v) (fun i _ => k - (intOf i).toNat)
        case atStart => exact ⟨0, _, Nat.zero_le _, rfl, HB0.out⟩
        case round =>
          obtain ⟨j, v, hj, rfl, hin⟩ := hrel
          rename World => w3
          have HS := Lib.hid hin.drew
          have HS0 := Lib.hid hin
          clear hin HB0
          by_cases hltj : j < k
          · have hltji : (j : Int) < (k : Int) := by omega
            have hj0 : (0 : Int) ≤ (j : Int) := by omega
            have hjn : (j : Int) < (n : Int) := by omega
            have hjl : j < l.length := by rw [← Hn.out]; omega
            have HOv := Lib.hid (fun W => Pat.overlap_any (Pat.pn l j) ⟨pb, po, ps⟩ W (HF.out j hjl) hpk)
            have HC : Hid (∀ W, OvIn w wr W l n k j st ⟨pb, po, ps⟩ v → W.cell? ⟨bA, offA + j * 3, none⟩ = some (.int .i64 (Pat.pn l j).b) ∧ W.cell? ⟨bA, offA + j * 3 + 1, none⟩ = some (.int .i64 (Pat.pn l j).o) ∧ W.cell? ⟨bA, offA + j * 3 + 2, none⟩ = some (.string (Pat.pn l j).s) ∧
                W.cell? ⟨wr.heap.size, 0, none⟩ = some (.int .i64 pb) ∧ W.cell? ⟨wr.heap.size, 1, none⟩ = some (.int .i64 po) ∧ W.cell? ⟨wr.heap.size, 2, none⟩ = some (.string ps)) := fun W h => by
              obtain ⟨e0, e1, e2⟩ := HcA.out j hjl
              obtain ⟨b0, b1, b2⟩ := h.box.cells
              exact ⟨(h.below.cell (p := ⟨bA, _, none⟩) hbA).trans e0, (h.below.cell (p := ⟨bA, _, none⟩) hbA).trans e1, (h.below.cell (p := ⟨bA, _, none⟩) hbA).trans e2, b0, b1, b2⟩
            obtain ⟨q, hq⟩ : ∃ q, q = Pat.pn l j := ⟨_, rfl⟩
            rw [← hq] at HOv HC
            have Hq := Lib.hid hq
            clear hq hjl
            obtain ⟨qb, qo, qs⟩ := q
            obtain ⟨ov, hov⟩ : ∃ ov, ov = (Pat.Pt.mk qb qo qs).over ⟨pb, po, ps⟩ := ⟨_, rfl⟩
            rw [← hov] at HOv
            have Hov : Hid ((Pat.pn l j).over (Pat.pn l k) = ov) := by unfold Hid; rw [← Hq.out, ← Hp.out, hov]
            clear hov
            unfold Pat.Pt.v at HOv
            simp only at HOv HC
            have X := Lib.hid (HC.out _ HS.out)
            go_wp2_with fail
            refine wp_region_held_drew (S := (fun W => W.cell? ⟨bA, offA + j * 3, none⟩ = some (.int .i64 qb) ∧ W.cell? ⟨bA, offA + j * 3 + 1, none⟩ = some (.int .i64 qo) ∧ W.cell? ⟨bA, offA + j * 3 + 2, none⟩ = some (.string qs) ∧
        W.cell? ⟨wr.heap.size, 0, none⟩ = some (.int .i64 pb) ∧ W.cell? ⟨wr.heap.size, 1, none⟩ = some (.int .i64 po) ∧ W.cell? ⟨wr.heap.size, 2, none⟩ = some (.string ps))) (by kernel_rfl) (X.out) (fun hHeld => ?_)
            refine takeH (i := 0) (some 29) (v := ?_) rfl rfl (by kernel_rfl) (by kernel_rfl) (by kernel_rfl) (fun _ _ _ h => h) (by rfl) ?_ (by assumption) ?_
            rotate_left
            · (intro w hSw; (try dsimp only at hSw); go_simp; try with_reducible rfl)
            simp only [Act.put, List.setIfInBounds_toArray, List.set_cons_zero, List.set_cons_succ]
            refine takeH (i := 1) (some 30) (v := ?_) rfl rfl (by kernel_rfl) (by kernel_rfl) (by kernel_rfl) (fun _ _ _ h => h) (by rfl) ?_ (by assumption) ?_
            rotate_left
            · (intro w hSw; (try dsimp only at hSw); go_simp; try with_reducible rfl)
            simp only [Act.put, List.setIfInBounds_toArray, List.set_cons_zero, List.set_cons_succ]
            refine takeH (i := 2) (some 31) (v := ?_) rfl rfl (by kernel_rfl) (by kernel_rfl) (by kernel_rfl) (fun _ _ _ h => h) (by rfl) ?_ (by assumption) ?_
            rotate_left
            · (intro w hSw; (try dsimp only at hSw); go_simp; try with_reducible rfl)
            simp only [Act.put, List.setIfInBounds_toArray, List.set_cons_zero, List.set_cons_succ]
            refine takeH (i := 3) (some 32) (v := ?_) rfl rfl (by kernel_rfl) (by kernel_rfl) (by kernel_rfl) (fun _ _ _ h => h) (by rfl) ?_ (by assumption) ?_
            rotate_left
            · (intro w hSw; (try dsimp only at hSw); go_simp; try with_reducible rfl)
            simp only [Act.put, List.setIfInBounds_toArray, List.set_cons_zero, List.set_cons_succ]
            refine takeH (i := 4) (some 33) (v := ?_) rfl rfl (by kernel_rfl) (by kernel_rfl) (by kernel_rfl) (fun _ _ _ h => h) (by rfl) ?_ (by assumption) ?_
            rotate_left
            · (intro w hSw; (try dsimp only at hSw); go_simp; try with_reducible rfl)
            simp only [Act.put, List.setIfInBounds_toArray, List.set_cons_zero, List.set_cons_succ]
            refine wpAnyH_ready (rs := [5]) (by kernel_rfl) (by simp) ?_
            refine AllReadyH.cons rfl (fun K hK => ?_) AllReadyH.nil
            go_simp
            ((with_reducible refine (HOv.out _).mono ?_); rintro e w4 ⟨rfl, hB4⟩; replace HS := Lib.hid (HS.out.next (hB4.mono (Nat.le_refl _))); replace X := Lib.hid (HC.out _ HS.out))
            refine hK _ _ (X.out) (fun hHeld => ?_)
            clear hK K
            try simp only [Act.put, List.setIfInBounds_toArray, List.set_cons_zero, List.set_cons_succ]
            refine wpAnyH_done (by kernel_rfl) ?_ _
            have hol := overTo_len l k j
            cases ov with
            | false =>
              have Hsk := Lib.hid (HS.out.skip Hov.out)
              go_wp2_with fail
              go_roundw
              case rel => exact ⟨j + 1, v, by omega, by go_num, Hsk.out⟩
              case measure => simp [intOf]; omega
            | true =>
              have hc3 : w4.cell? ⟨w.heap.size, k * 4 + 3, none⟩ = some v := by rw [HS.out.blk.cell, itV_at _ (by omega), itC3, upd_self]
              have hG := Lib.hid Hst.out.blk.lt
              have hs4 := HS.out.size
              have Hhit := Lib.hid (fun v' w5 => @OvIn.hit w wr w4 w5 l n k j st ⟨pb, po, ps⟩ v v' hG.out hlt HS.out Hov.out)
              go_wp2_with (at_builtin; refine wpList_append_own _ rfl _ _ 29 rfl (wr.heap.size + 1) 3 i0 (.int .i64 0) 1 8 Try.underlying29 hi hz0 hz1 hz2 rfl (by decide) _ _ _ rfl (HS.out.row.alloc _) ⟨w4.heap.size, 0, none⟩ 1 1 [.int .i64 ((j : Nat) : Int)] rfl rfl (cell_one_new _ _ _) (by simp [Value.oneCell']) (by unfold maxLen; omega) (by omega) (by simp; omega) ?_; intro v' w5 hown' hgrow _; obtain ⟨g', cap', rfl⟩ := ownsRow_succ hown'; obtain ⟨hb5, hin5⟩ := Hhit.out _ w5 hown' hgrow; have hc5 := hb5.cell (k * 4 + 3); rw [itV_at _ (by omega), itC3, upd_self] at hc5; have hf5 := hb5.frozen (k * 4 + 3); have Hin5 := Lib.hid hin5; clear hin5 hb5 hown' hgrow)
              go_roundw
              case rel => exact ⟨j + 1, _, by omega, by go_num, Hin5.out⟩
              case measure => simp [intOf]; omega
          · have hltji : ¬ (j : Int) < (k : Int) := by omega
            obtain rfl : j = k := by omega
            have Hd := Lib.hid (Hdone.out _ _ HS0.out)
            go_wp2_with fail
            go_roundw
            case rel => exact ⟨j + 1, _, by omega, by go_num, Hd.out⟩
            case measure => simp [intOf]; omega
      · have hlti : ¬ (k : Int) < (n : Int) := by omega
        obtain rfl : k = n := by omega
        have hIt := OvSt.items Hn.out Hst.out
        have HB := Lib.hid Hst.out.below
        have Hmr := Lib.hid (mright_any (some ⟨w.heap.size, 0, none⟩) k k (overL l) (by rw [length_overL]; exact Hn.out) wr (by rw [length_overL, ← Hn.out]; omega) (small_overL HF.out (by rw [← Hn.out]; omega)) hIt)
        have HIt := Lib.hid hIt
        have Hr := Lib.hid (rightL_overL l)
        obtain ⟨r, hr⟩ : ∃ r, r = rightL (overL l) := ⟨_, rfl⟩
        rw [← hr] at Hmr Hr
        clear hr hIt
        go_wp2_with fail
        refine Hmr.out.mono ?_
        rintro e w3 ⟨rfl, hB3⟩
        have HB3 := Lib.hid (HB.out.trans (hB3.mono HB.out.size))
        have HIt3 := Lib.hid (HIt.out.next hB3)
        clear Hmr hB3
        cases r with
        | true =>
          go_wp2_with fail
          go_ret
          exact ⟨HB3.out, .inl ⟨Hr.out.symm, _, _, by rw [← Hn.out]; rfl, HIt3.out⟩⟩
        | false =>
          go_wp2_with fail
          go_ret
          exact ⟨HB3.out, .inr ⟨Hr.out.symm, rfl⟩⟩
  · have Hf := Lib.hid (Hlong.out (by rw [← Hn.out]; exact h64))
    have h64' : ¬ (n : Int) ≤ 64 := by omega
    go_enter Try.func27, Try.ntmps27
    go_wp2_with fail
    go_ret
    exact ⟨Below.refl _ _, .inr ⟨Hf.out, rfl⟩⟩
end Go.Proofs.Ytkfjkhacchbkeaa
