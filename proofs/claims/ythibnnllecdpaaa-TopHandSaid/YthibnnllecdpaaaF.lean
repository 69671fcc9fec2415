/- The hand goes round: turn. -/
import Derived.Test.YthibnnllecdpaaaE
namespace Go.Proofs.Ythibnnllecdpaaa
open Go.RowKit

theorem row_at0 {E : TypeId} {B : Nat} {w : World} {b n cap : Nat} {l : List H} (h : w.ownsRow B E 4 (.slice (some ⟨b, 0, none⟩) n cap) n (flat l)) (hn : n = l.length) (h0 : 0 < n) :
    w.cell? ⟨b, 0, none⟩ = some (.int .i64 (nthH l 0).b) ∧ w.cell? ⟨b, 1, none⟩ = some (.int .i64 (nthH l 0).p) ∧ w.cell? ⟨b, 2, none⟩ = some (.bool (nthH l 0).d) ∧ w.cell? ⟨b, 3, none⟩ = some (.bool (nthH l 0).t) := by
  have hc : ∀ j, j < 4 → w.cell? ⟨b, 0 * 4 + j, none⟩ = (nthH l 0).cs[j]? := fun j hj => by
    rw [h.cellAt (0 * 4 + j) (by omega), flat_get (by omega) hj]
  exact ⟨hc 0 (by omega), hc 1 (by omega), hc 2 (by omega), hc 3 (by omega)⟩
theorem headGoes_nth {l : List H} (h : 0 < l.length) : headGoes l = (nthH l 0).goes := by
  cases l with
  | nil => simp at h
  | cons a r => simp [headGoes, nthH]
theorem rot_cells {l : List H} {q : Nat} (hq : l.length = q + 1) : (flat l).drop 4 ++ (flat l).drop (q * 4) = flat (l.drop 1 ++ l.drop q) ∧ modH (l.drop 1 ++ l.drop q) q (fun _ => (nthH l 0).off) = rot l := by
  refine ⟨?_, ?_⟩
  · have := flat_drop l 1
    rw [Nat.one_mul] at this
    rw [this, flat_drop, flat_append]
  · cases l with
    | nil => simp at hq
    | cons a r =>
      have hr : r.length = q := by simpa using hq
      unfold modH
      simp only [List.drop_one, List.tail_cons, rot]
      rw [List.set_append_right _ _ (by omega), hr, Nat.sub_self]
      congr 1
      have : ((a :: r).drop q).length = 1 := by simp; omega
      obtain ⟨z, hz⟩ := List.length_eq_one_iff.1 this
      rw [hz]; rfl

theorem own_stored' {w : World} {B : Nat} {E : TypeId} {b n cap : Nat} {l : List H} (hn : n = l.length) (h : w.ownsRow B E 4 (.slice (some ⟨b, 0, none⟩) n cap) n (flat l)) {k : Nat} (hk : k < n) (f : H → H) (j : Nat) (u : Value) (hf : ∀ h : H, (f h).cs = h.cs.set j u) (hj : j < 4) :
    (w.setCell ⟨b, k * 4 + j, none⟩ u).ownsRow B E 4 (.slice (some ⟨b, 0, none⟩) n cap) n (flat (modH l k f)) ∧ w.grownBy (w.setCell ⟨b, k * 4 + j, none⟩ u) (some b) := by
  subst hn; exact own_stored h hk f j u hf hj
theorem modH_modH {l : List H} {k : Nat} (hk : k < l.length) (f g : H → H) : modH (modH l k f) k g = modH l k (fun x => g (f x)) := by
  have e : nthH (l.set k (f (nthH l k))) k = f (nthH l k) := by rw [nthH_lt (by simpa using hk)]; simp
  unfold modH
  rw [e, List.set_set]
theorem grown_trans {w w1 w2 : World} {r : Option Nat} (g1 : w.grownBy w1 r) (g2 : w1.grownBy w2 r) : w.grownBy w2 r :=
  ⟨g2.os.trans g1.os, g2.tape.trans g1.tape, g2.output.trans g1.output, Nat.le_trans g1.size g2.size, fun z hz hz2 => (g2.block z (Nat.lt_of_lt_of_le hz g1.size) hz2).trans (g1.block z hz hz2)⟩
/-- a whole element stored over -/
theorem store4 {w : World} {B : Nat} {E : TypeId} {b n cap : Nat} {l : List H} (hn : n = l.length) (h : w.ownsRow B E 4 (.slice (some ⟨b, 0, none⟩) n cap) n (flat l)) {k : Nat} (hk : k < n) (e : H) :
    ((((w.setCell ⟨b, k * 4, none⟩ (.int .i64 e.b)).setCell ⟨b, k * 4 + 1, none⟩ (.int .i64 e.p)).setCell ⟨b, k * 4 + 2, none⟩ (.bool e.d)).setCell ⟨b, k * 4 + 3, none⟩ (.bool e.t)).ownsRow B E 4 (.slice (some ⟨b, 0, none⟩) n cap) n (flat (modH l k fun _ => e)) ∧
    w.grownBy ((((w.setCell ⟨b, k * 4, none⟩ (.int .i64 e.b)).setCell ⟨b, k * 4 + 1, none⟩ (.int .i64 e.p)).setCell ⟨b, k * 4 + 2, none⟩ (.bool e.d)).setCell ⟨b, k * 4 + 3, none⟩ (.bool e.t)) (some b) := by
  have hkl : k < l.length := by omega
  obtain ⟨r0, g0⟩ := own_stored' hn h hk (fun x => ⟨e.b, x.p, x.d, x.t⟩) 0 (.int .i64 e.b) (fun _ => rfl) (by omega)
  obtain ⟨r1, g1⟩ := own_stored' (hn.trans (length_modH _ _ _).symm) r0 hk (fun x => ⟨x.b, e.p, x.d, x.t⟩) 1 (.int .i64 e.p) (fun _ => rfl) (by omega)
  obtain ⟨r2, g2⟩ := own_stored' (hn.trans ((length_modH _ _ _).trans (length_modH _ _ _)).symm) r1 hk (fun x => ⟨x.b, x.p, e.d, x.t⟩) 2 (.bool e.d) (fun _ => rfl) (by omega)
  obtain ⟨r3, g3⟩ := own_stored' (hn.trans ((length_modH _ _ _).trans ((length_modH _ _ _).trans (length_modH _ _ _))).symm) r2 hk (fun x => ⟨x.b, x.p, x.d, e.t⟩) 3 (.bool e.t) (fun _ => rfl) (by omega)
  rw [modH_modH hkl, modH_modH hkl, modH_modH hkl] at r3
  exact ⟨r3, grown_trans (grown_trans (grown_trans g0 g1) g2) g3⟩

set_option maxRecDepth 100000 in
set_option maxHeartbeats 2000000 in
theorem turn_any (B g b cap q : Nat) (m : Int) (l : List H) (w : World) (hC : CacheAt 69 66 B w g (.slice (some ⟨b, 0, none⟩) (q + 1) cap) m l) (hnl : q + 1 = l.length) (hany : l.any H.can = true) (hl : q + 1 ≤ 1000) (_hB : B ≤ w.heap.size) :
    Calls Try.prog 39 #[.pointer (some ⟨g, 0, none⟩), .func (.func 40) #[] #[]] w fun e w' => e = .returned (.tuple #[]) ∧ CacheAt 69 66 B w' g (.slice (some ⟨b, 0, none⟩) (q + 1) cap) m (turned l) ∧ Kept w w' (At g (.slice (some ⟨b, 0, none⟩) (q + 1) cap)) := by
  have hs := hC.slot
  obtain ⟨i0, hi0, hz0, hz1, hz2⟩ := info_parts info66
  have Hst : Hid (stops (2 * (q + 1) - 1) l = true ∧ spin (2 * (q + 1) - 1) l = turned l) := by rw [hnl]; exact ⟨stops_any hany, rfl⟩
  have HC := Lib.hid hC
  have Hnl := Lib.hid hnl
  clear hC hany hnl
  go_enter Try.func39, Try.ntmps39
  go_wp2
  go_loopw [18] (fun i wr => ∃ (k r : Nat) (cur : List H), i = .int .i64 k ∧ k + r + 1 = 2 * (q + 1) ∧ cur.length = (q + 1) ∧ stops r cur = true ∧ spin r cur = turned l ∧ CacheAt 69 66 B wr g (.slice (some ⟨b, 0, none⟩) (q + 1) cap) m cur ∧ Kept w wr (At g (.slice (some ⟨b, 0, none⟩) (q + 1) cap))) (fun i _ => 2 * (q + 1) - (intOf i).toNat)
  case atStart => exact ⟨0, 2 * (q + 1) - 1, l, rfl, by omega, Hnl.out.symm, Hst.out.1, Hst.out.2, HC.out, Kept.refl _ _⟩
  case round =>
    obtain ⟨k, r, cur, rfl, hkr, hcl, hst, hsp, hCr, hK⟩ := hrel
    rename World => wr
    have Hcl := Lib.hid hcl
    have HK := Lib.hid hK
    have HCr := Lib.hid hCr
    have hlt : (k : Int) < 2 * ((q : Int) + 1) := by omega
    have hk0 : (0 : Int) ≤ (k : Int) := by omega
    have HRow : Hid (wr.ownsRow B 66 4 (.slice (some ⟨b, 0, none⟩) (q + 1) cap) (q + 1) (flat cur)) := by have := hCr.row; rwa [Hcl.out] at this
    obtain ⟨c0, c1, c2, c3⟩ := row_at0 HRow.out Hcl.out.symm (by omega)
    have hS := HCr.out.slot
    have hglt := HCr.out.glt
    have hblt : b < wr.heap.size := by have := (HCr.out.row.lt b rfl).2; exact this
    have hgb : g ≠ b := fun e => HCr.out.apart (by rw [e]; rfl)
    have HE := Lib.hid (fun w => u2_any (nthH cur 0) w)
    have Hst := Lib.hid hst
    have Hsp := Lib.hid hsp
    have n0 : (0 : Int) < (q : Int) + 1 := by omega
    cases hg : headGoes cur with
    | true =>
      have hg' := hg
      rw [headGoes_nth (by rw [hcl]; omega)] at hg'
      rw [hg'] at HE
      have Hfin : Hid (turned l = cur) := by rw [← hsp]; exact spin_goes hg
      clear hg hg' hst hsp hcl hCr hK
      generalize nthH cur 0 = h at c0 c1 c2 c3 HE
      obtain ⟨hb', hp', hd', ht'⟩ := h
      unfold H.v at HE
      go_wp2_with (refine (HE.out _).mono ?_; rintro e w1 ⟨rfl, hb1⟩; have HB1 := Lib.hid hb1; clear hb1)
      refine bodyPost_ret (v := .tuple #[]) (results_none rfl _ _ _) rfl ?_
      have hB2 : Below wr.heap.size wr w1 := ((Below.refl _ _).alloc (Nat.le_refl _) _).trans (HB1.out.mono (by simp))
      rw [Hfin.out]
      exact ⟨rfl, HCr.out.fresh hB2, HK.out.trans (S' := fun _ => False) (Kept.fresh hB2) (fun _ q => q.elim)⟩
    | false =>
      have hg' := hg
      rw [headGoes_nth (by rw [hcl]; omega)] at hg'
      rw [hg'] at HE
      obtain ⟨r', rfl, hst', hsp'⟩ := stops_next hg hst
      have Hst' := Lib.hid hst'
      have Hsp' : Hid (spin r' (rot cur) = turned l) := by rw [← hsp']; exact hsp
      clear hg hg' hst hsp hcl hCr hK hst' hsp'
      generalize hh : nthH cur 0 = h at c0 c1 c2 c3 HE
      have Hh := Lib.hid hh
      clear hh
      obtain ⟨hb', hp', hd', ht'⟩ := h
      unfold H.v at HE
      obtain ⟨A, hA, hAA⟩ : ∃ A : Addr, (if cap = 1 then some (⟨b, 0, none⟩ : Addr) else some ⟨b, 4, none⟩) = some A ∧ (A = ⟨b, 4, none⟩ ∨ q = 0) := by
        by_cases h : cap = 1
        · exact ⟨⟨b, 0, none⟩, by simp [h], .inr (by have := (own_room HRow.out).1; omega)⟩
        · exact ⟨⟨b, 4, none⟩, by simp [h], .inl rfl⟩
      have HAA := Lib.hid hAA
      have Hone : Hid (∀ u ∈ (flat cur).drop 4, u.oneCell' = true) := fun u hu => flat_one cur u (List.mem_of_mem_drop hu)
      have Hlen : Hid (((flat cur).drop 4).length = q * 4) := by unfold Hid; rw [List.length_drop, length_flat, Hcl.out]; (try omega)
      have Hrc := Lib.hid (rot_cells (l := cur) (q := q) (by rw [Hcl.out]))
      clear hAA
      go_wp2_with (refine (HE.out _).mono ?_; rintro e w1 ⟨rfl, hb1⟩; obtain ⟨hcl, hfr⟩ := bcell hb1; have hz := hb1.size; have HB1 := Lib.hid hb1; clear hb1)
      have hB2 : Below wr.heap.size wr (w1.setCell ⟨wr.heap.size, 3, none⟩ (.bool false)) := (((Below.refl _ _).alloc (Nat.le_refl _) _).trans (HB1.out.mono (by simp))).setCell (by simp) _
      have hC5 := HCr.out.fresh hB2
      have HK5 : Hid (Kept w (w1.setCell ⟨wr.heap.size, 3, none⟩ (.bool false)) (At g (.slice (some ⟨b, 0, none⟩) (q + 1) cap))) := HK.out.trans (S' := fun _ => False) (Kept.fresh hB2) (fun _ q => q.elim)
      have hloc : (w1.setCell ⟨wr.heap.size, 3, none⟩ (.bool false)).heap[wr.heap.size]? = some (.cells #[.int .i64 hb', .int .i64 hp', .bool hd', .bool false] 66 (0, 0)) := by
        have e1 := HB1.out.block wr.heap.size (by simp)
        rw [heap_alloc_new] at e1
        have := heap_setCell_same w1 wr.heap.size 3 _ 66 (.bool false) e1
        simpa using this
      have hbS : b ≠ wr.heap.size := by omega
      have hgS : g ≠ wr.heap.size := by omega
      clear hcl hfr hz hS c0 c1 c2 c3
      generalize w1.setCell ⟨wr.heap.size, 3, none⟩ (.bool false) = W5 at hB2 hC5 HK5 hloc ⊢
      have hsz5 := hB2.size
      have h1q : (1 : Int) ≤ (q : Int) + 1 := by omega
      have hs5 := hC5.slot
      have how5 : Hid (W5.drew.ownsRow B 66 4 (.slice (some ⟨b, 0, none⟩) (q + 1) cap) (q + 1) (flat cur)) := by have := hC5.row; rw [Hcl.out] at this; exact this
      have Hnews : Hid (∀ j u, ((flat cur).drop 4)[j]? = some u → W5.drew.cell? (A.add j) = some u) := fun j u hu => by
        have hlt := (List.getElem?_eq_some_iff.1 hu).1
        rw [Hlen.out] at hlt
        rcases HAA.out with rfl | h0
        · rw [Addr.add_lit, how5.out.cellAt _ (by omega)]
          rw [List.getElem?_drop] at hu
          exact hu
        · omega
      have HC5 := Lib.hid hC5
      have Hloc := Lib.hid hloc
      clear hC5 hloc hB2 HB1
      have Hmid : Hid ((flat cur).drop 4 ++ (flat cur).drop (q * 4) = flat (cur.drop 1 ++ cur.drop q)) := Hrc.out.1
      have Hml : Hid (q + 1 = (cur.drop 1 ++ cur.drop q).length) := by unfold Hid; rw [List.length_append, List.length_drop, List.length_drop, Hcl.out]; omega
      have hqq : (q : Int) < (q : Int) + 1 := by omega
      have hq0 : (0 : Int) ≤ (q : Int) := by omega
      have hbW : b < W5.heap.size := by omega
      have hSW : wr.heap.size < W5.heap.size := (Array.getElem?_eq_some_iff.1 Hloc.out).1
      have hgW : g < W5.heap.size := by omega
      have Hoff : Hid ((⟨hb', hp', hd', false⟩ : H) = (nthH cur 0).off) := by unfold Hid; rw [Hh.out]; rfl
      go_region_law (refine step_copy_down rfl (.tmp 33) (.tmp 38) 67 rfl B 66 i0 Try.underlying67 hi0 hz1 b (q + 1) cap (flat cur) how5.out (by simp [Act.eval, Act.put]) A q (cap - 1) ((flat cur).drop 4) (by simp [Act.eval, Act.put]) Hlen.out Hnews.out Hone.out (by omega) ?_; intro w2 how2 hgr2)
      all_goals
        rw [Hmid.out] at how2
        have How2 := Lib.hid how2
        have Hgr2 := Lib.hid hgr2
        have hs2 : w2.cell? ⟨g, 1, none⟩ = some (.slice (some ⟨b, 0, none⟩) (q + 1) cap) := (World.cell?_of_block (hgr2.block g hgW (by simpa using hgb))).trans hs5
        have hl2 : w2.heap[wr.heap.size]? = some (.cells #[.int .i64 hb', .int .i64 hp', .bool hd', .bool false] 66 (0, 0)) := (hgr2.block wr.heap.size hSW (by simpa using (fun e => hbS e.symm))).trans Hloc.out
        have l0 : w2.cell? ⟨wr.heap.size, 0, none⟩ = some (.int .i64 hb') := by rw [cell_of_row w2 wr.heap.size 0 _ 66 (0, 0) hl2]; rfl
        have l1 : w2.cell? ⟨wr.heap.size, 1, none⟩ = some (.int .i64 hp') := by rw [cell_of_row w2 wr.heap.size 1 _ 66 (0, 0) hl2]; rfl
        have l2 : w2.cell? ⟨wr.heap.size, 2, none⟩ = some (.bool hd') := by rw [cell_of_row w2 wr.heap.size 2 _ 66 (0, 0) hl2]; rfl
        have l3 : w2.cell? ⟨wr.heap.size, 3, none⟩ = some (.bool false) := by rw [cell_of_row w2 wr.heap.size 3 _ 66 (0, 0) hl2]; rfl
        obtain ⟨t0, t1, t2, t3, tf⟩ : w2.cell? ⟨b, q * 4, none⟩ = some (.int .i64 (nthH (cur.drop 1 ++ cur.drop q) q).b) ∧ w2.cell? ⟨b, q * 4 + 1, none⟩ = some (.int .i64 (nthH (cur.drop 1 ++ cur.drop q) q).p) ∧ w2.cell? ⟨b, q * 4 + 2, none⟩ = some (.bool (nthH (cur.drop 1 ++ cur.drop q) q).d) ∧ w2.cell? ⟨b, q * 4 + 3, none⟩ = some (.bool (nthH (cur.drop 1 ++ cur.drop q) q).t) ∧ ∀ j, w2.frozen? ⟨b, j, none⟩ = false := by
          have hc : ∀ j, j < 4 → w2.cell? ⟨b, q * 4 + j, none⟩ = (nthH (cur.drop 1 ++ cur.drop q) q).cs[j]? := fun j hj => by
            rw [How2.out.cellAt (q * 4 + j) (by omega), flat_get (by rw [← Hml.out]; omega) hj]
          exact ⟨hc 0 (by omega), hc 1 (by omega), hc 2 (by omega), hc 3 (by omega), fun j => How2.out.frozenAt j⟩
        generalize nthH (cur.drop 1 ++ cur.drop q) q = z at t0 t1 t2 t3
        clear how2 hgr2 hl2
        have Hfin : Hid (∀ W, W = ((((w2.setCell ⟨b, q * 4, none⟩ (.int .i64 hb')).setCell ⟨b, q * 4 + 1, none⟩ (.int .i64 hp')).setCell ⟨b, q * 4 + 2, none⟩ (.bool hd')).setCell ⟨b, q * 4 + 3, none⟩ (.bool false)).drew → CacheAt 69 66 B W g (.slice (some ⟨b, 0, none⟩) (q + 1) cap) m (rot cur) ∧ Kept w W (At g (.slice (some ⟨b, 0, none⟩) (q + 1) cap))) := by
          intro W hW
          obtain ⟨r1, g1⟩ := store4 Hml.out How2.out (k := q) (by omega) ⟨hb', hp', hd', false⟩
          have e2 : modH (cur.drop 1 ++ cur.drop q) q (fun _ => (⟨hb', hp', hd', false⟩ : H)) = rot cur := by rw [Hoff.out]; exact Hrc.out.2
          rw [e2] at r1
          have hgr : W5.drew.grownBy W (some b) := by
            rw [hW]
            have := grown_trans Hgr2.out g1
            exact ⟨this.os, this.tape, this.output, this.size, this.block⟩
          refine ⟨⟨?_, ?_, HC5.out.ne, HC5.out.lo⟩, HK5.out.trans (S' := fun k => k = b) (Kept.grown (w := W5) (show W5.grownBy W (some b) from ⟨hgr.os, hgr.tape, hgr.output, hgr.size, hgr.block⟩) (fun k e => .inl (by simpa using e.symm))) (fun k e => .inl (.inr (by simp [Value.ownBlock, e])))⟩
          · rw [hgr.block g hgW (by simpa using hgb)]; exact HC5.out.head
          · rw [length_rot, Hcl.out, hW]; exact r1
        go_wp2
        go_region
        all_goals
          go_wp2
          go_roundw
          case rel =>
            have HF := Hfin.out _ rfl
            exact ⟨k + 1, r', rot cur, by go_num, by omega, by rw [length_rot]; exact Hcl.out, Hst'.out, Hsp'.out, HF.1, HF.2⟩
          case measure => simp [intOf]; omega
end Go.Proofs.Ythibnnllecdpaaa
