/- The program's pick. -/
import Derived.Test.YtibkipdadpidnaaR
set_option linter.unusedVariables false
set_option linter.unusedSimpArgs false
namespace Go.Proofs.Ytibkipdadpidnaa
open Go.RowKit
open Pat (Pt AllB undoP nth)
open Go.Maps (Keyed)
def WfO (l : List On) : Prop := ∀ x ∈ l, WfI x.n
theorem xsL_mem {L : List Ly} {q : Ly} (h : q ∈ L) : q.x ∈ xsL L := List.mem_map.2 ⟨q, h, rfl⟩
/-- what a layer needs is what the document says -/
theorem needY_is {L : List Ly} {k : Nat} (hk : k < L.length) (hr : RiseO (xsL L)) : nums (xsL (needY L k)) = needsL (xsL L) (lyn L k).x.n := by
  have hin : (lyn L k).x ∈ xsL L := xsL_mem (lyn_mem hk)
  have hon : isOn (xsL L) (lyn L k).x.n = true := isOn_iff.2 ⟨_, hin, rfl⟩
  unfold needsL
  rw [if_pos hon, patP_mem hr hin]
  congr 1
  have e : xsL L = xsL (L.take k) ++ xsL (L.drop k) := by unfold xsL; rw [← List.map_append, List.take_append_drop]
  have hp : (xsL (L.take k) ++ xsL (L.drop k)).Pairwise fun x y => x.n < y.n := by rw [← e]; exact hr
  obtain ⟨_, hp2, hp3⟩ := List.pairwise_append.1 hp
  have hd : L.drop k = lyn L k :: L.drop (k + 1) := by rw [List.drop_eq_getElem_cons hk, lyn_lt hk]
  rw [e, List.filter_append]
  have z : (xsL (L.drop k)).filter (needF (lyn L k).x.n (lyn L k).x.p) = [] := by
    rw [List.filter_eq_nil_iff]
    intro x hx
    rw [hd] at hx hp2
    have hp2' := List.pairwise_cons.1 hp2
    rcases List.mem_cons.1 hx with rfl | hx
    · simp [needF]
    · have h2 : (lyn L k).x.n < x.n := hp2'.1 x hx
      simp [needF]; omega
  rw [z, List.append_nil]
  unfold needY xsL
  rw [List.filter_map]
  congr 1
  refine List.filter_congr fun q hq => ?_
  have h1 : q.x.n < (lyn L k).x.n := hp3 q.x (xsL_mem hq) (lyn L k).x (by rw [hd]; exact xsL_mem (List.mem_cons_self ..))
  simp [needF, h1, meet_symm]
theorem needY_any {L : List Ly} {k : Nat} (hk : k < L.length) (hr : RiseO (xsL L)) (m : List Int) : (needY L k).any (fun q => !decide (q.x.n ∈ m)) = !needsIn (xsL L) m (lyn L k).x.n := by
  unfold needsIn
  rw [← needY_is hk hr]
  unfold nums xsL
  rw [List.map_map, List.all_map]
  induction needY L k with
  | nil => rfl
  | cons q r ih => rw [List.any_cons, List.all_cons, ih]; simp
section
variable (B g : Nat) (L : List Ly) (s : Sk) (w : World)
set_option maxRecDepth 100000 in
set_option maxHeartbeats 4000000 in
theorem pick_any (A0 : Option Addr) (c0 : Nat) (m : List Int) (hC : StkAt B w g L s) (hr0 : Rights s.l) (hrise : RiseO s.l) (hwf : WfO s.l) (hl : s.l.length ≤ 900) (hm : m.length ≤ 900) (hmw : ∀ x ∈ m, WfI x) (hI : Ints w w.heap.size A0 m) :
    Calls Try.prog 41 #[.pointer (some ⟨g, 0, none⟩), .slice A0 m.length c0] w fun e w' => ∃ v, e = .returned (.tuple #[v, .int .i64 (mayE s.l m)]) ∧ Below w.heap.size w w' ∧ (mayE s.l m ≠ 0 → v = .map none) ∧ (mayE s.l m = 0 → ∃ b, v = .map (some b) ∧ w.heap.size ≤ b ∧ ∃ c, SetAt w' b c m) := by
  have hxs : xsL L = s.l := hC.xs
  have hLl : L.length = s.l.length := hC.llen
  have HC := Lib.hid hC
  have HI := Lib.hid hI
  have HW := Lib.hid hmw
  have HWL : Hid (∀ q ∈ L, WfI q.x.n) := fun q hq => hwf q.x (by rw [← hxs]; exact xsL_mem hq)
  have HRY : Hid (RightsY L) := fun q hq => hr0 q.x (by rw [← hxs]; exact xsL_mem hq)
  have HRi : Hid (RiseO (xsL L)) := by unfold Hid; rw [hxs]; exact hrise
  have Hxs := Lib.hid hxs
  rw [← hxs] at hrise
  obtain ⟨W2, hW2⟩ : ∃ W2, W2 = (w.alloc (.map #[] 0)).alloc (.map #[] 0) := ⟨_, rfl⟩
  have hB1 : Below w.heap.size w (w.alloc (.map #[] 0)) := (Below.refl _ _).alloc (Nat.le_refl _) _
  have hB2 : Below w.heap.size w W2 := by rw [hW2]; exact hB1.alloc hB1.size _
  have HB2 := Lib.hid hB2
  have hs2 : W2.heap.size = w.heap.size + 2 := by rw [hW2]; simp
  have HSo : Hid (SetAt W2 w.heap.size 0 []) := by
    unfold Hid; rw [hW2]; exact (set_made w).fresh ((Below.refl _ _).alloc (Nat.le_refl _) _)
  have HSp : Hid (SetAt W2 (w.heap.size + 1) 0 []) := by
    unfold Hid; rw [hW2]
    have := set_made (w.alloc (.map #[] 0))
    rwa [World.size_alloc] at this
  have C2 := Lib.hid (hC.fresh hB2)
  have t2 := hC.num
  have t3 := hC.top
  have hg2 := hC.glt
  have HRs : Hid (∀ W, Below w.heap.size w W → Calls Try.prog 48 #[.agg #[.int .i64 s.k, topV L]] W fun e w' => ∃ A c, e = .returned (.slice A L.length c) ∧ RowP w' W.heap.size A c L ∧ Below W.heap.size W w') := fun W hW => rising_any L s.k W (hC.fresh hW).ch (by omega)
  have HNd : Hid (∀ k W, k < L.length → Below w.heap.size w W → Calls Try.prog 58 #[(lyn L k).ptr] W fun e w' => ∃ A c, e = .returned (.slice A (needY L k).length c) ∧ RowP w' W.heap.size A c (needY L k) ∧ Below W.heap.size W w') := fun k W hk hW => needsOf_any L k hk W (hC.fresh hW).ch HRY.out (by omega)
  have hmm := @run_makeMap Try.prog
  have hmf : ∀ (fn : Fn) (first cap : Array Value) (w : World), (Instr.makeFunc fn first cap).run Try.prog w = .ok (.func fn first cap) w := fun _ _ _ _ => rfl
  have hnot : ∀ (x : Bool) (w : World), (Op.unary .not (.bool x)).run Try.prog w = .ok (.bool (!x)) w := fun _ _ => rfl
  have hLl9 : L.length ≤ 900 := by omega
  clear hC hr0 hwf hl hI hmw hxs hrise hB1 hB2 hLl
  go_enter Try.func41, Try.ntmps41
  go_wp2_with (go_at_call 48; rw [← hW2]; (with_reducible refine (HRs.out _ HB2.out).mono ?_); rintro e w3 ⟨A3, c3, rfl, hr3, hb3⟩; have B3 := Lib.hid hb3; have R3 := Lib.hid hr3; clear hr3 hb3)
  have H3o := Lib.hid (HSo.out.fresh B3.out)
  have H3p := Lib.hid (HSp.out.fresh B3.out)
  have BB3 := Lib.hid (Below.trans HB2.out (Below.mono B3.out HB2.out.size))
  clear B3 HSo HSp hW2 t2 t3
  have hgz := C2.out.glt
  go_loopw [26] (fun i wr => ∃ k : Nat, k ≤ L.length ∧ i = .int .i64 k ∧ Hid (RowP wr W2.heap.size A3 c3 L) ∧ Hid (SetAt wr w.heap.size k (nums (xsL (L.take k)))) ∧ Hid (SetAt wr (w.heap.size + 1) 0 []) ∧ Hid (Below w.heap.size w wr)) (fun i _ => L.length - (intOf i).toNat)
  case atStart => exact ⟨0, Nat.zero_le _, rfl, R3.out, H3o.out, H3p.out, BB3.out⟩
  case round =>
    obtain ⟨k, hk, rfl, hrow, hso, hsp, hB⟩ := hrel
    rename World => wr
    have hk0 : (0 : Int) ≤ (k : Int) := by omega
    by_cases hlt : k < L.length
    · have hki : (k : Int) < (L.length : Int) := by omega
      obtain ⟨ab, rfl, hab, h1, h2, e0⟩ := hrow.out.at_ hlt
      unfold maxLen at h2
      have hlay := (HC.out.fresh hB.out).ch k hlt
      have d3 := hlay.cells.2.2.2.1
      have hb := hlay.lt
      have HK := Lib.hid (keyI (HWL.out _ (lyn_mem hlt)))
      have Hs := Lib.hid (nums_xsL hlt)
      obtain ⟨D, h1o, h2o⟩ := hso.out
      have H1 := Lib.hid h1o
      have HC1 := Lib.hid (show k < maxLen by unfold maxLen; omega)
      have HFs : Hid (∀ w7, w7.ownsMap Try.prog 3 unitElem w.heap.size (k + 1) (D.put (.int .i64 (lyn L k).x.n) (.agg [])) → SetAt w7 w.heap.size (k + 1) (nums (xsL (L.take (k + 1))))) := fun w7 h7 => by
        rw [Hs.out]
        refine ⟨_, h7, fun x => ?_⟩
        by_cases e : x = (lyn L k).x.n
        · rw [e, Maps.has_put_same h1o.isMap (isKey _)]; simp
        · rw [Maps.has_put_other (ne_key e), h2o x, List.mem_append]; simp [e]
      have HRow : Hid (∀ w7, wr.grownBy w7 (some w.heap.size) → RowP w7 W2.heap.size (some ⟨ab, 0, none⟩) c3 L ∧ SetAt w7 (w.heap.size + 1) 0 [] ∧ Below w.heap.size w w7) := fun w7 hg7 => by
        have hk7 := Kept.grown (S := fun b => b = w.heap.size) hg7 (fun k e => .inl (by injection e with e; exact e.symm))
        exact ⟨hrow.out.keep hk7 (fun b e z => by have := (hrow.out.lt b e).1; omega), hsp.out.keep hk7 (by omega), Below.trans hB.out (hk7.below (fun b e => by omega) hB.out.size)⟩
      unfold Ly.ptr at e0
      generalize lyn L k = q at *
      obtain ⟨qb, y, qp⟩ := q
      simp only at e0 d3 hb HK HFs
      clear hlay h1o h2o Hs hso hsp
      go_wp2_with (at_mapUpdate; refine wpList_mapUpdate_own _ rfl _ _ _ 67 rfl 3 99 lawI Try.underlying67 unitElem w.heap.size k D rfl H1.out HC1.out _ _ (.int .i64 y) rfl rfl HK.out (.agg []) [] rfl ?_; intro w7 h7 hg7; have H7 := Lib.hid (HFs.out w7 h7); have G7 := Lib.hid hg7; clear h7 hg7)
      go_roundw
      case rel => exact ⟨k + 1, by omega, by go_num, (HRow.out w7 G7.out).1, H7.out, (HRow.out w7 G7.out).2.1, (HRow.out w7 G7.out).2.2⟩
      case measure => simp [intOf]; omega
    · obtain rfl : k = L.length := by omega
      have hki : ¬ (L.length : Int) < (L.length : Int) := by omega
      rw [List.take_length] at hso
      clear hrow R3
      go_wp2
      go_loopw [40] (fun i wz => ∃ k : Nat, k ≤ m.length ∧ i = .int .i64 k ∧ Hid (∀ q, q < k → isOn s.l (inn m q) = true) ∧ Hid (SetAt wz w.heap.size L.length (nums (xsL L))) ∧ Hid (SetAt wz (w.heap.size + 1) k (m.take k)) ∧ Hid (Below w.heap.size w wz)) (fun i _ => m.length - (intOf i).toNat)
      case atStart => exact ⟨0, Nat.zero_le _, rfl, fun q h => absurd h (by omega), hso.out, hsp.out, hB.out⟩
      case round =>
        clear hB hso hsp hk hk0
        obtain ⟨k, hk, rfl, hyes, hso, hsp, hB⟩ := hrel
        rename World => wz
        have hk0 : (0 : Int) ≤ (k : Int) := by omega
        by_cases hlt : k < m.length
        · have hkm : (k : Int) < (m.length : Int) := by omega
          obtain ⟨ib, io, rfl, hib, e0⟩ := (HI.out.below hB.out).at_ hlt
          have hibz : ib < wz.heap.size := Nat.lt_of_lt_of_le hib hB.out.size
          have HK := Lib.hid (keyI (HW.out _ (inn_mem hlt)))
          obtain ⟨Do, h1o, h2o⟩ := hso.out
          have HE : Hid (Maps.has Do (.int .i64 (inn m k)) = isOn s.l (inn m k)) := by
            unfold Hid
            have h := h2o (inn m k)
            cases z : isOn s.l (inn m k) with
            | true =>
              obtain ⟨x, hx, ex⟩ := isOn_iff.1 z
              exact h.2 (by rw [Hxs.out, ← ex]; exact List.mem_map.2 ⟨x, hx, rfl⟩)
            | false =>
              cases z2 : Maps.has Do (.int .i64 (inn m k)) with
              | false => rfl
              | true =>
                have := h.1 z2
                rw [Hxs.out] at this
                obtain ⟨x, hx, ex⟩ := List.mem_map.1 this
                rw [isOn_iff.2 ⟨x, hx, ex⟩] at z; cases z
          have H1o := Lib.hid h1o
          cases ho : isOn s.l (inn m k) with
          | false =>
            have HE2 := Lib.hid (mayE_off hlt ho)
            rw [ho] at HE
            have HBz : Hid (Below w.heap.size w (wz.alloc (.cells #[] 99))) := hB.out.alloc hB.out.size _
            clear h1o h2o hyes hso hsp
            generalize inn m k = y at *
            go_wp2_with (at_lookup; refine wpList_lookup_own_unit _ rfl _ _ 67 rfl 3 99 lawI Try.underlying67 (zeroU _) w.heap.size L.length Do rfl H1o.out _ _ rfl HK.out ?_; rw [HE.out])
            go_ret2
            rw [HE2.out]
            exact ⟨.map none, rfl, HBz.out, fun _ => rfl, fun h => by cases h⟩
          | true =>
            have Hy : Hid (∀ q, q < k + 1 → isOn s.l (inn m q) = true) := fun q hq => by
              by_cases e : q = k
              · rw [e]; exact ho
              · exact hyes.out q (by omega)
            rw [ho] at HE
            obtain ⟨W6, hW6⟩ : ∃ W6, W6 = wz.alloc (.cells #[] 99) := ⟨_, rfl⟩
            have hB6 : Below wz.heap.size wz W6 := by rw [hW6]; exact (Below.refl _ _).alloc (Nat.le_refl _) _
            obtain ⟨D, h1p, h2p⟩ := hsp.out.fresh hB6
            have H1 := Lib.hid h1p
            have HC1 := Lib.hid (show k < maxLen by unfold maxLen; omega)
            have HFs : Hid (∀ w7, w7.ownsMap Try.prog 3 unitElem (w.heap.size + 1) (k + 1) (D.put (.int .i64 (inn m k)) (.agg [])) → SetAt w7 (w.heap.size + 1) (k + 1) (m.take (k + 1))) := fun w7 h7 => by
              rw [take_inn hlt]
              refine ⟨_, h7, fun x => ?_⟩
              by_cases e : x = inn m k
              · rw [e, Maps.has_put_same h1p.isMap (isKey _)]; simp
              · rw [Maps.has_put_other (ne_key e), h2p x, List.mem_append]; simp [e]
            have hso6 := hso.out.fresh hB6
            have HRow : Hid (∀ w7, W6.grownBy w7 (some (w.heap.size + 1)) → SetAt w7 w.heap.size L.length (nums (xsL L)) ∧ Below w.heap.size w w7) := fun w7 hg7 => by
              have hk7 := Kept.grown (S := fun b => b = w.heap.size + 1) hg7 (fun k e => .inl (by injection e with e; exact e.symm))
              have hb6 := Below.trans hB.out (Below.mono hB6 hB.out.size)
              exact ⟨hso6.keep hk7 (by omega), Below.trans hb6 (hk7.below (fun b e => by omega) hb6.size)⟩
            clear h1o h2o h1p h2p hyes hso hsp hso6 hB6
            generalize inn m k = y at *
            go_wp2_with (first
              | (at_lookup; refine wpList_lookup_own_unit _ rfl _ _ 67 rfl 3 99 lawI Try.underlying67 (zeroU _) w.heap.size L.length Do rfl H1o.out _ _ rfl HK.out ?_; rw [HE.out])
              | (at_mapUpdate; rw [← hW6]; refine wpList_mapUpdate_own _ rfl _ _ _ 67 rfl 3 99 lawI Try.underlying67 unitElem (w.heap.size + 1) k D rfl H1.out HC1.out _ _ (.int .i64 y) rfl rfl HK.out (.agg []) [] rfl ?_; intro w7 h7 hg7; have H7 := Lib.hid (HFs.out w7 h7); have G7 := Lib.hid hg7; clear h7 hg7))
            go_roundw
            case rel => exact ⟨k + 1, by omega, by go_num, Hy.out, (HRow.out w7 G7.out).1, H7.out, (HRow.out w7 G7.out).2⟩
            case measure => simp [intOf]; omega
        · obtain rfl : k = m.length := by omega
          have hkm : ¬ (m.length : Int) < (m.length : Int) := by omega
          have HO := Lib.hid (all_inn hyes.out)
          rw [List.take_length] at hsp
          have hCz := HC.out.fresh hB.out
          have t2 := hCz.num
          have t3 := hCz.top
          have hgw := hCz.glt
          have HRz := Lib.hid (HRs.out wz hB.out)
          have HBz := Lib.hid hB.out
          have HPz := Lib.hid hsp.out
          clear hyes hso hsp hCz hB
          go_wp2_with (go_at_call 48; (with_reducible refine HRz.out.mono ?_); rintro e w4 ⟨A4, c4, rfl, hr4, hb4⟩; have R4 := Lib.hid hr4; have P4 := Lib.hid (HPz.out.fresh hb4); have B4 := Lib.hid (Below.trans HBz.out (Below.mono hb4 HBz.out.size)); clear hr4 hb4)
          clear t2 t3
          go_loopw [62] (fun i wy => ∃ k : Nat, k ≤ L.length ∧ i = .int .i64 k ∧ Hid (∀ q, q < k → (lyn L q).x.n ∈ m → needsIn s.l m (lyn L q).x.n = true) ∧ Hid (RowP wy wz.heap.size A4 c4 L) ∧ Hid (SetAt wy (w.heap.size + 1) m.length m) ∧ Hid (Below w.heap.size w wy)) (fun i _ => L.length - (intOf i).toNat)
          case atStart => exact ⟨0, Nat.zero_le _, rfl, fun q h => absurd h (by omega), R4.out, P4.out, B4.out⟩
          case round =>
            clear hk hk0
            obtain ⟨k, hk, rfl, hyes, hrow, hsp, hB⟩ := hrel
            rename World => wy
            have hk0 : (0 : Int) ≤ (k : Int) := by omega
            by_cases hlt : k < L.length
            · have hkl : (k : Int) < (L.length : Int) := by omega
              obtain ⟨ab, rfl, hab, h1, h2, e0⟩ := hrow.out.at_ hlt
              unfold maxLen at h2
              have hch := (HC.out.fresh hB.out).ch
              have HH := Lib.hid (hasS_any (w.heap.size + 1) m.length (lyn L k) m wy hsp.out (hch.mem (lyn_mem hlt)) (HWL.out _ (lyn_mem hlt)))
              have HN := Lib.hid (fun W hW => HNd.out k W hlt hW)
              have HCf : Hid (∀ W A5 c5, Below wy.heap.size wy W → RowP W W.heap.size A5 c5 (needY L k) ∨ (∃ b, RowP W b A5 c5 (needY L k)) → Calls Try.prog 65 #[.slice A5 (needY L k).length c5, .func (.func 66) #[.map (some (w.heap.size + 1))] #[]] W fun e w' => e = .returned (.bool (!needsIn s.l m (lyn L k).x.n)) ∧ Below W.heap.size W w') := fun W A5 c5 hW hR5 => by
                have hR6 : ∃ b, RowP W b A5 c5 (needY L k) := hR5.elim (fun h => ⟨_, h⟩) id
                obtain ⟨b6, hR6⟩ := hR6
                have hlen : (needY L k).length ≤ 1000 := by
                  have h1 := List.length_filter_le (fun q : Ly => !(!meetP (lyn L k).x.p q.x.p)) (L.take k)
                  have h2 := List.length_take_le k L
                  unfold needY; omega
                have := contains_lacks b6 A5 c5 (needY L k) (w.heap.size + 1) (fun q => !decide (q.x.n ∈ m)) W hR6 hlen (fun q W' hq hW' => by
                  have hqL : q ∈ L := List.mem_of_mem_take (List.mem_filter.1 hq).1
                  have hww : Below wy.heap.size wy W' := Below.trans hW (Below.mono hW' hW.size)
                  exact lacks_any (w.heap.size + 1) m.length q m W' (hsp.out.fresh hww) ((hch.fresh hww).mem hqL) (HWL.out q hqL))
                rwa [needY_any hlt HRi.out, Hxs.out] at this
              have HB12 : Hid ((lyn L k).x.n ∈ m → needsIn s.l m (lyn L k).x.n = false → mayE s.l m = 12) := fun h1 h2 => by
                obtain ⟨j, hj, ej⟩ := mem_inn h1
                exact mayE_busy HO.out hj (by rw [ej]; exact h2)
              have HY : Hid (((lyn L k).x.n ∈ m → needsIn s.l m (lyn L k).x.n = true) → ∀ q, q < k + 1 → (lyn L q).x.n ∈ m → needsIn s.l m (lyn L q).x.n = true) := fun h q hq => by
                by_cases e : q = k
                · rw [e]; exact h
                · exact hyes.out q (by omega)
              have HStep : Hid (∀ W, Below wy.heap.size wy W → RowP W wz.heap.size (some ⟨ab, 0, none⟩) c4 L ∧ SetAt W (w.heap.size + 1) m.length m ∧ Below w.heap.size w W) := fun W hW => ⟨hrow.out.fresh hW, hsp.out.fresh hW, Below.trans hB.out (Below.mono hW hB.out.size)⟩
              clear hch hyes hrow hsp
              generalize needsIn s.l m (lyn L k).x.n = nd at *
              generalize needY L k = nY at *
              by_cases hmem : (lyn L k).x.n ∈ m
              · rw [decide_eq_true hmem] at HH
                have HB13 := Lib.hid (HB12.out hmem)
                have HY2 := Lib.hid (fun (h : nd = true) => HY.out (fun _ => h))
                clear hmem HB12 HY
                generalize lyn L k = q at *
                unfold Ly.ptr at *
                cases nd with
                | true =>
                  go_wp2_with (first
                    | (go_at_call 43; (with_reducible refine HH.out.mono ?_); rintro e w5 ⟨rfl, hb5⟩; have B5 := Lib.hid hb5; have S5 := Lib.hid (HStep.out w5 hb5); clear hb5)
                    | (go_at_call 58; (with_reducible refine (HN.out _ S5.out.2.2).mono ?_); rintro e w6 ⟨A6, c6, rfl, hr6, hb6⟩; have B6 := Lib.hid (Below.trans B5.out (Below.mono hb6 B5.out.size)); have R6 := Lib.hid hr6; clear hr6 hb6)
                    | (go_at_call 65; (with_reducible refine (HCf.out _ _ _ B6.out (.inr ⟨_, R6.out⟩)).mono ?_); rintro e w7 ⟨rfl, hb7⟩; have S7 := Lib.hid (HStep.out w7 (Below.trans B6.out (Below.mono hb7 B6.out.size))); clear hb7))
                  go_roundw
                  case rel => exact ⟨k + 1, by omega, by go_num, HY2.out trivial, S7.out.1, S7.out.2.1, S7.out.2.2⟩
                  case measure => simp [intOf]; omega
                | false =>
                  have HE12 := Lib.hid (HB13.out rfl)
                  go_wp2_with (first
                    | (go_at_call 43; (with_reducible refine HH.out.mono ?_); rintro e w5 ⟨rfl, hb5⟩; have B5 := Lib.hid hb5; have S5 := Lib.hid (HStep.out w5 hb5); clear hb5)
                    | (go_at_call 58; (with_reducible refine (HN.out _ S5.out.2.2).mono ?_); rintro e w6 ⟨A6, c6, rfl, hr6, hb6⟩; have B6 := Lib.hid (Below.trans B5.out (Below.mono hb6 B5.out.size)); have R6 := Lib.hid hr6; clear hr6 hb6)
                    | (go_at_call 65; (with_reducible refine (HCf.out _ _ _ B6.out (.inr ⟨_, R6.out⟩)).mono ?_); rintro e w7 ⟨rfl, hb7⟩; have S7 := Lib.hid (HStep.out w7 (Below.trans B6.out (Below.mono hb7 B6.out.size))); clear hb7))
                  go_ret2
                  rw [HE12.out]
                  exact ⟨.map none, rfl, S7.out.2.2, fun _ => rfl, fun h => by cases h⟩
              · rw [decide_eq_false hmem] at HH
                have HY2 := Lib.hid (HY.out (fun h => absurd h hmem))
                clear hmem HB12 HY
                generalize lyn L k = q at *
                unfold Ly.ptr at *
                go_wp2_with (go_at_call 43; (with_reducible refine HH.out.mono ?_); rintro e w5 ⟨rfl, hb5⟩; have S5 := Lib.hid (HStep.out w5 hb5); clear hb5)
                go_roundw
                case rel => exact ⟨k + 1, by omega, by go_num, HY2.out, S5.out.1, S5.out.2.1, S5.out.2.2⟩
                case measure => simp [intOf]; omega
            · obtain rfl : k = L.length := by omega
              have hkl : ¬ (L.length : Int) < (L.length : Int) := by omega
              have HE0 : Hid (mayE s.l m = 0) := by
                unfold Hid mayE
                rw [if_pos HO.out, if_pos]
                rw [List.all_eq_true]
                intro n hn
                have hon := List.all_eq_true.1 HO.out n hn
                obtain ⟨x, hx, ex⟩ := isOn_iff.1 hon
                rw [← Hxs.out] at hx
                obtain ⟨q, hq, rfl⟩ := List.mem_map.1 hx
                obtain ⟨j, hj, rfl⟩ := mem_lyn hq
                have := hyes.out j hj (by rw [ex]; exact hn)
                rwa [ex] at this
              clear hyes hrow
              go_wp2
              go_ret2
              rw [HE0.out]
              exact ⟨.map (some (w.heap.size + 1)), rfl, hB.out, fun h => absurd rfl h, fun _ => ⟨_, rfl, Nat.le_succ _, _, hsp.out⟩⟩
end
end Go.Proofs.Ytibkipdadpidnaa
