/- The document's Needs, may, Roll, Bytes, Base. -/
import Derived.Test.YtibkipdadpidnaaE
set_option linter.unusedVariables false
set_option linter.unusedSimpArgs false
namespace Go.Proofs.Ytibkipdadpidnaa
open Go.RowKit
open Pat (Pt AllB undoP nth)
/-- those below that one of a patch and a number needs -/
def needF (n : Int) (p : Pt) (x : On) : Bool := decide (x.n < n) && meetP x.p p
def needsL (l : List On) (n : Int) : List Int := if isOn l n = true then nums (l.filter (needF n (patP l n))) else []
theorem needF_take {l : List On} {n : Int} {p : Pt} {k : Nat} (h : k < l.length) : nums ((l.take (k + 1)).filter (needF n p)) = nums ((l.take k).filter (needF n p)) ++ (if needF n p (onn l k) = true then [(onn l k).n] else []) := by
  rw [take_onn h, List.filter_append]
  unfold nums
  rw [List.map_append]
  congr 1
  by_cases q : needF n p (onn l k) = true
  · rw [List.filter_cons_of_pos q, if_pos q]; rfl
  · rw [List.filter_cons_of_neg (by simpa using q), if_neg q]; rfl
theorem needF_len (l : List On) (n : Int) (p : Pt) : (nums (l.filter (needF n p))).length ≤ l.length := by rw [length_nums]; exact List.length_filter_le _ _
theorem needsL_len (l : List On) (n : Int) : (needsL l n).length ≤ l.length := by
  unfold needsL
  split
  · exact needF_len _ _ _
  · exact Nat.zero_le _
section
variable (B r : Nat) (bA A : Option Addr) (bc c : Nat) (s : Sk) (n : Int) (w : World)
set_option maxRecDepth 100000 in
set_option maxHeartbeats 2000000 in
theorem rneeds_any (hC : RefAt B w r bA bc A c s) (hr0 : Rights s.l) (hl : s.l.length ≤ 900) : Calls Try.prog 38 #[.pointer (some ⟨r, 0, none⟩), .int .i64 n] w fun e w' => ∃ A' c', e = .returned (.slice A' (needsL s.l n).length c') ∧ RowI w' w.heap.size A' c' (needsL s.l n) ∧ Below w.heap.size w w' := by
  have hr := hC.glt
  have HC := Lib.hid hC
  have HG := Lib.hid (rget_any B r bA A bc c s n w hC (by omega))
  have HR := Lib.hid hr0
  obtain ⟨i0, hi0, hz0, hz1, hz2⟩ := info_parts infoI
  have hpok := patP_ok hr0 n
  have HX : Hid (∀ w1 p, Below w.heap.size w w1 → Below w.heap.size w (w1.alloc (.cells #[.int .i64 p.b, .int .i64 p.o, .string p.s] 38)) ∧ Pat.Boxed (w1.alloc (.cells #[.int .i64 p.b, .int .i64 p.o, .string p.s] 38)) w1.heap.size p) := fun w1 p h => ⟨h.alloc h.size _, Pat.boxed1 w1 p⟩
  by_cases hon : isOn s.l n = true
  · have HN : Hid (needsL s.l n = nums (s.l.filter (needF n (patP s.l n)))) := if_pos hon
    have HP := Lib.hid (patP_right hr0 hon)
    rw [hon] at HG
    rw [HN.out]
    generalize patP s.l n = p at *
    have HM := Lib.hid (fun q (hq : q.right = true) W => rmeet_any q p W (Pat.ok_of hq) hpok)
    have HV : Hid (∀ q : Pt, q.right = true → q.over ⟨q.b, p.o, p.s⟩ = meetP q p) := fun q hq => over_meet hq HP.out
    obtain ⟨pb, po, ps⟩ := p
    unfold Pat.Pt.v at HG HM
    simp only at HG
    clear hC hr0 hon hpok
    go_enter Try.func38, Try.ntmps38
    go_wp2_with (go_at_call 36; refine HG.out.mono ?_; rintro e w1 ⟨rfl, hb1⟩)
    obtain ⟨W2, hW2⟩ : ∃ W2, W2 = w1.alloc (.cells #[.int .i64 pb, .int .i64 po, .string ps] 38) := ⟨_, rfl⟩
    have hx := HX.out w1 ⟨pb, po, ps⟩ hb1
    simp only at hx
    rw [← hW2] at hx ⊢
    have HB2 := Lib.hid hx.1
    have HC2 := Lib.hid (HC.out.fresh hx.1)
    have HBx := Lib.hid hx.2
    have hs2 : W2.heap.size = w1.heap.size + 1 := by rw [hW2]; simp
    clear hx hW2 hb1
    obtain ⟨_, c1, _⟩ := HC2.out.hcells
    go_loopw [5, 8] (fun s0 i wr => ∃ (k : Nat) (A' : Option Addr) (c' : Nat), k ≤ s.l.length ∧ i = .int .i64 k ∧ s0 = .slice A' (nums ((s.l.take k).filter (needF n ⟨pb, po, ps⟩))).length c' ∧ Hid (RowI wr W2.heap.size A' c' (nums ((s.l.take k).filter (needF n ⟨pb, po, ps⟩)))) ∧ Hid (Below W2.heap.size W2 wr)) (fun _ i _ => s.l.length - (intOf i).toNat)
    case atStart => exact ⟨0, none, 0, Nat.zero_le _, rfl, rfl, World.ownsRow_nil _ _ _ _, Below.refl _ _⟩
    case round =>
      obtain ⟨k, A', c', hk, rfl, rfl, hrow, hB⟩ := hrel
      rename World => wr
      have hk0 : (0 : Int) ≤ (k : Int) := by omega
      have hwz := hB.out.size
      have HC3 := Lib.hid (HC2.out.fresh hB.out)
      clear c1
      obtain ⟨_, c1, _⟩ := HC3.out.hcells
      obtain ⟨x0, x1, x2⟩ := (HBx.out.below hB.out (by omega)).cells
      simp only at x0 x1 x2
      have hrz : r < wr.heap.size := by have := HB2.out.size; omega
      by_cases hlt : k < s.l.length
      · have hki : (k : Int) < (s.l.length : Int) := by omega
        obtain ⟨b, rfl, h1, h2, hb, d0, d1, d2, d3⟩ := HC3.out.at_ hlt
        unfold maxLen at h2
        have Hq := Lib.hid (HR.out _ (onn_mem hlt))
        have Hs := Lib.hid (needF_take (n := n) (p := ⟨pb, po, ps⟩) hlt)
        have hol : (nums ((s.l.take k).filter (needF n ⟨pb, po, ps⟩))).length ≤ 1000 := by
          have := needF_len (s.l.take k) n ⟨pb, po, ps⟩
          have := List.length_take_le k s.l
          omega
        have HMq := Lib.hid (HM.out _ Hq.out wr.drew)
        rw [HV.out _ Hq.out] at HMq
        have hxz : w1.heap.size < wr.heap.size := by omega
        have HS : Hid (∀ W, Below wr.heap.size wr W → W.cell? ⟨r, 1, none⟩ = some (.slice (some ⟨b, 0, none⟩) s.l.length c) ∧ W.cell? ⟨b, k * 4, none⟩ = some (.int .i64 (onn s.l k).n) ∧ W.cell? ⟨b, k * 4 + 1, none⟩ = some (.int .i64 (onn s.l k).p.b) ∧ W.cell? ⟨b, k * 4 + 2, none⟩ = some (.int .i64 (onn s.l k).p.o) ∧ W.cell? ⟨b, k * 4 + 3, none⟩ = some (.string (onn s.l k).p.s) ∧ W.cell? ⟨w1.heap.size, 0, none⟩ = some (.int .i64 pb) ∧ W.cell? ⟨w1.heap.size, 1, none⟩ = some (.int .i64 po) ∧ W.cell? ⟨w1.heap.size, 2, none⟩ = some (.string ps)) := fun W hW =>
          ⟨(HC3.out.fresh hW).hcells.2.1, (hW.cell (p := ⟨b, k * 4, none⟩) hb).trans d0, (hW.cell (p := ⟨b, k * 4 + 1, none⟩) hb).trans d1, (hW.cell (p := ⟨b, k * 4 + 2, none⟩) hb).trans d2, (hW.cell (p := ⟨b, k * 4 + 3, none⟩) hb).trans d3, (hW.cell (p := ⟨w1.heap.size, 0, none⟩) hxz).trans x0, (hW.cell (p := ⟨w1.heap.size, 1, none⟩) hxz).trans x1, (hW.cell (p := ⟨w1.heap.size, 2, none⟩) hxz).trans x2⟩
        have X0 := Lib.hid (HS.out wr.drew (Below.refl _ _).drew)
        have X1 := Lib.hid (HS.out wr (Below.refl _ _))
        by_cases hn : (onn s.l k).n < n
        · cases hm : meetP (onn s.l k).p ⟨pb, po, ps⟩ with
          | true =>
            rw [hm] at HMq
            have Hs2 := Lib.hid (Hs.out.trans (by rw [if_pos (by unfold needF; rw [hm, decide_eq_true hn]; rfl)]))
            generalize nums ((s.l.take k).filter (needF n ⟨pb, po, ps⟩)) = o at *
            generalize (onn s.l k).n = y at *
            generalize (onn s.l k).p = q at *
            obtain ⟨qb, qo, qs⟩ := q
            simp only at d1 d2 d3 HS X0 X1
            clear Hs hm Hq HV HM
            go_wp2_with fail
            go_region_held3 (fun W => W.cell? ⟨r, 1, none⟩ = some (.slice (some ⟨b, 0, none⟩) s.l.length c) ∧ W.cell? ⟨b, k * 4, none⟩ = some (.int .i64 y) ∧ W.cell? ⟨b, k * 4 + 1, none⟩ = some (.int .i64 qb) ∧ W.cell? ⟨b, k * 4 + 2, none⟩ = some (.int .i64 qo) ∧ W.cell? ⟨b, k * 4 + 3, none⟩ = some (.string qs) ∧ W.cell? ⟨w1.heap.size, 0, none⟩ = some (.int .i64 pb) ∧ W.cell? ⟨w1.heap.size, 1, none⟩ = some (.int .i64 po) ∧ W.cell? ⟨w1.heap.size, 2, none⟩ = some (.string ps))
              (first | exact X0.out | exact X1.out | exact X5.out)
              (first
                | (go_at_call 64; (with_reducible refine HMq.out.mono ?_); rintro e w5 ⟨rfl, hb5⟩; have hb6 := (Below.refl wr.heap.size wr).drew.trans hb5; have B5 := Lib.hid (Below.trans hB.out (Below.mono hb6 hB.out.size)); have R5 := Lib.hid (RowI.fresh hrow.out hb6); have X5 := Lib.hid (HS.out w5 hb6); have Z5 := hb6.size; clear hb5 hb6)
                | fail)
            obtain ⟨e1, e0, e2, e3, e4, e5, e6, e7⟩ := X5.out
            have hr5 : r < w5.heap.size := by omega
            have hb5 : b < w5.heap.size := by omega
            go_wp2_with (at_builtin; refine wpList_append_src rfl (.tmp 49) (.tmp 58) 31 rfl W2.heap.size 3 i0 (.int .i64 0) 1 8 Try.underlying31 hi0 hz0 hz1 hz2 rfl (by decide) (.slice A' o.length c') o.length (intsV o) rfl (ai_row y R5.out) (some ⟨w5.heap.size, 0, none⟩) 1 1 [.int .i64 y] rfl rfl (ai_src w5 y) (by intro h; cases h) (by intro u hu; simp at hu; subst hu; rfl) (by unfold maxLen; omega) (by omega) (by simp; have := B5.out.size; omega) (o.length + 1) rfl ?_; intro A7 c7 w7 ho7 hg7 hor7; have G1 := Lib.hid (ai_new R5.out B5.out ho7 hg7).1; have G2 := Lib.hid (ai_new R5.out B5.out ho7 hg7).2; clear ho7 hg7 hor7)
            go_roundw
            case rel => exact ⟨k + 1, A7, c7, by omega, by go_num, by rw [Hs2.out, List.length_append]; rfl, by rw [Hs2.out]; exact G1.out, G2.out⟩
            case measure => simp [intOf]; omega
          | false =>
            rw [hm] at HMq
            have Hs2 := Lib.hid (Hs.out.trans (by rw [if_neg (by unfold needF; rw [hm]; simp), List.append_nil]))
            generalize nums ((s.l.take k).filter (needF n ⟨pb, po, ps⟩)) = o at *
            generalize (onn s.l k).n = y at *
            generalize (onn s.l k).p = q at *
            obtain ⟨qb, qo, qs⟩ := q
            simp only at d1 d2 d3 HS X0 X1
            clear Hs hm Hq HV HM
            go_wp2_with fail
            go_region_held3 (fun W => W.cell? ⟨r, 1, none⟩ = some (.slice (some ⟨b, 0, none⟩) s.l.length c) ∧ W.cell? ⟨b, k * 4, none⟩ = some (.int .i64 y) ∧ W.cell? ⟨b, k * 4 + 1, none⟩ = some (.int .i64 qb) ∧ W.cell? ⟨b, k * 4 + 2, none⟩ = some (.int .i64 qo) ∧ W.cell? ⟨b, k * 4 + 3, none⟩ = some (.string qs) ∧ W.cell? ⟨w1.heap.size, 0, none⟩ = some (.int .i64 pb) ∧ W.cell? ⟨w1.heap.size, 1, none⟩ = some (.int .i64 po) ∧ W.cell? ⟨w1.heap.size, 2, none⟩ = some (.string ps))
              (first | exact X0.out | exact X1.out | exact X5.out)
              (first
                | (go_at_call 64; (with_reducible refine HMq.out.mono ?_); rintro e w5 ⟨rfl, hb5⟩; have hb6 := (Below.refl wr.heap.size wr).drew.trans hb5; have B5 := Lib.hid (Below.trans hB.out (Below.mono hb6 hB.out.size)); have R5 := Lib.hid (RowI.fresh hrow.out hb6); have X5 := Lib.hid (HS.out w5 hb6); have Z5 := hb6.size; clear hb5 hb6)
                | fail)
            obtain ⟨e1, e0, e2, e3, e4, e5, e6, e7⟩ := X5.out
            have hr5 : r < w5.heap.size := by omega
            have hb5 : b < w5.heap.size := by omega
            go_wp2
            go_roundw
            case rel => exact ⟨k + 1, A', c', by omega, by go_num, by rw [Hs2.out], by rw [Hs2.out]; exact R5.out, B5.out⟩
            case measure => simp [intOf]; omega
        · have Hs2 := Lib.hid (Hs.out.trans (by rw [if_neg (by unfold needF; rw [decide_eq_false hn]; simp), List.append_nil]))
          generalize nums ((s.l.take k).filter (needF n ⟨pb, po, ps⟩)) = o at *
          generalize (onn s.l k).n = y at *
          generalize (onn s.l k).p = q at *
          obtain ⟨qb, qo, qs⟩ := q
          simp only at d1 d2 d3 HS X0 X1
          clear Hs Hq HV HM HMq
          have hnd : decide (y < n) = false := decide_eq_false hn
          go_wp2_with fail
          go_region
          go_wp2
          go_roundw
          case rel => exact ⟨k + 1, A', c', by omega, by go_num, by rw [Hs2.out], by rw [Hs2.out]; exact RowI.keep hrow.out (Kept.refl wr (fun _ => False)).drew (fun _ _ q => q), hB.out.drew⟩
          case measure => simp [intOf]; omega
      · obtain rfl : k = s.l.length := by omega
        have hki : ¬ (s.l.length : Int) < (s.l.length : Int) := by omega
        rw [List.take_length] at *
        go_wp2
        go_ret
        exact ⟨A', c', rfl, Pat.base_le hrow.out (by have := HB2.out.size; omega), Below.trans HB2.out (Below.mono hB.out HB2.out.size)⟩
  · have HN : Hid (needsL s.l n = []) := if_neg hon
    have hon' : isOn s.l n = false := by simpa using hon
    rw [hon'] at HG
    rw [HN.out]
    generalize patP s.l n = p at *
    obtain ⟨pb, po, ps⟩ := p
    unfold Pat.Pt.v at HG
    simp only at HG
    clear hC hr0 hon hpok hon' HN
    go_enter Try.func38, Try.ntmps38
    go_wp2_with (go_at_call 36; refine HG.out.mono ?_; rintro e w1 ⟨rfl, hb1⟩)
    have hx := HX.out w1 ⟨pb, po, ps⟩ hb1
    refine wp_loop_once ?_
    go_wp2
    go_ret
    exact ⟨none, 0, rfl, World.ownsRow_nil _ _ _ _, hx.1⟩
end
end Go.Proofs.Ytibkipdadpidnaa
