/- The document's own cache: Use of a full one where some can go. -/
import Derived.Test.YthibnnllecdpaaaU2
import Derived.Test.YthibnnllecdpaaaF
namespace Go.Proofs.Ythibnnllecdpaaa
open Go.RowKit

theorem loc_set {w : World} {g p : Nat} {y0 y1 : Int} {y2 y3 : Bool} {v : Value} (h : w.cell? ⟨p, 0, none⟩ = some (.int .i64 y0) ∧ w.cell? ⟨p, 1, none⟩ = some (.int .i64 y1) ∧ w.cell? ⟨p, 2, none⟩ = some (.bool y2) ∧ w.cell? ⟨p, 3, none⟩ = some (.bool y3)) (hgp : g ≠ p) :
    (w.setCell ⟨g, 1, none⟩ v).cell? ⟨p, 0, none⟩ = some (.int .i64 y0) ∧ (w.setCell ⟨g, 1, none⟩ v).cell? ⟨p, 1, none⟩ = some (.int .i64 y1) ∧ (w.setCell ⟨g, 1, none⟩ v).cell? ⟨p, 2, none⟩ = some (.bool y2) ∧ (w.setCell ⟨g, 1, none⟩ v).cell? ⟨p, 3, none⟩ = some (.bool y3) := by
  have e : ∀ j, (w.setCell ⟨g, 1, none⟩ v).cell? ⟨p, j, none⟩ = w.cell? ⟨p, j, none⟩ := fun j => World.cell?_of_block (heap_setCell_other w ⟨g, 1, none⟩ p v (fun q => hgp q.symm))
  exact ⟨(e 0).trans h.1, (e 1).trans h.2.1, (e 2).trans h.2.2.1, (e 3).trans h.2.2.2⟩
section
variable (B g M : Nat) (v : Value) (l : List H) (x : Int) (w : World)
set_option maxRecDepth 100000 in
set_option maxHeartbeats 4000000 in
theorem ruse_turn (hC : CacheAt 77 102 B w g v M l) (hl : l.length ≤ 1000) (hx : ¬ (x < 0 ∨ 96 ≤ x)) (hh : has l x = false) (hlm : l.length = M) (hany : l.any H.can = true) (hB : B ≤ w.heap.size) :
    Calls Try.prog 44 #[.pointer (some ⟨g, 0, none⟩), .int .i64 x] w fun e w' => e = .returned (.tuple #[.int .i64 (nthH (turned l) 0).b, .int .i64 0]) ∧ Went 77 102 B w g v M ((turned l).drop 1 ++ [fresh x]) w' := by
  have HF := Lib.hid (rat_any B g v M l x w hC hl)
  rw [idxI_no hh] at HF
  have HC := Lib.hid hC
  have hs := hC.slot
  have hm := hC.most
  have hg := hC.glt
  obtain ⟨i0, hi0, hz0, hz1, hz2⟩ := info_parts info102
  obtain ⟨A, cap, rfl, h1, h2⟩ := hC.form
  have x0 : ¬ x < 0 := by omega
  have x1 : ¬ 96 ≤ x := by omega
  have hB0 : Below w.heap.size w (w.alloc (.cells #[] 102)) := (Below.refl _ _).alloc (Nat.le_refl _) _
  have Hown : Hid ((w.alloc (.cells #[] 102)).ownsRow w.heap.size 102 4 (.slice (some ⟨w.heap.size, 0, none⟩) 0 0) 0 []) := World.ownsRow_made w #[] 0 (Nat.le_refl _) (by simp) (by simp)
  have Hsrc := Lib.hid (row_src (HC.out.fresh hB0).row)
  have HB0 := Lib.hid hB0
  have Hlf := Lib.hid (length_flat l)
  have Hone := Lib.hid (flat_one l)
  have HANY := Lib.hid hany
  have hpos := any_pos hany
  have Hst : Hid (stops (2 * l.length - 1) l = true ∧ spin (2 * l.length - 1) l = turned l) := ⟨stops_any hany, rfl⟩
  subst hlm
  have hnl : ¬ (l.length : Int) < (l.length : Int) := by omega
  clear hany
  clear hC hh hx hB0
  go_enter Try.func44, Try.ntmps44
  go_wp2_with (first
    | (go_at_call 55; refine HF.out.mono ?_; rintro e w' ⟨rfl, rfl⟩)
    | (refine wpList_append_src rfl (.tmp 35) (.tmp 39) 75 rfl w.heap.size 102 i0 zeroH 4 24 Try.underlying75 hi0 hz0 hz1 hz2 rfl (by decide) _ 0 [] rfl Hown.out A l.length cap (flat l) rfl Hlf.out Hsrc.out.1 Hsrc.out.2 Hone.out (by unfold maxLen; omega) (by omega) (by simp) l.length (by omega) ?_; intro A1 c1 w1 ho1 hg1 hor1; have hB1 := HB0.out.grown hg1 (by simp) (fun j e => by cases e; exact Nat.le_refl _); have hs1 := (HC.out.fresh hB1).slot; have hm1 := (HC.out.fresh hB1).most; have hf1 := (HC.out.fresh hB1).free 1; have hg1' := (HC.out.fresh hB1).glt; have HB1 := Lib.hid hB1; rw [List.nil_append] at ho1; have HO1 := Lib.hid ho1; clear ho1 hg1 hor1 hB1))
  have Hx1 : Hid (Below w.heap.size w (w1.alloc (.cells #[.int .i64 x, .int .i64 0, .bool false, .bool true] 102))) := HB1.out.alloc HB1.out.size _
  have HW1 : Hid ((w1.alloc (.cells #[.int .i64 x, .int .i64 0, .bool false, .bool true] 102)).ownsRow w.heap.size 102 4 (.slice A1 l.length c1) l.length (flat l)) := HO1.out.alloc _
  have Hp1 : Hid ((w1.alloc (.cells #[.int .i64 x, .int .i64 0, .bool false, .bool true] 102)).heap[w1.heap.size]? = some (.cells #[.int .i64 x, .int .i64 0, .bool false, .bool true] 102 (0, 0))) := heap_alloc_new w1 _
  clear hs1 hm1 hf1 hg1'
  generalize w1.alloc (.cells #[.int .i64 x, .int .i64 0, .bool false, .bool true] 102) = W1 at *
  go_loopw [9, 10] (fun s i wr => ∃ k : Nat, k ≤ l.length ∧ s = .bool ((l.take k).any H.can) ∧ i = .int .i64 k ∧ Below W1.heap.size W1 wr) (fun _ i _ => l.length - (intOf i).toNat)
  case atStart => exact ⟨0, Nat.zero_le _, rfl, rfl, Below.refl _ _⟩
  case round =>
    obtain ⟨k, hk, rfl, rfl, hB⟩ := hrel
    rename World => wr
    have HBw := Lib.hid hB
    by_cases hlt : k < l.length
    · have hlti : (k : Int) < (l.length : Int) := by omega
      have hk0 : (0 : Int) ≤ (k : Int) := by omega
      obtain ⟨b, cap', hv, _, hc2, hb, _, c0, c1', c2, c3, _⟩ := row_at ((Kept.fresh (S := fun _ => False) hB).row HW1.out (fun _ _ q => q)) hlt
      cases hv
      unfold maxLen at hc2
      have Htk : Hid ((l.take (k + 1)).any H.can = ((l.take k).any H.can || (nthH l k).can)) := by
        unfold Hid
        rw [List.take_succ_eq_append_getElem hlt, List.any_append, nthH_lt hlt]
        simp
      have HE := Lib.hid (fun w => rgoes_any (nthH l k) w)
      clear hB
      cases h1 : (l.take k).any H.can with
      | true =>
        rw [h1] at Htk
        clear h1
        go_wp2
        go_roundw
        case rel => exact ⟨k + 1, by omega, by rw [Htk.out, Bool.true_or], by go_num, HBw.out⟩
        case measure => simp [intOf]; omega
      | false =>
        rw [h1] at Htk
        clear h1
        generalize hd : (nthH l k).can = d at HE Htk
        clear hd
        generalize nthH l k = h at c0 c1' c2 c3 HE
        obtain ⟨hb', hp', hd', ht'⟩ := h
        unfold H.v at HE
        go_wp2_with (refine (HE.out _).mono ?_; rintro e w3 ⟨rfl, hb3⟩; have HB3 := Lib.hid hb3; clear hb3)
        go_roundw
        case rel => exact ⟨k + 1, by omega, by rw [Htk.out, Bool.false_or], by go_num, HBw.out.trans (HB3.out.mono HBw.out.size)⟩
        case measure => simp [intOf]; omega
    · obtain rfl : k = l.length := by omega
      have hlti : ¬ (l.length : Int) < (l.length : Int) := by omega
      have e1 : (l.take l.length).any H.can = true := by rw [List.take_length]; exact HANY.out
      rw [e1]
      clear e1 hB
      have HR3 : Hid (wr.ownsRow w.heap.size 102 4 (.slice A1 l.length c1) l.length (flat l)) := (Kept.fresh (S := fun _ => False) HBw.out).row HW1.out (fun _ _ q => q)
      have hpW : w1.heap.size < W1.heap.size := (Array.getElem?_eq_some_iff.1 Hp1.out).1
      have Hp3 : Hid (wr.heap[w1.heap.size]? = some (.cells #[.int .i64 x, .int .i64 0, .bool false, .bool true] 102 (0, 0))) := (HBw.out.block _ hpW).trans Hp1.out
      have H13 : Hid (Below w.heap.size w wr) := Hx1.out.trans (HBw.out.mono Hx1.out.size)
      clear hpW HBw Hp1 HW1 Hx1
      obtain ⟨W3, rfl⟩ : ∃ W3 : World, W3 = wr := ⟨_, rfl⟩
      go_wp2
      go_loopg [7] (2 * l.length - 1) (fun r s wr2 => ∃ (A' : Option Addr) (c' : Nat) (cur : List H), s = .slice A' l.length c' ∧ cur.length = l.length ∧ stops r cur = true ∧ spin r cur = turned l ∧ wr2.ownsRow w.heap.size 102 4 (.slice A' l.length c') l.length (flat cur) ∧ Below W3.heap.size W3 wr2)
      case atStart => exact ⟨A1, c1, l, rfl, rfl, Hst.out.1, Hst.out.2, HR3.out, Below.refl _ _⟩
      case round =>
        obtain ⟨A', c', cur, rfl, hcl, hst, hsp, hrow, hB⟩ := hrel
        obtain ⟨b, cp, hv, hBb, hblt⟩ := hrow.form hpos
        cases hv
        obtain ⟨c0, c1', c2, c3⟩ := row_at0 hrow hcl.symm hpos
        obtain ⟨hrc1, hrc2⟩ := own_room hrow
        have Hcl := Lib.hid hcl
        have Hst2 := Lib.hid hst
        have Hsp2 := Lib.hid hsp
        have HR := Lib.hid hrow
        have HB := Lib.hid hB
        have HE := Lib.hid (fun w => rgoes_any (nthH cur 0) w)
        have hn0 : (0 : Int) < (l.length : Int) := by omega
        have hlcap : (l.length : Int) ≤ (c' : Int) := by omega
        unfold maxLen at hrc2
        clear hst hsp hrow hB
        cases hg : headGoes cur with
        | true =>
          have Hfin : Hid (turned l = cur) := by rw [← Hsp2.out]; exact spin_goes hg
          rw [headGoes_nth (by rw [hcl]; exact hpos)] at hg
          simp only [H.goes, Bool.and_eq_true, Bool.not_eq_true'] at hg
          obtain ⟨hg1, hg2⟩ := hg
          rw [hg1] at HE
          have Hnb : Hid ((nthH (turned l) 0).b = (nthH cur 0).b) := by unfold Hid; rw [Hfin.out]
          clear hg1 hcl
          obtain ⟨A, hA⟩ : ∃ A : Addr, (if c' = 1 then some (⟨b, 0, none⟩ : Addr) else some ⟨b, 4, none⟩) = some A := by
            by_cases h : c' = 1
            · exact ⟨_, by rw [if_pos h]⟩
            · exact ⟨_, by rw [if_neg h]⟩
          have HX0 : Hid (∀ Wr, Below wr.heap.size wr Wr → ∀ W, Below Wr.heap.size Wr W → ∀ ad, some A = some ad → ∀ j u, ((flat cur).drop 4)[j]? = some u → W.cell? (ad.add j) = some u) := fun Wr hWr W hW ad e => by
            have := tail_src (k := 1) ((Kept.fresh (S := fun _ => False) (hWr.trans (hW.mono hWr.size))).row HR.out (fun _ _ q => q)) (show 1 ≤ l.length by omega) ad (by rw [Nat.one_mul, hA]; exact e)
            rw [Nat.one_mul] at this
            exact this
          have Hlen2 : Hid (((flat cur).drop 4).length = (l.length - 1) * 4) := by unfold Hid; rw [List.length_drop, length_flat, Hcl.out]; omega
          have Hone2 : Hid (∀ u ∈ (flat cur).drop 4, u.oneCell' = true) := fun u hu => flat_one cur u (List.mem_of_mem_drop hu)
          have Hend : Hid ([] ++ (flat cur).drop 4 ++ [.int .i64 x, .int .i64 0, .bool false, .bool true] = flat ((turned l).drop 1 ++ [fresh x])) := by
            unfold Hid
            have := flat_drop cur 1
            rw [Nat.one_mul] at this
            rw [Hfin.out, flat_append, this]; rfl
          have Hel : Hid (((turned l).drop 1 ++ [fresh x]).length = l.length) := by unfold Hid; rw [Hfin.out, List.length_append, List.length_drop, Hcl.out]; simp; omega
          have hpW3 : w1.heap.size < W3.heap.size := (Array.getElem?_eq_some_iff.1 Hp3.out).1
          have hgp : g ≠ w1.heap.size := by have := HB1.out.size; omega
          have HpB : Hid (Below W3.heap.size W3 wr) := HB
          have Hp4 : Hid (∀ W, Below wr.heap.size wr W → W.heap[w1.heap.size]? = some (.cells #[.int .i64 x, .int .i64 0, .bool false, .bool true] 102 (0, 0))) := fun W hW => by
            have := HB.out.size
            exact ((hW.block _ (by omega)).trans (HB.out.block _ hpW3)).trans Hp3.out
          generalize hX2 : (flat cur).drop 4 = X2 at *
          clear hX2
          generalize nthH cur 0 = h at *
          obtain ⟨y0, y1, y2, y3⟩ := h
          unfold H.v at HE
          go_wp2_with (refine (HE.out _).mono ?_; rintro e w4 ⟨rfl, hb4⟩; obtain ⟨hcl4, hfr4⟩ := bcell hb4; have hz4 := hb4.size; have HB4 := Lib.hid hb4; clear hb4)
          have HBr : Hid (Below wr.heap.size wr w4) := HB4.out
          have hWp := Hp4.out w4 HB4.out
          have HBw : Hid (Below w.heap.size w w4) := (H13.out.trans (HB.out.mono H13.out.size)).trans (HB4.out.mono (by have := H13.out.size; have := HB.out.size; omega))
          obtain ⟨Wr, rfl⟩ : ∃ Wr : World, Wr = w4 := ⟨_, rfl⟩
          generalize w1.heap.size = p at hWp hgp ⊢
          have hpW : p < Wr.heap.size := (Array.getElem?_eq_some_iff.1 hWp).1
          have l0 : Wr.cell? ⟨p, 0, none⟩ = some (.int .i64 x) := by rw [cell_of_row Wr p 0 _ 102 (0, 0) hWp]; rfl
          have l1 : Wr.cell? ⟨p, 1, none⟩ = some (.int .i64 0) := by rw [cell_of_row Wr p 1 _ 102 (0, 0) hWp]; rfl
          have l2 : Wr.cell? ⟨p, 2, none⟩ = some (.bool false) := by rw [cell_of_row Wr p 2 _ 102 (0, 0) hWp]; rfl
          have l3 : Wr.cell? ⟨p, 3, none⟩ = some (.bool true) := by rw [cell_of_row Wr p 3 _ 102 (0, 0) hWp]; rfl
          have HX2 : Hid (∀ W, Below Wr.heap.size Wr W → ∀ ad, some A = some ad → ∀ j u, X2[j]? = some u → W.cell? (ad.add j) = some u) := fun W hW => HX0.out Wr HBr.out W hW
          have Hone1 : Hid (∀ u ∈ [Value.int .i64 x, .int .i64 0, .bool false, .bool true], u.oneCell' = true) := by
            intro u hu
            simp at hu
            rcases hu with rfl | rfl | rfl | rfl <;> rfl
          have h1l : (1 : Int) ≤ (l.length : Int) := by omega
          have h1c : (1 : Int) ≤ (c' : Int) := by omega
          clear hcl4 hfr4 c0 c1' c2 hWp
          go_wp2
          have HBa : Hid (Below Wr.heap.size Wr (Wr.alloc (.cells #[] 102)).drew) := ((Below.refl _ _).alloc (Nat.le_refl _) _).drew
          have HBb : Hid (Below Wr.heap.size Wr ((Wr.alloc (.cells #[] 102)).alloc (.cells #[.int .i64 x, .int .i64 0, .bool false, .bool true] 102)).drew) := (((Below.refl _ _).alloc (Nat.le_refl _) _).alloc (by simp) _).drew
          have HBc : Hid (Below Wr.heap.size Wr ((Wr.alloc (.cells #[.int .i64 x, .int .i64 0, .bool false, .bool true] 102)).alloc (.cells #[] 102)).drew) := (((Below.refl _ _).alloc (Nat.le_refl _) _).alloc (by simp) _).drew
          have F1 : Hid ((Wr.alloc (.cells #[] 102)).drew.ownsRow Wr.heap.size 102 4 (.slice (some ⟨Wr.heap.size, 0, none⟩) 0 0) 0 []) := own_made Wr rfl (Nat.le_refl _)
          have F2 : Hid (((Wr.alloc (.cells #[] 102)).alloc (.cells #[.int .i64 x, .int .i64 0, .bool false, .bool true] 102)).drew.ownsRow Wr.heap.size 102 4 (.slice (some ⟨Wr.heap.size, 0, none⟩) 0 0) 0 []) := (own_made Wr rfl (Nat.le_refl _)).alloc _
          have F3 : Hid (((Wr.alloc (.cells #[.int .i64 x, .int .i64 0, .bool false, .bool true] 102)).alloc (.cells #[] 102)).drew.ownsRow Wr.heap.size 102 4 (.slice (some ⟨Wr.heap.size + 1, 0, none⟩) 0 0) 0 []) := own_made _ (by simp) (by simp)
          have G2 : Hid (((Wr.alloc (.cells #[] 102)).alloc (.cells #[.int .i64 x, .int .i64 0, .bool false, .bool true] 102)).drew.heap[Wr.heap.size + 1]? = some (.cells #[.int .i64 x, .int .i64 0, .bool false, .bool true] 102 (0, 0))) := by have := heap_alloc_new (Wr.alloc (.cells #[] 102)) (.cells #[.int .i64 x, .int .i64 0, .bool false, .bool true] 102); rw [World.size_alloc] at this; exact this
          have G3 : Hid (((Wr.alloc (.cells #[.int .i64 x, .int .i64 0, .bool false, .bool true] 102)).alloc (.cells #[] 102)).drew.heap[Wr.heap.size]? = some (.cells #[.int .i64 x, .int .i64 0, .bool false, .bool true] 102 (0, 0))) := by have := heap_alloc_old' (Wr.alloc (.cells #[.int .i64 x, .int .i64 0, .bool false, .bool true] 102)) (.cells #[] 102) Wr.heap.size (by simp); exact this.trans (heap_alloc_new Wr _)
          have HL : Hid (∀ W, Below Wr.heap.size Wr W → W.cell? ⟨p, 0, none⟩ = some (.int .i64 x) ∧ W.cell? ⟨p, 1, none⟩ = some (.int .i64 0) ∧ W.cell? ⟨p, 2, none⟩ = some (.bool false) ∧ W.cell? ⟨p, 3, none⟩ = some (.bool true)) := fun W hW => ⟨(hW.cell (p := ⟨p, 0, none⟩) hpW).trans l0, (hW.cell (p := ⟨p, 1, none⟩) hpW).trans l1, (hW.cell (p := ⟨p, 2, none⟩) hpW).trans l2, (hW.cell (p := ⟨p, 3, none⟩) hpW).trans l3⟩
          have hn0 := World.new_ne Wr ⟨p, 0, none⟩ l0
          have hn1 := World.new_ne Wr ⟨p, 1, none⟩ l1
          have hn2 := World.new_ne Wr ⟨p, 2, none⟩ l2
          have hn3 := World.new_ne Wr ⟨p, 3, none⟩ l3
          go_region_held3 (fun w' => w'.cell? ⟨p, 0, none⟩ = some (.int .i64 x) ∧ w'.cell? ⟨p, 1, none⟩ = some (.int .i64 0) ∧ w'.cell? ⟨p, 2, none⟩ = some (.bool false) ∧ w'.cell? ⟨p, 3, none⟩ = some (.bool true)) (first | exact X7.out | exact X6b.out | exact X6.out | exact X8.out | go_keep)
            (first
              | (refine step_append_src rfl (.tmp 100) (.tmp 102) 75 rfl Wr.heap.size 102 i0 zeroH 4 24 Try.underlying75 hi0 hz0 hz1 hz2 rfl (by decide) (.slice (some ⟨Wr.heap.size, 0, none⟩) 0 0) 0 [] rfl F1.out (some A) (l.length - 1) (c' - 1) X2 rfl Hlen2.out (HX2.out _ HBa.out) (fun e => by cases e) Hone2.out (by unfold maxLen; omega) (by omega) HBa.out.size (l.length - 1) (by omega) ?_; intro A6 c6 w6 ho6 hg6 hor6; have HB6 := Lib.hid (HBa.out.grown hg6 HBa.out.size (fun j e => (by cases e; first | exact Nat.le_refl _ | exact Nat.le_succ _))); have X6 := Lib.hid (HL.out _ HB6.out); have HO6 := Lib.hid (ho6.alloc (.cells #[.int .i64 x, .int .i64 0, .bool false, .bool true] 102)); have HN6 : Hid (∀ ad, some (⟨w6.heap.size, 0, none⟩ : Addr) = some ad → ∀ j u, [Value.int .i64 x, .int .i64 0, .bool false, .bool true][j]? = some u → (w6.alloc (.cells #[.int .i64 x, .int .i64 0, .bool false, .bool true] 102)).cell? (ad.add j) = some u) := src_new w6 _ rfl; have HB6b := Lib.hid (HB6.out.alloc HB6.out.size (.cells #[.int .i64 x, .int .i64 0, .bool false, .bool true] 102)); have hz6 := HB6b.out.size; have X6b := Lib.hid (HL.out _ HB6b.out); clear ho6 hg6 hor6)
              | (refine step_append_src rfl (.tmp 100) (.tmp 102) 75 rfl Wr.heap.size 102 i0 zeroH 4 24 Try.underlying75 hi0 hz0 hz1 hz2 rfl (by decide) (.slice (some ⟨Wr.heap.size, 0, none⟩) 0 0) 0 [] rfl F2.out (some A) (l.length - 1) (c' - 1) X2 rfl Hlen2.out (HX2.out _ HBb.out) (fun e => by cases e) Hone2.out (by unfold maxLen; omega) (by omega) HBb.out.size (l.length - 1) (by omega) ?_; intro A6 c6 w6 ho6 hg6 hor6; have HB6 := Lib.hid (HBb.out.grown hg6 HBb.out.size (fun j e => (by cases e; first | exact Nat.le_refl _ | exact Nat.le_succ _))); have X6 := Lib.hid (HL.out _ HB6.out); have HO6 := Lib.hid ho6; have HN6 : Hid (∀ ad, some (⟨Wr.heap.size + 1, 0, none⟩ : Addr) = some ad → ∀ j u, [Value.int .i64 x, .int .i64 0, .bool false, .bool true][j]? = some u → w6.cell? (ad.add j) = some u) := src_at ((hg6.block (Wr.heap.size + 1) (by simp) (blk_up _)).trans G2.out); have HB6b := HB6; have hz6 := HB6b.out.size; clear ho6 hg6 hor6)
              | (refine step_append_src rfl (.tmp 100) (.tmp 102) 75 rfl Wr.heap.size 102 i0 zeroH 4 24 Try.underlying75 hi0 hz0 hz1 hz2 rfl (by decide) (.slice (some ⟨Wr.heap.size + 1, 0, none⟩) 0 0) 0 [] rfl F3.out (some A) (l.length - 1) (c' - 1) X2 rfl Hlen2.out (HX2.out _ HBc.out) (fun e => by cases e) Hone2.out (by unfold maxLen; omega) (by omega) HBc.out.size (l.length - 1) (by omega) ?_; intro A6 c6 w6 ho6 hg6 hor6; have HB6 := Lib.hid (HBc.out.grown hg6 HBc.out.size (fun j e => (by cases e; first | exact Nat.le_refl _ | exact Nat.le_succ _))); have X6 := Lib.hid (HL.out _ HB6.out); have HO6 := Lib.hid ho6; have HN6 : Hid (∀ ad, some (⟨Wr.heap.size, 0, none⟩ : Addr) = some ad → ∀ j u, [Value.int .i64 x, .int .i64 0, .bool false, .bool true][j]? = some u → w6.cell? (ad.add j) = some u) := src_at ((hg6.block Wr.heap.size (by simp; omega) (blk_down _)).trans G3.out); have HB6b := HB6; have hz6 := HB6b.out.size; clear ho6 hg6 hor6)
              | (refine step_append_src rfl (.tmp 103) (.tmp 105) 75 rfl Wr.heap.size 102 i0 zeroH 4 24 Try.underlying75 hi0 hz0 hz1 hz2 rfl (by decide) _ (l.length - 1) ([] ++ X2) rfl HO6.out (some _) 1 1 [.int .i64 x, .int .i64 0, .bool false, .bool true] rfl rfl HN6.out (fun e => by cases e) Hone1.out (by unfold maxLen; omega) (by omega) hz6 l.length (by omega) ?_; intro A7 c7 w7 ho7 hg7 hor7; have HBf := Lib.hid (HB6b.out.grown hg7 HB6b.out.size (fun j e => (HO6.out.lt j e).1)); have X7 := Lib.hid (HL.out _ HBf.out); have HOf := Lib.hid ho7; have HBwf := Lib.hid (HBw.out.trans (HBf.out.mono HBw.out.size)); have ho8 := own_base (B := w.heap.size) ho7 HBw.out.size; rw [Hend.out] at ho8; obtain ⟨hs8, hf8, hE8⟩ := new_end HC.out HBwf.out ho8 Hel.out hB; have HE8 := Lib.hid hE8; have X8 := Lib.hid (loc_set (v := .slice A7 l.length c7) X7.out hgp); clear ho8 hE8; clear ho7 hg7 hor7))
          all_goals
            go_wp2
            go_ret2
            exact ⟨by rw [Hnb.out]; rfl, by rw [← List.drop_one]; exact HE8.out⟩
        | false =>
          obtain ⟨r', hr', hst', hsp'⟩ := stops_next hg Hst2.out
          have Hst' := Lib.hid hst'
          have Hsp' : Hid (spin r' (rot cur) = turned l) := by rw [← hsp']; exact Hsp2.out
          have Hr' : Hid (r' < gk) := by unfold Hid; omega
          rw [headGoes_nth (by rw [hcl]; exact hpos)] at hg
          have Hrc := Lib.hid (rot_cells (l := cur) (q := l.length - 1) (by rw [hcl]; omega))
          obtain ⟨A, hA⟩ : ∃ A : Addr, (if c' = 1 then some (⟨b, 0, none⟩ : Addr) else some ⟨b, 4, none⟩) = some A := by
            by_cases h : c' = 1
            · exact ⟨_, by rw [if_pos h]⟩
            · exact ⟨_, by rw [if_neg h]⟩
          have HX0 : Hid (∀ Wr, Below wr.heap.size wr Wr → ∀ W, Below Wr.heap.size Wr W → ∀ ad, some A = some ad → ∀ j u, ((flat cur).drop 4)[j]? = some u → W.cell? (ad.add j) = some u) := fun Wr hWr W hW ad e => by
            have := tail_src (k := 1) ((Kept.fresh (S := fun _ => False) (hWr.trans (hW.mono hWr.size))).row HR.out (fun _ _ q => q)) (show 1 ≤ l.length by omega) ad (by rw [Nat.one_mul, hA]; exact e)
            rw [Nat.one_mul] at this
            exact this
          have Hlen2 : Hid (((flat cur).drop 4).length = (l.length - 1) * 4) := by unfold Hid; rw [List.length_drop, length_flat, Hcl.out]; omega
          have Hone2 : Hid (∀ u ∈ (flat cur).drop 4, u.oneCell' = true) := fun u hu => flat_one cur u (List.mem_of_mem_drop hu)
          have Hrot : Hid (∀ y0 y1 y2 y3, nthH cur 0 = ⟨y0, y1, y2, y3⟩ → [] ++ (flat cur).drop 4 ++ [.int .i64 y0, .int .i64 y1, .bool y2, .bool false] = flat (rot cur)) := fun y0 y1 y2 y3 he => by
            cases cur with
            | nil => have := Hcl.out; simp at this; omega
            | cons a r =>
              have : a = ⟨y0, y1, y2, y3⟩ := by simpa [nthH] using he
              subst this
              simp [rot, flat, H.cs, H.off]
          generalize hX2 : (flat cur).drop 4 = X2 at *
          clear hX2
          generalize hh0 : nthH cur 0 = h at *
          have Hh := Lib.hid hh0
          obtain ⟨y0, y1, y2, y3⟩ := h
          clear hh0 hst' hsp' hr' hcl
          simp only [H.goes, Bool.and_eq_false_iff, Bool.not_eq_false'] at hg
          have hcase : (H.mk y0 y1 y2 y3).can = false ∨ ((H.mk y0 y1 y2 y3).can = true ∧ y3 = true) := by
            cases hc : (H.mk y0 y1 y2 y3).can
            · exact .inl rfl
            · right; refine ⟨rfl, ?_⟩; rcases hg with h | h
              · rw [hc] at h; cases h
              · exact h
          clear hg
          unfold H.v at HE
          rcases hcase with hc | ⟨hc, rfl⟩
          all_goals
            rw [hc] at HE
            clear hc
            go_wp2_with (refine (HE.out _).mono ?_; rintro e w4 ⟨rfl, hb4⟩; obtain ⟨hcl4, hfr4⟩ := bcell hb4; have hz4 := hb4.size; have HB4 := Lib.hid hb4; clear hb4)
            have HBr : Hid (Below wr.heap.size wr (w4.alloc (.cells #[.int .i64 y0, .int .i64 y1, .bool y2, .bool false] 102))) := HB4.out.alloc HB4.out.size _
            have hWp : (w4.alloc (.cells #[.int .i64 y0, .int .i64 y1, .bool y2, .bool false] 102)).heap[w4.heap.size]? = some (.cells #[.int .i64 y0, .int .i64 y1, .bool y2, .bool false] 102 (0, 0)) := heap_alloc_new w4 _
            generalize w4.alloc (.cells #[.int .i64 y0, .int .i64 y1, .bool y2, .bool false] 102) = Wr at HBr hWp ⊢
            generalize w4.heap.size = p at hWp hz4 ⊢
            have hpW : p < Wr.heap.size := (Array.getElem?_eq_some_iff.1 hWp).1
            have l0 : Wr.cell? ⟨p, 0, none⟩ = some (.int .i64 y0) := by rw [cell_of_row Wr p 0 _ 102 (0, 0) hWp]; rfl
            have l1 : Wr.cell? ⟨p, 1, none⟩ = some (.int .i64 y1) := by rw [cell_of_row Wr p 1 _ 102 (0, 0) hWp]; rfl
            have l2 : Wr.cell? ⟨p, 2, none⟩ = some (.bool y2) := by rw [cell_of_row Wr p 2 _ 102 (0, 0) hWp]; rfl
            have l3 : Wr.cell? ⟨p, 3, none⟩ = some (.bool false) := by rw [cell_of_row Wr p 3 _ 102 (0, 0) hWp]; rfl
            have HX2 : Hid (∀ W, Below Wr.heap.size Wr W → ∀ ad, some A = some ad → ∀ j u, X2[j]? = some u → W.cell? (ad.add j) = some u) := fun W hW => HX0.out Wr HBr.out W hW
            have Hone1 : Hid (∀ u ∈ [Value.int .i64 y0, .int .i64 y1, .bool y2, .bool false], u.oneCell' = true) := by
              intro u hu
              simp at hu
              rcases hu with rfl | rfl | rfl | rfl <;> rfl
            have h1l : (1 : Int) ≤ (l.length : Int) := by omega
            have h1c : (1 : Int) ≤ (c' : Int) := by omega
            clear hcl4 hfr4 c0 c1' c2 c3 hWp
            have HBa : Hid (Below Wr.heap.size Wr (Wr.alloc (.cells #[] 102)).drew) := ((Below.refl _ _).alloc (Nat.le_refl _) _).drew
            have HBb : Hid (Below Wr.heap.size Wr ((Wr.alloc (.cells #[] 102)).alloc (.cells #[.int .i64 y0, .int .i64 y1, .bool y2, .bool false] 102)).drew) := (((Below.refl _ _).alloc (Nat.le_refl _) _).alloc (by simp) _).drew
            have HBc : Hid (Below Wr.heap.size Wr ((Wr.alloc (.cells #[.int .i64 y0, .int .i64 y1, .bool y2, .bool false] 102)).alloc (.cells #[] 102)).drew) := (((Below.refl _ _).alloc (Nat.le_refl _) _).alloc (by simp) _).drew
            have F1 : Hid ((Wr.alloc (.cells #[] 102)).drew.ownsRow Wr.heap.size 102 4 (.slice (some ⟨Wr.heap.size, 0, none⟩) 0 0) 0 []) := own_made Wr rfl (Nat.le_refl _)
            have F2 : Hid (((Wr.alloc (.cells #[] 102)).alloc (.cells #[.int .i64 y0, .int .i64 y1, .bool y2, .bool false] 102)).drew.ownsRow Wr.heap.size 102 4 (.slice (some ⟨Wr.heap.size, 0, none⟩) 0 0) 0 []) := (own_made Wr rfl (Nat.le_refl _)).alloc _
            have F3 : Hid (((Wr.alloc (.cells #[.int .i64 y0, .int .i64 y1, .bool y2, .bool false] 102)).alloc (.cells #[] 102)).drew.ownsRow Wr.heap.size 102 4 (.slice (some ⟨Wr.heap.size + 1, 0, none⟩) 0 0) 0 []) := own_made _ (by simp) (by simp)
            have G2 : Hid (((Wr.alloc (.cells #[] 102)).alloc (.cells #[.int .i64 y0, .int .i64 y1, .bool y2, .bool false] 102)).drew.heap[Wr.heap.size + 1]? = some (.cells #[.int .i64 y0, .int .i64 y1, .bool y2, .bool false] 102 (0, 0))) := by have := heap_alloc_new (Wr.alloc (.cells #[] 102)) (.cells #[.int .i64 y0, .int .i64 y1, .bool y2, .bool false] 102); rw [World.size_alloc] at this; exact this
            have G3 : Hid (((Wr.alloc (.cells #[.int .i64 y0, .int .i64 y1, .bool y2, .bool false] 102)).alloc (.cells #[] 102)).drew.heap[Wr.heap.size]? = some (.cells #[.int .i64 y0, .int .i64 y1, .bool y2, .bool false] 102 (0, 0))) := by have := heap_alloc_old' (Wr.alloc (.cells #[.int .i64 y0, .int .i64 y1, .bool y2, .bool false] 102)) (.cells #[] 102) Wr.heap.size (by simp); exact this.trans (heap_alloc_new Wr _)
            have HL : Hid (∀ W, Below Wr.heap.size Wr W → W.cell? ⟨p, 0, none⟩ = some (.int .i64 y0) ∧ W.cell? ⟨p, 1, none⟩ = some (.int .i64 y1) ∧ W.cell? ⟨p, 2, none⟩ = some (.bool y2) ∧ W.cell? ⟨p, 3, none⟩ = some (.bool false)) := fun W hW => ⟨(hW.cell (p := ⟨p, 0, none⟩) hpW).trans l0, (hW.cell (p := ⟨p, 1, none⟩) hpW).trans l1, (hW.cell (p := ⟨p, 2, none⟩) hpW).trans l2, (hW.cell (p := ⟨p, 3, none⟩) hpW).trans l3⟩
            have hn0 := World.new_ne Wr ⟨p, 0, none⟩ l0
            have hn1 := World.new_ne Wr ⟨p, 1, none⟩ l1
            have hn2 := World.new_ne Wr ⟨p, 2, none⟩ l2
            have hn3 := World.new_ne Wr ⟨p, 3, none⟩ l3
            go_region_held3 (fun w' => w'.cell? ⟨p, 0, none⟩ = some (.int .i64 y0) ∧ w'.cell? ⟨p, 1, none⟩ = some (.int .i64 y1) ∧ w'.cell? ⟨p, 2, none⟩ = some (.bool y2) ∧ w'.cell? ⟨p, 3, none⟩ = some (.bool false)) (first | exact X7.out | exact X6b.out | exact X6.out | go_keep)
              (first
                | (refine step_append_src rfl (.tmp 88) (.tmp 90) 75 rfl Wr.heap.size 102 i0 zeroH 4 24 Try.underlying75 hi0 hz0 hz1 hz2 rfl (by decide) (.slice (some ⟨Wr.heap.size, 0, none⟩) 0 0) 0 [] rfl F1.out (some A) (l.length - 1) (c' - 1) X2 rfl Hlen2.out (HX2.out _ HBa.out) (fun e => by cases e) Hone2.out (by unfold maxLen; omega) (by omega) HBa.out.size (l.length - 1) (by omega) ?_; intro A6 c6 w6 ho6 hg6 hor6; have HB6 := Lib.hid (HBa.out.grown hg6 HBa.out.size (fun j e => (by cases e; first | exact Nat.le_refl _ | exact Nat.le_succ _))); have X6 := Lib.hid (HL.out _ HB6.out); have HO6 := Lib.hid (ho6.alloc (.cells #[.int .i64 y0, .int .i64 y1, .bool y2, .bool false] 102)); have HN6 : Hid (∀ ad, some (⟨w6.heap.size, 0, none⟩ : Addr) = some ad → ∀ j u, [Value.int .i64 y0, .int .i64 y1, .bool y2, .bool false][j]? = some u → (w6.alloc (.cells #[.int .i64 y0, .int .i64 y1, .bool y2, .bool false] 102)).cell? (ad.add j) = some u) := src_new w6 _ rfl; have HB6b := Lib.hid (HB6.out.alloc HB6.out.size (.cells #[.int .i64 y0, .int .i64 y1, .bool y2, .bool false] 102)); have hz6 := HB6b.out.size; have X6b := Lib.hid (HL.out _ HB6b.out); clear ho6 hg6 hor6)
                | (refine step_append_src rfl (.tmp 88) (.tmp 90) 75 rfl Wr.heap.size 102 i0 zeroH 4 24 Try.underlying75 hi0 hz0 hz1 hz2 rfl (by decide) (.slice (some ⟨Wr.heap.size, 0, none⟩) 0 0) 0 [] rfl F2.out (some A) (l.length - 1) (c' - 1) X2 rfl Hlen2.out (HX2.out _ HBb.out) (fun e => by cases e) Hone2.out (by unfold maxLen; omega) (by omega) HBb.out.size (l.length - 1) (by omega) ?_; intro A6 c6 w6 ho6 hg6 hor6; have HB6 := Lib.hid (HBb.out.grown hg6 HBb.out.size (fun j e => (by cases e; first | exact Nat.le_refl _ | exact Nat.le_succ _))); have X6 := Lib.hid (HL.out _ HB6.out); have HO6 := Lib.hid ho6; have HN6 : Hid (∀ ad, some (⟨Wr.heap.size + 1, 0, none⟩ : Addr) = some ad → ∀ j u, [Value.int .i64 y0, .int .i64 y1, .bool y2, .bool false][j]? = some u → w6.cell? (ad.add j) = some u) := src_at ((hg6.block (Wr.heap.size + 1) (by simp) (blk_up _)).trans G2.out); have HB6b := HB6; have hz6 := HB6b.out.size; clear ho6 hg6 hor6)
                | (refine step_append_src rfl (.tmp 88) (.tmp 90) 75 rfl Wr.heap.size 102 i0 zeroH 4 24 Try.underlying75 hi0 hz0 hz1 hz2 rfl (by decide) (.slice (some ⟨Wr.heap.size + 1, 0, none⟩) 0 0) 0 [] rfl F3.out (some A) (l.length - 1) (c' - 1) X2 rfl Hlen2.out (HX2.out _ HBc.out) (fun e => by cases e) Hone2.out (by unfold maxLen; omega) (by omega) HBc.out.size (l.length - 1) (by omega) ?_; intro A6 c6 w6 ho6 hg6 hor6; have HB6 := Lib.hid (HBc.out.grown hg6 HBc.out.size (fun j e => (by cases e; first | exact Nat.le_refl _ | exact Nat.le_succ _))); have X6 := Lib.hid (HL.out _ HB6.out); have HO6 := Lib.hid ho6; have HN6 : Hid (∀ ad, some (⟨Wr.heap.size, 0, none⟩ : Addr) = some ad → ∀ j u, [Value.int .i64 y0, .int .i64 y1, .bool y2, .bool false][j]? = some u → w6.cell? (ad.add j) = some u) := src_at ((hg6.block Wr.heap.size (by simp; omega) (blk_down _)).trans G3.out); have HB6b := HB6; have hz6 := HB6b.out.size; clear ho6 hg6 hor6)
                | (refine step_append_src rfl (.tmp 91) (.tmp 93) 75 rfl Wr.heap.size 102 i0 zeroH 4 24 Try.underlying75 hi0 hz0 hz1 hz2 rfl (by decide) _ (l.length - 1) ([] ++ X2) rfl HO6.out (some _) 1 1 [.int .i64 y0, .int .i64 y1, .bool y2, .bool false] rfl rfl HN6.out (fun e => by cases e) Hone1.out (by unfold maxLen; omega) (by omega) hz6 l.length (by omega) ?_; intro A7 c7 w7 ho7 hg7 hor7; have HBf := Lib.hid (HB6b.out.grown hg7 HB6b.out.size (fun j e => (HO6.out.lt j e).1)); have X7 := Lib.hid (HL.out _ HBf.out); have HOf := Lib.hid ho7; clear ho7 hg7 hor7))
            all_goals
              go_wp2
              go_roundg r'
              case measure => exact Hr'.out
              case rel =>
                have ho := HOf.out
                rw [Hrot.out _ _ _ _ rfl] at ho
                exact ⟨A7, c7, rot cur, rfl, by rw [length_rot]; exact Hcl.out, Hst'.out, Hsp'.out, own_base ho (by have := (H13.out.trans (HB.out.mono H13.out.size)).size; have := HBr.out.size; omega), HB.out.trans ((HBr.out.trans (HBf.out.mono HBr.out.size)).mono HB.out.size)⟩

/-- Use, whatever is asked -/
theorem ruse_any (hC : CacheAt 77 102 B w g v M l) (hl : l.length ≤ M) (hM : M ≤ 96) (hB : B ≤ w.heap.size) :
    Calls Try.prog 44 #[.pointer (some ⟨g, 0, none⟩), .int .i64 x] w fun e w' => e = .returned (.tuple #[.int .i64 (useG M l x), .int .i64 (useE M l x)]) ∧ Went 77 102 B w g v M (useL M l x) w' := by
  by_cases hx : x < 0 ∨ 96 ≤ x
  · refine (ruse_range g x w hx).mono ?_
    rintro e w' ⟨rfl, rfl⟩
    exact ⟨by simp [useG, useE, hx], by simp only [useL, hx, if_true]; exact .same hC (Kept.refl _ _)⟩
  · cases hh : has l x with
    | true =>
      refine (ruse_has B g M v l x w hC (by omega) hx hh).mono ?_
      rintro e w' ⟨rfl, h⟩
      exact ⟨by simp [useG, useE, hx, hh], by simp only [useL, hx, hh, if_true, if_false]; exact h⟩
    | false =>
      by_cases hlm : l.length < M
      · refine (ruse_room B g M v l x w hC (by omega) hx hh hlm hB).mono ?_
        rintro e w' ⟨rfl, h⟩
        exact ⟨by simp [useG, useE, hx, hh, hlm], by simp only [useL, hx, hh, hlm, if_true, if_false, Bool.false_eq_true]; exact h⟩
      · have hlm' : l.length = M := by omega
        cases hc : l.any H.can with
        | true =>
          refine (ruse_turn B g M v l x w hC (by omega) hx hh hlm' hc hB).mono ?_
          rintro e w' ⟨rfl, h⟩
          exact ⟨by simp [useG, useE, hx, hh, hlm, hc], by simp only [useL, hx, hh, hlm, hc, if_true, if_false, Bool.false_eq_true]; exact h⟩
        | false =>
          refine (ruse_full B g M v l x w hC (by omega) hx hh hlm' hc hB).mono ?_
          rintro e w' ⟨rfl, h⟩
          exact ⟨by simp [useG, useE, hx, hh, hlm, hc], by simp only [useL, hx, hh, hlm, hc, if_false, Bool.false_eq_true]; exact h⟩
end
end Go.Proofs.Ythibnnllecdpaaa
