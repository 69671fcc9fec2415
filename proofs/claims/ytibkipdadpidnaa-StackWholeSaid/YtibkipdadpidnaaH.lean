/- The document's Under. -/
import Derived.Test.YtibkipdadpidnaaG
set_option linter.unusedVariables false
set_option linter.unusedSimpArgs false
namespace Go.Proofs.Ytibkipdadpidnaa
open Go.RowKit
open Pat (Pt AllB undoP nth)
/-- what stood under one -/
def underT (f : List Int) (l : List On) (n : Int) : ByteArray := (undoP (withL (fun m => decide (m < n)) f l) (patP l n)).s
theorem lessF_next {m : List Int} {n : Int} {k : Nat} (h : k < m.length) : (m.take (k + 1)).filter (fun y => decide (y < n)) = (m.take k).filter (fun y => decide (y < n)) ++ (if inn m k < n then [inn m k] else []) := by
  rw [take_inn h, List.filter_append]
  congr 1
  by_cases q : inn m k < n
  · rw [List.filter_cons_of_pos (by simpa using q), if_pos q]; rfl
  · rw [List.filter_cons_of_neg (by simpa using q), if_neg q]; rfl
section
variable (B r : Nat) (bA A : Option Addr) (bc c : Nat) (s : Sk) (n : Int) (w : World)
set_option maxRecDepth 100000 in
set_option maxHeartbeats 2000000 in
theorem runder_no (hC : RefAt B w r bA bc A c s) (hl : s.l.length ≤ 900) (hon : isOn s.l n = false) : Calls Try.prog 35 #[.pointer (some ⟨r, 0, none⟩), .int .i64 n] w fun e w' => e = .returned (.tuple #[.string ⟨#[]⟩, .int .i64 5]) ∧ Below w.heap.size w w' := by
  have HG := Lib.hid (rget_any B r bA A bc c s n w hC (by omega))
  rw [hon] at HG
  have HX : Hid (∀ (w1 : World) (p : Pt), Below w.heap.size w w1 → Below w.heap.size w (w1.alloc (.cells #[.int .i64 p.b, .int .i64 p.o, .string p.s] 38))) := fun w1 p h => h.alloc h.size _
  generalize patP s.l n = p at *
  obtain ⟨pb, po, ps⟩ := p
  unfold Pat.Pt.v at HG
  simp only at HG
  clear hC hon
  go_enter Try.func35, Try.ntmps35
  go_wp2_with (go_at_call 36; refine HG.out.mono ?_; rintro e w1 ⟨rfl, hb1⟩; have B1 := Lib.hid (HX.out w1 ⟨pb, po, ps⟩ hb1); clear hb1)
  go_ret2
  exact ⟨rfl, B1.out⟩
set_option maxRecDepth 100000 in
set_option maxHeartbeats 2000000 in
theorem runder_yes (hC : RefAt B w r bA bc A c s) (hr0 : Rights s.l) (hl : s.l.length ≤ 900) (hon : isOn s.l n = true) : Calls Try.prog 35 #[.pointer (some ⟨r, 0, none⟩), .int .i64 n] w fun e w' => e = .returned (.tuple #[.string (underT s.f s.l n), .int .i64 0]) ∧ Below w.heap.size w w' := by
  have hr := hC.glt
  have HG := Lib.hid (rget_any B r bA A bc c s n w hC (by omega))
  rw [hon] at HG
  obtain ⟨i0, hi0, hz0, hz1, hz2⟩ := info_parts infoI
  have HX : Hid (∀ (w1 : World) (p : Pt), Below w.heap.size w w1 → Below w.heap.size w (w1.alloc (.cells #[.int .i64 p.b, .int .i64 p.o, .string p.s] 38)) ∧ Pat.Boxed (w1.alloc (.cells #[.int .i64 p.b, .int .i64 p.o, .string p.s] 38)) w1.heap.size p) := fun w1 p h => ⟨h.alloc h.size _, Pat.boxed1 w1 p⟩
  have HWt : Hid (∀ W, Below w.heap.size w W → Calls Try.prog 34 #[.pointer (some ⟨r, 0, none⟩)] W fun e w' => ∃ A' c', e = .returned (.slice A' (nums s.l).length c') ∧ RowI w' W.heap.size A' c' (nums s.l) ∧ Below W.heap.size W w') := fun W hW => rwaiting_any B r bA A bc c s W (hC.fresh hW) (by omega)
  have hnl : (nums s.l).length ≤ 900 := by rw [length_nums]; exact hl
  have HW : Hid (∀ W A0 c0, Below w.heap.size w W → Ints W W.heap.size A0 ((nums s.l).filter (fun y => decide (y < n))) → Calls Try.prog 45 #[.pointer (some ⟨r, 0, none⟩), .slice A0 ((nums s.l).filter (fun y => decide (y < n))).length c0] W fun e w' => ∃ g c', e = .returned (.slice (some ⟨g, 0, none⟩) 32 c') ∧ w'.ownsRow W.heap.size 5 1 (.slice (some ⟨g, 0, none⟩) 32 c') 32 (Pat.bytesV (withL (fun m => decide (m < n)) s.f s.l)) ∧ Below W.heap.size W w') := fun W A0 c0 hW hI => by
    have := rwith_any B r bA A bc c s W A0 c0 ((nums s.l).filter (fun y => decide (y < n))) (hC.fresh hW) hr0 (by omega) (by have := List.length_filter_le (fun y => decide (y < n)) (nums s.l); omega) hI
    rwa [with_congr (k' := fun m => decide (m < n)) (fun x hx => by
      by_cases q : x.n < n
      · rw [decide_eq_true q]
        exact decide_eq_true (List.mem_filter.2 ⟨List.mem_map.2 ⟨x, hx, rfl⟩, decide_eq_true q⟩)
      · rw [decide_eq_false q]
        exact decide_eq_false (fun z => q (of_decide_eq_true (List.mem_filter.1 z).2)))] at this
  have hUl : (withL (fun m => decide (m < n)) s.f s.l).length = 32 := withL_len hr0 hC.len
  have hUa : AllB (withL (fun m => decide (m < n)) s.f s.l) := withL_all hC.all
  have hpr := patP_right hr0 hon
  have HU : Hid (∀ W g c', (∃ b, W.ownsRow b 5 1 (.slice (some ⟨g, 0, none⟩) 32 c') 32 (Pat.bytesV (withL (fun m => decide (m < n)) s.f s.l))) → Calls Try.prog 63 #[.slice (some ⟨g, 0, none⟩) 32 c', (patP s.l n).v] W fun e w' => e = .returned (.tuple #[(undoP (withL (fun m => decide (m < n)) s.f s.l) (patP s.l n)).v, .int .i64 0]) ∧ Below W.heap.size W w') := fun W g c' ⟨b, h⟩ =>
    Pat.refundo_yes (some ⟨g, 0, none⟩) c' _ (patP s.l n) W (Pat.info_own h hUa).1 hUl (own_cap h).1 hpr
  obtain ⟨U, hU⟩ : ∃ U, U = undoP (withL (fun m => decide (m < n)) s.f s.l) (patP s.l n) := ⟨_, rfl⟩
  have Hans : Hid (underT s.f s.l n = U.s) := by rw [hU]; rfl
  rw [← hU] at HU
  rw [Hans.out]
  generalize withL (fun m => decide (m < n)) s.f s.l = cur at *
  generalize patP s.l n = p at *
  obtain ⟨pb, po, ps⟩ := p
  obtain ⟨ub, uo, us⟩ := U
  unfold Pat.Pt.v at HG HU
  simp only at HG HU
  clear hC hon hr0 hU hUl hUa hpr Hans
  go_enter Try.func35, Try.ntmps35
  go_wp2_with (go_at_call 36; refine HG.out.mono ?_; rintro e w1 ⟨rfl, hb1⟩)
  obtain ⟨W2, hW2⟩ : ∃ W2, W2 = w1.alloc (.cells #[.int .i64 pb, .int .i64 po, .string ps] 38) := ⟨_, rfl⟩
  have hx := HX.out w1 ⟨pb, po, ps⟩ hb1
  simp only at hx
  rw [← hW2] at hx ⊢
  have HB2 := Lib.hid hx.1
  have HBx := Lib.hid hx.2
  have hs2 : W2.heap.size = w1.heap.size + 1 := by rw [hW2]; simp
  have HW2 := Lib.hid (HWt.out W2 hx.1)
  clear hx hW2 hb1
  generalize nums s.l = nl at *
  go_wp2_with (go_at_call 34; refine HW2.out.mono ?_; rintro e w3 ⟨A1, c1, rfl, hr1, hb1⟩; have B3 := Lib.hid (Below.trans HB2.out (Below.mono hb1 HB2.out.size)); have Bx3 := Lib.hid (HBx.out.below hb1 (by omega)); have hz3 := hb1.size; have R3 := Lib.hid hr1.ints; clear hr1 hb1)
  go_loopw [8, 10] (fun s0 i wr => ∃ (k : Nat) (A' : Option Addr) (c' : Nat), k ≤ nl.length ∧ i = .int .i64 k ∧ s0 = .slice A' ((nl.take k).filter (fun y => decide (y < n))).length c' ∧ Hid (RowI wr w3.heap.size A' c' ((nl.take k).filter (fun y => decide (y < n)))) ∧ Hid (Below w3.heap.size w3 wr)) (fun _ i _ => nl.length - (intOf i).toNat)
  case atStart => exact ⟨0, none, 0, Nat.zero_le _, rfl, rfl, World.ownsRow_nil _ _ _ _, Below.refl _ _⟩
  case round =>
    obtain ⟨k, A', c', hk, rfl, rfl, hrow, hB⟩ := hrel
    rename World => wr
    have hk0 : (0 : Int) ≤ (k : Int) := by omega
    have hwz := hB.out.size
    by_cases hlt : k < nl.length
    · have hki : (k : Int) < (nl.length : Int) := by omega
      obtain ⟨b, off, rfl, hb, d0⟩ := (R3.out.below hB.out).at_ hlt
      have hbz : b < wr.heap.size := by omega
      have Hs := Lib.hid (lessF_next (n := n) hlt)
      have hol : ((nl.take k).filter (fun y => decide (y < n))).length ≤ 1000 := by
        have := List.length_filter_le (fun y => decide (y < n)) (nl.take k)
        have := List.length_take_le k nl
        omega
      generalize (nl.take k).filter (fun y => decide (y < n)) = o at *
      by_cases hn : inn nl k < n
      · have Hs2 := Lib.hid (Hs.out.trans (by rw [if_pos hn]))
        generalize inn nl k = y at *
        clear Hs
        go_wp2_with (at_builtin; refine wpList_append_src rfl (.tmp 39) (.tmp 44) 31 rfl w3.heap.size 3 i0 (.int .i64 0) 1 8 Try.underlying31 hi0 hz0 hz1 hz2 rfl (by decide) (.slice A' o.length c') o.length (intsV o) rfl (ai_row y hrow.out) (some ⟨wr.heap.size, 0, none⟩) 1 1 [.int .i64 y] rfl rfl (ai_src wr y) (by intro h; cases h) (by intro u hu; simp at hu; subst hu; rfl) (by unfold maxLen; omega) (by omega) (by simp; omega) (o.length + 1) rfl ?_; intro A7 c7 w7 ho7 hg7 hor7; have G1 := Lib.hid (ai_new hrow.out hB.out ho7 hg7).1; have G2 := Lib.hid (ai_new hrow.out hB.out ho7 hg7).2; clear ho7 hg7 hor7)
        go_roundw
        case rel => exact ⟨k + 1, A7, c7, by omega, by go_num, by rw [Hs2.out, List.length_append]; rfl, by rw [Hs2.out]; exact G1.out, G2.out⟩
        case measure => simp [intOf]; omega
      · have Hs2 := Lib.hid (Hs.out.trans (by rw [if_neg hn, List.append_nil]))
        generalize inn nl k = y at *
        clear Hs
        go_wp2
        go_roundw
        case rel => exact ⟨k + 1, A', c', by omega, by go_num, by rw [Hs2.out], by rw [Hs2.out]; exact hrow.out, hB.out⟩
        case measure => simp [intOf]; omega
    · obtain rfl : k = nl.length := by omega
      have hki : ¬ (nl.length : Int) < (nl.length : Int) := by omega
      rw [List.take_length] at *
      have Bx4 := Lib.hid (Bx3.out.below hB.out (by omega))
      have B4 := Lib.hid (Below.trans B3.out (Below.mono hB.out B3.out.size))
      have I4 := Lib.hid hrow.out.ints
      generalize nl.filter (fun y => decide (y < n)) = o at *
      have hxz : w1.heap.size < wr.heap.size := by omega
      clear HG HWt HW2 R3 Bx3 HX hrow hB
      have B4d := Lib.hid (show Below w.heap.size w wr.drew from B4.out.drew)
      have HS : Hid (∀ V, Below wr.heap.size wr V → V.cell? ⟨w1.heap.size, 0, none⟩ = some (.int .i64 pb) ∧ V.cell? ⟨w1.heap.size, 1, none⟩ = some (.int .i64 po) ∧ V.cell? ⟨w1.heap.size, 2, none⟩ = some (.string ps)) := fun V hV => (Bx4.out.below hV hxz).cells
      have X0 := Lib.hid (HS.out wr.drew (Below.refl _ _).drew)
      have X1 := Lib.hid (HS.out wr (Below.refl _ _))
      have XA := Lib.hid (HS.out ((wr.alloc (.cells #[.int .i64 0, .int .i64 0, .string ⟨#[]⟩] 38)).drew) (((Below.refl _ _).alloc (Nat.le_refl _) _).drew))
      have HW4 := Lib.hid (fun c0 => HW.out wr.drew A' c0 B4d.out I4.out)
      have HW5 := Lib.hid (fun c0 => HW.out ((wr.alloc (.cells #[.int .i64 0, .int .i64 0, .string ⟨#[]⟩] 38)).drew) A' c0 ((B4.out.alloc B4.out.size _).drew) (I4.out.next (w := wr) (w' := wr.drew.alloc (.cells #[.int .i64 0, .int .i64 0, .string ⟨#[]⟩] 38)) (((Below.refl _ _).alloc (Nat.le_refl _) _).drew)))
      clear HW
      have Hsz : Hid (wr.drew.heap.size = wr.heap.size) := rfl
      have HBA := Lib.hid (show Below wr.heap.size wr ((wr.alloc (.cells #[.int .i64 0, .int .i64 0, .string ⟨#[]⟩] 38)).drew) from ((Below.refl _ _).alloc (Nat.le_refl _) _).drew)
      have HBD := Lib.hid (show Below wr.heap.size wr wr.drew from (Below.refl _ _).drew)
      have HQA : Hid (Pat.Boxed (wr.alloc (.cells #[.int .i64 0, .int .i64 0, .string ⟨#[]⟩] 38)).drew wr.heap.size Pat.zeroP) := Pat.boxed1 wr Pat.zeroP
      have HZA : Hid (wr.heap.size ≤ (wr.alloc (.cells #[.int .i64 0, .int .i64 0, .string ⟨#[]⟩] 38)).drew.heap.size) := HBA.out.size
      have HStore : Hid (∀ (V : World) (g : Nat), Below wr.heap.size wr V → wr.heap.size ≤ g → Pat.Boxed V g Pat.zeroP → ((((V.setCell ⟨g, 0, none⟩ (.int .i64 ub)).setCell ⟨g, 1, none⟩ (.int .i64 uo)).setCell ⟨g, 2, none⟩ (.string us)).cell? ⟨w1.heap.size, 0, none⟩ = some (.int .i64 pb) ∧ (((V.setCell ⟨g, 0, none⟩ (.int .i64 ub)).setCell ⟨g, 1, none⟩ (.int .i64 uo)).setCell ⟨g, 2, none⟩ (.string us)).cell? ⟨w1.heap.size, 1, none⟩ = some (.int .i64 po) ∧ (((V.setCell ⟨g, 0, none⟩ (.int .i64 ub)).setCell ⟨g, 1, none⟩ (.int .i64 uo)).setCell ⟨g, 2, none⟩ (.string us)).cell? ⟨w1.heap.size, 2, none⟩ = some (.string ps)) ∧ Below w.heap.size w (((V.setCell ⟨g, 0, none⟩ (.int .i64 ub)).setCell ⟨g, 1, none⟩ (.int .i64 uo)).setCell ⟨g, 2, none⟩ (.string us)) ∧ (((V.setCell ⟨g, 0, none⟩ (.int .i64 ub)).setCell ⟨g, 1, none⟩ (.int .i64 uo)).setCell ⟨g, 2, none⟩ (.string us)).cell? ⟨g, 2, none⟩ = some (.string us) ∧ g < (((V.setCell ⟨g, 0, none⟩ (.int .i64 ub)).setCell ⟨g, 1, none⟩ (.int .i64 uo)).setCell ⟨g, 2, none⟩ (.string us)).heap.size) := fun V g hV hg hq => by
        have hb := ((hV.setCell (p := ⟨g, 0, none⟩) hg (.int .i64 ub)).setCell (p := ⟨g, 1, none⟩) hg (.int .i64 uo)).setCell (p := ⟨g, 2, none⟩) hg (.string us)
        have hu : Pat.Boxed (((V.setCell ⟨g, 0, none⟩ (.int .i64 ub)).setCell ⟨g, 1, none⟩ (.int .i64 uo)).setCell ⟨g, 2, none⟩ (.string us)) g ⟨ub, uo, us⟩ := ((Pat.BlkIs.set_ hq 0 _).set_ 1 _).set_ 2 _
        exact ⟨(Bx4.out.below hb hxz).cells, Below.trans B4.out (Below.mono hb B4.out.size), hu.cells.2.2, Pat.BlkIs.lt hu⟩
      clear Bx4
      have hdz : wr.heap.size ≤ wr.heap.size := Nat.le_refl _
      go_wp2_with fail
      go_region_held3 (fun V => V.cell? ⟨w1.heap.size, 0, none⟩ = some (.int .i64 pb) ∧ V.cell? ⟨w1.heap.size, 1, none⟩ = some (.int .i64 po) ∧ V.cell? ⟨w1.heap.size, 2, none⟩ = some (.string ps))
        (first | exact X0.out | exact X1.out | exact XA.out | exact X5.out | exact X6.out | exact X5a.out | exact X6a.out | exact X6u.out | exact Y7.out.1)
        (first
          | (go_at_call 45; (with_reducible refine (HW4.out _).mono ?_); rintro e w5 ⟨g5, c5, rfl, ho5, hb5⟩; have B5 := Lib.hid (Below.trans HBD.out hb5); have O5 := Lib.hid ho5; have X5 := Lib.hid (HS.out w5 B5.out); have X5a := Lib.hid (HS.out (w5.alloc (.cells #[.int .i64 0, .int .i64 0, .string ⟨#[]⟩] 38)) (B5.out.alloc B5.out.size _)); clear ho5 hb5)
          | (go_at_call 45; (with_reducible refine (HW5.out _).mono ?_); rintro e w5 ⟨g5, c5, rfl, ho5, hb5⟩; have B5 := Lib.hid (Below.trans HBA.out (Below.mono hb5 HZA.out)); have O5 := Lib.hid ho5; have X5 := Lib.hid (HS.out w5 B5.out); have Q5 := Lib.hid (HQA.out.below hb5 (Pat.BlkIs.lt HQA.out)); clear ho5 hb5)
          | (go_at_call 63; (with_reducible refine (HU.out _ g5 c5 ⟨_, O5.out⟩).mono ?_); rintro e w6 ⟨rfl, hb6⟩; have B6 := Lib.hid (Below.trans B5.out (Below.mono hb6 B5.out.size)); have X6 := Lib.hid (HS.out w6 B6.out); have X6a := Lib.hid (HS.out (w6.alloc (.cells #[.int .i64 0, .int .i64 0, .string ⟨#[]⟩] 38)) (B6.out.alloc B6.out.size _)); have X6u := Lib.hid (HS.out (w6.alloc (.cells #[.int .i64 ub, .int .i64 uo, .string us] 38)) (B6.out.alloc B6.out.size _)); have E6 := Lib.hid (show Below w.heap.size w (w6.alloc (.cells #[.int .i64 ub, .int .i64 uo, .string us] 38)) from Below.trans B4.out (Below.mono (B6.out.alloc B6.out.size _) B4.out.size)); (try (have Q6 := Lib.hid (Q5.out.below hb6 (Pat.BlkIs.lt Q5.out)); obtain ⟨q0, q1, q2⟩ := Q6.out.cells; simp only [Pat.zeroP] at q0 q1 q2; have qf := Q6.out.frozen; have Y7 := Lib.hid (HStore.out _ _ B6.out hdz Q6.out))); clear hb6)
          | (go_at_call 63; (with_reducible refine (HU.out _ g5 c5 ⟨_, World.ownsRow.alloc O5.out _⟩).mono ?_); rintro e w6 ⟨rfl, hb6⟩; have B6 := Lib.hid (Below.trans (B5.out.alloc B5.out.size _) (Below.mono hb6 (by simp; have := B5.out.size; omega))); have X6 := Lib.hid (HS.out w6 B6.out); have Q6 := Lib.hid ((Pat.boxed1 w5 Pat.zeroP).below hb6 (by simp)); obtain ⟨q0, q1, q2⟩ := Q6.out.cells; simp only [Pat.zeroP] at q0 q1 q2; have qf := Q6.out.frozen; have Y7 := Lib.hid (HStore.out _ _ B6.out B5.out.size Q6.out); clear hb6)
          | fail)
      all_goals first
        | (obtain ⟨_, y1, y2, y3⟩ := Y7.out
           go_wp2
           go_ret2
           exact ⟨rfl, y1⟩)
        | (go_wp2
           go_ret2
           exact ⟨rfl, E6.out⟩)
end
end Go.Proofs.Ytibkipdadpidnaa
