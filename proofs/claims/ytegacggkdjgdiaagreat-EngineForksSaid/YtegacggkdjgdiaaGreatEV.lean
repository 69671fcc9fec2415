/- Fork of an engine. -/
import Derived.Test.YtegacggkdjgdiaaGreatES
import Derived.Test.YtegacggkdjgdiaaGreatH4
set_option linter.unusedVariables false
set_option linter.unusedSimpArgs false
namespace Go.Proofs.YtegacggkdjgdiaaGreat
open Go.RowKit

theorem rowW_src {w : World} {B : Nat} {A : Option Addr} {c : Nat} {l : List Wr} (h : RowW w B A c l) : (∀ ad, A = some ad → ∀ j u, (flatW l)[j]? = some u → w.cell? (ad.add j) = some u) ∧ (A = none → l.length = 0) := by
  rcases h.row.2 with ⟨q, h0⟩ | ⟨k, cap, cur, q, _⟩
  · obtain ⟨rfl, _, _⟩ := Value.slice.inj q
    exact ⟨fun ad e => (by cases e), fun _ => h0⟩
  · obtain ⟨rfl, _, _⟩ := Value.slice.inj q
    refine ⟨fun ad e j u hu => ?_, fun e => by cases e⟩
    cases e
    have hlt := (List.getElem?_eq_some_iff.1 hu).1
    rw [length_flatW] at hlt
    rw [Addr.add_lit, Nat.zero_add, h.row.cellAt j hlt]
    exact hu
set_option maxRecDepth 100000 in
set_option maxHeartbeats 1000000 in
theorem clonew_any (A : Option Addr) (c : Nat) (l : List Wr) (w : World) (h : RowW w 0 A c l) (hl : l.length ≤ 200) :
    Calls Tryz.prog 52 #[.slice A l.length c] w fun e w' => ∃ A' c', e = .returned (.slice A' l.length c') ∧ RowW w' w.heap.size A' c' l ∧ Below w.heap.size w w' := by
  obtain ⟨i0, hi0, hz0, hz1, hz2⟩ := info_parts infoW
  have HR := Lib.hid h
  rcases A with _ | ad
  · have h0 : l.length = 0 := (rowW_src h).2 rfl
    have hn := List.eq_nil_of_length_eq_zero h0
    subst hn
    have hc : c = 0 := by
      rcases h.row.2 with ⟨q, _⟩ | ⟨_, _, _, q, _⟩
      · exact (Value.slice.inj q).2.2
      · cases (Value.slice.inj q).1
    subst hc
    have heq : ∀ W : World, (binOp .eql 72 (.slice none 0 0) (.slice none 0 0)).run Tryz.prog W = .ok (.bool true) W := fun W => by
      simp [binOp, run_equal_slice_nil W 72 91 _ _ _ Tryz.underlying72]
    clear h h0
    simp only [List.length_nil]
    go_enter Tryz.func52, Tryz.ntmps52
    go_wp2
    go_ret
    exact ⟨none, 0, rfl, RowW.nil _ _, Below.refl _ _⟩
  · have hform : ∃ b, ad = ⟨b, 0, none⟩ := by
      rcases h.row.2 with ⟨q, _⟩ | ⟨g, _, _, q, _⟩
      · cases (Value.slice.inj q).1
      · exact ⟨g, Option.some.inj (Value.slice.inj q).1⟩
    obtain ⟨b, rfl⟩ := hform
    have Hsrc : Hid (∀ ad, some (⟨b, 0, none⟩ : Addr) = some ad → ∀ j u, (flatW l)[j]? = some u → (w.alloc (.cells #[] 91)).cell? (ad.add j) = some u) := (rowW_src (h.fresh ((Below.refl _ _).alloc (Nat.le_refl _) _))).1
    have Hlen := Lib.hid (length_flatW l)
    have Hone := Lib.hid (flatW_cells l)
    have Hown : Hid ((w.alloc (.cells #[] 91)).ownsRow w.heap.size 91 6 (.slice (some ⟨w.heap.size, 0, none⟩) 0 0) 0 []) := World.ownsRow_made w #[] 0 (Nat.le_refl _) (by simp) (by simp)
    have heq : ∀ W : World, (binOp .eql 72 (.slice (some ⟨b, 0, none⟩) l.length c) (.slice none 0 0)).run Tryz.prog W = .ok (.bool false) W := fun W => by
      simp [binOp, run_equal_slice_nil W 72 91 _ _ _ Tryz.underlying72]
    have Hah := Lib.hid h.ah
    clear h
    go_enter Tryz.func52, Tryz.ntmps52
    go_wp2_with (refine wpList_append_src rfl (.tmp 5) (.tmp 6) 72 rfl w.heap.size 91 i0 _ 6 72 Tryz.underlying72 hi0 hz0 hz1 hz2 (by decide) (by decide) _ 0 [] rfl Hown.out (some ⟨b, 0, none⟩) l.length c (flatW l) rfl Hlen.out Hsrc.out (fun e => by cases e) Hone.out (by unfold maxLen; omega) (by omega) (by simp) l.length (by omega) ?_; intro A' c' w' ho hg hor)
    have hB := (below_alloc1 w (.cells #[] 91)).grown hg (by simp) (fun j e => by cases e; exact Nat.le_refl _)
    have HO := Lib.hid ho
    clear ho hg hor
    go_ret
    exact ⟨A', c', rfl, ⟨by simpa using HO.out, fun x hx => (Hah.out x hx).keep (F := fun _ => False) (Kept.fresh hB) (NI.none _)⟩, hB⟩
theorem RowW.zero {w : World} {B : Nat} {A : Option Addr} {c : Nat} {l : List Wr} (h : RowW w B A c l) : RowW w 0 A c l := ⟨row_zero h.row, h.ah⟩
set_option maxRecDepth 100000 in
set_option maxHeartbeats 2000000 in
theorem efork {w : World} {ge n cc : Nat} {S : Nat → Bk} {k : Int} {l : List Wr} {F : Nat → Prop} (h : Eng w ge n S cc k l F) (hc : cc < 100000) :
    Calls Tryz.prog 21 #[.pointer (some ⟨ge, 0, none⟩)] w fun e w' => ∃ g F', e = .returned (.pointer (some ⟨g, 0, none⟩)) ∧ Eng w' g n S cc k l F' ∧ (∀ b, F' b → w.heap.size ≤ b) ∧ Below w.heap.size w w' := by
  obtain ⟨gd, A, c, Fd, h, rfl⟩ := h
  have HE := Lib.hid h
  have HF := Lib.hid (fun W (hB : Below w.heap.size w W) => cfork (h.fresh hB).disk hc)
  have HX : Hid (∀ W, Below w.heap.size w W → W.cell? ⟨ge, 0, none⟩ = some (.pointer (some ⟨gd, 0, none⟩)) ∧ W.cell? ⟨ge, 1, none⟩ = some (.int .i64 k) ∧ W.cell? ⟨ge, 2, none⟩ = some (.slice A l.length c)) := fun W hW => ⟨(HE.out.fresh hW).head.c0, (HE.out.fresh hW).head.c1, (HE.out.fresh hW).head.c2⟩
  have X0 := Lib.hid (HX.out _ ((Below.refl _ _).drew))
  clear h
  go_enter Tryz.func21, Tryz.ntmps21
  go_wp2
  refine wp_region_held_drew (S := (fun W => W.cell? ⟨ge, 0, none⟩ = some (.pointer (some ⟨gd, 0, none⟩)) ∧ W.cell? ⟨ge, 1, none⟩ = some (.int .i64 k) ∧ W.cell? ⟨ge, 2, none⟩ = some (.slice A l.length c))) (by kernel_rfl) (X0.out) (fun hHeld => ?_)
  refine takeH (i := 0) (some 5) (v := ?_) rfl rfl (by kernel_rfl) (by kernel_rfl) (by kernel_rfl) (fun _ _ _ h => h) (by rfl) ?_ (by assumption) ?_
  rotate_left
  · (intro w hSw; (try dsimp only at hSw); go_simp; try with_reducible rfl)
  simp only [Act.put, List.setIfInBounds_toArray, List.set_cons_zero, List.set_cons_succ]
  refine takeH (i := 1) (some 6) (v := ?_) rfl rfl (by kernel_rfl) (by kernel_rfl) (by kernel_rfl) (fun _ _ _ h => h) (by rfl) ?_ (by assumption) ?_
  rotate_left
  · (intro w hSw; (try dsimp only at hSw); go_simp; try with_reducible rfl)
  simp only [Act.put, List.setIfInBounds_toArray, List.set_cons_zero, List.set_cons_succ]
  refine takeH (i := 2) (some 7) (v := ?_) rfl rfl (by kernel_rfl) (by kernel_rfl) (by kernel_rfl) (fun _ _ _ h => h) (by rfl) ?_ (by assumption) ?_
  rotate_left
  · (intro w hSw; (try dsimp only at hSw); go_simp; try with_reducible rfl)
  simp only [Act.put, List.setIfInBounds_toArray, List.set_cons_zero, List.set_cons_succ]
  refine takeH (i := 3) (some 8) (v := ?_) rfl rfl (by kernel_rfl) (by kernel_rfl) (by kernel_rfl) (fun _ _ _ h => h) (by rfl) ?_ (by assumption) ?_
  rotate_left
  · (intro w hSw; (try dsimp only at hSw); go_simp; try with_reducible rfl)
  simp only [Act.put, List.setIfInBounds_toArray, List.set_cons_zero, List.set_cons_succ]
  refine takeH (i := 4) (some 9) (v := ?_) rfl rfl (by kernel_rfl) (by kernel_rfl) (by kernel_rfl) (fun _ _ _ h => h) (by rfl) ?_ (by assumption) ?_
  rotate_left
  · (intro w hSw; (try dsimp only at hSw); go_simp; try with_reducible rfl)
  simp only [Act.put, List.setIfInBounds_toArray, List.set_cons_zero, List.set_cons_succ]
  refine takeH (i := 6) (some 11) (v := ?_) rfl rfl (by kernel_rfl) (by kernel_rfl) (by kernel_rfl) (fun _ _ _ h => h) (by rfl) ?_ (by assumption) ?_
  rotate_left
  · (intro w hSw; (try dsimp only at hSw); go_simp; try with_reducible rfl)
  simp only [Act.put, List.setIfInBounds_toArray, List.set_cons_zero, List.set_cons_succ]
  refine takeH (i := 7) (some 12) (v := ?_) rfl rfl (by kernel_rfl) (by kernel_rfl) (by kernel_rfl) (fun _ _ _ h => h) (by rfl) ?_ (by assumption) ?_
  rotate_left
  · (intro w hSw; (try dsimp only at hSw); go_simp; try with_reducible rfl)
  simp only [Act.put, List.setIfInBounds_toArray, List.set_cons_zero, List.set_cons_succ]
  refine takeH (i := 8) (some 13) (v := ?_) rfl rfl (by kernel_rfl) (by kernel_rfl) (by kernel_rfl) (fun _ _ _ h => h) (by rfl) ?_ (by assumption) ?_
  rotate_left
  · (intro w hSw; (try dsimp only at hSw); go_simp; try with_reducible rfl)
  simp only [Act.put, List.setIfInBounds_toArray, List.set_cons_zero, List.set_cons_succ]
  refine takeH (i := 9) (some 14) (v := ?_) rfl rfl (by kernel_rfl) (by kernel_rfl) (by kernel_rfl) (fun _ _ _ h => h) (by rfl) ?_ (by assumption) ?_
  rotate_left
  · (intro w hSw; (try dsimp only at hSw); go_simp; try with_reducible rfl)
  simp only [Act.put, List.setIfInBounds_toArray, List.set_cons_zero, List.set_cons_succ]
  refine takeH (i := 10) (some 15) (v := ?_) rfl rfl (by kernel_rfl) (by kernel_rfl) (by kernel_rfl) (fun _ _ _ h => h) (by rfl) ?_ (by assumption) ?_
  rotate_left
  · (intro w hSw; (try dsimp only at hSw); go_simp; try with_reducible rfl)
  simp only [Act.put, List.setIfInBounds_toArray, List.set_cons_zero, List.set_cons_succ]
  refine takeH (i := 11) (some 16) (v := ?_) rfl rfl (by kernel_rfl) (by kernel_rfl) (by kernel_rfl) (fun _ _ _ h => h) (by rfl) ?_ (by assumption) ?_
  rotate_left
  · (intro w hSw; (try dsimp only at hSw); go_simp; try with_reducible rfl)
  simp only [Act.put, List.setIfInBounds_toArray, List.set_cons_zero, List.set_cons_succ]
  refine takeH (i := 12) (some 17) (v := ?_) rfl rfl (by kernel_rfl) (by kernel_rfl) (by kernel_rfl) (fun _ _ _ h => h) (by rfl) ?_ (by assumption) ?_
  rotate_left
  · (intro w hSw; (try dsimp only at hSw); go_simp; try with_reducible rfl)
  simp only [Act.put, List.setIfInBounds_toArray, List.set_cons_zero, List.set_cons_succ]
  refine takeH (i := 13) (some 18) (v := ?_) rfl rfl (by kernel_rfl) (by kernel_rfl) (by kernel_rfl) (fun _ _ _ h => h) (by rfl) ?_ (by assumption) ?_
  rotate_left
  · (intro w hSw; (try dsimp only at hSw); go_simp; try with_reducible rfl)
  simp only [Act.put, List.setIfInBounds_toArray, List.set_cons_zero, List.set_cons_succ]
  refine takeH (i := 14) (some 19) (v := ?_) rfl rfl (by kernel_rfl) (by kernel_rfl) (by kernel_rfl) (fun _ _ _ h => h) (by rfl) ?_ (by assumption) ?_
  rotate_left
  · (intro w hSw; (try dsimp only at hSw); go_simp; try with_reducible rfl)
  simp only [Act.put, List.setIfInBounds_toArray, List.set_cons_zero, List.set_cons_succ]
  refine takeH (i := 15) (some 20) (v := ?_) rfl rfl (by kernel_rfl) (by kernel_rfl) (by kernel_rfl) (fun _ _ _ h => h) (by rfl) ?_ (by assumption) ?_
  rotate_left
  · (intro w hSw; (try dsimp only at hSw); go_simp; try with_reducible rfl)
  simp only [Act.put, List.setIfInBounds_toArray, List.set_cons_zero, List.set_cons_succ]
  refine wpAnyH_ready (rs := [5]) (by kernel_rfl) (by simp) ?_
  refine AllReadyH.cons rfl (fun K hK => ?_) AllReadyH.nil
  go_simp
  refine (HF.out _ ((Below.refl _ _).drew)).mono ?_
  rintro e w2 ⟨g2, F2, rfl, hc2, hf2, hb2⟩
  have HB2 : Hid (Below w.heap.size w w2) := ((Below.refl _ _).drew).trans hb2
  have HC2 := Lib.hid hc2
  have HF2 : Hid (∀ b, F2 b → w.heap.size ≤ b) := hf2
  have HCl := Lib.hid (clonew_any A c l w2 (HE.out.fresh HB2.out).row HE.out.few)
  clear hc2 hf2 hb2
  refine hK _ _ (HX.out _ HB2.out) (fun hHeld => ?_)
  clear hK K
  try simp only [Act.put, List.setIfInBounds_toArray, List.set_cons_zero, List.set_cons_succ]
  refine wpAnyH_ready (rs := [16]) (by kernel_rfl) (by simp) ?_
  refine AllReadyH.cons rfl (fun K hK => ?_) AllReadyH.nil
  go_simp
  refine HCl.out.mono ?_
  rintro e w3 ⟨A3, c3, rfl, hr3, hb3⟩
  have HB3 : Hid (Below w.heap.size w w3) := HB2.out.trans (hb3.mono HB2.out.size)
  have HB23 := Lib.hid hb3
  have HR3 := Lib.hid hr3
  clear hr3 hb3
  refine hK _ _ (HX.out _ HB3.out) (fun hHeld => ?_)
  clear hK K
  try simp only [Act.put, List.setIfInBounds_toArray, List.set_cons_zero, List.set_cons_succ]
  refine takeH (i := 17) (some 22) (v := ?_) rfl rfl (by kernel_rfl) (by kernel_rfl) (by kernel_rfl) (fun _ _ _ h => h) (by rfl) ?_ (by assumption) ?_
  rotate_left
  · (intro w hSw; (try dsimp only at hSw); go_simp; try with_reducible rfl)
  simp only [Act.put, List.setIfInBounds_toArray, List.set_cons_zero, List.set_cons_succ]
  refine takeH (i := 18) (some 23) (v := ?_) rfl rfl (by kernel_rfl) (by kernel_rfl) (by kernel_rfl) (fun _ _ _ h => h) (by rfl) ?_ (by assumption) ?_
  rotate_left
  · (intro w hSw; (try dsimp only at hSw); go_simp; try with_reducible rfl)
  simp only [Act.put, List.setIfInBounds_toArray, List.set_cons_zero, List.set_cons_succ]
  refine wpAnyH_ready (rs := [19]) (by kernel_rfl) (by simp) ?_
  refine AllReadyH.cons rfl (fun K hK => ?_) AllReadyH.nil
  go_simp
  skip
  refine hK _ _ (HX.out _ (HB3.out.alloc HB3.out.size _)) (fun hHeld => ?_)
  clear hK K
  try simp only [Act.put, List.setIfInBounds_toArray, List.set_cons_zero, List.set_cons_succ]
  refine takeH (i := 20) (some 2) (v := ?_) rfl rfl (by kernel_rfl) (by kernel_rfl) (by kernel_rfl) (fun _ _ _ h => h) (by rfl) ?_ (by assumption) ?_
  rotate_left
  · (intro w hSw; (try dsimp only at hSw); go_simp; try with_reducible rfl)
  simp only [Act.put, List.setIfInBounds_toArray, List.set_cons_zero, List.set_cons_succ]
  refine wpAnyH_done (by kernel_rfl) ?_ _
  go_wp2
  go_ret
  have hs2 := HB2.out.size
  have hs3 := HB3.out.size
  have hs23 := HB23.out.size
  have hB4 : Below w3.heap.size w3 (w3.alloc (.cells #[.pointer (some ⟨g2, 0, none⟩), .int .i64 k, .slice A3 l.length c3] 76)) := (Below.refl _ _).alloc (Nat.le_refl _) _
  refine ⟨w3.heap.size, footE w3.heap.size A3 F2, rfl, ⟨g2, A3, c3, F2, ⟨⟨heap_alloc_new w3 _⟩, (HC2.out.fresh HB23.out).fresh hB4, (HR3.out.fresh hB4).zero, HE.out.asc, HE.out.right, HE.out.blk, HE.out.lo, HE.out.few⟩, rfl⟩, ?_, HB3.out.alloc HB3.out.size _⟩
  rintro b (q | q | q)
  · omega
  · have := (HR3.out.lt b q).1; omega
  · exact HF2.out b q
end Go.Proofs.YtegacggkdjgdiaaGreat
