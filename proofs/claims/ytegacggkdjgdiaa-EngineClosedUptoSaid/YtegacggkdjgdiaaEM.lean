/- Write of an engine: what is ready of a block, together. -/
import Derived.Test.YtegacggkdjgdiaaEL
set_option linter.unusedVariables false
set_option linter.unusedSimpArgs false
namespace Go.Proofs.Ytegacggkdjgdiaa
open Go.RowKit

theorem ewrite_no {w : World} {ge n cc : Nat} {S : Nat → Bk} {k : Int} {l : List Wr} {F : Nat → Prop} (h : Eng w ge n S cc k l F) (i : Int) (hi : ¬ (0 ≤ i ∧ i < n)) :
    Calls Try.prog 12 #[.pointer (some ⟨ge, 0, none⟩), .int .i64 i] w fun e w' => e = .returned (.tuple #[.int .i64 0, .int .i64 2]) ∧ Below w.heap.size w w' := by
  have HAsk := Lib.hid (ask_engine h i)
  rw [if_neg hi] at HAsk
  clear h hi
  go_enter Try.func12, Try.ntmps12
  go_wp2_with (go_at_call 37; refine HAsk.out.mono ?_; rintro e w1 ⟨rfl, hb1⟩; have HB1 := Lib.hid hb1; clear hb1)
  go_ret2
  exact ⟨rfl, HB1.out⟩
theorem readyL_len {w : World} {ge gd n cc c : Nat} {S : Nat → Bk} {k : Int} {l : List Wr} {A : Option Addr} {Fd : Nat → Prop} (h : EngAt w ge gd n S cc k l A c Fd) (i : Int) : (readyL l i).length ≤ 1000 := by
  have h1 := (readyL_sub l i).length_le
  have h2 := (onL_sub l i).length_le
  have := h.few; omega
set_option maxRecDepth 100000 in
theorem ewrite_idle {w : World} {ge n cc : Nat} {S : Nat → Bk} {k : Int} {l : List Wr} {F : Nat → Prop} (h : Eng w ge n S cc k l F) {i : Nat} (hi : i < n) (hu : ((readyL l i).any fun x => !x.wr) = false) :
    Calls Try.prog 12 #[.pointer (some ⟨ge, 0, none⟩), .int .i64 (i : Int)] w fun e w' => e = .returned (.tuple #[.int .i64 0, .int .i64 0]) ∧ Below w.heap.size w w' := by
  have HAsk := Lib.hid (ask_engine h (i : Int))
  rw [if_pos (by omega)] at HAsk
  obtain ⟨gd, A, c, Fd, h, rfl⟩ := h
  have hge := h.head.lt
  have hlen := readyL_len h (i : Int)
  have HRd := Lib.hid (fun W hW => ready_any 0 ge gd k A c l (i : Int) W (h.fresh hW).head (h.fresh hW).row h.asc (by have := h.few; omega))
  have HC := Lib.hid (fun W B A' c' (hr : RowW W B A' c' (readyL l (i : Int))) => contains_any B A' c' _ W hr hlen)
  rw [hu] at HC
  clear h hu
  go_enter Try.func12, Try.ntmps12
  go_wp2_with (first
    | (go_at_call 37; refine HAsk.out.mono ?_; rintro e w1 ⟨rfl, hb1⟩; have HB1 := Lib.hid hb1; have hg1 : ge < w1.heap.size := (Nat.lt_of_lt_of_le hge hb1.size); clear hb1)
    | (go_at_call 38; refine (HRd.out _ HB1.out).mono ?_; rintro e w2 ⟨A2, c2, rfl, hr2, hb2⟩; have HR2 := Lib.hid hr2; have HB2 := Lib.hid (HB1.out.trans (hb2.mono HB1.out.size)); clear hr2 hb2)
    | (go_at_call 39; refine (HC.out _ _ _ _ HR2.out).mono ?_; rintro e w3 ⟨rfl, hb3⟩; have HB3 := Lib.hid (HB2.out.trans (hb3.mono HB2.out.size)); clear hb3))
  go_ret2
  exact ⟨rfl, HB3.out⟩
set_option maxRecDepth 100000 in
set_option maxHeartbeats 4000000 in
theorem ewrite_bad {w : World} {ge n cc : Nat} {S : Nat → Bk} {k : Int} {l : List Wr} {F : Nat → Prop} (h : Eng w ge n S cc k l F) {i : Nat} (hi : i < n) (hu : ((readyL l i).any fun x => !x.wr) = true) (hb : (S i).b = true) :
    Calls Try.prog 12 #[.pointer (some ⟨ge, 0, none⟩), .int .i64 (i : Int)] w fun e w' => e = .returned (.tuple #[.int .i64 0, .int .i64 10]) ∧ Below w.heap.size w w' := by
  have HAsk := Lib.hid (ask_engine h (i : Int))
  rw [if_pos (by omega)] at HAsk
  obtain ⟨gd, A, c, Fd, h, rfl⟩ := h
  have hge := h.head.lt
  have hlen := readyL_len h (i : Int)
  have HRd := Lib.hid (fun W hW => ready_any 0 ge gd k A c l (i : Int) W (h.fresh hW).head (h.fresh hW).row h.asc (by have := h.few; omega))
  have HC := Lib.hid (fun W B A' c' (hr : RowW W B A' c' (readyL l (i : Int))) => contains_any B A' c' _ W hr hlen)
  have hrs : RightL (readyL l (i : Int)) := h.right.sub ((readyL_sub l i).trans (onL_sub l i))
  have HBh := Lib.hid (fun W (hW : Below w.heap.size w W) B A' c' (hr : RowW W B A' c' (readyL l (i : Int))) => behind_any B ge gd n cc i k _ S Fd A' c' _ W (h.fresh hW).head (h.fresh hW).disk hi hr hrs hlen)
  have hpo := putL_ok (h.disk.okS hi) hrs
  have HPo := Lib.hid hpo
  have HWr := Lib.hid (fun W (hW : Below w.heap.size w W) => cbad (h.fresh hW).disk hi hb (putL (S i).s (readyL l i)))
  rw [hu] at HC
  unfold secV at HWr
  have HHd := Lib.hid (fun W (hW : Below w.heap.size w W) => (h.fresh hW).head.c0)
  have HE := Lib.hid h
  obtain ⟨set, hset⟩ : ∃ set, set = readyL l (i : Int) := ⟨_, rfl⟩
  have HSet := Lib.hid hset
  rw [← hset] at HRd HC HBh HPo HWr hlen
  obtain ⟨m, hm⟩ : ∃ m, m = putL (S i).s set := ⟨_, rfl⟩
  rw [← hm] at HBh HPo HWr
  have hm32 := HPo.out.1
  have hsz : Hid ((Try.prog.info? 65).map (·.size) = some (bytesV m).toArray.size) := by unfold Hid; rw [List.size_toArray, length_bytesV, hm32]; exact size36
  have Hsp : Hid (splice (bytesV noSec) 0 (bytesV m) = bytesV m) := splice_whole _ _ (by rw [length_bytesV, length_bytesV, hm32]; rfl)
  have Hml : Hid ((bytesV m).length = 32) := by unfold Hid; rw [length_bytesV, hm32]
  obtain ⟨R0, hR0⟩ : ∃ R0, R0 = (bytesV m).toArray := ⟨_, rfl⟩
  rw [← hR0] at HWr hsz
  have HR0 := Lib.hid hR0
  clear h hu hb hrs hpo hset hm hm32 hR0
  go_enter Try.func12, Try.ntmps12
  go_wp2_with (first
    | (go_at_call 37; refine HAsk.out.mono ?_; rintro e w1 ⟨rfl, hb1⟩; have HB1 := Lib.hid hb1; have hg1 : ge < w1.heap.size := (Nat.lt_of_lt_of_le hge hb1.size); clear hb1)
    | (go_at_call 38; refine (HRd.out _ HB1.out).mono ?_; rintro e w2 ⟨A2, c2, rfl, hr2, hb2⟩; have HR2 := Lib.hid hr2; have HB2 := Lib.hid (HB1.out.trans (hb2.mono HB1.out.size)); clear hr2 hb2)
    | (go_at_call 39; refine (HC.out _ _ _ _ HR2.out).mono ?_; rintro e w3 ⟨rfl, hb3⟩; have HR3 := Lib.hid (HR2.out.fresh hb3); have HB3 := Lib.hid (HB2.out.trans (hb3.mono HB2.out.size)); clear hb3))
  generalize hW : w3.alloc (Obj.cells _ 65) = w4
  have HS4 : Hid (w4.heap[w3.heap.size]? = some (.cells (bytesV noSec).toArray 65 (0, 0))) := by rw [← hW]; exact heap_alloc_new w3 _
  have Hb4 : Hid (Below w3.heap.size w3 w4) := by rw [← hW]; exact below_alloc1 w3 _
  have HB4 : Hid (Below w.heap.size w w4) := HB3.out.trans (Hb4.out.mono HB3.out.size)
  have HR4 := Lib.hid (HR3.out.fresh Hb4.out)
  have hg4 : ge < w4.heap.size := Nat.lt_of_lt_of_le hge HB4.out.size
  have hs4 : w3.heap.size < w4.heap.size := (Array.getElem?_eq_some_iff.1 HS4.out).1
  obtain ⟨sb, hsb⟩ : ∃ sb, sb = w3.heap.size := ⟨_, rfl⟩
  have Hsb := Lib.hid hsb
  rw [← hsb] at HS4 hs4 ⊢
  clear hW hsb
  refine wp_region_held_drew (S := (fun W => True)) (by kernel_rfl) (trivial) (fun hHeld => ?_)
  refine takeH (i := 0) (some 28) (v := ?_) rfl rfl (by kernel_rfl) (by kernel_rfl) (by kernel_rfl) (fun _ _ _ h => h) (by rfl) ?_ (by assumption) ?_
  rotate_left
  · (intro w hSw; (try dsimp only at hSw); go_simp; try with_reducible rfl)
  simp only [Act.put, List.setIfInBounds_toArray, List.set_cons_zero, List.set_cons_succ]
  refine takeH (i := 1) (some 29) (v := ?_) rfl rfl (by kernel_rfl) (by kernel_rfl) (by kernel_rfl) (fun _ _ _ h => h) (by rfl) ?_ (by assumption) ?_
  rotate_left
  · (intro w hSw; (try dsimp only at hSw); go_simp; try with_reducible rfl)
  simp only [Act.put, List.setIfInBounds_toArray, List.set_cons_zero, List.set_cons_succ]
  refine takeH (i := 2) (some 30) (v := ?_) rfl rfl (by kernel_rfl) (by kernel_rfl) (by kernel_rfl) (fun _ _ _ h => h) (by rfl) ?_ (by assumption) ?_
  rotate_left
  · (intro w hSw; (try dsimp only at hSw); go_simp; try with_reducible rfl)
  simp only [Act.put, List.setIfInBounds_toArray, List.set_cons_zero, List.set_cons_succ]
  refine takeH (i := 3) (some 31) (v := ?_) rfl rfl (by kernel_rfl) (by kernel_rfl) (by kernel_rfl) (fun _ _ _ h => h) (by rfl) ?_ (by assumption) ?_
  rotate_left
  · (intro w hSw; (try dsimp only at hSw); go_simp; try with_reducible rfl)
  simp only [Act.put, List.setIfInBounds_toArray, List.set_cons_zero, List.set_cons_succ]
  refine takeH (i := 4) (some 32) (v := ?_) rfl rfl (by kernel_rfl) (by kernel_rfl) (by kernel_rfl) (fun _ _ _ h => h) (by rfl) ?_ (by assumption) ?_
  rotate_left
  · (intro w hSw; (try dsimp only at hSw); go_simp; try with_reducible rfl)
  simp only [Act.put, List.setIfInBounds_toArray, List.set_cons_zero, List.set_cons_succ]
  refine takeH (i := 5) (some 33) (v := ?_) rfl rfl (by kernel_rfl) (by kernel_rfl) (by kernel_rfl) (fun _ _ _ h => h) (by rfl) ?_ (by assumption) ?_
  rotate_left
  · (intro w hSw; (try dsimp only at hSw); go_simp; try with_reducible rfl)
  simp only [Act.put, List.setIfInBounds_toArray, List.set_cons_zero, List.set_cons_succ]
  refine wpAnyH_ready (rs := [6]) (by kernel_rfl) (by simp) ?_
  refine AllReadyH.cons rfl (fun K hK => ?_) AllReadyH.nil
  go_simp
  refine (HBh.out _ HB4.out.drew _ _ _ HR4.out.drew).mono ?_
  rintro e w5 ⟨A5, c5, rfl, h1, h2, h3, h4, h5⟩
  obtain ⟨b5, o5, rfl, hlt5, _⟩ := h3.at_ (k := 0) (by omega)
  have hB5 : Below w4.heap.size w4 w5 := ((Below.refl _ _).drew).trans h5
  have HB5 := Lib.hid hB5
  have HSrc : Hid (∀ j v, (bytesV m)[j]? = some v → w5.cell? ((⟨b5, o5, none⟩ : Addr).add j) = some v) := fun j v hv => by rw [add_plain']; exact h3.src j v hv
  have HS5 : Hid (w5.heap[sb]? = some (.cells (bytesV noSec).toArray 65 (0, 0))) := by unfold Hid; rw [hB5.block _ hs4]; exact HS4.out
  clear h1 h2 h3 h4 h5 hB5 hlt5
  refine hK _ _ (trivial) (fun hHeld => ?_)
  clear hK K
  try simp only [Act.put, List.setIfInBounds_toArray, List.set_cons_zero, List.set_cons_succ]
  refine wpAnyH_ready (rs := [7]) (by kernel_rfl) (by simp) ?_
  refine AllReadyH.cons rfl (fun K hK => ?_) AllReadyH.nil
  refine step_copy_splice rfl (.tmp 28) (.tmp 34) 23 23 rfl 5 Try.underlying23 size5 (some ⟨sb, 0, none⟩) (some ⟨b5, o5, none⟩) 32 32 32 c5 rfl rfl sb 0 (bytesV noSec) 65 HS5.out (bytesV m) (by rw [Hml.out]; rfl) (fun _ => ⟨rfl, _, rfl, HSrc.out⟩) (by rw [Hml.out, length_bytesV, noSec_len]; omega) (bytesV_one m) w3.heap.size w3 (Hb4.out.trans (HB5.out.mono Hb4.out.size)) (by rw [Hsb.out]; exact Nat.le_refl _) ?_
  intro w6 hs6 hb6
  rw [Hsp.out, ← HR0.out] at hs6
  have HS6 := hs6
  have HB6 := Lib.hid hb6
  clear hs6 hb6
  refine hK _ _ (trivial) (fun hHeld => ?_)
  clear hK K
  try simp only [Act.put, List.setIfInBounds_toArray, List.set_cons_zero, List.set_cons_succ]
  try simp only [List.getElem_toArray, List.getElem_cons_zero, List.getElem_cons_succ, Act.put, List.setIfInBounds_toArray, List.set_cons_zero, List.set_cons_succ]
  refine wpAnyH_done (by kernel_rfl) ?_ _
  have HB6w : Hid (Below w.heap.size w w6) := HB3.out.trans (HB6.out.mono HB3.out.size)
  have X : Hid (w6.drew.cell? ⟨ge, 0, none⟩ = some (.pointer (some ⟨gd, 0, none⟩)) ∧ w6.drew.heap[sb]? = some (.cells R0 65 (0, 0))) := ⟨HHd.out _ HB6w.out.drew, HS6.out⟩
  have hg6 : ge < w6.heap.size := Nat.lt_of_lt_of_le hge HB6w.out.size
  go_wp2
  refine wp_region_held_drew (S := (fun W => W.cell? ⟨ge, 0, none⟩ = some (.pointer (some ⟨gd, 0, none⟩)))) (by kernel_rfl) (X.out.1) (fun hHeld => ?_)
  refine takeH (i := 0) (some 36) (v := ?_) rfl rfl (by kernel_rfl) (by kernel_rfl) (by kernel_rfl) (fun _ _ _ h => h) (by rfl) ?_ (by assumption) ?_
  rotate_left
  · (intro w hSw; (try dsimp only at hSw); go_simp; try with_reducible rfl)
  simp only [Act.put, List.setIfInBounds_toArray, List.set_cons_zero, List.set_cons_succ]
  refine takeH (i := 1) (some 37) (v := ?_) rfl rfl (by kernel_rfl) (by kernel_rfl) (by kernel_rfl) (fun _ _ _ h => h) (by rfl) ?_ (by assumption) ?_
  rotate_left
  · (intro w hSw; (try dsimp only at hSw); go_simp; try with_reducible rfl)
  simp only [Act.put, List.setIfInBounds_toArray, List.set_cons_zero, List.set_cons_succ]
  refine takeH (i := 2) (some 38) (v := ?_) rfl rfl (by kernel_rfl) (by kernel_rfl) (by kernel_rfl) (fun _ _ _ h => h) (by rfl) ?_ (by assumption) ?_
  rotate_left
  · (intro w hSw; (try dsimp only at hSw); go_simp; try with_reducible rfl)
  simp only [Act.put, List.setIfInBounds_toArray, List.set_cons_zero, List.set_cons_succ]
  refine takeH (i := 3) (some 39) (v := ?_) rfl rfl (by kernel_rfl) (by kernel_rfl) (by kernel_rfl) (fun _ _ _ h => h) (by rfl) ?_ (by assumption) ?_
  rotate_left
  · (intro w hSw; (try dsimp only at hSw); go_simp; try with_reducible rfl)
  simp only [Act.put, List.setIfInBounds_toArray, List.set_cons_zero, List.set_cons_succ]
  refine takeH (i := 4) (some 40) (v := ?_) rfl rfl (by kernel_rfl) (by kernel_rfl) (by kernel_rfl) (fun _ _ _ h => h) (by rfl) ?_ (by assumption) ?_
  rotate_left
  · (intro w hSw; (try dsimp only at hSw); go_simp; try with_reducible rfl)
  simp only [Act.put, List.setIfInBounds_toArray, List.set_cons_zero, List.set_cons_succ]
  refine takeH (i := 5) (some 41) (v := ?_) rfl rfl (by kernel_rfl) (by kernel_rfl) (by kernel_rfl) (fun _ _ _ h => h) (by rfl) ?_ (by assumption) ?_
  rotate_left
  · (intro w hSw; (try dsimp only at hSw); go_simp; try with_reducible rfl)
  simp only [Act.put, List.setIfInBounds_toArray, List.set_cons_zero, List.set_cons_succ]
  refine wpAnyH_ready (rs := [6]) (by kernel_rfl) (by simp) ?_
  refine AllReadyH.cons rfl (fun K hK => ?_) AllReadyH.nil
  refine step_of rfl (wp_load_row 65 (.tmp 8) rfl sb rfl 65 R0 (0, 0) _ X.out.2 Try.underlying65 rfl hsz.out ?_)
  refine hK _ _ (X.out.1) (fun hHeld => ?_)
  clear hK K
  try simp only [Act.put, List.setIfInBounds_toArray, List.set_cons_zero, List.set_cons_succ]
  try simp only [List.getElem_toArray, List.getElem_cons_zero, List.getElem_cons_succ, Act.put, List.setIfInBounds_toArray, List.set_cons_zero, List.set_cons_succ]
  refine wpAnyH_ready (rs := [7]) (by kernel_rfl) (by simp) ?_
  refine AllReadyH.cons rfl (fun K hK => ?_) AllReadyH.nil
  go_simp
  refine (HWr.out _ HB6w.out.drew).mono ?_
  rintro e w7 ⟨rfl, hb7⟩
  have HB7 := Lib.hid (HB6w.out.drew.trans (hb7.mono HB6w.out.size))
  clear hb7
  refine hK _ _ (HHd.out _ HB7.out) (fun hHeld => ?_)
  clear hK K
  try simp only [Act.put, List.setIfInBounds_toArray, List.set_cons_zero, List.set_cons_succ]
  refine takeH (i := 8) (some 9) (v := ?_) rfl rfl (by kernel_rfl) (by kernel_rfl) (by kernel_rfl) (fun _ _ _ h => h) (by rfl) ?_ (by assumption) ?_
  rotate_left
  · (intro w hSw; (try dsimp only at hSw); go_simp; try with_reducible rfl)
  simp only [Act.put, List.setIfInBounds_toArray, List.set_cons_zero, List.set_cons_succ]
  refine wpAnyH_done (by kernel_rfl) ?_ _
  go_wp2
  go_ret2
  exact ⟨rfl, HB7.out⟩
end Go.Proofs.Ytegacggkdjgdiaa
