/- Write of an engine that writes together: the units that are ready of a block. -/
import Derived.Test.YtkldiofleepkfaaHZ
set_option linter.unusedVariables false
set_option linter.unusedSimpArgs false
namespace Go.Proofs.Ytkldiofleepkfaa.Hd
open Go.RowKit
open Go.Maps (Keyed)
theorem keepU_len (l : List Hw) : ∀ (us kept : List Int), (keepU l kept us).length ≤ kept.length + us.length
  | [], kept => by simp [keepU]
  | v :: r, kept => by
    unfold keepU
    by_cases ho : okU l kept v = true
    · have := keepU_len l r (kept ++ [v])
      rw [if_pos ho]
      simp at this ⊢
      omega
    · have := keepU_len l r kept
      rw [if_neg ho]
      simp
      omega
theorem HAt.marked {w w' : World} {g gd n cc : Nat} {S : Nat → Bk} {k jo id : Int} {l : List Hw} {sent sent' : List Int} {m : Lay} {Fd : Nat → Prop} (h : HAt w g gd n S cc k jo id l sent m Fd) (hk : Kept w w' (fun b => ∃ u ∈ units l, b = m.up u))
    (hus : ∀ u ∈ units l, w'.heap[m.up u]? = some (.cells (ucs u (ubl l u) (m.UA u) (ofU l u).length (m.UC u) (sent'.contains u)) 62 (0, 0))) (hs : SentOk l sent') : HAt w' g gd n S cc k jo id l sent' m Fd :=
  have hne : ∀ {b : Nat} {cs t fr}, w.heap[b]? = some (.cells cs t fr) → t ≠ 62 → ¬ ∃ u ∈ units l, b = m.up u := fun e ht ⟨u, hu, q⟩ => cells_ne e (h.us u hu) ht q
  { head := by rw [hk.block g h.glt (hne h.head (by decide))]; exact h.head
    disk := h.disk.keep hk fun b q1 ⟨u, hu, q2⟩ => by subst q2; exact Code.not_typeH h.disk (h.us u hu) (by decide) (by decide) q1
    wmap := h.wmap.keep hk (fun ⟨u, hu, q⟩ => h.wmap.not_cells (h.us u hu) q.symm)
    umap := h.umap.keep hk (fun ⟨u, hu, q⟩ => h.umap.not_cells (h.us u hu) q.symm)
    ws := fun x hx => by rw [hk.block _ (Array.getElem?_eq_some_iff.1 (h.ws x hx)).1 (hne (h.ws x hx) (by decide))]; exact h.ws x hx
    ahs := fun x hx => hk.row (h.ahs x hx) fun b hb q => by
      obtain ⟨cs, e⟩ := h.ah_own hx ((own_eq _ _ _).symm.trans hb)
      exact hne e (by decide) q
    us := hus
    ups := fun u hu => hk.row (h.ups u hu) fun b hb q => by
      obtain ⟨cs, e⟩ := h.row_typed hu ((own_eq _ _ _).symm.trans hb)
      exact hne e (by decide) q
    ok := h.ok, sok := hs, right := h.right, blk := h.blk, lo := h.lo, ah0 := h.ah0, k0 := h.k0, few := h.few, maps := h.maps, gwd := h.gwd, gud := h.gud }
theorem hwrite_no {w : World} {g n cc : Nat} {S : Nat → Bk} {k jo id : Int} {l : List Hw} {sent : List Int} {F : Nat → Prop} (h : Eng w g n S cc k jo id l sent F) (i : Int) (hi : ¬ (0 ≤ i ∧ i < n)) :
    Calls Try.prog 6 #[.pointer (some ⟨g, 0, none⟩), .int .i64 i] w fun e w' => e = .returned (.tuple #[.int .i64 0, .int .i64 2]) ∧ Below w.heap.size w w' := by
  have HAsk := Lib.hid (hask h i)
  rw [if_neg hi] at HAsk
  clear h hi
  go_enter Try.func6, Try.ntmps6
  go_wp2_with (go_at_call 13; refine HAsk.out.mono ?_; rintro e w1 ⟨rfl, hb1⟩; have HB1 := Lib.hid hb1; clear hb1)
  go_ret2
  exact ⟨rfl, HB1.out⟩
set_option maxRecDepth 100000 in
theorem hwrite_idle {w : World} {g n cc : Nat} {S : Nat → Bk} {k jo id : Int} {l : List Hw} {sent : List Int} {F : Nat → Prop} (h : Eng w g n S cc k jo id l sent F) (hcc : cc ≤ 100000) (hk : k ≤ 1000000) {i : Nat} (hi : i < n) (hu : ((readyU l i).any fun u => !sent.contains u) = false) :
    Calls Try.prog 6 #[.pointer (some ⟨g, 0, none⟩), .int .i64 (i : Int)] w fun e w' => e = .returned (.tuple #[.int .i64 0, .int .i64 0]) ∧ Below w.heap.size w w' := by
  have HAsk := Lib.hid (hask h (i : Int))
  rw [if_pos (by omega)] at HAsk
  obtain ⟨gd, m, Fd, h, rfl⟩ := h
  have hge := h.glt
  have Hok := Lib.hid h.ok
  have HRd := Lib.hid (fun W hW => ready_any (h.fresh (w' := W) hW) hcc hk (i : Int))
  have hrl : (readyU l (i : Int)).length ≤ 200 := by
    have h1 := (keepU_len l (onU l i) [])
    have h2 := on_len (l := l) (i : Int)
    have h3 := h.few
    unfold readyU
    simp at h1
    omega
  have hru : ∀ u ∈ readyU l (i : Int), u ∈ units l := fun u hu => ((mem_onU' h.ok.asc).1 (ready_on hu)).1
  have HC : Hid (∀ (W : World) B A c, Below w.heap.size w W → W.ownsRow B 59 1 (.slice A (readyU l i).length c) (readyU l i).length (ptrsU m.up (readyU l i)) → Calls Try.prog 15 #[.slice A (readyU l i).length c, .func (.func 16) #[] #[]] W fun e w' => e = .returned (.bool ((readyU l i).any fun u => !sent.contains u)) ∧ Below W.heap.size W w') := fun W B A c hW hr => contains_any m.up (fun u => sent.contains u) B A c (readyU l i) W hr (fun u hu => by
    have hb := (h.fresh hW).us u (hru u hu)
    exact ⟨(Array.getElem?_eq_some_iff.1 hb).1, cell_of_row W _ 3 _ 62 (0, 0) hb⟩) (by omega)
  rw [hu] at HC
  clear h hu hru
  go_enter Try.func6, Try.ntmps6
  go_wp2_with (first
    | (go_at_call 13; refine HAsk.out.mono ?_; rintro e w1 ⟨rfl, hb1⟩; have HB1 := Lib.hid hb1; have hg1 : g < w1.heap.size := (Nat.lt_of_lt_of_le hge hb1.size); clear hb1)
    | (go_at_call 14; refine (HRd.out _ HB1.out).mono ?_; rintro e w2 ⟨A2, c2, rfl, hr2, hb2⟩; have HR2 := Lib.hid hr2; have HB2 := Lib.hid (HB1.out.trans (hb2.mono HB1.out.size)); clear hr2 hb2)
    | (go_at_call 15; refine (HC.out _ _ _ _ HB2.out HR2.out).mono ?_; rintro e w3 ⟨rfl, hb3⟩; have HR3 := Lib.hid ((Kept.fresh (S := fun _ => False) hb3).row HR2.out (fun _ _ q => q)); have HB3 := Lib.hid (HB2.out.trans (hb3.mono HB2.out.size)); clear hb3))
  go_ret2
  exact ⟨rfl, HB3.out⟩
set_option maxRecDepth 100000 in
set_option maxHeartbeats 4000000 in
theorem hwrite_bad {w : World} {g n cc : Nat} {S : Nat → Bk} {k jo id : Int} {l : List Hw} {sent : List Int} {F : Nat → Prop} (h : Eng w g n S cc k jo id l sent F) (hcc : cc ≤ 100000) (hk : k ≤ 1000000) {i : Nat} (hi : i < n) (hu : ((readyU l i).any fun u => !sent.contains u) = true) (hb : (S i).b = true) :
    Calls Try.prog 6 #[.pointer (some ⟨g, 0, none⟩), .int .i64 (i : Int)] w fun e w' => e = .returned (.tuple #[.int .i64 0, .int .i64 10]) ∧ Below w.heap.size w w' := by
  have HAsk := Lib.hid (hask h (i : Int))
  rw [if_pos (by omega)] at HAsk
  obtain ⟨gd, m, Fd, h, rfl⟩ := h
  have hge := h.glt
  have Hok := Lib.hid h.ok
  have HRd := Lib.hid (fun W hW => ready_any (h.fresh (w' := W) hW) hcc hk (i : Int))
  have hrl : (readyU l (i : Int)).length ≤ 200 := by
    have h1 := (keepU_len l (onU l i) [])
    have h2 := on_len (l := l) (i : Int)
    have h3 := h.few
    unfold readyU
    simp at h1
    omega
  have hru : ∀ u ∈ readyU l (i : Int), u ∈ units l := fun u hu => ((mem_onU' h.ok.asc).1 (ready_on hu)).1
  have HC : Hid (∀ (W : World) B A c, Below w.heap.size w W → W.ownsRow B 59 1 (.slice A (readyU l i).length c) (readyU l i).length (ptrsU m.up (readyU l i)) → Calls Try.prog 15 #[.slice A (readyU l i).length c, .func (.func 16) #[] #[]] W fun e w' => e = .returned (.bool ((readyU l i).any fun u => !sent.contains u)) ∧ Below W.heap.size W w') := fun W B A c hW hr => contains_any m.up (fun u => sent.contains u) B A c (readyU l i) W hr (fun u hu => by
    have hb := (h.fresh hW).us u (hru u hu)
    exact ⟨(Array.getElem?_eq_some_iff.1 hb).1, cell_of_row W _ 3 _ 62 (0, 0) hb⟩) (by omega)
  have hrs : RightH (setU l (readyU l (i : Int))) := fun x hx => h.right x (mem_setU.1 hx).1
  have hsl : (setU l (readyU l (i : Int))).length ≤ 1000 := by have h1 := setU_len h.ok (ready_rise h.ok i) (fun u hu => ready_on hu); have h2 := h.few; omega
  have HBh := Lib.hid (fun W (hW : Below w.heap.size w W) B A' c' (hr : W.ownsRow B 59 1 (.slice A' (readyU l (i : Int)).length c') (readyU l (i : Int)).length (ptrsU m.up (readyU l (i : Int)))) => behind_any (h.fresh hW) hi B A' c' (readyU l (i : Int)) hr hru (by omega) hsl)
  have hpo := putH_ok (Code.okSH h.disk hi) hrs
  have HPo := Lib.hid hpo
  have HWr := Lib.hid (fun W (hW : Below w.heap.size w W) => cbad (h.fresh hW).disk hi hb (putH (S i).s (setU l (readyU l i))))
  rw [hu] at HC
  unfold secV at HWr
  have HHd := Lib.hid (fun W (hW : Below w.heap.size w W) => (h.fresh hW).c0)
  have HE := Lib.hid h
  have Hru := Lib.hid hru
  have Hrise := Lib.hid (ready_rise h.ok (i : Int))
  obtain ⟨set, hset⟩ : ∃ set, set = readyU l (i : Int) := ⟨_, rfl⟩
  have HSet := Lib.hid hset
  rw [← hset] at HRd HC HBh HPo HWr hrl Hru Hrise hsl
  obtain ⟨mm, hm⟩ : ∃ mm, mm = putH (S i).s (setU l set) := ⟨_, rfl⟩
  rw [← hm] at HBh HPo HWr
  have HMm := Lib.hid hm
  have hm32 := HPo.out.1
  have hsz : Hid ((Try.prog.info? 47).map (·.size) = some (bytesV mm).toArray.size) := by unfold Hid; rw [List.size_toArray, length_bytesV, hm32]; exact size36
  have Hsp : Hid (splice (bytesV noSec) 0 (bytesV mm) = bytesV mm) := splice_whole _ _ (by rw [length_bytesV, length_bytesV, hm32]; rfl)
  have Hml : Hid ((bytesV mm).length = 32) := by unfold Hid; rw [length_bytesV, hm32]
  obtain ⟨R0, hR0⟩ : ∃ R0, R0 = (bytesV mm).toArray := ⟨_, rfl⟩
  rw [← hR0] at HWr hsz
  have HR0 := Lib.hid hR0
  clear h hu hb hrs hpo hset hm hm32 hR0 hru
  go_enter Try.func6, Try.ntmps6
  go_wp2_with (first
    | (go_at_call 13; refine HAsk.out.mono ?_; rintro e w1 ⟨rfl, hb1⟩; have HB1 := Lib.hid hb1; have hg1 : g < w1.heap.size := (Nat.lt_of_lt_of_le hge hb1.size); clear hb1)
    | (go_at_call 14; refine (HRd.out _ HB1.out).mono ?_; rintro e w2 ⟨A2, c2, rfl, hr2, hb2⟩; have HR2 := Lib.hid hr2; have HB2 := Lib.hid (HB1.out.trans (hb2.mono HB1.out.size)); clear hr2 hb2)
    | (go_at_call 15; refine (HC.out _ _ _ _ HB2.out HR2.out).mono ?_; rintro e w3 ⟨rfl, hb3⟩; have HR3 := Lib.hid ((Kept.fresh (S := fun _ => False) hb3).row HR2.out (fun _ _ q => q)); have HB3 := Lib.hid (HB2.out.trans (hb3.mono HB2.out.size)); clear hb3))
  generalize hW : w3.alloc (Obj.cells _ 47) = w4
  have HS4 : Hid (w4.heap[w3.heap.size]? = some (.cells (bytesV noSec).toArray 47 (0, 0))) := by rw [← hW]; exact heap_alloc_new w3 _
  have Hb4 : Hid (Below w3.heap.size w3 w4) := by rw [← hW]; exact below_alloc1 w3 _
  have HB4 : Hid (Below w.heap.size w w4) := HB3.out.trans (Hb4.out.mono HB3.out.size)
  have HR4 := Lib.hid ((Kept.fresh (S := fun _ => False) Hb4.out).row HR3.out (fun _ _ q => q))
  have hg4 : g < w4.heap.size := Nat.lt_of_lt_of_le hge HB4.out.size
  have hs4 : w3.heap.size < w4.heap.size := (Array.getElem?_eq_some_iff.1 HS4.out).1
  obtain ⟨sb, hsb⟩ : ∃ sb, sb = w3.heap.size := ⟨_, rfl⟩
  have Hsb := Lib.hid hsb
  rw [← hsb] at HS4 hs4 ⊢
  clear hW hsb
  refine wp_region_held_drew (S := (fun W => True)) (by kernel_rfl) (trivial) (fun hHeld => ?_)
  refine takeH (i := 0) (some 25) (v := ?_) rfl rfl (by kernel_rfl) (by kernel_rfl) (by kernel_rfl) (fun _ _ _ h => h) (by rfl) ?_ (by assumption) ?_
  rotate_left
  · (intro w hSw; (try dsimp only at hSw); go_simp; try with_reducible rfl)
  simp only [Act.put, List.setIfInBounds_toArray, List.set_cons_zero, List.set_cons_succ]
  refine takeH (i := 1) (some 26) (v := ?_) rfl rfl (by kernel_rfl) (by kernel_rfl) (by kernel_rfl) (fun _ _ _ h => h) (by rfl) ?_ (by assumption) ?_
  rotate_left
  · (intro w hSw; (try dsimp only at hSw); go_simp; try with_reducible rfl)
  simp only [Act.put, List.setIfInBounds_toArray, List.set_cons_zero, List.set_cons_succ]
  refine takeH (i := 2) (some 27) (v := ?_) rfl rfl (by kernel_rfl) (by kernel_rfl) (by kernel_rfl) (fun _ _ _ h => h) (by rfl) ?_ (by assumption) ?_
  rotate_left
  · (intro w hSw; (try dsimp only at hSw); go_simp; try with_reducible rfl)
  simp only [Act.put, List.setIfInBounds_toArray, List.set_cons_zero, List.set_cons_succ]
  refine takeH (i := 3) (some 28) (v := ?_) rfl rfl (by kernel_rfl) (by kernel_rfl) (by kernel_rfl) (fun _ _ _ h => h) (by rfl) ?_ (by assumption) ?_
  rotate_left
  · (intro w hSw; (try dsimp only at hSw); go_simp; try with_reducible rfl)
  simp only [Act.put, List.setIfInBounds_toArray, List.set_cons_zero, List.set_cons_succ]
  refine wpAnyH_ready (rs := [4]) (by kernel_rfl) (by simp) ?_
  refine AllReadyH.cons rfl (fun K hK => ?_) AllReadyH.nil
  go_simp
  refine (HBh.out _ HB4.out.drew _ _ _ HR4.out).mono ?_
  rintro e w5 ⟨A5, c5, rfl, h1, h2, h3, h4, h5⟩
  obtain ⟨b5, o5, rfl, hlt5, _⟩ := h3.at_ (k := 0) (by omega)
  have hB5 : Below w4.heap.size w4 w5 := ((Below.refl _ _).drew).trans h5
  have HB5 := Lib.hid hB5
  have HSrc : Hid (∀ j v, (bytesV mm)[j]? = some v → w5.cell? ((⟨b5, o5, none⟩ : Addr).add j) = some v) := fun j v hv => by rw [add_plain']; exact h3.src j v hv
  have HS5 : Hid (w5.heap[sb]? = some (.cells (bytesV noSec).toArray 47 (0, 0))) := by unfold Hid; rw [hB5.block _ hs4]; exact HS4.out
  clear h1 h2 h3 h4 h5 hB5 hlt5
  refine hK _ _ (trivial) (fun hHeld => ?_)
  clear hK K
  try simp only [Act.put, List.setIfInBounds_toArray, List.set_cons_zero, List.set_cons_succ]
  refine wpAnyH_ready (rs := [5]) (by kernel_rfl) (by simp) ?_
  refine AllReadyH.cons rfl (fun K hK => ?_) AllReadyH.nil
  refine step_copy_splice rfl (.tmp 25) (.tmp 29) 30 30 rfl 5 Try.underlying30 size5 (some ⟨sb, 0, none⟩) (some ⟨b5, o5, none⟩) 32 32 32 c5 rfl rfl sb 0 (bytesV noSec) 47 HS5.out (bytesV mm) (by rw [Hml.out]; rfl) (fun _ => ⟨rfl, _, rfl, HSrc.out⟩) (by rw [Hml.out, length_bytesV, noSec_len]; omega) (bytesV_one mm) w3.heap.size w3 (Hb4.out.trans (HB5.out.mono Hb4.out.size)) (by rw [Hsb.out]; exact Nat.le_refl _) ?_
  intro w6 hs6 hb6
  rw [Hsp.out, ← HR0.out] at hs6
  have HS6 := hs6
  have HB6 := Lib.hid hb6
  clear hs6 hb6
  refine hK _ _ (trivial) (fun hHeld => ?_)
  clear hK K
  try simp only [Act.put, List.setIfInBounds_toArray, List.set_cons_zero, List.set_cons_succ]
  try simp only [List.getElem_toArray, List.getElem_cons_zero, List.getElem_cons_succ, Act.put, List.setIfInBounds_toArray, List.set_cons_zero, List.set_cons_succ]
  refine wpAnyH_done (by kernel_rfl) ?_ _
  have HB6w : Hid (Below w.heap.size w w6) := HB3.out.trans (HB6.out.mono HB3.out.size)
  have X : Hid (w6.drew.cell? ⟨g, 0, none⟩ = some (.pointer (some ⟨gd, 0, none⟩)) ∧ w6.drew.heap[sb]? = some (.cells R0 47 (0, 0))) := ⟨HHd.out _ HB6w.out.drew, HS6.out⟩
  have hg6 : g < w6.heap.size := Nat.lt_of_lt_of_le hge HB6w.out.size
  go_wp2
  refine wp_region_held_drew (S := (fun W => W.cell? ⟨g, 0, none⟩ = some (.pointer (some ⟨gd, 0, none⟩)))) (by kernel_rfl) (X.out.1) (fun hHeld => ?_)
  refine takeH (i := 0) (some 31) (v := ?_) rfl rfl (by kernel_rfl) (by kernel_rfl) (by kernel_rfl) (fun _ _ _ h => h) (by rfl) ?_ (by assumption) ?_
  rotate_left
  · (intro w hSw; (try dsimp only at hSw); go_simp; try with_reducible rfl)
  simp only [Act.put, List.setIfInBounds_toArray, List.set_cons_zero, List.set_cons_succ]
  refine takeH (i := 1) (some 32) (v := ?_) rfl rfl (by kernel_rfl) (by kernel_rfl) (by kernel_rfl) (fun _ _ _ h => h) (by rfl) ?_ (by assumption) ?_
  rotate_left
  · (intro w hSw; (try dsimp only at hSw); go_simp; try with_reducible rfl)
  simp only [Act.put, List.setIfInBounds_toArray, List.set_cons_zero, List.set_cons_succ]
  refine takeH (i := 2) (some 33) (v := ?_) rfl rfl (by kernel_rfl) (by kernel_rfl) (by kernel_rfl) (fun _ _ _ h => h) (by rfl) ?_ (by assumption) ?_
  rotate_left
  · (intro w hSw; (try dsimp only at hSw); go_simp; try with_reducible rfl)
  simp only [Act.put, List.setIfInBounds_toArray, List.set_cons_zero, List.set_cons_succ]
  refine takeH (i := 3) (some 34) (v := ?_) rfl rfl (by kernel_rfl) (by kernel_rfl) (by kernel_rfl) (fun _ _ _ h => h) (by rfl) ?_ (by assumption) ?_
  rotate_left
  · (intro w hSw; (try dsimp only at hSw); go_simp; try with_reducible rfl)
  simp only [Act.put, List.setIfInBounds_toArray, List.set_cons_zero, List.set_cons_succ]
  refine takeH (i := 4) (some 35) (v := ?_) rfl rfl (by kernel_rfl) (by kernel_rfl) (by kernel_rfl) (fun _ _ _ h => h) (by rfl) ?_ (by assumption) ?_
  rotate_left
  · (intro w hSw; (try dsimp only at hSw); go_simp; try with_reducible rfl)
  simp only [Act.put, List.setIfInBounds_toArray, List.set_cons_zero, List.set_cons_succ]
  refine wpAnyH_ready (rs := [5]) (by kernel_rfl) (by simp) ?_
  refine AllReadyH.cons rfl (fun K hK => ?_) AllReadyH.nil
  refine step_of rfl (wp_load_row 47 (.tmp 8) rfl sb rfl 47 R0 (0, 0) _ X.out.2 Try.underlying47 rfl hsz.out ?_)
  refine hK _ _ (X.out.1) (fun hHeld => ?_)
  clear hK K
  try simp only [Act.put, List.setIfInBounds_toArray, List.set_cons_zero, List.set_cons_succ]
  try simp only [List.getElem_toArray, List.getElem_cons_zero, List.getElem_cons_succ, Act.put, List.setIfInBounds_toArray, List.set_cons_zero, List.set_cons_succ]
  refine wpAnyH_ready (rs := [6]) (by kernel_rfl) (by simp) ?_
  refine AllReadyH.cons rfl (fun K hK => ?_) AllReadyH.nil
  go_simp
  refine (HWr.out _ HB6w.out.drew).mono ?_
  rintro e w7 ⟨rfl, hb7⟩
  have HB7 := Lib.hid (HB6w.out.drew.trans (hb7.mono HB6w.out.size))
  clear hb7
  refine hK _ _ (HHd.out _ HB7.out) (fun hHeld => ?_)
  clear hK K
  try simp only [Act.put, List.setIfInBounds_toArray, List.set_cons_zero, List.set_cons_succ]
  refine takeH (i := 7) (some 9) (v := ?_) rfl rfl (by kernel_rfl) (by kernel_rfl) (by kernel_rfl) (fun _ _ _ h => h) (by rfl) ?_ (by assumption) ?_
  rotate_left
  · (intro w hSw; (try dsimp only at hSw); go_simp; try with_reducible rfl)
  simp only [Act.put, List.setIfInBounds_toArray, List.set_cons_zero, List.set_cons_succ]
  refine wpAnyH_done (by kernel_rfl) ?_ _
  go_wp2
  go_ret2
  exact ⟨rfl, HB7.out⟩
set_option maxRecDepth 100000 in
set_option maxHeartbeats 4000000 in
theorem hwrite_ok {w : World} {g n cc : Nat} {S : Nat → Bk} {k jo id : Int} {l : List Hw} {sent : List Int} {F : Nat → Prop} (h : Eng w g n S cc k jo id l sent F) (hcc : cc ≤ 99998) (hk : k ≤ 1000000) {i : Nat} (hi : i < n) (hu : ((readyU l i).any fun u => !sent.contains u) = true) (hb : (S i).b = false) :
    Calls Try.prog 6 #[.pointer (some ⟨g, 0, none⟩), .int .i64 (i : Int)] w fun e w' => e = .returned (.tuple #[.int .i64 (setU l (readyU l i)).length, .int .i64 0]) ∧ Went w w' F (Eng w' g n (upd S i ⟨(S i).s, (S i).v ++ [putH (S i).s (setU l (readyU l i))], (S i).b⟩) (cc + 1) k jo id l (sent ++ readyU l i)) := by
  have hcc0 := hcc
  replace hcc : cc ≤ 100000 := by omega
  have HAsk := Lib.hid (hask h (i : Int))
  rw [if_pos (by omega)] at HAsk
  obtain ⟨gd, m, Fd, h, rfl⟩ := h
  have hge := h.glt
  have Hok := Lib.hid h.ok
  have HRd := Lib.hid (fun W hW => ready_any (h.fresh (w' := W) hW) hcc hk (i : Int))
  have hrl : (readyU l (i : Int)).length ≤ 200 := by
    have h1 := (keepU_len l (onU l i) [])
    have h2 := on_len (l := l) (i : Int)
    have h3 := h.few
    unfold readyU
    simp at h1
    omega
  have hru : ∀ u ∈ readyU l (i : Int), u ∈ units l := fun u hu => ((mem_onU' h.ok.asc).1 (ready_on hu)).1
  have HC : Hid (∀ (W : World) B A c, Below w.heap.size w W → W.ownsRow B 59 1 (.slice A (readyU l i).length c) (readyU l i).length (ptrsU m.up (readyU l i)) → Calls Try.prog 15 #[.slice A (readyU l i).length c, .func (.func 16) #[] #[]] W fun e w' => e = .returned (.bool ((readyU l i).any fun u => !sent.contains u)) ∧ Below W.heap.size W w') := fun W B A c hW hr => contains_any m.up (fun u => sent.contains u) B A c (readyU l i) W hr (fun u hu => by
    have hb := (h.fresh hW).us u (hru u hu)
    exact ⟨(Array.getElem?_eq_some_iff.1 hb).1, cell_of_row W _ 3 _ 62 (0, 0) hb⟩) (by omega)
  have hrs : RightH (setU l (readyU l (i : Int))) := fun x hx => h.right x (mem_setU.1 hx).1
  have hsl : (setU l (readyU l (i : Int))).length ≤ 1000 := by have h1 := setU_len h.ok (ready_rise h.ok i) (fun u hu => ready_on hu); have h2 := h.few; omega
  have HBh := Lib.hid (fun W (hW : Below w.heap.size w W) B A' c' (hr : W.ownsRow B 59 1 (.slice A' (readyU l (i : Int)).length c') (readyU l (i : Int)).length (ptrsU m.up (readyU l (i : Int)))) => behind_any (h.fresh hW) hi B A' c' (readyU l (i : Int)) hr hru (by omega) hsl)
  have hpo := putH_ok (Code.okSH h.disk hi) hrs
  have HPo := Lib.hid hpo
  have HWr := Lib.hid (fun W (hW : Below w.heap.size w W) => cwrite (h.fresh hW).disk hi hb hpo (by omega))
  rw [hu] at HC
  unfold secV at HWr
  have HHd := Lib.hid (fun W (hW : Below w.heap.size w W) => (h.fresh hW).c0)
  have HE := Lib.hid h
  have Hru := Lib.hid hru
  have Hrise := Lib.hid (ready_rise h.ok (i : Int))
  obtain ⟨set, hset⟩ : ∃ set, set = readyU l (i : Int) := ⟨_, rfl⟩
  have HSet := Lib.hid hset
  rw [← hset] at HRd HC HBh HPo HWr hrl Hru Hrise hsl ⊢
  obtain ⟨mm, hm⟩ : ∃ mm, mm = putH (S i).s (setU l set) := ⟨_, rfl⟩
  rw [← hm] at HBh HPo HWr ⊢
  have HMm := Lib.hid hm
  have hm32 := HPo.out.1
  have hsz : Hid ((Try.prog.info? 47).map (·.size) = some (bytesV mm).toArray.size) := by unfold Hid; rw [List.size_toArray, length_bytesV, hm32]; exact size36
  have Hsp : Hid (splice (bytesV noSec) 0 (bytesV mm) = bytesV mm) := splice_whole _ _ (by rw [length_bytesV, length_bytesV, hm32]; rfl)
  have Hml : Hid ((bytesV mm).length = 32) := by unfold Hid; rw [length_bytesV, hm32]
  obtain ⟨R0, hR0⟩ : ∃ R0, R0 = (bytesV mm).toArray := ⟨_, rfl⟩
  rw [← hR0] at HWr hsz
  have HR0 := Lib.hid hR0
  clear h hu hb hrs hpo hset hm hm32 hR0 hru
  go_enter Try.func6, Try.ntmps6
  go_wp2_with (first
    | (go_at_call 13; refine HAsk.out.mono ?_; rintro e w1 ⟨rfl, hb1⟩; have HB1 := Lib.hid hb1; have hg1 : g < w1.heap.size := (Nat.lt_of_lt_of_le hge hb1.size); clear hb1)
    | (go_at_call 14; refine (HRd.out _ HB1.out).mono ?_; rintro e w2 ⟨A2, c2, rfl, hr2, hb2⟩; have HR2 := Lib.hid hr2; have HB2 := Lib.hid (HB1.out.trans (hb2.mono HB1.out.size)); clear hr2 hb2)
    | (go_at_call 15; refine (HC.out _ _ _ _ HB2.out HR2.out).mono ?_; rintro e w3 ⟨rfl, hb3⟩; have HR3 := Lib.hid ((Kept.fresh (S := fun _ => False) hb3).row HR2.out (fun _ _ q => q)); have HB3 := Lib.hid (HB2.out.trans (hb3.mono HB2.out.size)); clear hb3))
  generalize hW : w3.alloc (Obj.cells _ 47) = w4
  have HS4 : Hid (w4.heap[w3.heap.size]? = some (.cells (bytesV noSec).toArray 47 (0, 0))) := by rw [← hW]; exact heap_alloc_new w3 _
  have Hb4 : Hid (Below w3.heap.size w3 w4) := by rw [← hW]; exact below_alloc1 w3 _
  have HB4 : Hid (Below w.heap.size w w4) := HB3.out.trans (Hb4.out.mono HB3.out.size)
  have HR4 := Lib.hid ((Kept.fresh (S := fun _ => False) Hb4.out).row HR3.out (fun _ _ q => q))
  have hg4 : g < w4.heap.size := Nat.lt_of_lt_of_le hge HB4.out.size
  have hs4 : w3.heap.size < w4.heap.size := (Array.getElem?_eq_some_iff.1 HS4.out).1
  obtain ⟨sb, hsb⟩ : ∃ sb, sb = w3.heap.size := ⟨_, rfl⟩
  have Hsb := Lib.hid hsb
  rw [← hsb] at HS4 hs4 ⊢
  clear hW hsb
  refine wp_region_held_drew (S := (fun W => True)) (by kernel_rfl) (trivial) (fun hHeld => ?_)
  refine takeH (i := 0) (some 25) (v := ?_) rfl rfl (by kernel_rfl) (by kernel_rfl) (by kernel_rfl) (fun _ _ _ h => h) (by rfl) ?_ (by assumption) ?_
  rotate_left
  · (intro w hSw; (try dsimp only at hSw); go_simp; try with_reducible rfl)
  simp only [Act.put, List.setIfInBounds_toArray, List.set_cons_zero, List.set_cons_succ]
  refine takeH (i := 1) (some 26) (v := ?_) rfl rfl (by kernel_rfl) (by kernel_rfl) (by kernel_rfl) (fun _ _ _ h => h) (by rfl) ?_ (by assumption) ?_
  rotate_left
  · (intro w hSw; (try dsimp only at hSw); go_simp; try with_reducible rfl)
  simp only [Act.put, List.setIfInBounds_toArray, List.set_cons_zero, List.set_cons_succ]
  refine takeH (i := 2) (some 27) (v := ?_) rfl rfl (by kernel_rfl) (by kernel_rfl) (by kernel_rfl) (fun _ _ _ h => h) (by rfl) ?_ (by assumption) ?_
  rotate_left
  · (intro w hSw; (try dsimp only at hSw); go_simp; try with_reducible rfl)
  simp only [Act.put, List.setIfInBounds_toArray, List.set_cons_zero, List.set_cons_succ]
  refine takeH (i := 3) (some 28) (v := ?_) rfl rfl (by kernel_rfl) (by kernel_rfl) (by kernel_rfl) (fun _ _ _ h => h) (by rfl) ?_ (by assumption) ?_
  rotate_left
  · (intro w hSw; (try dsimp only at hSw); go_simp; try with_reducible rfl)
  simp only [Act.put, List.setIfInBounds_toArray, List.set_cons_zero, List.set_cons_succ]
  refine wpAnyH_ready (rs := [4]) (by kernel_rfl) (by simp) ?_
  refine AllReadyH.cons rfl (fun K hK => ?_) AllReadyH.nil
  go_simp
  refine (HBh.out _ HB4.out.drew _ _ _ HR4.out).mono ?_
  rintro e w5 ⟨A5, c5, rfl, h1, h2, h3, h4, h5⟩
  obtain ⟨b5, o5, rfl, hlt5, _⟩ := h3.at_ (k := 0) (by omega)
  have hB5 : Below w4.heap.size w4 w5 := ((Below.refl _ _).drew).trans h5
  have HB5 := Lib.hid hB5
  have HSrc : Hid (∀ j v, (bytesV mm)[j]? = some v → w5.cell? ((⟨b5, o5, none⟩ : Addr).add j) = some v) := fun j v hv => by rw [add_plain']; exact h3.src j v hv
  have HS5 : Hid (w5.heap[sb]? = some (.cells (bytesV noSec).toArray 47 (0, 0))) := by unfold Hid; rw [hB5.block _ hs4]; exact HS4.out
  clear h1 h2 h3 h4 h5 hB5 hlt5
  refine hK _ _ (trivial) (fun hHeld => ?_)
  clear hK K
  try simp only [Act.put, List.setIfInBounds_toArray, List.set_cons_zero, List.set_cons_succ]
  refine wpAnyH_ready (rs := [5]) (by kernel_rfl) (by simp) ?_
  refine AllReadyH.cons rfl (fun K hK => ?_) AllReadyH.nil
  refine step_copy_splice rfl (.tmp 25) (.tmp 29) 30 30 rfl 5 Try.underlying30 size5 (some ⟨sb, 0, none⟩) (some ⟨b5, o5, none⟩) 32 32 32 c5 rfl rfl sb 0 (bytesV noSec) 47 HS5.out (bytesV mm) (by rw [Hml.out]; rfl) (fun _ => ⟨rfl, _, rfl, HSrc.out⟩) (by rw [Hml.out, length_bytesV, noSec_len]; omega) (bytesV_one mm) w3.heap.size w3 (Hb4.out.trans (HB5.out.mono Hb4.out.size)) (by rw [Hsb.out]; exact Nat.le_refl _) ?_
  intro w6 hs6 hb6
  rw [Hsp.out, ← HR0.out] at hs6
  have HS6 := hs6
  have HB6 := Lib.hid hb6
  clear hs6 hb6
  refine hK _ _ (trivial) (fun hHeld => ?_)
  clear hK K
  try simp only [Act.put, List.setIfInBounds_toArray, List.set_cons_zero, List.set_cons_succ]
  try simp only [List.getElem_toArray, List.getElem_cons_zero, List.getElem_cons_succ, Act.put, List.setIfInBounds_toArray, List.set_cons_zero, List.set_cons_succ]
  refine wpAnyH_done (by kernel_rfl) ?_ _
  have HB6w : Hid (Below w.heap.size w w6) := HB3.out.trans (HB6.out.mono HB3.out.size)
  have X : Hid (w6.drew.cell? ⟨g, 0, none⟩ = some (.pointer (some ⟨gd, 0, none⟩)) ∧ w6.drew.heap[sb]? = some (.cells R0 47 (0, 0))) := ⟨HHd.out _ HB6w.out.drew, HS6.out⟩
  have hg6 : g < w6.heap.size := Nat.lt_of_lt_of_le hge HB6w.out.size
  go_wp2
  refine wp_region_held_drew (S := (fun W => W.cell? ⟨g, 0, none⟩ = some (.pointer (some ⟨gd, 0, none⟩)))) (by kernel_rfl) (X.out.1) (fun hHeld => ?_)
  refine takeH (i := 0) (some 31) (v := ?_) rfl rfl (by kernel_rfl) (by kernel_rfl) (by kernel_rfl) (fun _ _ _ h => h) (by rfl) ?_ (by assumption) ?_
  rotate_left
  · (intro w hSw; (try dsimp only at hSw); go_simp; try with_reducible rfl)
  simp only [Act.put, List.setIfInBounds_toArray, List.set_cons_zero, List.set_cons_succ]
  refine takeH (i := 1) (some 32) (v := ?_) rfl rfl (by kernel_rfl) (by kernel_rfl) (by kernel_rfl) (fun _ _ _ h => h) (by rfl) ?_ (by assumption) ?_
  rotate_left
  · (intro w hSw; (try dsimp only at hSw); go_simp; try with_reducible rfl)
  simp only [Act.put, List.setIfInBounds_toArray, List.set_cons_zero, List.set_cons_succ]
  refine takeH (i := 2) (some 33) (v := ?_) rfl rfl (by kernel_rfl) (by kernel_rfl) (by kernel_rfl) (fun _ _ _ h => h) (by rfl) ?_ (by assumption) ?_
  rotate_left
  · (intro w hSw; (try dsimp only at hSw); go_simp; try with_reducible rfl)
  simp only [Act.put, List.setIfInBounds_toArray, List.set_cons_zero, List.set_cons_succ]
  refine takeH (i := 3) (some 34) (v := ?_) rfl rfl (by kernel_rfl) (by kernel_rfl) (by kernel_rfl) (fun _ _ _ h => h) (by rfl) ?_ (by assumption) ?_
  rotate_left
  · (intro w hSw; (try dsimp only at hSw); go_simp; try with_reducible rfl)
  simp only [Act.put, List.setIfInBounds_toArray, List.set_cons_zero, List.set_cons_succ]
  refine takeH (i := 4) (some 35) (v := ?_) rfl rfl (by kernel_rfl) (by kernel_rfl) (by kernel_rfl) (fun _ _ _ h => h) (by rfl) ?_ (by assumption) ?_
  rotate_left
  · (intro w hSw; (try dsimp only at hSw); go_simp; try with_reducible rfl)
  simp only [Act.put, List.setIfInBounds_toArray, List.set_cons_zero, List.set_cons_succ]
  refine wpAnyH_ready (rs := [5]) (by kernel_rfl) (by simp) ?_
  refine AllReadyH.cons rfl (fun K hK => ?_) AllReadyH.nil
  refine step_of rfl (wp_load_row 47 (.tmp 8) rfl sb rfl 47 R0 (0, 0) _ X.out.2 Try.underlying47 rfl hsz.out ?_)
  refine hK _ _ (X.out.1) (fun hHeld => ?_)
  clear hK K
  try simp only [Act.put, List.setIfInBounds_toArray, List.set_cons_zero, List.set_cons_succ]
  try simp only [List.getElem_toArray, List.getElem_cons_zero, List.getElem_cons_succ, Act.put, List.setIfInBounds_toArray, List.set_cons_zero, List.set_cons_succ]
  refine wpAnyH_ready (rs := [6]) (by kernel_rfl) (by simp) ?_
  refine AllReadyH.cons rfl (fun K hK => ?_) AllReadyH.nil
  go_simp
  refine (HWr.out _ HB6w.out.drew).mono ?_
  rintro e w7 ⟨rfl, F7, hd7, hk7, hf7⟩
  have HD7 := Lib.hid hd7
  have HK7 := Lib.hid hk7
  have HF7 := Lib.hid hf7
  have HE7 : Hid (HAt w7 g gd n _ (cc + 1) k jo id l sent m F7) := (HE.out.fresh HB6w.out.drew).disked (Nat.le_succ _) hk7 hf7 hd7
  clear hd7 hk7 hf7
  refine hK _ _ (HE7.out.c0) (fun hHeld => ?_)
  clear hK K
  try simp only [Act.put, List.setIfInBounds_toArray, List.set_cons_zero, List.set_cons_succ]
  refine takeH (i := 7) (some 9) (v := ?_) rfl rfl (by kernel_rfl) (by kernel_rfl) (by kernel_rfl) (fun _ _ _ h => h) (by rfl) ?_ (by assumption) ?_
  rotate_left
  · (intro w hSw; (try dsimp only at hSw); go_simp; try with_reducible rfl)
  simp only [Act.put, List.setIfInBounds_toArray, List.set_cons_zero, List.set_cons_succ]
  refine wpAnyH_done (by kernel_rfl) ?_ _
  have HA2 : Hid (∀ b, own A2 = some b → w.heap.size ≤ b) := fun b hb => Nat.le_trans HB1.out.size (HR3.out.lt b ((own_eq _ _ _).trans hb)).1
  have HR7 : Hid (w7.ownsRow w1.heap.size 59 1 (.slice A2 set.length c2) set.length (ptrsU m.up set)) := HK7.out.row ((Kept.fresh (S := fun _ => False) HB6.out).row HR3.out (fun _ _ q => q)) (fun b q1 q2 => by
    have h1 := HA2.out b ((own_eq _ _ _).symm.trans q1)
    have h2 := HE.out.disk.lt b q2
    omega)
  have HSl := Lib.hid hsl
  clear hg1 hg4 hs4 hg6 hsl
  go_wp2
  go_loopw [10, 43] (fun z q wr => ∃ j : Nat, j ≤ set.length ∧ q = .int .i64 j ∧ z = .int .i64 (setU l (set.take j)).length ∧ Hid (Kept w7 wr (fun b => ∃ u ∈ units l, b = m.up u)) ∧ Hid (∀ u ∈ units l, wr.heap[m.up u]? = some (.cells (ucs u (ubl l u) (m.UA u) (ofU l u).length (m.UC u) (sent.contains u || (set.take j).contains u)) 62 (0, 0)))) (fun _ q _ => set.length - (intOf q).toNat)
  case atStart => exact ⟨0, Nat.zero_le _, rfl, by simp [setU], Kept.refl _ _, fun u hu => by rw [List.take_zero]; simpa using HE7.out.us u hu⟩
  case round =>
    obtain ⟨j, hj, rfl, rfl, hK, hus⟩ := hrel
    rename World => wr
    by_cases hlt : j < set.length
    · have hlti : (j : Int) < (set.length : Int) := by omega
      have hj0 : (0 : Int) ≤ (j : Int) := by omega
      have hRr : wr.ownsRow w1.heap.size 59 1 (.slice A2 set.length c2) set.length (ptrsU m.up set) := hK.out.row HR7.out (fun b q1 q2 => by
        have h1 := HA2.out b ((own_eq _ _ _).symm.trans q1)
        obtain ⟨u, hu, e⟩ := q2
        have h2 := (Array.getElem?_eq_some_iff.1 (HE.out.us u hu)).1
        omega)
      obtain ⟨ab, hA, h3, h4, hab, hcs, _⟩ := ptr_at hRr hlt
      rw [ptrsU_at m.up hlt] at hcs
      subst hA
      unfold maxLen at h4
      have hu0 := Hru.out _ (un_mem hlt)
      have hub := hus.out _ hu0
      have hbl := (Array.getElem?_eq_some_iff.1 hub).1
      have u2 := cell_of_row wr _ 2 _ 62 (0, 0) hub
      have u3 := cell_of_row wr _ 3 _ 62 (0, 0) hub
      have f3 := frozen_of_row wr _ 3 _ 62 hub
      simp only [ucs] at u2 u3
      have Htk : Hid ((setU l (set.take (j + 1))).length = (setU l (set.take j)).length + (ofU l (un set j)).length) := by unfold Hid; rw [setU_take hlt, List.length_append]
      have hb1 := setU_take_len l set (j + 1)
      have hb2 : (setU l (set.take j)).length + (ofU l (un set j)).length ≤ 1000 := by have h1 := HSl.out; have h2 := Htk.out; omega
      have Hus2 : Hid (∀ u ∈ units l, (wr.setCell ⟨m.up (un set j), 3, none⟩ (.bool true)).heap[m.up u]? = some (.cells (ucs u (ubl l u) (m.UA u) (ofU l u).length (m.UC u) (sent.contains u || (set.take (j + 1)).contains u)) 62 (0, 0))) := fun u hu => by
        have htk : set.take (j + 1) = set.take j ++ [un set j] := by rw [List.take_succ_eq_append_getElem hlt, un_lt hlt]
        by_cases e : u = un set j
        · subst e
          have h1 := heap_setCell_same wr (m.up (un set j)) 3 _ 62 (.bool true) hub
          have h2 : (set.take (j + 1)).contains (un set j) = true := by rw [htk]; simp
          rw [h2, Bool.or_true]
          simpa [ucs] using h1
        · rw [heap_setCell_other wr ⟨m.up (un set j), 3, none⟩ (m.up u) _ (fun q => e (HE.out.up_inj hu hu0 q))]
          have h2 : (set.take (j + 1)).contains u = (set.take j).contains u := by rw [htk]; simp [e]
          rw [h2]
          exact hus.out u hu
      have HK2 : Hid (Kept w7 (wr.setCell ⟨m.up (un set j), 3, none⟩ (.bool true)) (fun b => ∃ u ∈ units l, b = m.up u)) := hK.out.trans ⟨rfl, rfl, rfl, by simp, fun b _ hn => heap_setCell_other wr ⟨m.up (un set j), 3, none⟩ b _ (fun e => hn ⟨_, hu0, e⟩)⟩ (fun b q => .inl q)
      obtain ⟨L0, hL0⟩ : ∃ L0, L0 = (setU l (set.take j)).length := ⟨_, rfl⟩
      rw [← hL0] at Htk hb2 ⊢
      generalize (ofU l (un set j)).length = ln at u2 Htk hb2
      generalize m.up (un set j) = ub at *
      generalize (sent.contains (un set j) || (set.take j).contains (un set j)) = fl at u3
      clear hub hRr hu0 hb1 hL0 hK hus hab
      go_wp2
      go_roundw
      case rel => exact ⟨j + 1, by omega, by go_num, by rw [Htk.out]; go_num, HK2.out, Hus2.out⟩
      case measure => simp [intOf]; omega
    · obtain rfl : j = set.length := by omega
      have hlti : ¬ (set.length : Int) < (set.length : Int) := by omega
      rw [List.take_length] at hus ⊢
      go_wp2
      go_ret2
      have hE9 : HAt wr g gd n (upd S i ⟨(S i).s, (S i).v ++ [mm], (S i).b⟩) (cc + 1) k jo id l (sent ++ set) m F7 := HE7.out.marked hK.out (fun u hu => by
        have h1 := hus.out u hu
        have h2 : (sent ++ set).contains u = (sent.contains u || set.contains u) := by simp
        rw [h2]; exact h1) (HE7.out.sok.wrote Hok.out (i : Int) (fun u => by rw [List.mem_append, HSet.out]))
      have K1 : Kept w wr (footH g l m Fd) := ((Kept.fresh (S := footH g l m Fd) HB6w.out.drew).trans HK7.out (fun b q => .inl (.inr (.inr (.inr (.inr q)))))).trans hK.out (fun b ⟨u, hu, q⟩ => .inl (.inr (.inr (.inr (.inl ⟨u, hu, .inl q⟩)))))
      refine ⟨rfl, footH g l m F7, ⟨gd, m, F7, hE9, rfl⟩, K1, ?_⟩
      rintro b (q | q | q | q | q)
      · exact .inl (.inl q)
      · exact .inl (.inr (.inl q))
      · exact .inl (.inr (.inr (.inl q)))
      · exact .inl (.inr (.inr (.inr (.inl q))))
      · rcases HF7.out b q with q | q
        · exact .inl (.inr (.inr (.inr (.inr q))))
        · exact .inr (by have := HB6w.out.size; simp at q; omega)
end Go.Proofs.Ytkldiofleepkfaa.Hd
