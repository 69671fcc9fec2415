/- Write of an engine: what is ready of a block, together. -/
import Derived.Test.YtegacggkdjgdiaaEM
set_option linter.unusedVariables false
set_option linter.unusedSimpArgs false
namespace Go.Proofs.Ytegacggkdjgdiaa
open Go.RowKit

set_option maxRecDepth 100000 in
set_option maxHeartbeats 4000000 in
theorem ewrite {w : World} {ge n cc : Nat} {S : Nat → Bk} {k : Int} {l : List Wr} {F : Nat → Prop} (h : Eng w ge n S cc k l F) {i : Nat} (hi : i < n) (hu : ((readyL l i).any fun x => !x.wr) = true) (hb : (S i).b = false) (hc : cc < 99999) :
    Calls Try.prog 12 #[.pointer (some ⟨ge, 0, none⟩), .int .i64 (i : Int)] w fun e w' => e = .returned (.tuple #[.int .i64 (readyL l i).length, .int .i64 0]) ∧ Went w w' F (Eng w' ge n (upd S i ⟨(S i).s, (S i).v ++ [putL (S i).s (readyL l i)], (S i).b⟩) (cc + 1) k (markL l (readyL l i))) := by
  have HAsk := Lib.hid (ask_engine h (i : Int))
  rw [if_pos (by omega)] at HAsk
  obtain ⟨gd, A, c, Fd, h, rfl⟩ := h
  have hge := h.head.lt
  have hlen := readyL_len h (i : Int)
  have HRd := Lib.hid (fun W hW => ready_any 0 ge gd k A c l (i : Int) W (h.fresh hW).head (h.fresh hW).row h.asc (by have := h.few; omega))
  have HC := Lib.hid (fun W B A' c' (hr : RowW W B A' c' (readyL l (i : Int))) => contains_any B A' c' _ W hr hlen)
  have hrs : RightL (readyL l (i : Int)) := h.right.sub ((readyL_sub l i).trans (onL_sub l i))
  have HBh := Lib.hid (fun W (hW : Below w.heap.size w W) B A' c' (hr : RowW W B A' c' (readyL l (i : Int))) => behind_any B ge gd n cc i k _ S Fd A' c' _ W (h.fresh hW).head (h.fresh hW).disk hi hr hrs hlen)
  have hpo := putL_ok (h.disk.okS hi) hrs
  have HPo := Lib.hid hpo
  have HWr := Lib.hid (fun W (hW : Below w.heap.size w W) => cwrite (h.fresh hW).disk hi hb hpo (by omega))
  rw [hu] at HC
  unfold secV at HWr
  have HHd := Lib.hid (fun W (hW : Below w.heap.size w W) => (h.fresh hW).head.c0)
  have HE := Lib.hid h
  obtain ⟨set, hset⟩ : ∃ set, set = readyL l (i : Int) := ⟨_, rfl⟩
  have HSet := Lib.hid hset
  rw [← hset] at HRd HC HBh HPo HWr hlen ⊢
  obtain ⟨m, hm⟩ : ∃ m, m = putL (S i).s set := ⟨_, rfl⟩
  rw [← hm] at HBh HPo HWr ⊢
  have hm32 := HPo.out.1
  have hsz : Hid ((Try.prog.info? 65).map (·.size) = some (bytesV m).toArray.size) := by unfold Hid; rw [List.size_toArray, length_bytesV, hm32]; exact size36
  have Hsp : Hid (splice (bytesV noSec) 0 (bytesV m) = bytesV m) := splice_whole _ _ (by rw [length_bytesV, length_bytesV, hm32]; rfl)
  have Hml : Hid ((bytesV m).length = 32) := by unfold Hid; rw [length_bytesV, hm32]
  obtain ⟨R0, hR0⟩ : ∃ R0, R0 = (bytesV m).toArray := ⟨_, rfl⟩
  rw [← hR0] at HWr hsz
  have HR0 := Lib.hid hR0
  clear h hu hb hrs hpo hset hm hm32 hR0
  go_enter Try.func12, Try.ntmps12
  go_wp2_with (first
    | (go_at_call 37; refine HAsk.out.mono ?_; rintro e w1 ⟨rfl, hb1⟩; have HB1 := Lib.hid hb1; have hg1 : ge < w1.heap.size := (Nat.lt_of_lt_of_le hge hb1.size); clear hb1)
    | (go_at_call 38; refine (HRd.out _ HB1.out).mono ?_; rintro e w2 ⟨A2, c2, rfl, hr2, hb2⟩; have HR2 := Lib.hid hr2; have HB2 := Lib.hid (HB1.out.trans (hb2.mono HB1.out.size)); clear hr2 hb2)
    | (go_at_call 39; refine (HC.out _ _ _ _ HR2.out).mono ?_; rintro e w3 ⟨rfl, hb3⟩; have HR3 := Lib.hid (HR2.out.fresh hb3); have HB3 := Lib.hid (HB2.out.trans (hb3.mono HB2.out.size)); clear hb3))
  generalize hW : w3.alloc (Obj.cells _ 65) = w4
  have HS4 : Hid (w4.heap[w3.heap.size]? = some (.cells (bytesV noSec).toArray 65 (0, 0))) := by rw [← hW]; exact heap_alloc_new w3 _
  have Hb4 : Hid (Below w3.heap.size w3 w4) := by rw [← hW]; exact below_alloc1 w3 _
  have HB4 : Hid (Below w.heap.size w w4) := HB3.out.trans (Hb4.out.mono HB3.out.size)
  have HR4 := Lib.hid (HR3.out.fresh Hb4.out)
  have hg4 : ge < w4.heap.size := Nat.lt_of_lt_of_le hge HB4.out.size
  have hs4 : w3.heap.size < w4.heap.size := (Array.getElem?_eq_some_iff.1 HS4.out).1
  obtain ⟨sb, hsb⟩ : ∃ sb, sb = w3.heap.size := ⟨_, rfl⟩
  have Hsb := Lib.hid hsb
  rw [← hsb] at HS4 hs4 ⊢
  clear hW hsb
  refine wp_region_held_drew (S := (fun W => True)) (by kernel_rfl) (trivial) (fun hHeld => ?_)
  refine takeH (i := 0) (some 28) (v := ?_) rfl rfl (by kernel_rfl) (by kernel_rfl) (by kernel_rfl) (fun _ _ _ h => h) (by rfl) ?_ (by assumption) ?_
  rotate_left
  · (intro w hSw; (try dsimp only at hSw); go_simp; try with_reducible rfl)
  simp only [Act.put, List.setIfInBounds_toArray, List.set_cons_zero, List.set_cons_succ]
  refine takeH (i := 1) (some 29) (v := ?_) rfl rfl (by kernel_rfl) (by kernel_rfl) (by kernel_rfl) (fun _ _ _ h => h) (by rfl) ?_ (by assumption) ?_
  rotate_left
  · (intro w hSw; (try dsimp only at hSw); go_simp; try with_reducible rfl)
  simp only [Act.put, List.setIfInBounds_toArray, List.set_cons_zero, List.set_cons_succ]
  refine takeH (i := 2) (some 30) (v := ?_) rfl rfl (by kernel_rfl) (by kernel_rfl) (by kernel_rfl) (fun _ _ _ h => h) (by rfl) ?_ (by assumption) ?_
  rotate_left
  · (intro w hSw; (try dsimp only at hSw); go_simp; try with_reducible rfl)
  simp only [Act.put, List.setIfInBounds_toArray, List.set_cons_zero, List.set_cons_succ]
  refine takeH (i := 3) (some 31) (v := ?_) rfl rfl (by kernel_rfl) (by kernel_rfl) (by kernel_rfl) (fun _ _ _ h => h) (by rfl) ?_ (by assumption) ?_
  rotate_left
  · (intro w hSw; (try dsimp only at hSw); go_simp; try with_reducible rfl)
  simp only [Act.put, List.setIfInBounds_toArray, List.set_cons_zero, List.set_cons_succ]
  refine takeH (i := 4) (some 32) (v := ?_) rfl rfl (by kernel_rfl) (by kernel_rfl) (by kernel_rfl) (fun _ _ _ h => h) (by rfl) ?_ (by assumption) ?_
  rotate_left
  · (intro w hSw; (try dsimp only at hSw); go_simp; try with_reducible rfl)
  simp only [Act.put, List.setIfInBounds_toArray, List.set_cons_zero, List.set_cons_succ]
  refine takeH (i := 5) (some 33) (v := ?_) rfl rfl (by kernel_rfl) (by kernel_rfl) (by kernel_rfl) (fun _ _ _ h => h) (by rfl) ?_ (by assumption) ?_
  rotate_left
  · (intro w hSw; (try dsimp only at hSw); go_simp; try with_reducible rfl)
  simp only [Act.put, List.setIfInBounds_toArray, List.set_cons_zero, List.set_cons_succ]
  refine wpAnyH_ready (rs := [6]) (by kernel_rfl) (by simp) ?_
  refine AllReadyH.cons rfl (fun K hK => ?_) AllReadyH.nil
  go_simp
  refine (HBh.out _ HB4.out.drew _ _ _ HR4.out.drew).mono ?_
  rintro e w5 ⟨A5, c5, rfl, h1, h2, h3, h4, h5⟩
  obtain ⟨b5, o5, rfl, hlt5, _⟩ := h3.at_ (k := 0) (by omega)
  have hB5 : Below w4.heap.size w4 w5 := ((Below.refl _ _).drew).trans h5
  have HB5 := Lib.hid hB5
  have HSrc : Hid (∀ j v, (bytesV m)[j]? = some v → w5.cell? ((⟨b5, o5, none⟩ : Addr).add j) = some v) := fun j v hv => by rw [add_plain']; exact h3.src j v hv
  have HS5 : Hid (w5.heap[sb]? = some (.cells (bytesV noSec).toArray 65 (0, 0))) := by unfold Hid; rw [hB5.block _ hs4]; exact HS4.out
  clear h1 h2 h3 h4 h5 hB5 hlt5
  refine hK _ _ (trivial) (fun hHeld => ?_)
  clear hK K
  try simp only [Act.put, List.setIfInBounds_toArray, List.set_cons_zero, List.set_cons_succ]
  refine wpAnyH_ready (rs := [7]) (by kernel_rfl) (by simp) ?_
  refine AllReadyH.cons rfl (fun K hK => ?_) AllReadyH.nil
  refine step_copy_splice rfl (.tmp 28) (.tmp 34) 23 23 rfl 5 Try.underlying23 size5 (some ⟨sb, 0, none⟩) (some ⟨b5, o5, none⟩) 32 32 32 c5 rfl rfl sb 0 (bytesV noSec) 65 HS5.out (bytesV m) (by rw [Hml.out]; rfl) (fun _ => ⟨rfl, _, rfl, HSrc.out⟩) (by rw [Hml.out, length_bytesV, noSec_len]; omega) (bytesV_one m) w3.heap.size w3 (Hb4.out.trans (HB5.out.mono Hb4.out.size)) (by rw [Hsb.out]; exact Nat.le_refl _) ?_
  intro w6 hs6 hb6
  rw [Hsp.out, ← HR0.out] at hs6
  have HS6 := hs6
  have HB6 := Lib.hid hb6
  clear hs6 hb6
  refine hK _ _ (trivial) (fun hHeld => ?_)
  clear hK K
  try simp only [Act.put, List.setIfInBounds_toArray, List.set_cons_zero, List.set_cons_succ]
  try simp only [List.getElem_toArray, List.getElem_cons_zero, List.getElem_cons_succ, Act.put, List.setIfInBounds_toArray, List.set_cons_zero, List.set_cons_succ]
  refine wpAnyH_done (by kernel_rfl) ?_ _
  have HB6w : Hid (Below w.heap.size w w6) := HB3.out.trans (HB6.out.mono HB3.out.size)
  have X : Hid (w6.drew.cell? ⟨ge, 0, none⟩ = some (.pointer (some ⟨gd, 0, none⟩)) ∧ w6.drew.heap[sb]? = some (.cells R0 65 (0, 0))) := ⟨HHd.out _ HB6w.out.drew, HS6.out⟩
  have hg6 : ge < w6.heap.size := Nat.lt_of_lt_of_le hge HB6w.out.size
  go_wp2
  refine wp_region_held_drew (S := (fun W => W.cell? ⟨ge, 0, none⟩ = some (.pointer (some ⟨gd, 0, none⟩)))) (by kernel_rfl) (X.out.1) (fun hHeld => ?_)
  refine takeH (i := 0) (some 36) (v := ?_) rfl rfl (by kernel_rfl) (by kernel_rfl) (by kernel_rfl) (fun _ _ _ h => h) (by rfl) ?_ (by assumption) ?_
  rotate_left
  · (intro w hSw; (try dsimp only at hSw); go_simp; try with_reducible rfl)
  simp only [Act.put, List.setIfInBounds_toArray, List.set_cons_zero, List.set_cons_succ]
  refine takeH (i := 1) (some 37) (v := ?_) rfl rfl (by kernel_rfl) (by kernel_rfl) (by kernel_rfl) (fun _ _ _ h => h) (by rfl) ?_ (by assumption) ?_
  rotate_left
  · (intro w hSw; (try dsimp only at hSw); go_simp; try with_reducible rfl)
  simp only [Act.put, List.setIfInBounds_toArray, List.set_cons_zero, List.set_cons_succ]
  refine takeH (i := 2) (some 38) (v := ?_) rfl rfl (by kernel_rfl) (by kernel_rfl) (by kernel_rfl) (fun _ _ _ h => h) (by rfl) ?_ (by assumption) ?_
  rotate_left
  · (intro w hSw; (try dsimp only at hSw); go_simp; try with_reducible rfl)
  simp only [Act.put, List.setIfInBounds_toArray, List.set_cons_zero, List.set_cons_succ]
  refine takeH (i := 3) (some 39) (v := ?_) rfl rfl (by kernel_rfl) (by kernel_rfl) (by kernel_rfl) (fun _ _ _ h => h) (by rfl) ?_ (by assumption) ?_
  rotate_left
  · (intro w hSw; (try dsimp only at hSw); go_simp; try with_reducible rfl)
  simp only [Act.put, List.setIfInBounds_toArray, List.set_cons_zero, List.set_cons_succ]
  refine takeH (i := 4) (some 40) (v := ?_) rfl rfl (by kernel_rfl) (by kernel_rfl) (by kernel_rfl) (fun _ _ _ h => h) (by rfl) ?_ (by assumption) ?_
  rotate_left
  · (intro w hSw; (try dsimp only at hSw); go_simp; try with_reducible rfl)
  simp only [Act.put, List.setIfInBounds_toArray, List.set_cons_zero, List.set_cons_succ]
  refine takeH (i := 5) (some 41) (v := ?_) rfl rfl (by kernel_rfl) (by kernel_rfl) (by kernel_rfl) (fun _ _ _ h => h) (by rfl) ?_ (by assumption) ?_
  rotate_left
  · (intro w hSw; (try dsimp only at hSw); go_simp; try with_reducible rfl)
  simp only [Act.put, List.setIfInBounds_toArray, List.set_cons_zero, List.set_cons_succ]
  refine wpAnyH_ready (rs := [6]) (by kernel_rfl) (by simp) ?_
  refine AllReadyH.cons rfl (fun K hK => ?_) AllReadyH.nil
  refine step_of rfl (wp_load_row 65 (.tmp 8) rfl sb rfl 65 R0 (0, 0) _ X.out.2 Try.underlying65 rfl hsz.out ?_)
  refine hK _ _ (X.out.1) (fun hHeld => ?_)
  clear hK K
  try simp only [Act.put, List.setIfInBounds_toArray, List.set_cons_zero, List.set_cons_succ]
  try simp only [List.getElem_toArray, List.getElem_cons_zero, List.getElem_cons_succ, Act.put, List.setIfInBounds_toArray, List.set_cons_zero, List.set_cons_succ]
  refine wpAnyH_ready (rs := [7]) (by kernel_rfl) (by simp) ?_
  refine AllReadyH.cons rfl (fun K hK => ?_) AllReadyH.nil
  go_simp
  refine (HWr.out _ HB6w.out.drew).mono ?_
  rintro e w7 ⟨rfl, F7, hd7, hk7, hf7⟩
  have HD7 := Lib.hid hd7
  have HK7 := Lib.hid hk7
  have HF7 := Lib.hid hf7
  have HE7 : Hid (EngAt w7 ge gd n _ (cc + 1) k l A c F7) := (HE.out.fresh HB6w.out.drew).disked hk7 hd7
  clear hd7 hk7 hf7
  refine hK _ _ (HE7.out.head.c0) (fun hHeld => ?_)
  clear hK K
  try simp only [Act.put, List.setIfInBounds_toArray, List.set_cons_zero, List.set_cons_succ]
  refine takeH (i := 8) (some 9) (v := ?_) rfl rfl (by kernel_rfl) (by kernel_rfl) (by kernel_rfl) (fun _ _ _ h => h) (by rfl) ?_ (by assumption) ?_
  rotate_left
  · (intro w hSw; (try dsimp only at hSw); go_simp; try with_reducible rfl)
  simp only [Act.put, List.setIfInBounds_toArray, List.set_cons_zero, List.set_cons_succ]
  refine wpAnyH_done (by kernel_rfl) ?_ _
  have hsub : set.Sublist l := by rw [HSet.out]; exact (readyL_sub l i).trans (onL_sub l i)
  have Hsub := Lib.hid hsub
  have HA2 : Hid (∀ b, own A2 = some b → w.heap.size ≤ b) := fun b hb => Nat.le_trans HB1.out.size (HR3.out.lt b hb).1
  have HR7 : Hid (RowW w7 w1.heap.size A2 c2 set) := ((HR3.out.fresh HB6.out).drew).keep HK7.out (HE.out.fresh HB6w.out.drew).disk.ni (fun b q1 q2 => by
    have h1 := HA2.out b q1
    have h2 := HE.out.disk.lt b q2
    omega)
  have Hlt : Hid (∀ b, own A = some b → b < w.heap.size) := fun b hb => (HE.out.row.lt b hb).2
  have Hasc := Lib.hid HE.out.asc
  have hll : l.length ≤ 200 := HE.out.few
  clear hg1 hg4 hs4 hg6 hsub
  go_wp2
  go_loopw [49] (fun q wr => ∃ j : Nat, j ≤ set.length ∧ q = .int .i64 j ∧ Hid (EngAt wr ge gd n (upd S i ⟨(S i).s, (S i).v ++ [m], (S i).b⟩) (cc + 1) k (markL l (set.take j)) A c F7) ∧ Hid (Kept w7 wr (fun b => own A = some b))) (fun q _ => set.length - (intOf q).toNat)
  case atStart => exact ⟨0, Nat.zero_le _, rfl, by unfold Hid; rw [List.take_zero, markL_nil]; exact HE7.out, Kept.refl _ _⟩
  case round =>
    obtain ⟨j, hj, rfl, hE, hK⟩ := hrel
    rename World => wr
    by_cases hlt : j < set.length
    · have hlti : (j : Int) < (set.length : Int) := by omega
      have hj0 : (0 : Int) ≤ (j : Int) := by omega
      have hni : NI w7 (fun b => own A = some b) := HE7.out.row.ni
      have hRr : RowW wr w1.heap.size A2 c2 set := HR7.out.keep hK.out hni (fun b q1 q2 => by
        have h1 := HA2.out b q1
        have h2 := Hlt.out b q2
        omega)
      obtain ⟨sb2, hA2, h3, h4, hb2, hcs, _⟩ := hRr.at_ hlt
      subst hA2
      unfold maxLen at h4
      have c0 := hcs 0 (by omega)
      have c1 := hcs 1 (by omega)
      have c2' := hcs 2 (by omega)
      have c3 := hcs 3 (by omega)
      have c4 := hcs 4 (by omega)
      have c5 := hcs 5 (by omega)
      clear hcs hRr hni
      obtain ⟨hpl, hst⟩ := markL_step Hasc.out Hsub.out hlt
      obtain ⟨x, hx⟩ : ∃ x, x = wn set j := ⟨_, rfl⟩
      rw [← hx] at c0 c1 c2' c3 c4 c5 hpl hst
      clear hx
      obtain ⟨num, ⟨b, o, s⟩, ah, a4, cc4, fl⟩ := x
      simp [Wr.cs] at c0 c1 c2' c3 c4 c5
      generalize ah.length = an at *
      dsimp only at hpl hst
      obtain ⟨M, hM⟩ : ∃ M, M = markL l (set.take j) := ⟨_, rfl⟩
      rw [← hM] at hE hpl hst
      have hMl : M.length = l.length := by rw [hM, length_markL]
      obtain ⟨pp, hpp⟩ : ∃ pp, pp = posN M num := ⟨_, rfl⟩
      have HFd : Hid (∀ W, Below wr.heap.size wr W → Calls Try.prog 43 #[.slice A l.length c, .int .i64 num] W fun e w' => e = .returned (.tuple #[.int .i64 pp, .bool (hasN M num)]) ∧ Below W.heap.size W w') := fun W hW => by
        have hEW := hE.out.fresh hW
        have := find_any 0 A c M num W hEW.row hEW.asc (by omega)
        rw [hMl] at this
        rw [hpp]
        exact this
      rw [← hpp] at hpl hst
      have Hst := Lib.hid hst
      obtain ⟨ab, hA, _, hcm, hab, _, hfrz⟩ := hE.out.row.at_ (q := pp) (by omega)
      have hcl := hE.out.row.cap.1
      rw [hMl] at hcl
      have HMl := Lib.hid hMl
      have HA := Lib.hid hA
      generalize hasN M num = hb9 at HFd
      have HC : Hid (∀ W, Below wr.heap.size wr W → W.cell? ⟨ge, 2, none⟩ = some (.slice A l.length c)) := fun W hW => by
        have := (hE.out.fresh hW).head.c2
        rw [HMl.out] at this
        exact this
      have hgr : ge < wr.heap.size := hE.out.head.lt
      have HBa : Hid (Below wr.heap.size wr (wr.alloc (.cells #[.int .i64 num, .int .i64 b, .int .i64 o, .string s, .slice a4 an cc4, .bool fl] 90))) := (Below.refl _ _).alloc (Nat.le_refl _) _
      have HP : Hid (∀ W, Below wr.heap.size wr W → ∃ u, W.cell? ⟨ab, pp * 6 + 5, none⟩ = some u ∧ W.frozen? ⟨ab, pp * 6 + 5, none⟩ = false ∧ ab < W.heap.size) := fun W hW => by
        obtain ⟨ab', hA', _, _, hab', hcs', hfr'⟩ := (hE.out.fresh hW).row.at_ (q := pp) (by rw [HMl.out]; exact hpl)
        rw [HA.out] at hA'
        cases hA'
        exact ⟨_, hcs' 5 (by omega), hfr' _, hab'⟩
      have hp0 : (0 : Int) ≤ (pp : Int) := by omega
      have hp1 : (pp : Int) < (l.length : Int) := by omega
      clear hst hpp hMl hA hM hcm hfrz hab
      have hc0a := HC.out _ HBa.out
      go_wp2
      go_region_held3 (fun W => W.cell? ⟨ge, 2, none⟩ = some (.slice A l.length c) ∧ W.cell? ⟨wr.heap.size, 0, none⟩ = some (.int .i64 num)) (first | exact ⟨hc0a, by simp⟩ | exact ⟨HC.out _ HB9.out, D9.out⟩ | go_keep)
        (first | (go_at_call 43; (with_reducible refine (HFd.out _ HBa.out.drew).mono ?_); rintro e w9 ⟨rfl, hb9⟩; have HB9 := Lib.hid (HBa.out.drew.trans (hb9.mono HBa.out.size)); have D9 : Hid (w9.cell? ⟨wr.heap.size, 0, none⟩ = some (.int .i64 num)) := (by unfold Hid; rw [hb9.cell (p := ⟨wr.heap.size, 0, none⟩) (by simp)]; simp); clear hb9))
      all_goals
        have HE9 := Lib.hid (hE.out.fresh HB9.out)
        have hc9 := HC.out _ HB9.out
        obtain ⟨u9, hu1, hu2, hu3⟩ := HP.out _ HB9.out
        obtain rfl := HA.out
        have hg9 : ge < w9.heap.size := Nat.lt_of_lt_of_le hgr HB9.out.size
        clear hc0a HP HC HFd D9
        go_wp2
        go_roundw
        case rel =>
          obtain ⟨hm1, hm2⟩ := HE9.out.marked rfl (q := pp) (by rw [HMl.out]; exact hpl)
          rw [Hst.out] at hm1
          exact ⟨j + 1, by omega, by go_num, hm1, (hK.out.trans (Kept.fresh (S := fun b => own (some (⟨ab, 0, none⟩ : Addr)) = some b) HB9.out) (fun b q => .inl q)).trans hm2 (fun b q => .inl q)⟩
        case measure => simp [intOf]; omega
    · obtain rfl : j = set.length := by omega
      have hlti : ¬ (set.length : Int) < (set.length : Int) := by omega
      rw [List.take_length] at hE
      go_wp2
      go_ret2
      have K1 : Kept w wr (footE ge A Fd) := ((Kept.fresh (S := footE ge A Fd) HB6w.out.drew).trans HK7.out (fun b q => .inl (.inr (.inr q)))).trans hK.out (fun b q => .inl (.inr (.inl q)))
      refine ⟨rfl, footE ge A F7, ⟨gd, A, c, F7, hE.out, rfl⟩, K1, ?_⟩
      rintro b (q | q | q)
      · exact .inl (.inl q)
      · exact .inl (.inr (.inl q))
      · rcases HF7.out b q with q | q
        · exact .inl (.inr (.inr q))
        · exact .inr (by have := HB6w.out.size; simp at q; omega)
end Go.Proofs.Ytegacggkdjgdiaa
