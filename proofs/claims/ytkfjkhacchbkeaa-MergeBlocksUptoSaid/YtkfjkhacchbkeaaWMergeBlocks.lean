/- MergeBlocks holds whatever comes in, of a bulk that is bounded. Here: blocks that came in, and the walk of the law's text. -/
import Derived.Test.YtkfjkhacchbkeaaDA
import Derived.Test.YtkfjkhacchbkeaaX
import Derived.Test.YtkfjkhacchbkeaaRows
namespace Go.Proofs.Ytkfjkhacchbkeaa
set_option linter.unusedVariables false
set_option linter.unusedSimpArgs false
open Go.RowKit

section
open Go.ChangeShapes Go.WideShapes Go.Deep
theorem bulk_one {H : Type} (d : DataW H) : 1 ≤ Rows.uptoBulk d := by
  cases d with
  | lit l => cases l <;> simp [Rows.uptoBulk]
  | nil => simp [Rows.uptoBulk]
  | ptr d => simp [Rows.uptoBulk]
  | slice elems spare => simp [Rows.uptoBulk]
  | agg parts => simp [Rows.uptoBulk]
  | iface t d => simp [Rows.uptoBulk]
  | map entries => simp [Rows.uptoBulk]
  | held h => simp [Rows.uptoBulk]
theorem bulk_mem {H : Type} {d : DataW H} : ∀ {l : List (DataW H)}, d ∈ l → Rows.uptoBulk d ≤ Rows.uptoBulkAll l
  | x :: r, h => by
    simp only [Rows.uptoBulkAll]
    rcases List.mem_cons.1 h with e | e
    · subst e; omega
    · have := bulk_mem e; omega
theorem bulk_len {H : Type} : ∀ (l : List (DataW H)), l.length ≤ Rows.uptoBulkAll l
  | [] => by simp [Rows.uptoBulkAll]
  | x :: r => by have := bulk_one x; have := bulk_len r; simp only [Rows.uptoBulkAll, List.length_cons]; omega
theorem bulk_slice {H : Type} (elems spare : List (DataW H)) : elems.length ≤ Rows.uptoBulk (.slice elems spare) ∧ Rows.uptoBulkAll elems ≤ Rows.uptoBulk (.slice elems spare) := by
  have := bulk_len elems
  simp only [Rows.uptoBulk]
  omega
theorem u8_bounds {n : Int} (h : (Lit.int .u8 n).wf = true) : 0 ≤ n ∧ n ≤ 255 := by simpa [Lit.wf, IntKind.min, IntKind.max, IntKind.signed, IntKind.bits] using h
theorem blk_row {w : World} {a : Option Addr} {len cap : Nat} {zs : List Int} (h : IsRow .u8 w a len cap zs) : Pat.Bts w w.heap.size a (zs.take len) ∧ (zs.take len).length = len := by
  rcases h with ⟨rfl, rfl, rfl, rfl⟩ | ⟨x, rfl, hl, hm, hz, hc, hw⟩
  · exact ⟨Pat.Bts.nil, rfl⟩
  · have hn : (zs.take len).length = len := by rw [List.length_take]; omega
    refine ⟨⟨fun y hy => u8_bounds (hw y (List.mem_of_mem_take hy)), fun hp => ?_⟩, hn⟩
    obtain ⟨b, off, spot⟩ := x
    have hc0 := hc 0 (by omega)
    have hspot : spot = none := by simpa [Addr.add] using World.cell?_spot hc0
    subst hspot
    refine ⟨b, off, rfl, lt_cell (by simpa [Addr.add] using hc0), fun j hj => ?_⟩
    have hcj := hc j (by omega)
    rw [add_plain] at hcj
    rw [hcj]
    unfold Pat.nth
    rw [List.getD_eq_getElem?_getD, List.getD_eq_getElem?_getD, List.getElem?_take, if_pos (by omega)]
structure IsBlks (w : World) (a : Option Addr) (len cap : Nat) (L : List (List Int)) : Prop where
  hlen : len = L.length
  hcap : len ≤ cap
  hmax : cap ≤ maxLen
  rws : Rws w w.heap.size a L
  small : ∀ j, j < L.length → (rowI L j).length ≤ 2000000
theorem cells53 : Try.prog.cellsOf 53 = 1 := by kernel_rfl
section
variable {H : Type} {enc : TypeId × Value → H} {w : World} {base : Nat} {k : Bool}
theorem open_blocks {a : Option Addr} {len cap : Nat} {d : DataW H} {pl : List MemPlace} (h : DataW.Trod enc Try.prog w base (fun _ => true) k 38 (.slice a len cap) d pl) (hk : Rows.uptoBulk d ≤ 1048576) : ∃ L, IsBlks w a len cap L := by
  obtain ⟨fuel, hf⟩ := h
  rcases Deep.open_slice1 Try.underlying38 cells53 hf with ⟨e, _⟩ | ⟨x, l, c, m, n, V, D, Pl, e, _, hl, hm, hmm, hd, hx⟩
  · simp [Value.cells] at e
    obtain ⟨rfl, rfl, rfl⟩ := e
    exact ⟨[], rfl, Nat.le_refl _, Nat.zero_le _, fun h0 => by simp at h0, fun j hj => by simp at hj⟩
  · simp [Value.cells] at e
    obtain ⟨rfl, rfl, rfl⟩ := e
    injection hd with hd1 hd2
    subst hd1
    have hlm : len ≤ m := by rw [hmm]; split <;> omega
    have hg : ∀ i, ∃ (ai : Option Addr) (ci : Nat) (row : List Int), i < len → w.cell? (x.add i) = some (.slice ai row.length ci) ∧ Pat.Bts w w.heap.size ai row ∧ row.length ≤ 2000000 := fun i => by
      by_cases hi : i < len
      · obtain ⟨h1, h2⟩ := hx i (by omega)
        rcases open_ints Try.underlying53 Try.underlying5 (by kernel_rfl) h2 with ⟨hcs, _⟩ | ⟨y, li, ci, zs, hcs, _, hl2, hm2, hz, hd3, hcell, hwz⟩
        · simp at hcs
          exact ⟨none, 0, [], fun _ => ⟨by rw [h1, hcs]; rfl, Pat.Bts.nil, Nat.zero_le _⟩⟩
        · simp at hcs
          injection hd3 with hd4 hd5
          have hzl : li ≤ zs.length := by rw [hz]; simp; omega
          have hb1 := (bulk_slice (H := H) ((List.range len).map D) ((List.range (m - len)).map fun j => D (len + j))).2
          have hb2 := bulk_mem (List.mem_map_of_mem (f := D) (List.mem_range.2 hi))
          rw [hd4] at hb2
          have hb3 := (bulk_slice (H := H) (lits .u8 (zs.take li)) (lits .u8 (zs.drop li))).1
          have hb4 : (lits (H := H) .u8 (zs.take li)).length = li := by simp [lits]; omega
          have hrow : IsRow .u8 w (some y) li ci zs := .inr ⟨_, rfl, hl2, hm2, by simpa using hz, hcell, hwz⟩
          obtain ⟨r1, r2⟩ := blk_row hrow
          have hlt : (zs.take li).length = li := by rw [List.length_take]; omega
          exact ⟨some y, ci, zs.take li, fun _ => ⟨by rw [h1, hcs, hlt], r1, by omega⟩⟩
      · exact ⟨none, 0, [], fun h => absurd h hi⟩
    obtain ⟨Af, Cf, Rf, hA⟩ : ∃ (Af : Nat → Option Addr) (Cf : Nat → Nat) (Rf : Nat → List Int), ∀ i, i < len → w.cell? (x.add i) = some (.slice (Af i) (Rf i).length (Cf i)) ∧ Pat.Bts w w.heap.size (Af i) (Rf i) ∧ (Rf i).length ≤ 2000000 :=
      ⟨fun i => (hg i).choose, fun i => (hg i).choose_spec.choose, fun i => (hg i).choose_spec.choose_spec.choose, fun i => (hg i).choose_spec.choose_spec.choose_spec⟩
    have hrI : ∀ i, i < len → rowI ((List.range len).map Rf) i = Rf i := fun i hi => by
      unfold rowI
      rw [List.getD_eq_getElem?_getD, List.getElem?_map, List.getElem?_range hi]; rfl
    refine ⟨(List.range len).map Rf, by simp, hl, hm, fun h0 => ?_, fun j hj => ?_⟩
    · have hn : 0 < len := by simpa using h0
      obtain ⟨b, off, spot⟩ := x
      have h1 := (hA 0 hn).1
      have hspot : spot = none := by
        have : w.cell? ⟨b, off, spot⟩ = some (.slice (Af 0) (Rf 0).length (Cf 0)) := by simpa [Addr.add] using h1
        exact World.cell?_spot this
      subst hspot
      refine ⟨b, off, rfl, lt_cell (v := .slice (Af 0) (Rf 0).length (Cf 0)) (by simpa [Addr.add] using h1), fun j hj => ?_⟩
      have hj' : j < len := by simpa using hj
      obtain ⟨h2, h3, _⟩ := hA j hj'
      rw [add_plain] at h2
      rw [hrI j hj']
      exact ⟨Af j, Cf j, h2, h3⟩
    · have hj' : j < len := by simpa using hj
      rw [hrI j hj']
      exact (hA j hj').2.2
end
end
theorem length_blocksL (l : List It) (s : List Int) (L : List (List Int)) : (blocksL l s L).length = L.length := by
  unfold blocksL
  split
  · exact length_foldB _ _ _
  · rfl
theorem rowI_take {L : List (List Int)} {k j : Nat} (h : j < (L.take k).length) : rowI (L.take k) j = rowI L j := by
  rw [List.length_take] at h
  unfold rowI
  rw [List.getD_eq_getElem?_getD, List.getD_eq_getElem?_getD, List.getElem?_take, if_pos (by omega)]

set_option maxRecDepth 100000 in
set_option maxHeartbeats 4000000 in
theorem MergeBlocks.walk (a0 : Option Addr) (len0 cap0 : Nat) (l0 : List It) (a1 : Option Addr) (len1 cap1 : Nat) (zs : List Int) (a2 : Option Addr) (len2 cap2 : Nat) (L0 : List (List Int)) (W : World) (h0 : IsItems W a0 len0 cap0 l0) (h1 : IsRow .i64 W a1 len1 cap1 zs) (h2 : IsBlks W a2 len2 cap2 L0) :
    Calls Try.prog 6 #[.slice a0 len0 cap0, .slice a1 len1 cap1, .slice a2 len2 cap2] W fun e W' => e = .returned (.bool true) ∧ Below W.heap.size W W' := by
  have HF := Lib.hid (few_any a0 len0 cap0 l0 W h0)
  have HSm := Lib.hid (small_fewL h0)
  obtain ⟨s, hs, hI, hsome⟩ := some_row h1
  have HS := Lib.hid hsome
  have HI := Lib.hid hI
  have hs40 : s.length ≤ 40 := by omega
  have hl24 := length_fewL l0
  unfold FewSays at HF
  obtain ⟨l, hl⟩ : ∃ l, l = fewL l0 := ⟨_, rfl⟩
  rw [← hl] at HF HSm hl24
  have hln : l.length ≤ 24 := by omega
  obtain ⟨n, hn⟩ : ∃ n, n = l.length := ⟨_, rfl⟩
  rw [← hn] at hln HF
  have Hn := Lib.hid hn
  have hc2 := h2.hcap
  have hm2 := h2.hmax
  unfold maxLen at hm2
  have T1 : Hid True := trivial
  obtain ⟨L, hL⟩ : ∃ L, L = L0.take 8 := ⟨_, rfl⟩
  have HR0 : Hid (Rws W W.heap.size a2 L) := by rw [hL]; exact h2.rws.take 8
  have Hr : Hid (∀ j, j < L.length → (rowI L j).length ≤ 2000000) := fun j hj => by
    subst hL
    rw [rowI_take hj]
    rw [List.length_take] at hj
    exact h2.small j (by omega)
  have hLl : L.length = min 8 len2 := by rw [hL, List.length_take, h2.hlen]
  obtain ⟨M, hM⟩ : ∃ M, M = blocksL l s L := ⟨_, rfl⟩
  have HM := Lib.hid hM
  have hMl : L.length = M.length := by rw [hM, length_blocksL]
  have hL8 : L.length ≤ 8 := by omega
  by_cases h8 : 8 < len2
  · have h8i : (8 : Int) < (len2 : Int) := by omega
    have h8c : (8 : Int) ≤ (cap2 : Int) := by omega
    have h8n : 8 ≤ cap2 := by omega
    have hL8' : 8 = L.length := by omega
    have Hn3 := Lib.hid hL8'
    have HMl : Hid (8 = M.length) := by unfold Hid; omega
    clear hsome hI hs hl hl24 hn h0 h1 h2 hM hL hLl hMl hL8'
    go_enter Try.func6, Try.ntmps6
    go_wp2_with fail
    refine HF.out.mono ?_
    rintro e w1 ⟨A, c, rfl, hI1, hB1⟩
    have HI1 := Lib.hid hI1
    have HA1 := Lib.hid (HI.out.next hB1)
    have HR1 := Lib.hid (HR0.out.next hB1)
    have HB1 := Lib.hid hB1
    clear hI1 hB1 HF HI HR0
    go_wp2_with (first
      | (go_at_call 29; refine (copy_any a2 cap2 8 L Hn3.out w1 (by omega) Hr.out HR1.out).mono ?_; rintro e w2 ⟨Ao, co, rfl, hO2, _, hB2⟩; rw [← Hn3.out]; have HO2 := Lib.hid hO2; have HI2 := Lib.hid (HI1.out.next hB2); have HA2 := Lib.hid (HA1.out.next hB2); have HR2 := Lib.hid (HR1.out.next hB2); have HB2 := Lib.hid (HB1.out.trans (hB2.mono HB1.out.size)); clear hB2 hO2)
      | (go_at_call 24; refine (HS.out _).mono ?_; rintro e w' ⟨rfl, rfl⟩)
      | (go_at_call 30; refine (blocks_any A c n l a1 cap1 _ s Ao co 8 L Hn.out rfl Hn3.out w2 (by rw [← Hn.out]; omega) (by omega) (by omega) Hr.out HSm.out HI2.out HA2.out HO2.out.rws).mono ?_; rintro e w3 ⟨A3, c3, rfl, hX3, hB3⟩; rw [← HM.out] at hX3 ⊢; rw [← HMl.out]; have HX3 := Lib.hid hX3; have HO3 := Lib.hid (HO2.out.next hB3); have HI3 := Lib.hid (HI2.out.next hB3); have HA3 := Lib.hid (HA2.out.next hB3); have HR3 := Lib.hid (HR2.out.next hB3); have HB3 := Lib.hid (HB2.out.trans (hB3.mono HB2.out.size)); clear hB3 hX3)
      | (go_at_call 14; refine (live_any _).mono ?_; rintro e w4 ⟨rfl, hB4⟩; have HX4 := Lib.hid (HX3.out.next hB4); have HO4 := Lib.hid (HO3.out.next hB4); have HI4 := Lib.hid (HI3.out.next hB4); have HA4 := Lib.hid (HA3.out.next hB4); have HR4 := Lib.hid (HR3.out.next hB4); have HB4 := Lib.hid (HB3.out.trans (hB4.mono HB3.out.size)); clear hB4)
      | (go_at_call 32; refine (refblocks_any A c n l a1 cap1 _ s a2 cap2 8 L Hn.out rfl Hn3.out w4 (by rw [← Hn.out]; omega) (by omega) (by omega) Hr.out HSm.out HI4.out HA4.out HR4.out).mono ?_; rintro e w5 ⟨A5, c5, rfl, hY5, hB5⟩; rw [← HM.out] at hY5 ⊢; rw [← HMl.out]; have HY5 := Lib.hid hY5; have HX5 := Lib.hid (HX4.out.next hB5); have HO5 := Lib.hid (HO4.out.next hB5); have HR5 := Lib.hid (HR4.out.next hB5); have HB5 := Lib.hid (HB4.out.trans (hB5.mono HB4.out.size)); clear hB5 hY5)
      | (go_at_call 31; have _t := T1; clear _t T1; refine (sameblocks_any A3 A5 c3 c5 8 8 M HMl.out HMl.out w5 (by rw [← HMl.out]; omega) HX5.out HY5.out).mono ?_; rintro e w6 ⟨rfl, hq6⟩; have HO6 := Lib.hid (HO5.out.next hq6.belowR); have HR6 := Lib.hid (HR5.out.next hq6.belowR); have HB6 := Lib.hid (hq6.below HB5.out); clear hq6)
      | (go_at_call 31; refine (sameblocks_any Ao a2 co cap2 8 8 L Hn3.out Hn3.out w6 (by rw [← Hn3.out]; omega) HO6.out.rws HR6.out).mono ?_; rintro e w7 ⟨rfl, hq7⟩; have HB7 := Lib.hid (hq7.below HB6.out); clear hq7))
    go_ret
    exact ⟨rfl, HB7.out⟩
  · have h8i : ¬ (8 : Int) < (len2 : Int) := by omega
    have hL8' : len2 = L.length := by omega
    have Hn3 := Lib.hid hL8'
    have HMl : Hid (len2 = M.length) := by unfold Hid; omega
    have hn38 : len2 ≤ 8 := by omega
    clear hsome hI hs hl hl24 hn h0 h1 h2 hM hL hLl hMl hL8'
    go_enter Try.func6, Try.ntmps6
    go_wp2_with fail
    refine HF.out.mono ?_
    rintro e w1 ⟨A, c, rfl, hI1, hB1⟩
    have HI1 := Lib.hid hI1
    have HA1 := Lib.hid (HI.out.next hB1)
    have HR1 := Lib.hid (HR0.out.next hB1)
    have HB1 := Lib.hid hB1
    clear hI1 hB1 HF HI HR0
    go_wp2_with (first
      | (go_at_call 29; refine (copy_any a2 cap2 len2 L Hn3.out w1 (by omega) Hr.out HR1.out).mono ?_; rintro e w2 ⟨Ao, co, rfl, hO2, _, hB2⟩; rw [← Hn3.out]; have HO2 := Lib.hid hO2; have HI2 := Lib.hid (HI1.out.next hB2); have HA2 := Lib.hid (HA1.out.next hB2); have HR2 := Lib.hid (HR1.out.next hB2); have HB2 := Lib.hid (HB1.out.trans (hB2.mono HB1.out.size)); clear hB2 hO2)
      | (go_at_call 24; refine (HS.out _).mono ?_; rintro e w' ⟨rfl, rfl⟩)
      | (go_at_call 30; refine (blocks_any A c n l a1 cap1 _ s Ao co len2 L Hn.out rfl Hn3.out w2 (by rw [← Hn.out]; omega) (by omega) (by omega) Hr.out HSm.out HI2.out HA2.out HO2.out.rws).mono ?_; rintro e w3 ⟨A3, c3, rfl, hX3, hB3⟩; rw [← HM.out] at hX3 ⊢; rw [← HMl.out]; have HX3 := Lib.hid hX3; have HO3 := Lib.hid (HO2.out.next hB3); have HI3 := Lib.hid (HI2.out.next hB3); have HA3 := Lib.hid (HA2.out.next hB3); have HR3 := Lib.hid (HR2.out.next hB3); have HB3 := Lib.hid (HB2.out.trans (hB3.mono HB2.out.size)); clear hB3 hX3)
      | (go_at_call 14; refine (live_any _).mono ?_; rintro e w4 ⟨rfl, hB4⟩; have HX4 := Lib.hid (HX3.out.next hB4); have HO4 := Lib.hid (HO3.out.next hB4); have HI4 := Lib.hid (HI3.out.next hB4); have HA4 := Lib.hid (HA3.out.next hB4); have HR4 := Lib.hid (HR3.out.next hB4); have HB4 := Lib.hid (HB3.out.trans (hB4.mono HB3.out.size)); clear hB4)
      | (go_at_call 32; refine (refblocks_any A c n l a1 cap1 _ s a2 cap2 len2 L Hn.out rfl Hn3.out w4 (by rw [← Hn.out]; omega) (by omega) (by omega) Hr.out HSm.out HI4.out HA4.out HR4.out).mono ?_; rintro e w5 ⟨A5, c5, rfl, hY5, hB5⟩; rw [← HM.out] at hY5 ⊢; rw [← HMl.out]; have HY5 := Lib.hid hY5; have HX5 := Lib.hid (HX4.out.next hB5); have HO5 := Lib.hid (HO4.out.next hB5); have HR5 := Lib.hid (HR4.out.next hB5); have HB5 := Lib.hid (HB4.out.trans (hB5.mono HB4.out.size)); clear hB5 hY5)
      | (go_at_call 31; have _t := T1; clear _t T1; refine (sameblocks_any A3 A5 c3 c5 len2 len2 M HMl.out HMl.out w5 (by rw [← HMl.out]; omega) HX5.out HY5.out).mono ?_; rintro e w6 ⟨rfl, hq6⟩; have HO6 := Lib.hid (HO5.out.next hq6.belowR); have HR6 := Lib.hid (HR5.out.next hq6.belowR); have HB6 := Lib.hid (hq6.below HB5.out); clear hq6)
      | (go_at_call 31; refine (sameblocks_any Ao a2 co cap2 len2 len2 L Hn3.out Hn3.out w6 (by rw [← Hn3.out]; omega) HO6.out.rws HR6.out).mono ?_; rintro e w7 ⟨rfl, hq7⟩; have HB7 := Lib.hid (hq7.below HB6.out); clear hq7))
    go_ret
    exact ⟨rfl, HB7.out⟩
end Go.Proofs.Ytkfjkhacchbkeaa
