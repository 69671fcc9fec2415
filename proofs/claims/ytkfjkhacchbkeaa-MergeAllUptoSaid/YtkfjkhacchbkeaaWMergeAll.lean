/- MergeAll holds whatever comes in, of a bulk that is bounded. Here: blocks that came in, and the walk of the law's text. -/
import Derived.Test.YtkfjkhacchbkeaaDA
import Derived.Test.YtkfjkhacchbkeaaX
import Derived.Test.YtkfjkhacchbkeaaRows
namespace Go.Proofs.Ytkfjkhacchbkeaa
set_option linter.unusedVariables false
set_option linter.unusedSimpArgs false
open Go.RowKit

section
open Go.ChangeShapes Go.WideShapes Go.Deep
theorem bulk_one {H : Type} (d : DataW H) : 1 ≤ Rows.uptoBulk d := by
  cases d with
  | lit l => cases l <;> simp [Rows.uptoBulk]
  | nil => simp [Rows.uptoBulk]
  | ptr d => simp [Rows.uptoBulk]
  | slice elems spare => simp [Rows.uptoBulk]
  | agg parts => simp [Rows.uptoBulk]
  | iface t d => simp [Rows.uptoBulk]
  | map entries => simp [Rows.uptoBulk]
  | held h => simp [Rows.uptoBulk]
theorem bulk_mem {H : Type} {d : DataW H} : ∀ {l : List (DataW H)}, d ∈ l → Rows.uptoBulk d ≤ Rows.uptoBulkAll l
  | x :: r, h => by
    simp only [Rows.uptoBulkAll]
    rcases List.mem_cons.1 h with e | e
    · subst e; omega
    · have := bulk_mem e; omega
theorem bulk_len {H : Type} : ∀ (l : List (DataW H)), l.length ≤ Rows.uptoBulkAll l
  | [] => by simp [Rows.uptoBulkAll]
  | x :: r => by have := bulk_one x; have := bulk_len r; simp only [Rows.uptoBulkAll, List.length_cons]; omega
theorem bulk_slice {H : Type} (elems spare : List (DataW H)) : elems.length ≤ Rows.uptoBulk (.slice elems spare) ∧ Rows.uptoBulkAll elems ≤ Rows.uptoBulk (.slice elems spare) := by
  have := bulk_len elems
  simp only [Rows.uptoBulk]
  omega
theorem u8_bounds {n : Int} (h : (Lit.int .u8 n).wf = true) : 0 ≤ n ∧ n ≤ 255 := by simpa [Lit.wf, IntKind.min, IntKind.max, IntKind.signed, IntKind.bits] using h
theorem blk_row {w : World} {a : Option Addr} {len cap : Nat} {zs : List Int} (h : IsRow .u8 w a len cap zs) : Pat.Bts w w.heap.size a (zs.take len) ∧ (zs.take len).length = len := by
  rcases h with ⟨rfl, rfl, rfl, rfl⟩ | ⟨x, rfl, hl, hm, hz, hc, hw⟩
  · exact ⟨Pat.Bts.nil, rfl⟩
  · have hn : (zs.take len).length = len := by rw [List.length_take]; omega
    refine ⟨⟨fun y hy => u8_bounds (hw y (List.mem_of_mem_take hy)), fun hp => ?_⟩, hn⟩
    obtain ⟨b, off, spot⟩ := x
    have hc0 := hc 0 (by omega)
    have hspot : spot = none := by simpa [Addr.add] using World.cell?_spot hc0
    subst hspot
    refine ⟨b, off, rfl, lt_cell (by simpa [Addr.add] using hc0), fun j hj => ?_⟩
    have hcj := hc j (by omega)
    rw [add_plain] at hcj
    rw [hcj]
    unfold Pat.nth
    rw [List.getD_eq_getElem?_getD, List.getD_eq_getElem?_getD, List.getElem?_take, if_pos (by omega)]
structure IsBlks (w : World) (a : Option Addr) (len cap : Nat) (L : List (List Int)) : Prop where
  hlen : len = L.length
  hcap : len ≤ cap
  hmax : cap ≤ maxLen
  rws : Rws w w.heap.size a L
  small : ∀ j, j < L.length → (rowI L j).length ≤ 2000000
theorem cells53 : Try.prog.cellsOf 53 = 1 := by kernel_rfl
section
variable {H : Type} {enc : TypeId × Value → H} {w : World} {base : Nat} {k : Bool}
theorem open_blocks {a : Option Addr} {len cap : Nat} {d : DataW H} {pl : List MemPlace} (h : DataW.Trod enc Try.prog w base (fun _ => true) k 38 (.slice a len cap) d pl) (hk : Rows.uptoBulk d ≤ 1048576) : ∃ L, IsBlks w a len cap L := by
  obtain ⟨fuel, hf⟩ := h
  rcases Deep.open_slice1 Try.underlying38 cells53 hf with ⟨e, _⟩ | ⟨x, l, c, m, n, V, D, Pl, e, _, hl, hm, hmm, hd, hx⟩
  · simp [Value.cells] at e
    obtain ⟨rfl, rfl, rfl⟩ := e
    exact ⟨[], rfl, Nat.le_refl _, Nat.zero_le _, fun h0 => by simp at h0, fun j hj => by simp at hj⟩
  · simp [Value.cells] at e
    obtain ⟨rfl, rfl, rfl⟩ := e
    injection hd with hd1 hd2
    subst hd1
    have hlm : len ≤ m := by rw [hmm]; split <;> omega
    have hg : ∀ i, ∃ (ai : Option Addr) (ci : Nat) (row : List Int), i < len → w.cell? (x.add i) = some (.slice ai row.length ci) ∧ Pat.Bts w w.heap.size ai row ∧ row.length ≤ 2000000 := fun i => by
      by_cases hi : i < len
      · obtain ⟨h1, h2⟩ := hx i (by omega)
        rcases open_ints Try.underlying53 Try.underlying5 (by kernel_rfl) h2 with ⟨hcs, _⟩ | ⟨y, li, ci, zs, hcs, _, hl2, hm2, hz, hd3, hcell, hwz⟩
        · simp at hcs
          exact ⟨none, 0, [], fun _ => ⟨by rw [h1, hcs]; rfl, Pat.Bts.nil, Nat.zero_le _⟩⟩
        · simp at hcs
          injection hd3 with hd4 hd5
          have hzl : li ≤ zs.length := by rw [hz]; simp; omega
          have hb1 := (bulk_slice (H := H) ((List.range len).map D) ((List.range (m - len)).map fun j => D (len + j))).2
          have hb2 := bulk_mem (List.mem_map_of_mem (f := D) (List.mem_range.2 hi))
          rw [hd4] at hb2
          have hb3 := (bulk_slice (H := H) (lits .u8 (zs.take li)) (lits .u8 (zs.drop li))).1
          have hb4 : (lits (H := H) .u8 (zs.take li)).length = li := by simp [lits]; omega
          have hrow : IsRow .u8 w (some y) li ci zs := .inr ⟨_, rfl, hl2, hm2, by simpa using hz, hcell, hwz⟩
          obtain ⟨r1, r2⟩ := blk_row hrow
          have hlt : (zs.take li).length = li := by rw [List.length_take]; omega
          exact ⟨some y, ci, zs.take li, fun _ => ⟨by rw [h1, hcs, hlt], r1, by omega⟩⟩
      · exact ⟨none, 0, [], fun h => absurd h hi⟩
    obtain ⟨Af, Cf, Rf, hA⟩ : ∃ (Af : Nat → Option Addr) (Cf : Nat → Nat) (Rf : Nat → List Int), ∀ i, i < len → w.cell? (x.add i) = some (.slice (Af i) (Rf i).length (Cf i)) ∧ Pat.Bts w w.heap.size (Af i) (Rf i) ∧ (Rf i).length ≤ 2000000 :=
      ⟨fun i => (hg i).choose, fun i => (hg i).choose_spec.choose, fun i => (hg i).choose_spec.choose_spec.choose, fun i => (hg i).choose_spec.choose_spec.choose_spec⟩
    have hrI : ∀ i, i < len → rowI ((List.range len).map Rf) i = Rf i := fun i hi => by
      unfold rowI
      rw [List.getD_eq_getElem?_getD, List.getElem?_map, List.getElem?_range hi]; rfl
    refine ⟨(List.range len).map Rf, by simp, hl, hm, fun h0 => ?_, fun j hj => ?_⟩
    · have hn : 0 < len := by simpa using h0
      obtain ⟨b, off, spot⟩ := x
      have h1 := (hA 0 hn).1
      have hspot : spot = none := by
        have : w.cell? ⟨b, off, spot⟩ = some (.slice (Af 0) (Rf 0).length (Cf 0)) := by simpa [Addr.add] using h1
        exact World.cell?_spot this
      subst hspot
      refine ⟨b, off, rfl, lt_cell (v := .slice (Af 0) (Rf 0).length (Cf 0)) (by simpa [Addr.add] using h1), fun j hj => ?_⟩
      have hj' : j < len := by simpa using hj
      obtain ⟨h2, h3, _⟩ := hA j hj'
      rw [add_plain] at h2
      rw [hrI j hj']
      exact ⟨Af j, Cf j, h2, h3⟩
    · have hj' : j < len := by simpa using hj
      rw [hrI j hj']
      exact (hA j hj').2.2
end
end
theorem length_blocksL (l : List It) (s : List Int) (L : List (List Int)) : (blocksL l s L).length = L.length := by
  unfold blocksL
  split
  · exact length_foldB _ _ _
  · rfl
theorem rowI_take {L : List (List Int)} {k j : Nat} (h : j < (L.take k).length) : rowI (L.take k) j = rowI L j := by
  rw [List.length_take] at h
  unfold rowI
  rw [List.getD_eq_getElem?_getD, List.getD_eq_getElem?_getD, List.getElem?_take, if_pos (by omega)]

theorem natsV_snoc (k : Nat) : natsV (List.range (k + 1)) = natsV (List.range k) ++ [.int .i64 ((k : Nat) : Int)] := by simp [natsV, List.range_succ]
theorem blocks_not {l : List It} (h : rightL l = false) (s : List Int) (L : List (List Int)) : blocksL l s L = L := by unfold blocksL; rw [h]; rfl

set_option maxRecDepth 100000 in
set_option maxHeartbeats 8000000 in
theorem MergeAll.walk (a0 : Option Addr) (len0 cap0 : Nat) (l0 : List It) (a2 : Option Addr) (len2 cap2 : Nat) (L0 : List (List Int)) (W : World) (h0 : IsItems W a0 len0 cap0 l0) (h2 : IsBlks W a2 len2 cap2 L0) :
    Calls Try.prog 10 #[.slice a0 len0 cap0, .slice a2 len2 cap2] W fun e W' => e = .returned (.bool true) ∧ Below W.heap.size W W' := by
  have HF := Lib.hid (few_any a0 len0 cap0 l0 W h0)
  have HSm := Lib.hid (small_fewL h0)
  obtain ⟨i0, hi, hz0, hz1, hz2⟩ := info_parts info3
  have hl24 := length_fewL l0
  unfold FewSays at HF
  obtain ⟨l, hl⟩ : ∃ l, l = fewL l0 := ⟨_, rfl⟩
  rw [← hl] at HF HSm hl24
  have hln : l.length ≤ 24 := by omega
  obtain ⟨n, hn⟩ : ∃ n, n = l.length := ⟨_, rfl⟩
  have HGr := Lib.hid (fun A c W (h : Items W W.heap.size A l) => groups_any A c n l hn W (by omega) HSm.out h)
  rw [← hn] at hln HF
  have Hn := Lib.hid hn
  have hc2 := h2.hcap
  have hm2 := h2.hmax
  unfold maxLen at hm2
  have T1 : Hid True := trivial
  have T2 : Hid True := trivial
  obtain ⟨L, hL⟩ : ∃ L, L = L0.take 8 := ⟨_, rfl⟩
  have HR0 : Hid (Rws W W.heap.size a2 L) := by rw [hL]; exact h2.rws.take 8
  have Hr : Hid (∀ j, j < L.length → (rowI L j).length ≤ 2000000) := fun j hj => by
    subst hL
    rw [rowI_take hj]
    rw [List.length_take] at hj
    exact h2.small j (by omega)
  have hLl : L.length = min 8 len2 := by rw [hL, List.length_take, h2.hlen]
  obtain ⟨ng, hng⟩ : ∃ ng, ng = (groupsL l).length := ⟨_, rfl⟩
  have Hng := Lib.hid hng
  have hg64 : ng ≤ 64 := by have := (groupsL_len l).1; omega
  obtain ⟨ex, hex⟩ : ∃ ex, ex = expandL l (natsI (List.range ng)) := ⟨_, rfl⟩
  have Hex := Lib.hid hex
  have hexl : ex.length ≤ 64 := by rw [hex]; exact expand_len _ _
  obtain ⟨M, hM⟩ : ∃ M, M = blocksL l (natsI (List.range n)) L := ⟨_, rfl⟩
  have HM1 : Hid (blocksL l (natsI (List.range n)) L = M) := hM.symm
  have HM2 : Hid (blocksL l (natsI ex) L = M) := by
    unfold Hid
    cases hr : rightL l with
    | false => rw [hM, blocks_not hr, blocks_not hr]
    | true => rw [hM, hex, hng, expand_all hr, hn]
  have hMl : L.length = M.length := by rw [hM, length_blocksL]
  have hM3 : (blocksL l [] L).length = L.length := length_blocksL _ _ _
  have hL8 : L.length ≤ 8 := by omega
  by_cases h8 : 8 < len2
  · have h8i : (8 : Int) < (len2 : Int) := by omega
    have h8c : (8 : Int) ≤ (cap2 : Int) := by omega
    have h8n : 8 ≤ cap2 := by omega
    have hL8' : 8 = L.length := by omega
    have Hn3 := Lib.hid hL8'
    have HMl : Hid (8 = M.length) := by unfold Hid; omega
    have HM3 : Hid ((blocksL l [] L).length = 8) := by unfold Hid; omega
    clear hl hl24 hn h0 h2 hM hL hLl hMl hL8' hM3 hng hex
    go_enter Try.func10, Try.ntmps10
    go_wp2_with fail
    refine HF.out.mono ?_
    rintro e w1 ⟨A, c, rfl, hI1, hB1⟩
    have HI1 := Lib.hid hI1
    have HR1 := Lib.hid (HR0.out.next hB1)
    have HB1 := Lib.hid hB1
    clear hI1 hB1 HF HR0
    go_wp2_with fail
    go_loopw [5, 7] (fun v i wr => ∃ k : Nat, k ≤ n ∧ i = .int .i64 k ∧ wr.ownsRow w1.heap.size 3 1 v k (natsV (List.range k)) ∧ Below w1.heap.size w1 wr) (fun _ i _ => n - (intOf i).toNat)
    case atStart => exact ⟨0, Nat.zero_le _, rfl, World.ownsRow_nil _ _ _ _, Below.refl _ _⟩
    case round =>
      obtain ⟨k, hk, rfl, hown, hB⟩ := hrel
      rename World => wr
      have HB := Lib.hid hB
      have Hown := Lib.hid hown
      have hsz := hB.size
      have hk0 : (0 : Int) ≤ (k : Int) := by omega
      clear hB hown
      by_cases hlt : k < n
      · have hlti : (k : Int) < (n : Int) := by omega
        go_wp2_with (at_builtin; refine wpList_append_own _ rfl _ _ 29 rfl w1.heap.size 3 i0 (.int .i64 0) 1 8 Try.underlying29 hi hz0 hz1 hz2 rfl (by decide) _ _ _ rfl (Hown.out.alloc _) ⟨wr.heap.size, 0, none⟩ 1 1 [.int .i64 ((k : Nat) : Int)] rfl rfl (cell_one_new _ _ _) (by simp [Value.oneCell']) (by unfold maxLen; omega) (by omega) (by simp; omega) ?_; intro v' w6 hown' hgrow _; have hB6 : Below w1.heap.size w1 w6 := HB.out.trans ((((Below.refl _ wr).alloc hsz _)).grown hgrow (by simp; omega) (fun j e => (Hown.out.lt j e).1)); have Hown6 := Lib.hid hown'; have HB6 := Lib.hid hB6; clear hown' hB6 hgrow)
        go_roundw
        case rel => exact ⟨k + 1, by omega, by go_num, by rw [natsV_snoc]; exact Hown6.out, HB6.out⟩
        case measure => simp [intOf]; omega
      · have hlti : ¬ (k : Int) < (n : Int) := by omega
        obtain rfl : k = n := by omega
        have ho := Hown.out
        rw [natsV_intsV] at ho
        obtain ⟨A5, c5, rfl, _, _, hI5⟩ := own_ints (n := k) ho
        have HN5 := Lib.hid hI5
        have HI5 := Lib.hid (HI1.out.next HB.out)
        have HR5 := Lib.hid (HR1.out.next HB.out)
        have HB5 := Lib.hid (HB1.out.trans (HB.out.mono HB1.out.size))
        clear ho hI5 Hown HB
        go_wp2_with fail
        go_loopw [6, 8] (fun v i w2 => ∃ t : Nat, t ≤ ng ∧ i = .int .i64 t ∧ w2.ownsRow wr.heap.size 3 1 v t (natsV (List.range t)) ∧ Below wr.heap.size wr w2) (fun _ i _ => ng - (intOf i).toNat)
        case atStart => exact ⟨0, Nat.zero_le _, rfl, World.ownsRow_nil _ _ _ _, Below.refl _ _⟩
        case round =>
          obtain ⟨t, ht, rfl, hown, hB⟩ := hrel
          rename World => w2
          have HB := Lib.hid hB
          have Hown := Lib.hid hown
          have hsz2 := hB.size
          have ht0 : (0 : Int) ≤ (t : Int) := by omega
          have Hg := Lib.hid (HGr.out A c w2 (HI5.out.next hB))
          clear hB hown
          by_cases hltt : t < ng
          · have hltti : (t : Int) < (ng : Int) := by omega
            go_wp2_with (first
              | (go_at_call 18; refine Hg.out.mono ?_; rintro e w3 ⟨A3, c3, rfl, _, hB3⟩; rw [← Hng.out]; have Hown3 := Lib.hid (own_lay Hown.out hB3); have HB3 := Lib.hid (HB.out.trans (hB3.mono hsz2)); have hsz3 := HB3.out.size; clear hB3)
              | (at_builtin; refine wpList_append_own _ rfl _ _ 29 rfl wr.heap.size 3 i0 (.int .i64 0) 1 8 Try.underlying29 hi hz0 hz1 hz2 rfl (by decide) _ _ _ rfl (Hown3.out.alloc _) ⟨w3.heap.size, 0, none⟩ 1 1 [.int .i64 ((t : Nat) : Int)] rfl rfl (cell_one_new _ _ _) (by simp [Value.oneCell']) (by unfold maxLen; omega) (by omega) (by simp; omega) ?_; intro v' w6 hown' hgrow _; have hB6 : Below wr.heap.size wr w6 := HB3.out.trans ((((Below.refl _ w3).alloc hsz3 _)).grown hgrow (by simp; omega) (fun j e => (Hown3.out.lt j e).1)); have Hown6 := Lib.hid hown'; have HB6 := Lib.hid hB6; clear hown' hB6 hgrow))
            go_roundw
            case rel => exact ⟨t + 1, by omega, by go_num, by rw [natsV_snoc]; exact Hown6.out, HB6.out⟩
            case measure => simp [intOf]; omega
          · have hltti : ¬ (t : Int) < (ng : Int) := by omega
            obtain rfl : t = ng := by omega
            have ho := Hown.out
            rw [natsV_intsV] at ho
            obtain ⟨A6, c6, rfl, _, _, hI6⟩ := own_ints (n := t) ho
            have HG6 := Lib.hid hI6
            have HI6 := Lib.hid (HI5.out.next HB.out)
            have HN6 := Lib.hid (HN5.out.next HB.out)
            have HR6 := Lib.hid (HR5.out.next HB.out)
            have HB6 := Lib.hid (HB5.out.trans (HB.out.mono HB5.out.size))
            clear ho hI6 Hown HB
            go_wp2_with (go_at_call 18; refine Hg.out.mono ?_; rintro e w9 ⟨A3, c3, rfl, _, hB3⟩; rw [← Hng.out]; have HI9 := Lib.hid (HI6.out.next hB3); have HN9 := Lib.hid (HN6.out.next hB3); have HG9 := Lib.hid (HG6.out.next hB3); have HR9 := Lib.hid (HR6.out.next hB3); have HB9 := Lib.hid (HB6.out.trans (hB3.mono HB6.out.size)); clear hB3)
            go_wp2_with (first
            | (go_at_call 14; refine (live_any _).mono ?_; rintro e x1 ⟨rfl, hB⟩; have I1 := Lib.hid (HI9.out.next hB); have R1 := Lib.hid (HR9.out.next hB); have N1 := Lib.hid (HN9.out.next hB); have G1 := Lib.hid (HG9.out.next hB); have B1 := Lib.hid (HB9.out.trans (hB.mono HB9.out.size)); clear hB)
            | (go_at_call 30; have _t := T1; clear _t T1; refine (blocks_any A c k l A5 c5 _ (natsI (List.range k)) a2 cap2 8 L Hn.out rfl Hn3.out x1 (by rw [← Hn.out]; omega) (by rw [length_natsI, List.length_range]; omega) (by omega) Hr.out HSm.out I1.out N1.out R1.out).mono ?_; rintro e x2 ⟨A2, c2, rfl, hX, hB⟩; rw [HM1.out] at hX ⊢; rw [← HMl.out]; have X2 := Lib.hid hX; have I2 := Lib.hid (I1.out.next hB); have R2 := Lib.hid (R1.out.next hB); have G2 := Lib.hid (G1.out.next hB); have B2 := Lib.hid (B1.out.trans (hB.mono B1.out.size)); clear hB hX)
            | (go_at_call 23; refine (expand_any A c k l A6 c6 _ (natsI (List.range t)) Hn.out rfl x2 (by rw [← Hn.out]; omega) (by rw [length_natsI, List.length_range]; omega) HSm.out I2.out G2.out).mono ?_; rintro e x3 ⟨A7, c7, rfl, hX, hB⟩; rw [← Hex.out] at hX ⊢; have E3 := Lib.hid hX; have X3 := Lib.hid (X2.out.next hB); have I3 := Lib.hid (I2.out.next hB); have R3 := Lib.hid (R2.out.next hB); have B3 := Lib.hid (B2.out.trans (hB.mono B2.out.size)); clear hB hX)
            | (go_at_call 30; have _t := T2; clear _t T2; refine (blocks_any A c k l A7 c7 ex.length (natsI ex) a2 cap2 8 L Hn.out (length_natsI _).symm Hn3.out x3 (by rw [← Hn.out]; omega) (by rw [length_natsI]; omega) (by omega) Hr.out HSm.out I3.out E3.out R3.out).mono ?_; rintro e x4 ⟨A8, c8, rfl, hX, hB⟩; rw [HM2.out] at hX ⊢; rw [← HMl.out]; have Y4 := Lib.hid hX; have X4 := Lib.hid (X3.out.next hB); have I4 := Lib.hid (I3.out.next hB); have R4 := Lib.hid (R3.out.next hB); have B4 := Lib.hid (B3.out.trans (hB.mono B3.out.size)); clear hB hX)
            | (go_at_call 31; refine (sameblocks_any A2 A8 c2 c8 8 8 M HMl.out HMl.out x4 (by rw [← HMl.out]; omega) X4.out Y4.out).mono ?_; rintro e x5 ⟨rfl, hq⟩; have I5 := Lib.hid (I4.out.next hq.belowR); have R5 := Lib.hid (R4.out.next hq.belowR); have B5 := Lib.hid (hq.below B4.out); clear hq)
            | (go_at_call 30; refine (blocks_any A c k l none 0 0 [] a2 cap2 8 L Hn.out rfl Hn3.out x5 (by rw [← Hn.out]; omega) (by simp) (by omega) Hr.out HSm.out I5.out (fun h => by simp at h) R5.out).mono ?_; rintro e x6 ⟨A9, c9, rfl, hX, hB⟩; rw [HM3.out]; have B6 := Lib.hid (B5.out.trans (hB.mono B5.out.size)); clear hB hX))
            go_ret
            exact ⟨rfl, B6.out⟩
  · have h8i : ¬ (8 : Int) < (len2 : Int) := by omega
    have hL8' : len2 = L.length := by omega
    have Hn3 := Lib.hid hL8'
    have HMl : Hid (len2 = M.length) := by unfold Hid; omega
    have HM3 : Hid ((blocksL l [] L).length = len2) := by unfold Hid; omega
    have hn38 : len2 ≤ 8 := by omega
    clear hl hl24 hn h0 h2 hM hL hLl hMl hL8' hM3 hng hex
    go_enter Try.func10, Try.ntmps10
    go_wp2_with fail
    refine HF.out.mono ?_
    rintro e w1 ⟨A, c, rfl, hI1, hB1⟩
    have HI1 := Lib.hid hI1
    have HR1 := Lib.hid (HR0.out.next hB1)
    have HB1 := Lib.hid hB1
    clear hI1 hB1 HF HR0
    go_wp2_with fail
    go_loopw [5, 7] (fun v i wr => ∃ k : Nat, k ≤ n ∧ i = .int .i64 k ∧ wr.ownsRow w1.heap.size 3 1 v k (natsV (List.range k)) ∧ Below w1.heap.size w1 wr) (fun _ i _ => n - (intOf i).toNat)
    case atStart => exact ⟨0, Nat.zero_le _, rfl, World.ownsRow_nil _ _ _ _, Below.refl _ _⟩
    case round =>
      obtain ⟨k, hk, rfl, hown, hB⟩ := hrel
      rename World => wr
      have HB := Lib.hid hB
      have Hown := Lib.hid hown
      have hsz := hB.size
      have hk0 : (0 : Int) ≤ (k : Int) := by omega
      clear hB hown
      by_cases hlt : k < n
      · have hlti : (k : Int) < (n : Int) := by omega
        go_wp2_with (at_builtin; refine wpList_append_own _ rfl _ _ 29 rfl w1.heap.size 3 i0 (.int .i64 0) 1 8 Try.underlying29 hi hz0 hz1 hz2 rfl (by decide) _ _ _ rfl (Hown.out.alloc _) ⟨wr.heap.size, 0, none⟩ 1 1 [.int .i64 ((k : Nat) : Int)] rfl rfl (cell_one_new _ _ _) (by simp [Value.oneCell']) (by unfold maxLen; omega) (by omega) (by simp; omega) ?_; intro v' w6 hown' hgrow _; have hB6 : Below w1.heap.size w1 w6 := HB.out.trans ((((Below.refl _ wr).alloc hsz _)).grown hgrow (by simp; omega) (fun j e => (Hown.out.lt j e).1)); have Hown6 := Lib.hid hown'; have HB6 := Lib.hid hB6; clear hown' hB6 hgrow)
        go_roundw
        case rel => exact ⟨k + 1, by omega, by go_num, by rw [natsV_snoc]; exact Hown6.out, HB6.out⟩
        case measure => simp [intOf]; omega
      · have hlti : ¬ (k : Int) < (n : Int) := by omega
        obtain rfl : k = n := by omega
        have ho := Hown.out
        rw [natsV_intsV] at ho
        obtain ⟨A5, c5, rfl, _, _, hI5⟩ := own_ints (n := k) ho
        have HN5 := Lib.hid hI5
        have HI5 := Lib.hid (HI1.out.next HB.out)
        have HR5 := Lib.hid (HR1.out.next HB.out)
        have HB5 := Lib.hid (HB1.out.trans (HB.out.mono HB1.out.size))
        clear ho hI5 Hown HB
        go_wp2_with fail
        go_loopw [6, 8] (fun v i w2 => ∃ t : Nat, t ≤ ng ∧ i = .int .i64 t ∧ w2.ownsRow wr.heap.size 3 1 v t (natsV (List.range t)) ∧ Below wr.heap.size wr w2) (fun _ i _ => ng - (intOf i).toNat)
        case atStart => exact ⟨0, Nat.zero_le _, rfl, World.ownsRow_nil _ _ _ _, Below.refl _ _⟩
        case round =>
          obtain ⟨t, ht, rfl, hown, hB⟩ := hrel
          rename World => w2
          have HB := Lib.hid hB
          have Hown := Lib.hid hown
          have hsz2 := hB.size
          have ht0 : (0 : Int) ≤ (t : Int) := by omega
          have Hg := Lib.hid (HGr.out A c w2 (HI5.out.next hB))
          clear hB hown
          by_cases hltt : t < ng
          · have hltti : (t : Int) < (ng : Int) := by omega
            go_wp2_with (first
              | (go_at_call 18; refine Hg.out.mono ?_; rintro e w3 ⟨A3, c3, rfl, _, hB3⟩; rw [← Hng.out]; have Hown3 := Lib.hid (own_lay Hown.out hB3); have HB3 := Lib.hid (HB.out.trans (hB3.mono hsz2)); have hsz3 := HB3.out.size; clear hB3)
              | (at_builtin; refine wpList_append_own _ rfl _ _ 29 rfl wr.heap.size 3 i0 (.int .i64 0) 1 8 Try.underlying29 hi hz0 hz1 hz2 rfl (by decide) _ _ _ rfl (Hown3.out.alloc _) ⟨w3.heap.size, 0, none⟩ 1 1 [.int .i64 ((t : Nat) : Int)] rfl rfl (cell_one_new _ _ _) (by simp [Value.oneCell']) (by unfold maxLen; omega) (by omega) (by simp; omega) ?_; intro v' w6 hown' hgrow _; have hB6 : Below wr.heap.size wr w6 := HB3.out.trans ((((Below.refl _ w3).alloc hsz3 _)).grown hgrow (by simp; omega) (fun j e => (Hown3.out.lt j e).1)); have Hown6 := Lib.hid hown'; have HB6 := Lib.hid hB6; clear hown' hB6 hgrow))
            go_roundw
            case rel => exact ⟨t + 1, by omega, by go_num, by rw [natsV_snoc]; exact Hown6.out, HB6.out⟩
            case measure => simp [intOf]; omega
          · have hltti : ¬ (t : Int) < (ng : Int) := by omega
            obtain rfl : t = ng := by omega
            have ho := Hown.out
            rw [natsV_intsV] at ho
            obtain ⟨A6, c6, rfl, _, _, hI6⟩ := own_ints (n := t) ho
            have HG6 := Lib.hid hI6
            have HI6 := Lib.hid (HI5.out.next HB.out)
            have HN6 := Lib.hid (HN5.out.next HB.out)
            have HR6 := Lib.hid (HR5.out.next HB.out)
            have HB6 := Lib.hid (HB5.out.trans (HB.out.mono HB5.out.size))
            clear ho hI6 Hown HB
            go_wp2_with (go_at_call 18; refine Hg.out.mono ?_; rintro e w9 ⟨A3, c3, rfl, _, hB3⟩; rw [← Hng.out]; have HI9 := Lib.hid (HI6.out.next hB3); have HN9 := Lib.hid (HN6.out.next hB3); have HG9 := Lib.hid (HG6.out.next hB3); have HR9 := Lib.hid (HR6.out.next hB3); have HB9 := Lib.hid (HB6.out.trans (hB3.mono HB6.out.size)); clear hB3)
            go_wp2_with (first
            | (go_at_call 14; refine (live_any _).mono ?_; rintro e x1 ⟨rfl, hB⟩; have I1 := Lib.hid (HI9.out.next hB); have R1 := Lib.hid (HR9.out.next hB); have N1 := Lib.hid (HN9.out.next hB); have G1 := Lib.hid (HG9.out.next hB); have B1 := Lib.hid (HB9.out.trans (hB.mono HB9.out.size)); clear hB)
            | (go_at_call 30; have _t := T1; clear _t T1; refine (blocks_any A c k l A5 c5 _ (natsI (List.range k)) a2 cap2 len2 L Hn.out rfl Hn3.out x1 (by rw [← Hn.out]; omega) (by rw [length_natsI, List.length_range]; omega) (by omega) Hr.out HSm.out I1.out N1.out R1.out).mono ?_; rintro e x2 ⟨A2, c2, rfl, hX, hB⟩; rw [HM1.out] at hX ⊢; rw [← HMl.out]; have X2 := Lib.hid hX; have I2 := Lib.hid (I1.out.next hB); have R2 := Lib.hid (R1.out.next hB); have G2 := Lib.hid (G1.out.next hB); have B2 := Lib.hid (B1.out.trans (hB.mono B1.out.size)); clear hB hX)
            | (go_at_call 23; refine (expand_any A c k l A6 c6 _ (natsI (List.range t)) Hn.out rfl x2 (by rw [← Hn.out]; omega) (by rw [length_natsI, List.length_range]; omega) HSm.out I2.out G2.out).mono ?_; rintro e x3 ⟨A7, c7, rfl, hX, hB⟩; rw [← Hex.out] at hX ⊢; have E3 := Lib.hid hX; have X3 := Lib.hid (X2.out.next hB); have I3 := Lib.hid (I2.out.next hB); have R3 := Lib.hid (R2.out.next hB); have B3 := Lib.hid (B2.out.trans (hB.mono B2.out.size)); clear hB hX)
            | (go_at_call 30; have _t := T2; clear _t T2; refine (blocks_any A c k l A7 c7 ex.length (natsI ex) a2 cap2 len2 L Hn.out (length_natsI _).symm Hn3.out x3 (by rw [← Hn.out]; omega) (by rw [length_natsI]; omega) (by omega) Hr.out HSm.out I3.out E3.out R3.out).mono ?_; rintro e x4 ⟨A8, c8, rfl, hX, hB⟩; rw [HM2.out] at hX ⊢; rw [← HMl.out]; have Y4 := Lib.hid hX; have X4 := Lib.hid (X3.out.next hB); have I4 := Lib.hid (I3.out.next hB); have R4 := Lib.hid (R3.out.next hB); have B4 := Lib.hid (B3.out.trans (hB.mono B3.out.size)); clear hB hX)
            | (go_at_call 31; refine (sameblocks_any A2 A8 c2 c8 len2 len2 M HMl.out HMl.out x4 (by rw [← HMl.out]; omega) X4.out Y4.out).mono ?_; rintro e x5 ⟨rfl, hq⟩; have I5 := Lib.hid (I4.out.next hq.belowR); have R5 := Lib.hid (R4.out.next hq.belowR); have B5 := Lib.hid (hq.below B4.out); clear hq)
            | (go_at_call 30; refine (blocks_any A c k l none 0 0 [] a2 cap2 len2 L Hn.out rfl Hn3.out x5 (by rw [← Hn.out]; omega) (by simp) (by omega) Hr.out HSm.out I5.out (fun h => by simp at h) R5.out).mono ?_; rintro e x6 ⟨A9, c9, rfl, hX, hB⟩; rw [HM3.out]; have B6 := Lib.hid (B5.out.trans (hB.mono B5.out.size)); clear hB hX))
            go_ret
            exact ⟨rfl, B6.out⟩
end Go.Proofs.Ytkfjkhacchbkeaa
