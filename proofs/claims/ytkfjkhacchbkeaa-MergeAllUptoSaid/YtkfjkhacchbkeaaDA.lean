/- Contract of Blocks. -/
import Derived.Test.YtkfjkhacchbkeaaCA
namespace Go.Proofs.Ytkfjkhacchbkeaa
set_option linter.unusedVariables false
set_option linter.unusedSimpArgs false
open Go.RowKit

def fillB (L : List (List Int)) (k : Nat) : List (List Int) := (List.range L.length).map fun j => if j < k then rowI L j else []
theorem length_fillB (L : List (List Int)) (k : Nat) : (fillB L k).length = L.length := by simp [fillB]
theorem rowI_fillB (L : List (List Int)) (k j : Nat) (hj : j < L.length) : rowI (fillB L k) j = if j < k then rowI L j else [] := by
  unfold rowI fillB
  rw [List.getD_eq_getElem?_getD, List.getElem?_map, List.getElem?_range hj]
  rfl
theorem rowI_lt' {L : List (List Int)} {j : Nat} (h : j < L.length) : rowI L j = L[j] := by
  unfold rowI; rw [List.getD_eq_getElem?_getD, List.getElem?_eq_getElem h]; rfl
theorem fillB_all (L : List (List Int)) : fillB L L.length = L := by
  apply List.ext_getElem
  · simp [fillB]
  · intro i h1 h2
    simp [fillB, h2, rowI_lt' h2]
theorem fillB_set (L : List (List Int)) (k : Nat) (hk : k < L.length) : (fillB L k).set k (rowI L k) = fillB L (k + 1) := by
  apply List.ext_getElem
  · simp [fillB]
  · intro i h1 h2
    rw [List.getElem_set]
    simp only [fillB, List.getElem_map, List.getElem_range]
    by_cases e : k = i
    · subst e; rw [if_pos rfl, if_pos (by omega)]
    · rw [if_neg e]
      by_cases h : i < k
      · rw [if_pos h, if_pos (by omega)]
      · rw [if_neg h, if_neg (by omega)]
theorem among_some (n : Nat) (s : List Int) : amongL n s = someT s n := by
  refine rising_ext _ _ (among_rising _ _) (List.pairwise_lt_range.filter _) (fun x => ?_)
  rw [mem_among]
  unfold someT
  rw [List.mem_filter, List.mem_range, decide_eq_true_eq]
theorem below_swap (W : World) (O : Obj) (g o : Nat) (v : Value) : Below W.heap.size (W.setCell ⟨g, o, none⟩ v) ((W.alloc O).setCell ⟨g, o, none⟩ v) := by
  refine ⟨rfl, rfl, rfl, by simp [World.setCell], fun b hb => ?_⟩
  simp only [World.setCell, World.alloc, Array.getElem?_modify]
  rw [Array.getElem?_push_lt hb, Array.getElem?_eq_getElem hb]
theorem new_behind (W : World) (g o : Nat) (v : Value) (x : Obj) : ((W.setCell ⟨g, o, none⟩ v).alloc x).heap[W.heap.size]? = some x := by
  have h := heap_alloc_last (W.setCell ⟨g, o, none⟩ v) x
  have e : (W.setCell ⟨g, o, none⟩ v).heap.size = W.heap.size := by simp [World.setCell]
  rw [e] at h
  exact h
theorem own_slice_base {w : World} {B : Nat} {e : TypeId} {size n c m : Nat} {A : Option Addr} {xs : List Value} (h : w.ownsRow B e size (.slice A n c) m xs) : ∀ a, A = some a → B ≤ a.block := by
  rcases h.2 with ⟨h1, _⟩ | ⟨g, cap, cur, h1, hB, _⟩
  · cases h1; intro a e; cases e
  · cases h1; intro a e; cases e; exact hB
theorem ints_set {W : World} {B g o : Nat} {v : Value} {A : Option Addr} {l : List Int} (h : Ints W B A l) (ha : ∀ a, A = some a → a.block ≠ g) : Ints (W.setCell ⟨g, o, none⟩ v) B A l := fun h0 => by
  obtain ⟨b, off, rfl, hb, hc⟩ := h h0
  exact ⟨b, off, rfl, hb, fun j hj => by rw [cell_ne (p := ⟨b, off + j, none⟩) (show b ≠ g from ha _ rfl)]; exact hc j hj⟩
theorem make_rowsB (n : Nat) (hn : n ≤ 1000) : ∃ M : Array Value, (∀ j, j < n → M.toList[j]? = some (.slice none 0 0)) ∧ ∀ W : World, (Instr.makeSlice 38 (.int .i64 (n : Int)) (.int .i64 (n : Int))).run Try.prog W = .ok (.slice (some ⟨W.heap.size, 0, none⟩) n n) (W.alloc (.cells M 53)) := by
  refine ⟨madeCells #[.slice none 0 0] n, fun j hj => ?_, fun W => run_make_row' (P := Try.prog) 38 53 (.slice none 0 0) 24 Try.underlying38 info53 rfl .i64 .i64 n (by omega) (by omega) W⟩
  rw [Array.getElem?_toList]
  simp [madeCells, hj, Nat.mod_one]

set_option maxRecDepth 100000 in
set_option maxHeartbeats 8000000 in
theorem blocks_any (A : Option Addr) (c n : Nat) (l : List It) (A2 : Option Addr) (c2 n2 : Nat) (s : List Int) (A3 : Option Addr) (c3 n3 : Nat) (L : List (List Int)) (hn : n = l.length) (hn2 : n2 = s.length) (hn3 : n3 = L.length) (w : World)
    (hl : l.length ≤ 1000) (hl2 : s.length ≤ 100000) (hl3 : L.length ≤ 1000) (hr : ∀ j, j < L.length → (rowI L j).length ≤ 2000000) (hs : Small l) (hI : Items w w.heap.size A l) (hI2 : Ints w w.heap.size A2 s) (hR : Rws w w.heap.size A3 L) :
    Calls Try.prog 30 #[.slice A n c, .slice A2 n2 c2, .slice A3 n3 c3] w (BlocksSays w (blocksL l s L)) := by
  have HRt := Lib.hid (fun W (h : Below w.heap.size w W) => mright_any A c n l hn W hl hs (hI.next h))
  have Ham := Lib.hid (fun W (h64 : n ≤ 64) (h : Below w.heap.size w W) => among_any A2 c2 n2 s n hn2 h64 hl2 W (hI2.next h))
  have HI := Lib.hid hI
  have HR := Lib.hid hR
  have Hn := Lib.hid hn
  have Hn3 := Lib.hid hn3
  have hn1 : n ≤ 1000 := by omega
  have hn31 : n3 ≤ 1000 := by omega
  have Hsm := Lib.hid hs
  have Hr := Lib.hid hr
  have Hri := Lib.hid (fun h k => @right_each l h k)
  have H64 := Lib.hid (fun h => (@right_out l h).2.2)
  have Hx : Hid (blocksL l s L = if rightL l = true then foldB l L (amongL n s) else L) := by unfold Hid; rw [among_some, hn]; rfl
  have hamn := Lib.hid (fun x (h : x ∈ amongL n s) => (mem_among.1 h).1)
  have haml := among_len n s
  obtain ⟨am, hame⟩ : ∃ am, am = amongL n s := ⟨_, rfl⟩
  have Hame := Lib.hid hame
  rw [← hame] at Hx hamn haml Ham
  obtain ⟨r, hrr⟩ : ∃ r, r = rightL l := ⟨_, rfl⟩
  rw [← hrr] at HRt Hri Hx H64
  obtain ⟨M1, hM1, hmk1⟩ := make_rowsB n3 hn31
  have HM1 := Lib.hid hM1
  clear hI hI2 hR hn hn2 hn3 hl hl2 hl3 hr hs hrr hame hM1
  obtain ⟨bo, hbo⟩ : ∃ bo, bo = w.heap.size := ⟨_, rfl⟩
  have Hbo := Lib.hid hbo
  go_enter Try.func30, Try.ntmps30
  go_wp2_with fail
  rw [← hbo]
  clear hmk1 hbo
  go_loopw [20] (fun i wr => ∃ (k : Nat) (As : Nat → Option Addr) (Cs : Nat → Nat), k ≤ n3 ∧ i = .int .i64 k ∧ OutB wr bo (fillB L k) As Cs ∧ Below bo w wr) (fun i _ => n3 - (intOf i).toNat)
  case atStart =>
    refine ⟨0, fun _ => none, fun _ => 0, Nat.zero_le _, rfl, ⟨⟨M1.toList, ?_, fun j hj => ?_⟩, fun j hj => ?_⟩, ?_⟩
    · rw [Hbo.out]; exact BlkIs.new w 53 M1
    · rw [length_fillB] at hj
      rw [rowI_fillB _ _ _ hj, HM1.out j (by rw [Hn3.out]; exact hj)]; rfl
    · rw [length_fillB] at hj
      rw [rowI_fillB _ _ _ hj]
      exact ⟨Pat.Bts.nil, fun a e => by cases e⟩
    · rw [Hbo.out]; exact (Below.refl _ _).alloc (Nat.le_refl _) _
  case round =>
    obtain ⟨k, As, Cs, hk, rfl, hO, hB⟩ := hrel
    rename World => wr
    have HB := Lib.hid hB
    have HO := Lib.hid hO
    have hk0 : (0 : Int) ≤ (k : Int) := by omega
    have hsz : bo ≤ wr.heap.size := by have := hO.lt; omega
    have hbolt := hO.lt
    by_cases hlt : k < n3
    · have hlti : (k : Int) < (n3 : Int) := by omega
      have hkL : k < L.length := by rw [← Hn3.out]; exact hlt
      obtain ⟨g, off, Ak, ck, rfl, hg, hc, hb⟩ := HR.out.at_ hkL
      have hcr : wr.cell? ⟨g, off + k, none⟩ = some (.slice Ak (rowI L k).length ck) := (hB.cell (p := ⟨g, off + k, none⟩) (by rw [Hbo.out]; exact hg)).trans hc
      have hbt : Pat.Bts wr wr.heap.size Ak (rowI L k) := ((by rw [Hbo.out] at hB; exact hb.below hB : Pat.Bts wr w.heap.size Ak (rowI L k))).more (by rw [← Hbo.out]; exact hsz)
      have hrl := Hr.out k hkL
      have Hfs := Lib.hid (fillB_set L k hkL)
      have hkf : k < (fillB L k).length := by rw [length_fillB]; exact hkL
      obtain ⟨row, hrow⟩ : ∃ row, row = rowI L k := ⟨_, rfl⟩
      rw [← hrow] at hcr hbt hrl Hfs
      obtain ⟨m, hm⟩ : ∃ m, m = row.length := ⟨_, rfl⟩
      rw [← hm] at hcr hrl
      have Hm := Lib.hid hm
      have hmk2 : ∀ W, (Instr.makeSlice 53 (.int .i64 (m : Int)) (.int .i64 (m : Int))).run Try.prog W = .ok (.slice (some ⟨W.heap.size, 0, none⟩) m m) (W.alloc (.cells (madeCells #[Value.int .u8 0] m) 5)) := fun W => run_make_row' (P := Try.prog) 53 5 (.int .u8 0) 1 Try.underlying53 Pat.info5 rfl .i64 .i64 m (by omega) (by omega) W
      rw [Pat.made_bytes] at hmk2
      obtain ⟨L0, hL0⟩ : ∃ L0, L0 = Pat.bytesV (List.replicate m 0) := ⟨_, rfl⟩
      rw [← hL0] at hmk2
      have hL0l : Hid (L0.length = m) := by unfold Hid; rw [hL0]; simp [Pat.bytesV]
      obtain ⟨L1, hL1⟩ : ∃ L1, L1 = Pat.bytesV row := ⟨_, rfl⟩
      have HL1 := Lib.hid hL1
      have hL1l : Hid (L1.length = m) := by unfold Hid; rw [hL1, Pat.length_bytesV, hm]
      have Hall := Lib.hid hbt.1
      have Hbt := Lib.hid hbt
      have H1c : Hid (∀ v ∈ L1, v.oneCell' = true) := by unfold Hid; rw [hL1]; exact Pat.bytesV_one row
      have hal : Below wr.heap.size wr (wr.alloc (.cells L0.toArray 5)) := Pat.below_alloc1 wr _
      have hO2 := hO.next hal
      have f1 := hO2.cell hkf
      have f2 := hO2.frozen k
      have hset : Below wr.heap.size (wr.setCell ⟨bo, k, none⟩ (.slice (some ⟨wr.heap.size, 0, none⟩) m m)) ((wr.setCell ⟨bo, k, none⟩ (.slice (some ⟨wr.heap.size, 0, none⟩) m m)).alloc (.cells L0.toArray 5)) := (Below.refl _ _).alloc (by simp [World.setCell]) _
      have HsetB := Lib.hid hset
      have f3 : ((wr.setCell ⟨bo, k, none⟩ (.slice (some ⟨wr.heap.size, 0, none⟩) m m)).alloc (.cells L0.toArray 5)).cell? ⟨bo, k, none⟩ = some (.slice (some ⟨wr.heap.size, 0, none⟩) m m) := by
        refine (hset.cell (p := ⟨bo, k, none⟩) hbolt).trans ?_
        obtain ⟨lv, hlv, hlc⟩ := hO.blk
        rw [(hlv.set_ k _).cell]
        have h9 := hlc k hkf
        have : k < lv.length := by
          rcases Nat.lt_or_ge k lv.length with h | h
          · exact h
          · rw [List.getElem?_eq_none h] at h9; cases h9
        simp [this]
      have Hnew : Hid (((wr.setCell ⟨bo, k, none⟩ (.slice (some ⟨wr.heap.size, 0, none⟩) m m)).alloc (.cells L0.toArray 5)).heap[wr.heap.size]? = some (.cells L0.toArray 5 (0, 0))) := by
        exact new_behind wr bo k _ _
      have Hsrc : Hid (0 < L1.length → ∃ ad, Ak = some ad ∧ ∀ j v, L1[j]? = some v → ((wr.setCell ⟨bo, k, none⟩ (.slice (some ⟨wr.heap.size, 0, none⟩) m m)).alloc (.cells L0.toArray 5)).cell? (ad.add j) = some v) := by
        intro h0
        rw [hL1l.out] at h0
        obtain ⟨b3, o3, rfl, hb3, hc3⟩ := hb.2 (by rw [← hrow, ← hm]; exact h0)
        refine ⟨_, rfl, fun j v hv => ?_⟩
        rw [add_plain]
        have hne : b3 ≠ bo := by rw [Hbo.out]; omega
        rw [hset.cell (p := ⟨b3, o3 + j, none⟩) (show b3 < wr.heap.size by rw [Hbo.out] at hsz; omega), cell_ne (p := ⟨b3, o3 + j, none⟩) hne, hB.cell (p := ⟨b3, o3 + j, none⟩) (show b3 < bo by rw [Hbo.out]; exact hb3)]
        rw [hL1, Pat.bytesV, List.getElem?_map] at hv
        have hj : j < row.length := by
          rcases Nat.lt_or_ge j row.length with h | h
          · exact h
          · rw [List.getElem?_eq_none h] at hv; cases hv
        rw [hc3 j (by rw [← hrow]; exact hj), ← hrow, Pat.nth_lt hj]
        rw [List.getElem?_eq_getElem hj] at hv
        exact hv
      clear hL0 hL1 hrow hm hc hb hbt hB hO hO2 hal hset
      go_wp2_with (with_reducible refine wpList_copy_splice rfl (.tmp 34) (.tmp 35) 53 53 rfl 5 Try.underlying53 Pat.size5 (some ⟨wr.heap.size, 0, none⟩) Ak m m m ck rfl rfl wr.heap.size 0 L0 5 ?c1 L1 ?c2 ?c3 ?c4 ?c5 wr.heap.size _ (Below.refl _ _) (Nat.le_refl _) ?_)
      case c1 => exact Hnew.out
      case c2 => rw [hL1l.out]; exact (Nat.min_self m).symm
      case c3 => first | exact Hsrc.out | (intro h0; exact ⟨rfl, Hsrc.out h0⟩)
      case c4 => have := hL1l.out; have := hL0l.out; omega
      case c5 => exact H1c.out
      rintro w2 hg2 hb2
      rw [Pat.splice_whole _ _ (by rw [hL1l.out, hL0l.out])] at hg2
      have Hb2 := Lib.hid hb2
      clear hb2
      clear hmk2 f1 f2 f3
      go_wp2_with fail
      go_roundw
      case rel =>
        have hbb := HsetB.out.trans Hb2.out
        have hblk : Pat.BlkIs w2 wr.heap.size 5 (Pat.bytesV row) := by rw [← HL1.out]; exact hg2.out
        have hbs := Pat.BlkIs.bts hblk Hall.out (Pat.BlkIs.lt hblk)
        have e := Hm.out
        have hq := HO.out.put (c := m) (m := row) hkf (W' := w2) (A := some ⟨wr.heap.size, 0, none⟩) (by rw [← e]; exact hbb) hbs (fun a ea => by cases ea; show wr.heap.size ≠ bo; omega)
        rw [Hfs.out] at hq
        exact ⟨k + 1, _, _, by omega, by go_num, hq, (HB.out.setCell (p := ⟨bo, k, none⟩) (Nat.le_refl _) _).trans (hbb.mono hsz)⟩
      case measure => simp [intOf]; omega
    · have hlti : ¬ (k : Int) < (n3 : Int) := by omega
      obtain rfl : k = n3 := by omega
      have hfill : fillB L k = L := by rw [Hn3.out]; exact fillB_all L
      rw [hfill] at hO
      have HO := Lib.hid hO
      have HBw : Hid (Below w.heap.size w wr) := by unfold Hid; rw [← Hbo.out]; exact hB
      have Hmr := Lib.hid (HRt.out wr HBw.out)
      have hszw : w.heap.size ≤ wr.heap.size := HBw.out.size
      clear hO hB hfill HB
      cases r with
      | false =>
        have Hx2 : Hid (blocksL l s L = L) := by unfold Hid; rw [Hx.out]; rfl
        clear Hx
        go_wp2_with (go_at_call 15; refine Hmr.out.mono ?_; rintro e w2 ⟨rfl, hB2⟩; have HO2 := Lib.hid (HO.out.next hB2); have HB2 := Lib.hid (HBw.out.trans (hB2.mono hszw)); clear hB2)
        go_ret
        unfold BlocksSays
        rw [Hx2.out, ← Hn3.out]
        exact ⟨some ⟨bo, 0, none⟩, k, rfl, OutR.rws (fun _ => ⟨bo, As, Cs, rfl, HO2.out⟩), HB2.out⟩
      | true =>
        have hn64 : n ≤ 64 := by have := H64.out rfl; rw [← Hn.out] at this; exact this
        have Hx2 : Hid (blocksL l s L = foldB l L am) := by unfold Hid; rw [Hx.out]; rfl
        have Ham2 := Lib.hid (fun W h => Ham.out W hn64 h)
        clear Hx Ham
        go_wp2_with (first
          | (go_at_call 15; refine Hmr.out.mono ?_; rintro e w2 ⟨rfl, hB2⟩; have HO2 := Lib.hid (HO.out.next hB2); have HB2 := Lib.hid (HBw.out.trans (hB2.mono hszw)); clear hB2)
          | (go_at_call 50; refine (Ham2.out w2 HB2.out).mono ?_; rintro e w5 ⟨v5, rfl, hown5, hB5⟩; rw [natsV_intsV] at hown5; obtain ⟨A5, c5, rfl, _, _, hI5⟩ := own_ints (n := am.length) hown5; have hap5 := own_slice_base hown5; have hO5 := HO2.out.lt; have Hap5 : Hid (∀ a, A5 = some a → a.block ≠ bo) := (fun a ea => by have := hap5 a ea; omega); rw [length_natsI]; have HI5 := Lib.hid hI5; have HO5 := Lib.hid (HO2.out.next hB5); have HB5 := Lib.hid (HB2.out.trans (hB5.mono HB2.out.size)); clear hown5 hB5 hI5 hap5 hO5))
        go_loopw [47] (fun i w4 => ∃ (t : Nat) (As : Nat → Option Addr) (Cs : Nat → Nat), t ≤ am.length ∧ i = .int .i64 t ∧ OutB w4 bo (foldB l L (am.take t)) As Cs ∧ Ints w4 w4.heap.size A5 (natsI am) ∧ Below w.heap.size w w4) (fun i _ => am.length - (intOf i).toNat)
        case atStart => exact ⟨0, As, Cs, Nat.zero_le _, rfl, HO5.out, HI5.out, HB5.out⟩
        case round =>
          clear HO2 HO5 HI5 HB5 HO
          obtain ⟨t, As, Cs, ht, rfl, hO, hI5, hB⟩ := hrel
          rename World => w4
          have HO := Lib.hid hO
          have HB := Lib.hid hB
          have HI5 := Lib.hid hI5
          have ht0 : (0 : Int) ≤ (t : Int) := by omega
          by_cases hltt : t < am.length
          · have hltti : (t : Int) < (am.length : Int) := by omega
            obtain ⟨b5, o5, rfl, hb5, hc5⟩ := hI5.nat hltt
            have htk := take_el am t hltt
            have hxm := hamn.out (el am t) (by rw [el_lt hltt]; exact List.getElem_mem _)
            obtain ⟨x, hxe⟩ : ∃ x, x = el am t := ⟨_, rfl⟩
            rw [← hxe] at hc5 htk hxm
            have Htk := Lib.hid htk
            have hxi : (x : Int) < (n : Int) := by omega
            have hx0 : (0 : Int) ≤ (x : Int) := by omega
            have hxl : x < l.length := by rw [← Hn.out]; exact hxm
            obtain ⟨b, off, Ak, ck, rfl, hb, hx⟩ := HI.out.at_ hxl
            obtain ⟨c0, c1, c2', c3', _⟩ := hx
            have hp := (Hsm.out x hxl).1
            have hpr := Hri.out (by first | rfl | trivial) x hxl
            obtain ⟨p0, _, _, _, _, _⟩ := Pat.Pt.right_out hpr
            have Hfs := Lib.hid (foldB_snoc l L (am.take t) x)
            have Hlen : Hid (k = (foldB l L (am.take t)).length) := by unfold Hid; rw [length_foldB]; exact Hn3.out
            obtain ⟨y, hye⟩ : ∃ y, y = itN l x := ⟨_, rfl⟩
            rw [← hye] at c0 c1 c2' hp p0 Hfs
            obtain ⟨p, d⟩ := y
            simp only at c0 c1 c2' hp p0 Hfs
            have Hst := Lib.hid (fun nn => @stepB_out p (foldB l L (am.take t)) nn)
            have Hsn := Lib.hid (fun nn => @stepB_none p (foldB l L (am.take t)) nn)
            have Hss := Lib.hid (fun nn mm => @stepB_some p (foldB l L (am.take t)) nn mm)
            have Hap := Lib.hid (fun (W : World) (A' : Option Addr) (row : List Int) (c' : Nat) (h : Pat.Bts W W.heap.size A' row) => Pat.apply_uni (n := row.length) (c := c') h rfl hp)
            obtain ⟨M, hM⟩ : ∃ M, M = foldB l L (am.take t) := ⟨_, rfl⟩
            have HM := Lib.hid hM
            rw [← hM] at HO Hlen Hst Hsn Hss Hfs
            obtain ⟨pb, po, ps⟩ := p
            obtain ⟨bn, rfl⟩ := Int.eq_ofNat_of_zero_le p0
            unfold Pat.Pt.v at Hap
            simp only at c0 c1 c2' Hap
            have hbn0 : (0 : Int) ≤ (bn : Int) := by omega
            have e0 := (hB.cell (p := ⟨b, off + x * 4, none⟩) hb).trans c0
            have e1 := (hB.cell (p := ⟨b, off + x * 4 + 1, none⟩) hb).trans c1
            have e2 := (hB.cell (p := ⟨b, off + x * 4 + 2, none⟩) hb).trans c2'
            clear hxl hb c0 c1 c2' c3' hp hpr p0 hye hM hxe htk hB hO hI5 hb5
            by_cases hbn : bn < k
            · have hbni : (bn : Int) < (k : Int) := by omega
              have hbl : bn < M.length := by rw [← Hlen.out]; exact hbn
              have Hap2 := Lib.hid (fun W h => Hap.out W (As bn) (rowI M bn) (Cs bn) h)
              have Hss2 := Lib.hid (fun m => Hss.out bn m rfl hbl)
              have Hsn2 := Lib.hid (Hsn.out bn rfl)
              have hco := HO.out.cell hbl
              have hrow4 := (HO.out.rows bn hbl).1
              obtain ⟨row, hrow⟩ : ∃ row, row = rowI M bn := ⟨_, rfl⟩
              rw [← hrow] at Hap2 Hss2 Hsn2 hco hrow4
              have Hrow4 := Lib.hid hrow4
              obtain ⟨an, han⟩ : ∃ an, an = Pat.ansP row [⟨(bn : Int), po, ps⟩] := ⟨_, rfl⟩
              rw [← han] at Hap2 Hss2 Hsn2
              clear hrow han hrow4
              cases an with
              | none =>
                have Hs2 := Lib.hid (Hsn2.out rfl)
                go_wp2_with fail
                go_region_with (go_at_call 54; refine (Hap2.out _ (by exact Hrow4.out)).mono ?_; rintro e w6 ⟨hB6, rfl⟩; have hB36 : Below w4.heap.size w4 w6 := ⟨hB6.os, hB6.tape, hB6.output, hB6.size, hB6.block⟩; have HO6 := Lib.hid (HO.out.next hB36); have HI6 := Lib.hid (HI5.out.next hB36); have HB6 := Lib.hid (HB.out.trans (hB36.mono HB.out.size)); clear hB6 hB36)
                all_goals (
                  go_wp2_with fail
                  go_roundw
                  case rel => exact ⟨t + 1, As, Cs, by omega, by go_num, by rw [Htk.out, Hfs.out, Hs2.out]; exact HO6.out, HI6.out, HB6.out⟩
                  case measure => simp [intOf]; omega)
              | some m =>
                have Hs2 := Lib.hid (Hss2.out m rfl)
                go_wp2_with fail
                go_region_with (go_at_call 54; refine (Hap2.out _ (by exact Hrow4.out)).mono ?_; rintro e w6 ⟨hB6, A6, c6, rfl, _, _, hb6, h32, g6, rfl, hg6⟩; have hB36 : Below w4.heap.size w4 w6 := ⟨hB6.os, hB6.tape, hB6.output, hB6.size, hB6.block⟩; have HO6 := Lib.hid (HO.out.next hB36); have HI6 := Lib.hid (HI5.out.next hB36); have HB6 := Lib.hid (HB.out.trans (hB36.mono HB.out.size)); have hc6 := HO6.out.cell hbl; have hf6 := HO6.out.frozen bn; have Hb6 := Lib.hid hb6; have H32 := Lib.hid h32; have hg7 : w4.heap.size ≤ g6 := hg6; have Hg7 := Lib.hid hg7; clear hB6 hB36 hb6 h32 hg6 hg7)
                all_goals (
                  go_wp2_with fail
                  go_roundw
                  case rel =>
                    have hbo3 := HO.out.lt
                    have hq := HO6.out.put (c := c6) hbl (Below.refl _ _) (bts_set (g := bo) (o := bn) (v := .slice (some ⟨g6, 0, none⟩) m.length c6) (by simpa [World.setCell] using Hb6.out) (fun a ea => by cases ea; show g6 ≠ bo; have := Hg7.out; omega)) (fun a ea => by cases ea; show g6 ≠ bo; have := Hg7.out; omega)
                    rw [H32.out, ← Hs2.out, ← Hfs.out, ← Htk.out] at hq
                    exact ⟨t + 1, _, _, by omega, by go_num, hq, by have h9 := ints_set (g := bo) (o := bn) (v := .slice (some ⟨g6, 0, none⟩) 32 c6) HI6.out Hap5.out; simpa [World.setCell] using h9, HB6.out.setCell (p := ⟨bo, bn, none⟩) (by rw [Hbo.out]; exact Nat.le_refl _) _⟩
                  case measure => simp [intOf]; omega)
            · have hbni : ¬ (bn : Int) < (k : Int) := by omega
              have Hs2 : Hid (stepB ⟨(bn : Int), po, ps⟩ M = M) := Hst.out bn rfl (by rw [← Hlen.out]; exact hbn)
              go_wp2_with fail
              go_roundw
              case rel => exact ⟨t + 1, As, Cs, by omega, by go_num, by rw [Htk.out, Hfs.out, Hs2.out]; exact HO.out, HI5.out, HB.out⟩
              case measure => simp [intOf]; omega
          · have hltti : ¬ (t : Int) < (am.length : Int) := by omega
            obtain rfl : t = am.length := by omega
            rw [List.take_length] at HO
            have Hlen : Hid (k = (foldB l L am).length) := by unfold Hid; rw [length_foldB]; exact Hn3.out
            clear hO hI5 hB
            go_wp2_with fail
            go_ret
            unfold BlocksSays
            rw [Hx2.out, ← Hlen.out]
            exact ⟨some ⟨bo, 0, none⟩, k, rfl, OutR.rws (fun _ => ⟨bo, As, Cs, rfl, HO.out⟩), HB.out⟩
end Go.Proofs.Ytkfjkhacchbkeaa
