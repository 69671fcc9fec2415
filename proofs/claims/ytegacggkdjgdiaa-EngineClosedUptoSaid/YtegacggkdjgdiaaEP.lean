/- One patch more that waits: add. -/
import Derived.Test.YtegacggkdjgdiaaEP0
import Derived.Deep.WholeRow
set_option linter.unusedVariables false
set_option linter.unusedSimpArgs false
namespace Go.Proofs.Ytegacggkdjgdiaa
open Go.RowKit

def zeroM : Array Value := Array.replicate 200 (.bool false)
theorem infoM : (Try.prog.info? 115).map (fun i => (i.zero, i.size)) = some (some (.agg zeroM), 200) := by kernel_rfl
/-- the number that is meant -/
def depN (first d : Int) : Int := if d < 0 then first + (-1 - d) else d
def hasI (ds : List Int) (n : Int) : Bool := ds.any fun d => d == n
/-- which of those that wait are named -/
def markA (l : List Wr) (ds : List Int) : List Value := (List.range 200).map fun t => .bool (decide (t < l.length) && hasI ds (wn l t).num)
theorem length_markA (l : List Wr) (ds : List Int) : (markA l ds).length = 200 := by simp [markA]
theorem markA_at {l : List Wr} {ds : List Int} {t : Nat} (h : t < 200) : (markA l ds)[t]? = some (.bool (decide (t < l.length) && hasI ds (wn l t).num)) := by simp [markA, h]
theorem markA_zero (l : List Wr) : zeroM.toList = markA l [] := by
  unfold markA zeroM
  have e : (fun t => Value.bool (decide (t < l.length) && hasI [] (wn l t).num)) = fun _ => Value.bool false := by funext t; simp [hasI]
  rw [e, List.map_const', List.length_range]
  exact Array.toList_replicate
theorem hasI_snoc (ds : List Int) (d n : Int) : hasI (ds ++ [d]) n = (hasI ds n || d == n) := by simp [hasI]
theorem markA_no {l : List Wr} {ds : List Int} {d : Int} (h : hasN l d = false) : markA l (ds ++ [d]) = markA l ds := by
  unfold markA
  apply List.map_congr_left
  intro t _
  by_cases ht : t < l.length
  · have h1 := (hasN_no.1 h) _ (wn_mem ht)
    have h2 : (d == (wn l t).num) = false := by simp; omega
    rw [hasI_snoc, h2, Bool.or_false]
  · simp [ht]
theorem markA_yes {l : List Wr} {ds : List Int} {d : Int} (hl : Asc l) (hf : l.length ≤ 200) (h : hasN l d = true) : posN l d < l.length ∧ (markA l ds).set (posN l d) (.bool true) = markA l (ds ++ [d]) := by
  obtain ⟨x, hx, hn⟩ := hasN_iff.1 h
  obtain ⟨p, hp, rfl⟩ := List.mem_iff_getElem.1 hx
  rw [← wn_lt hp] at hn
  have hpos : posN l d = p := by rw [← hn]; exact posN_yes hl hp
  rw [hpos]
  refine ⟨hp, ?_⟩
  apply List.ext_getElem
  · simp [markA]
  · intro q h1 h2
    rw [List.getElem_set]
    have hq : q < 200 := by simpa [markA] using h2
    by_cases e : p = q
    · subst e
      simp [markA, hp, hasI_snoc, hn]
    · rw [if_neg e]
      simp only [markA, List.getElem_map, List.getElem_range, hasI_snoc]
      by_cases ht : q < l.length
      · have h2 : (d == (wn l q).num) = false := by
          rw [← hn]
          simp only [beq_eq_false_iff_ne, ne_eq]
          rcases Nat.lt_or_ge p q with h | h
          · have := hl.lt h ht; omega
          · have := hl.lt (show q < p by omega) hp; omega
        rw [h2, Bool.or_false]
      · simp [ht]
/-- those that one comes behind -/
def selA (ds : List Int) (p : Pt) (o : Wr) : Bool := hasI ds o.num || o.p.over p
def ahL (l : List Wr) (ds : List Int) (p : Pt) : List Int := numsL (l.filter (selA ds p))
theorem ahL_step {l : List Wr} {k : Nat} (hk : k < l.length) (ds : List Int) (p : Pt) : ahL (l.take (k + 1)) ds p = if selA ds p (wn l k) = true then ahL (l.take k) ds p ++ [(wn l k).num] else ahL (l.take k) ds p := by
  unfold ahL
  rw [take_wn hk, List.filter_append]
  by_cases e : selA ds p (wn l k) = true
  · rw [if_pos e]; simp [e, numsL]
  · rw [if_neg e]; simp [e, numsL]
theorem length_ahL (l : List Wr) (ds : List Int) (p : Pt) : (ahL l ds p).length ≤ l.length := by
  unfold ahL numsL
  rw [List.length_map]
  exact List.length_filter_le _ _
/-- one that is being added -/
def AddS (W2 wr : World) (k : Int) (p : Pt) (A2 : Option Addr) (c2 : Nat) (xs : List Int) : Prop :=
  wr.heap[W2.heap.size]? = some (.cells #[.int .i64 k, .int .i64 p.b, .int .i64 p.o, .string p.s, .slice A2 xs.length c2, .bool false] 90 (0, 0)) ∧ wr.ownsRow (W2.heap.size + 1) 3 1 (.slice A2 xs.length c2) xs.length (intsI xs) ∧ Below W2.heap.size W2 wr
theorem AddS.keep {W2 wr w2 : World} {k : Int} {p : Pt} {A2 : Option Addr} {c2 : Nat} {xs : List Int} (h : AddS W2 wr k p A2 c2 xs) (hB : Below wr.heap.size wr w2) : AddS W2 w2 k p A2 c2 xs := by
  obtain ⟨h2, h3, h4⟩ := h
  exact ⟨by rw [hB.block _ (Array.getElem?_eq_some_iff.1 h2).1]; exact h2, (Kept.fresh (S := fun _ => False) hB).row h3 (fun _ _ q => q), h4.trans (hB.mono h4.size)⟩
theorem AddS.more {W2 wr w2 : World} {k : Int} {p : Pt} {A2 A3 : Option Addr} {c2 c3 : Nat} {xs ys : List Int} (h : AddS W2 wr k p A2 c2 xs) (hB : Below (W2.heap.size + 1) wr w2) (ho : w2.ownsRow (W2.heap.size + 1) 3 1 (.slice A3 ys.length c3) ys.length (intsI ys)) :
    (w2.cell? ⟨W2.heap.size, 4, none⟩ = some (.slice A2 xs.length c2) ∧ w2.frozen? ⟨W2.heap.size, 4, none⟩ = false) ∧ AddS W2 (w2.setCell ⟨W2.heap.size, 4, none⟩ (.slice A3 ys.length c3)) k p A3 c3 ys := by
  obtain ⟨h2, h3, h4⟩ := h
  have e := (hB.block _ (Nat.lt_succ_self _)).trans h2
  have hk : Kept w2 (w2.setCell ⟨W2.heap.size, 4, none⟩ (.slice A3 ys.length c3)) (fun k => k = W2.heap.size) := ⟨rfl, rfl, rfl, by simp, fun k _ hn => heap_setCell_other w2 ⟨W2.heap.size, 4, none⟩ k _ hn⟩
  refine ⟨⟨cell_of_row w2 _ 4 _ 90 (0, 0) e, frozen_of_row w2 _ 4 _ 90 e⟩, ?_, hk.row ho (fun j hj q => by have := (ho.lt j hj).1; omega), (h4.trans (hB.mono (Nat.le_succ _))).setCell (Nat.le_refl _) _⟩
  have := heap_setCell_same w2 W2.heap.size 4 _ 90 (.slice A3 ys.length c3) e
  simpa using this
/-- an item in a block of its own -/
def ItemV (x : It) (A : Option Addr) (c : Nat) : Value := .agg #[.int .i64 x.p.b, .int .i64 x.p.o, .string x.p.s, .slice A x.d.length c]
set_option maxRecDepth 100000 in
set_option maxHeartbeats 4000000 in
/-- the first loop of add: what is named is marked -/
theorem add_any (ge gd n cc c : Nat) (k first : Int) (S : Nat → Bk) (Fd : Nat → Prop) (l : List Wr) (A : Option Addr) (Ax : Option Addr) (cx : Nat) (x : It) (w : World) (hE : EngAt w ge gd n S cc k l A c Fd) (hI : IntsF w (footE ge A Fd) Ax x.d) (hs : x.small) (hr : x.p.right = true) (hb : x.p.b < n)
    (hl : l.length < 200) (hk0 : 0 ≤ k) (hk1 : k ≤ 1000000) (hf0 : 0 ≤ first) (hf1 : first ≤ 1000000) (hd : ∀ y ∈ x.d, -1000 ≤ y) :
    Calls Try.prog 34 #[.pointer (some ⟨ge, 0, none⟩), ItemV x Ax cx, .int .i64 first] w fun e w' => e = .returned (.tuple #[]) ∧
      Went w w' (footE ge A Fd) (fun F' => ∃ y : Wr, y.num = k ∧ y.p = x.p ∧ y.ah = ahL l (x.d.map (depN first)) x.p ∧ y.wr = false ∧ Eng w' ge n S cc (k + 1) (l ++ [y]) F') := by
  obtain ⟨hz, hzs⟩ := zero_of_info (P := Try.prog) infoM
  obtain ⟨Z, hZ⟩ : ∃ Z, Z = zeroM := ⟨_, rfl⟩
  rw [← hZ] at hz
  have HZ := Lib.hid hZ
  have HS := Lib.hid hzs
  have HE := Lib.hid hE
  have HI := Lib.hid hI
  have HD := Lib.hid hd
  have HSm := Lib.hid hs
  have HPr := Lib.hid hr
  have HPb := Lib.hid hb
  have hge := hE.head.lt
  have hdl := hs.2.1
  obtain ⟨⟨b, o, s⟩, ds⟩ := x
  unfold ItemV
  dsimp only at HI HD HPr HPb hdl ⊢
  obtain ⟨dl, hdl2⟩ : ∃ dl, dl = ds.length := ⟨_, rfl⟩
  have Hdl := Lib.hid hdl2
  rw [← hdl2] at hdl ⊢
  clear hZ hzs hE hI hs hr hb hd hdl2
  go_enter Try.func34, Try.ntmps34
  go_wp2
  have hB1 : Below w.heap.size w ((w.alloc (Obj.cells #[.int .i64 b, .int .i64 o, .string s, .slice Ax dl cx] 34)).alloc (Obj.cells Z 115)) := ((Below.refl _ _).alloc (Nat.le_refl _) _).alloc (by simp) _
  have hi1 : ((w.alloc (Obj.cells #[.int .i64 b, .int .i64 o, .string s, .slice Ax dl cx] 34)).alloc (Obj.cells Z 115)).heap[w.heap.size]? = some (.cells #[.int .i64 b, .int .i64 o, .string s, .slice Ax dl cx] 34 (0, 0)) := heap_alloc2_old w _ _
  have hZ1 : ((w.alloc (Obj.cells #[.int .i64 b, .int .i64 o, .string s, .slice Ax dl cx] 34)).alloc (Obj.cells Z 115)).heap[w.heap.size + 1]? = some (.cells (markA l []).toArray 115 (0, 0)) := by
    rw [← markA_zero, ← HZ.out]; exact heap_alloc2_new w _ _
  generalize (w.alloc (Obj.cells #[.int .i64 b, .int .i64 o, .string s, .slice Ax dl cx] 34)).alloc (Obj.cells Z 115) = W1 at hB1 hi1 hZ1 ⊢
  have HB1 := Lib.hid hB1
  have Hi1 := Lib.hid hi1
  have HZ1 := Lib.hid hZ1
  clear hB1 hi1 hZ1
  have i3 : W1.cell? ⟨w.heap.size, 3, none⟩ = some (.slice Ax dl cx) := cell_of_row W1 _ 3 _ 34 (0, 0) Hi1.out
  have hi3 : w.heap.size < W1.heap.size := (Array.getElem?_eq_some_iff.1 Hi1.out).1
  obtain ⟨ib, hib⟩ : ∃ ib, ib = w.heap.size + 1 := ⟨_, rfl⟩
  have Hib := Lib.hid hib
  rw [← hib] at HZ1 ⊢
  clear hib
  go_wp2
  go_loopw [17, 8, 9, 10] (fun q _ _ _ wr => ∃ j : Nat, j ≤ dl ∧ q = .int .i64 j ∧ Below w.heap.size w wr ∧ Hid (wr.heap[w.heap.size]? = some (.cells #[.int .i64 b, .int .i64 o, .string s, .slice Ax dl cx] 34 (0, 0))) ∧ Hid (wr.heap[ib]? = some (.cells (markA l ((ds.take j).map (depN first))).toArray 115 (0, 0)))) (fun q _ _ _ _ => dl - (intOf q).toNat)
  case atStart => exact ⟨0, Nat.zero_le _, rfl, HB1.out, Hi1.out, HZ1.out⟩
  case round =>
    obtain ⟨j, hj, rfl, hB, hit, hmk⟩ := hrel
    rename World => wr
    have HB := Lib.hid hB
    have hsz := hB.size
    have hE := HE.out.fresh hB
    have HEr := Lib.hid hE
    have e2 := hE.head.c2
    have hgr := hE.head.lt
    have hibr : ib < wr.heap.size := (Array.getElem?_eq_some_iff.1 hmk.out).1
    by_cases hlt : j < dl
    · have hlti : (j : Int) < (dl : Int) := by omega
      have hj0 : (0 : Int) ≤ (j : Int) := by omega
      have hjl : j < ds.length := by rw [← Hdl.out]; exact hlt
      obtain ⟨db, doff, hAx, hdb, _, hdc⟩ := (HI.out.keep (w' := wr) (F' := footE ge A Fd) (G := fun _ => False) (Kept.fresh hB) (fun _ q => q.elim) (fun _ q => .inl q)) (by rw [← Hdl.out]; omega)
      have hdcm := hdc j hjl
      have hmem := HD.out _ (List.getElem_mem hjl)
      have hi64 := HSm.out.2.2 _ (List.getElem_mem hjl)
      have htk : ds.take (j + 1) = ds.take j ++ [ds[j]] := List.take_succ_eq_append_getElem hjl
      have hmap : (ds.take (j + 1)).map (depN first) = (ds.take j).map (depN first) ++ [depN first ds[j]] := by rw [htk, List.map_append]; rfl
      have Hmap := Lib.hid hmap
      obtain ⟨v, hv⟩ : ∃ v, v = ds[j] := ⟨_, rfl⟩
      rw [← hv] at hdcm hi64 hmem Hmap
      obtain ⟨D0, hD0⟩ : ∃ D0, D0 = (ds.take j).map (depN first) := ⟨_, rfl⟩
      rw [← hD0] at hmk Hmap
      subst hAx
      have HPl := Lib.hid (fun W => place_any v hi64 W)
      obtain ⟨u, hu⟩ : ∃ u, u = depN first v := ⟨_, rfl⟩
      have HF := Lib.hid (fun W (hW : Below wr.heap.size wr W) => find_any 0 A c l u W (hE.fresh hW).row hE.asc (by omega))
      have Hno := Lib.hid (@markA_no l D0 u)
      have Hyes := Lib.hid (@markA_yes l D0 u hE.asc (by omega))
      rw [← hu] at Hmap
      have hmkl := length_markA l D0
      have hcap := hE.row.cap
      clear hdc htk hmap hv hD0 hB hE
      obtain ⟨ps, hps⟩ : ∃ ps, ps = posN l u := ⟨_, rfl⟩
      rw [← hps] at HF Hyes
      clear hps
      by_cases hneg : v < 0
      · have hu2 : u = first + (-1 - v) := by rw [hu]; unfold depN; rw [if_pos hneg]
        have hw : IntKind.i64.wrap (first + (-1 - v)) = first + (-1 - v) := by simp [IntKind.wrap, IntKind.bits, IntKind.signed]; omega
        rw [hu2] at HF Hno Hyes Hmap
        clear hu hu2
        cases ht : hasN l (first + (-1 - v)) with
        | true =>
          have hm : Hid (markA l ((ds.take (j + 1)).map (depN first)) = (markA l D0).set ps (.bool true)) := by unfold Hid; rw [Hmap.out, (Hyes.out ht).2]
          have hpl := (Hyes.out ht).1
          have hp0 : (0 : Int) ≤ (ps : Int) := by omega
          have hp1 : (ps : Int) < 200 := by omega
          rw [ht] at HF
          clear ht Hno Hyes Hmap
          have HM : Hid (∀ W, Below wr.heap.size wr W → W.heap[ib]? = some (.cells (markA l D0).toArray 115 (0, 0)) ∧ (W.cell? ⟨ib, ps, none⟩).isSome = true ∧ W.frozen? ⟨ib, ps, none⟩ = false) := fun W hW => by
            have hh := (hW.block _ hibr).trans hmk.out
            refine ⟨hh, ?_, frozen_of_row W _ ps _ 115 hh⟩
            rw [cell_of_row W _ ps _ 115 (0, 0) hh, List.getElem?_toArray, List.getElem?_eq_getElem (by omega)]; rfl
          go_wp2_with (first
              | (go_at_call 62; refine (HPl.out _).mono ?_; rintro e w5 ⟨rfl, rfl⟩)
              | (go_at_call 43; refine (HF.out _ (Below.refl _ _)).mono ?_; rintro e w9 ⟨rfl, hb9⟩; have HB9 := Lib.hid hb9; clear hb9; obtain ⟨m1, m2, m3⟩ := HM.out _ HB9.out; have M1 := Lib.hid m1; obtain ⟨u9, hu9⟩ := Option.isSome_iff_exists.1 m2; clear m1 m2))
          go_roundw
          case rel =>
            have hit9 := (HB9.out.block _ (Array.getElem?_eq_some_iff.1 hit.out).1).trans hit.out
            refine ⟨j + 1, by omega, by go_num, (HB.out.trans (HB9.out.mono hsz)).setCell (p := ⟨ib, ps, none⟩) (by have := Hib.out; show w.heap.size ≤ ib; omega) _, ?_, ?_⟩
            · unfold Hid; rw [heap_setCell_other _ ⟨ib, ps, none⟩ _ _ (by have := Hib.out; show ¬ w.heap.size = ib; omega)]; exact hit9
            · rw [hm.out]; exact BlkIs.set_ (g := ib) (t := 115) M1.out ps _
          case measure => simp [intOf]; omega
        | false =>
          have hm : Hid (markA l ((ds.take (j + 1)).map (depN first)) = markA l D0) := by unfold Hid; rw [Hmap.out, Hno.out ht]
          rw [ht] at HF
          clear ht Hno Hyes Hmap
          go_wp2_with (first
              | (go_at_call 62; refine (HPl.out _).mono ?_; rintro e w5 ⟨rfl, rfl⟩)
              | (go_at_call 43; refine (HF.out _ (Below.refl _ _)).mono ?_; rintro e w9 ⟨rfl, hb9⟩; have HB9 := Lib.hid hb9; clear hb9))
          go_roundw
          case rel =>
            have hit9 := (HB9.out.block _ (Array.getElem?_eq_some_iff.1 hit.out).1).trans hit.out
            exact ⟨j + 1, by omega, by go_num, HB.out.trans (HB9.out.mono hsz), hit9, by unfold Hid; rw [hm.out]; exact (HB9.out.block _ hibr).trans hmk.out⟩
          case measure => simp [intOf]; omega
      · have hneg2 : 0 ≤ v := by omega
        have hu2 : u = v := by rw [hu]; unfold depN; rw [if_neg hneg]
        rw [hu2] at HF Hno Hyes Hmap
        clear hu hu2 hneg
        cases ht : hasN l v with
        | true =>
          have hm : Hid (markA l ((ds.take (j + 1)).map (depN first)) = (markA l D0).set ps (.bool true)) := by unfold Hid; rw [Hmap.out, (Hyes.out ht).2]
          have hpl := (Hyes.out ht).1
          have hp0 : (0 : Int) ≤ (ps : Int) := by omega
          have hp1 : (ps : Int) < 200 := by omega
          rw [ht] at HF
          clear ht Hno Hyes Hmap
          have HM : Hid (∀ W, Below wr.heap.size wr W → W.heap[ib]? = some (.cells (markA l D0).toArray 115 (0, 0)) ∧ (W.cell? ⟨ib, ps, none⟩).isSome = true ∧ W.frozen? ⟨ib, ps, none⟩ = false) := fun W hW => by
            have hh := (hW.block _ hibr).trans hmk.out
            refine ⟨hh, ?_, frozen_of_row W _ ps _ 115 hh⟩
            rw [cell_of_row W _ ps _ 115 (0, 0) hh, List.getElem?_toArray, List.getElem?_eq_getElem (by omega)]; rfl
          go_wp2_with ((go_at_call 43; refine (HF.out _ (Below.refl _ _)).mono ?_; rintro e w9 ⟨rfl, hb9⟩; have HB9 := Lib.hid hb9; clear hb9; obtain ⟨m1, m2, m3⟩ := HM.out _ HB9.out; have M1 := Lib.hid m1; obtain ⟨u9, hu9⟩ := Option.isSome_iff_exists.1 m2; clear m1 m2))
          go_roundw
          case rel =>
            have hit9 := (HB9.out.block _ (Array.getElem?_eq_some_iff.1 hit.out).1).trans hit.out
            refine ⟨j + 1, by omega, by go_num, (HB.out.trans (HB9.out.mono hsz)).setCell (p := ⟨ib, ps, none⟩) (by have := Hib.out; show w.heap.size ≤ ib; omega) _, ?_, ?_⟩
            · unfold Hid; rw [heap_setCell_other _ ⟨ib, ps, none⟩ _ _ (by have := Hib.out; show ¬ w.heap.size = ib; omega)]; exact hit9
            · rw [hm.out]; exact BlkIs.set_ (g := ib) (t := 115) M1.out ps _
          case measure => simp [intOf]; omega
        | false =>
          have hm : Hid (markA l ((ds.take (j + 1)).map (depN first)) = markA l D0) := by unfold Hid; rw [Hmap.out, Hno.out ht]
          rw [ht] at HF
          clear ht Hno Hyes Hmap
          go_wp2_with ((go_at_call 43; refine (HF.out _ (Below.refl _ _)).mono ?_; rintro e w9 ⟨rfl, hb9⟩; have HB9 := Lib.hid hb9; clear hb9))
          go_roundw
          case rel =>
            have hit9 := (HB9.out.block _ (Array.getElem?_eq_some_iff.1 hit.out).1).trans hit.out
            exact ⟨j + 1, by omega, by go_num, HB.out.trans (HB9.out.mono hsz), hit9, by unfold Hid; rw [hm.out]; exact (HB9.out.block _ hibr).trans hmk.out⟩
          case measure => simp [intOf]; omega
    · obtain rfl : j = dl := by omega
      have hlti : ¬ (j : Int) < (j : Int) := by omega
      have hmk2 : Hid (wr.heap[ib]? = some (.cells (markA l (ds.map (depN first))).toArray 115 (0, 0))) := by
        have := hmk.out
        rw [Hdl.out, List.take_length] at this
        exact this
      have i0 : wr.cell? ⟨w.heap.size, 0, none⟩ = some (.int .i64 b) := cell_of_row wr _ 0 _ 34 (0, 0) hit.out
      have i1 : wr.cell? ⟨w.heap.size, 1, none⟩ = some (.int .i64 o) := cell_of_row wr _ 1 _ 34 (0, 0) hit.out
      have i2 : wr.cell? ⟨w.heap.size, 2, none⟩ = some (.string s) := cell_of_row wr _ 2 _ 34 (0, 0) hit.out
      have hiw : w.heap.size < wr.heap.size := (Array.getElem?_eq_some_iff.1 hit.out).1
      have e1 := hE.head.c1
      clear hmk hE hB
      go_wp2
      go_region
      all_goals
        go_wp2
        have hA0 : AddS wr ((wr.alloc (Obj.cells #[.int .i64 k, .int .i64 b, .int .i64 o, .string s, .slice none 0 0, .bool false] 90)).drew) k ⟨b, o, s⟩ none 0 [] := ⟨heap_alloc_new wr _, World.ownsRow_nil _ _ _ _, ((Below.refl _ _).alloc (Nat.le_refl _) _).drew⟩
        generalize (wr.alloc (Obj.cells #[.int .i64 k, .int .i64 b, .int .i64 o, .string s, .slice none 0 0, .bool false] 90)).drew = W3 at hA0 ⊢
        have HA0 := Lib.hid hA0
        clear hA0 i0 i1 i2 i3
        obtain ⟨p, hp⟩ : ∃ p, p = wr.heap.size := ⟨_, rfl⟩
        have Hp := Lib.hid hp
        rw [← hp]
        clear hp
        obtain ⟨D, hD⟩ : ∃ D, D = ds.map (depN first) := ⟨_, rfl⟩
        have HDm := Lib.hid hD
        rw [← hD] at hmk2
        clear hD
        obtain ⟨j0, hj0i, hj0z, hj01, hj02⟩ := info_parts infoI
        go_loopw [52] (fun i wq => ∃ (q : Nat) (A2 : Option Addr) (c2 : Nat), q ≤ l.length ∧ i = .int .i64 q ∧ Hid (AddS wr wq k ⟨b, o, s⟩ A2 c2 (ahL (l.take q) D ⟨b, o, s⟩))) (fun i _ => l.length - (intOf i).toNat)
        case atStart => exact ⟨0, none, 0, Nat.zero_le _, rfl, HA0.out⟩
        case round =>
          obtain ⟨q, A2, c2, hq, rfl, hA⟩ := hrel
          rename World => wq
          by_cases hlt : q < l.length
          · have hlti : (q : Int) < (l.length : Int) := by omega
            have hk0 : (0 : Int) ≤ (q : Int) := by omega
            obtain ⟨hpb, hrow, hBq⟩ := hA.out
            rw [← Hp.out] at hpb
            have HAd := hA
            obtain ⟨ab, hAA, h3, h4, hab, hcs, _⟩ := (HEr.out.fresh hBq).row.at_ hlt
            subst hAA
            unfold maxLen at h4
            have d0 := hcs 0 (by omega)
            have d1 := hcs 1 (by omega)
            have d2 := hcs 2 (by omega)
            have d3 := hcs 3 (by omega)
            have d4 := hcs 4 (by omega)
            have d5 := hcs 5 (by omega)
            have hmq : wq.cell? ⟨ib, q, none⟩ = some (.bool (hasI D (wn l q).num)) := by
              rw [cell_of_row wq _ q _ 115 (0, 0) ((hBq.block _ hibr).trans hmk2.out), List.getElem?_toArray, markA_at (by omega), decide_eq_true hlt, Bool.true_and]
            have hibq : ib < wq.heap.size := Nat.lt_of_lt_of_le hibr hBq.size
            have Hst := Lib.hid (ahL_step hlt D ⟨b, o, s⟩)
            have hyr := HEr.out.right _ (wn_mem hlt)
            obtain ⟨xs, hxs⟩ : ∃ xs, xs = ahL (l.take q) D ⟨b, o, s⟩ := ⟨_, rfl⟩
            have hxl : xs.length ≤ 200 := by
              rw [hxs]
              have := length_ahL (l.take q) D ⟨b, o, s⟩
              rw [List.length_take] at this
              omega
            rw [← hxs] at hrow hpb HAd Hst
            obtain ⟨n2, hn2⟩ : ∃ n2, n2 = xs.length := ⟨_, rfl⟩
            have Hn2 : Hid (xs.length = n2) := hn2.symm
            rw [← hn2] at hrow hpb hxl
            obtain ⟨y, hy⟩ : ∃ y, y = wn l q := ⟨_, rfl⟩
            rw [← hy] at d0 d1 d2 d3 d4 d5 hmq Hst hyr
            have hq200 : q < 200 := by omega
            have p0 : wq.cell? ⟨p, 0, none⟩ = some (.int .i64 k) := cell_of_row wq _ 0 _ 90 (0, 0) hpb
            have p1 : wq.cell? ⟨p, 1, none⟩ = some (.int .i64 b) := cell_of_row wq _ 1 _ 90 (0, 0) hpb
            have p2 : wq.cell? ⟨p, 2, none⟩ = some (.int .i64 o) := cell_of_row wq _ 2 _ 90 (0, 0) hpb
            have p3 : wq.cell? ⟨p, 3, none⟩ = some (.string s) := cell_of_row wq _ 3 _ 90 (0, 0) hpb
            have p4 : wq.cell? ⟨p, 4, none⟩ = some (.slice A2 n2 c2) := cell_of_row wq _ 4 _ 90 (0, 0) hpb
            have hps : p < wq.heap.size := (Array.getElem?_eq_some_iff.1 hpb).1
            have hW2 : wr.heap.size + 1 ≤ wq.heap.size := by rw [← Hp.out]; exact hps
            have hok1 := Pt.ok_of_right hyr
            have hok2 := Pt.ok_of_right HPr.out
            clear hxs hn2 hy hA hpb hcs hyr
            obtain ⟨ny, ⟨yb, yo, ys⟩, ah, a4, c4, yf⟩ := y
            simp [Wr.cs] at d0 d1 d2 d3 d4 d5
            dsimp only at hmq Hst hok1
            generalize ah.length = n4 at *
            have Hsel : Hid (selA D ⟨b, o, s⟩ ⟨ny, ⟨yb, yo, ys⟩, ah, a4, c4, yf⟩ = (hasI D ny || (Pt.mk yb yo ys).over ⟨b, o, s⟩)) := rfl
            have HO := Lib.hid (overlap_any ⟨yb, yo, ys⟩ ⟨b, o, s⟩ · hok1 hok2)
            unfold Pt.v at HO
            dsimp only at HO
            have HBa : Hid (Below wq.heap.size wq (wq.alloc (.cells #[.int .i64 ny, .int .i64 yb, .int .i64 yo, .string ys, .slice a4 n4 c4, .bool yf] 90))) := (Below.refl _ _).alloc (Nat.le_refl _) _
            have Hold : Hid (∀ j, (Value.slice A2 n2 c2).ownBlock = some j → wr.heap.size + 1 ≤ j) := fun j e => (hrow.lt j e).1
            have Hrow : Hid (∀ W, Below wq.heap.size wq W → (W.alloc (.cells #[.int .i64 ny] 3)).ownsRow (wr.heap.size + 1) 3 1 (.slice A2 n2 c2) n2 (intsI xs)) := fun W hW => ((Kept.fresh (S := fun _ => False) hW).row hrow (fun _ _ q => q)).alloc _
            have Hnew : Hid (∀ W : World, ∀ ad, some (⟨W.heap.size, 0, none⟩ : Addr) = some ad → ∀ j u, ([.int .i64 ny] : List Value)[j]? = some u → (W.alloc (.cells #[.int .i64 ny] 3)).cell? (ad.add j) = some u) := fun W ad e j u hu => by
              cases e
              exact World.news_of_block (heap_alloc_new W _) j u hu
            have Hys : Hid (intsI xs ++ [.int .i64 ny] = intsI (xs ++ [ny])) := by simp [intsI, Hid]
            clear hrow hok1 hok2 hBq
            generalize (Pt.mk yb yo ys).over ⟨b, o, s⟩ = t at HO Hsel
            obtain ⟨t1, ht1⟩ : ∃ t1, t1 = hasI D ny := ⟨_, rfl⟩
            rw [← ht1] at hmq Hsel
            clear ht1
            rw [Hsel.out] at Hst
            cases t1 with
            | true =>
              have Hst2 : Hid (ahL (l.take (q + 1)) D ⟨b, o, s⟩ = xs ++ [ny]) := by unfold Hid; rw [Hst.out]; simp
              clear Hst Hsel HO
              go_wp2_with (first
                | (at_builtin; refine wpList_append_src rfl (.tmp 68) (.tmp 71) 24 rfl (wr.heap.size + 1) 3 j0 (.int .i64 0) 1 8 Try.underlying24 hj0i hj0z hj01 hj02 rfl (by decide) (.slice A2 n2 c2) n2 (intsI xs) rfl (Hrow.out _ HBa.out) (some ⟨wq.heap.size + 1, 0, none⟩) 1 1 [.int .i64 ny] rfl rfl (by have := Hnew.out (wq.alloc (.cells #[.int .i64 ny, .int .i64 yb, .int .i64 yo, .string ys, .slice a4 n4 c4, .bool yf] 90)); simpa using this) (fun e => by cases e) (by intro u hu; rw [List.mem_singleton] at hu; rw [hu]; rfl) (by unfold maxLen; omega) (by omega) (by simp; omega) (n2 + 1) rfl ?_; intro A3 c3 w2 ho2 hg2 hor2; have hB3 : Below (wr.heap.size + 1) wq w2 := ((HBa.out.mono (by omega)).alloc (by have := HBa.out.size; omega) _).grown hg2 (by have := HBa.out.size; simp at this ⊢; omega) Hold.out; have HM := Lib.hid (HAd.out.more (ys := xs ++ [ny]) hB3 (by have h := ho2; rw [Hys.out] at h; have e : (xs ++ [ny]).length = n2 + 1 := (by rw [List.length_append, Hn2.out]; rfl); rw [e]; exact h)); have m0 := HM.out.1.1; have m1 := HM.out.1.2; rw [← Hp.out] at m0 m1; rw [Hn2.out] at m0; have m2 : p < w2.heap.size := Nat.lt_of_lt_of_le hps hB3.size; clear ho2 hg2 hor2 hB3))
              go_roundw
              case rel =>
                have hm := HM.out.2
                rw [← Hp.out] at hm
                have e : (xs ++ [ny]).length = n2 + 1 := by rw [List.length_append, Hn2.out]; rfl
                rw [e] at hm
                exact ⟨q + 1, A3, c3, by omega, by go_num, by unfold Hid; rw [Hst2.out]; exact hm⟩
              case measure => simp [intOf]; omega
            | false =>
              cases t with
              | true =>
                have Hst2 : Hid (ahL (l.take (q + 1)) D ⟨b, o, s⟩ = xs ++ [ny]) := by unfold Hid; rw [Hst.out]; simp
                clear Hst Hsel
                go_wp2_with (first
                  | (go_at_call 63; (with_reducible refine (HO.out _).mono ?_); rintro e wc ⟨rfl, hbc⟩; have HC : Hid (Below wq.heap.size wq wc) := ((Below.refl _ _).alloc (Nat.le_refl _) _).trans (hbc.mono (by simp)); have hob := (hbc.block wq.heap.size (by simp)).trans (heap_alloc_new wq _); have o0 : wc.cell? ⟨wq.heap.size, 0, none⟩ = some (.int .i64 ny) := cell_of_row wc _ 0 _ 90 (0, 0) hob; have p4c : wc.cell? ⟨p, 4, none⟩ = some (.slice A2 n2 c2) := (by rw [HC.out.cell (p := ⟨p, 4, none⟩) hps]; exact p4); have hpc : p < wc.heap.size := Nat.lt_of_lt_of_le hps HC.out.size; have hz3 := HC.out.size; clear hbc hob)
                  | (at_builtin; refine wpList_append_src rfl (.tmp 68) (.tmp 71) 24 rfl (wr.heap.size + 1) 3 j0 (.int .i64 0) 1 8 Try.underlying24 hj0i hj0z hj01 hj02 rfl (by decide) (.slice A2 n2 c2) n2 (intsI xs) rfl (Hrow.out _ HC.out) (some ⟨wc.heap.size, 0, none⟩) 1 1 [.int .i64 ny] rfl rfl (Hnew.out wc) (fun e => by cases e) (by intro u hu; rw [List.mem_singleton] at hu; rw [hu]; rfl) (by unfold maxLen; omega) (by omega) (by simp; omega) (n2 + 1) rfl ?_; intro A3 c3 w2 ho2 hg2 hor2; have hB3 : Below (wr.heap.size + 1) wq w2 := ((HC.out.mono (by omega)).alloc (by have := HC.out.size; omega) _).grown hg2 (by have := HC.out.size; simp at this ⊢; omega) Hold.out; have HM := Lib.hid (HAd.out.more (ys := xs ++ [ny]) hB3 (by have h := ho2; rw [Hys.out] at h; have e : (xs ++ [ny]).length = n2 + 1 := (by rw [List.length_append, Hn2.out]; rfl); rw [e]; exact h)); have m0 := HM.out.1.1; have m1 := HM.out.1.2; rw [← Hp.out] at m0 m1; rw [Hn2.out] at m0; have m2 : p < w2.heap.size := Nat.lt_of_lt_of_le hps hB3.size; clear ho2 hg2 hor2 hB3))
                go_roundw
                case rel =>
                  have hm := HM.out.2
                  rw [← Hp.out] at hm
                  have e : (xs ++ [ny]).length = n2 + 1 := by rw [List.length_append, Hn2.out]; rfl
                  rw [e] at hm
                  exact ⟨q + 1, A3, c3, by omega, by go_num, by unfold Hid; rw [Hst2.out]; exact hm⟩
                case measure => simp [intOf]; omega
              | false =>
                have Hst2 : Hid (ahL (l.take (q + 1)) D ⟨b, o, s⟩ = xs) := by unfold Hid; rw [Hst.out]; simp
                clear Hst Hsel
                go_wp2_with (go_at_call 63; (with_reducible refine (HO.out _).mono ?_); rintro e wc ⟨rfl, hbc⟩; have HC := Lib.hid (HBa.out.trans (hbc.mono (by simp))); clear hbc)
                go_roundw
                case rel => exact ⟨q + 1, A2, c2, by omega, by go_num, by unfold Hid; rw [Hst2.out]; exact HAd.out.keep HC.out⟩
                case measure => simp [intOf]; omega
          · obtain rfl : q = l.length := by omega
            have hlti : ¬ (l.length : Int) < (l.length : Int) := by omega
            rw [List.take_length] at hA
            obtain ⟨hpb, hrow, hBq⟩ := hA.out
            rw [← Hp.out] at hpb
            have HEq := Lib.hid (HEr.out.fresh hBq)
            obtain ⟨xs, hxs⟩ : ∃ xs, xs = ahL l D ⟨b, o, s⟩ := ⟨_, rfl⟩
            rw [← hxs] at hrow hpb
            have Hxs := Lib.hid hxs
            obtain ⟨n2, hn2⟩ : ∃ n2, n2 = xs.length := ⟨_, rfl⟩
            have Hn2 : Hid (xs.length = n2) := hn2.symm
            rw [← hn2] at hrow hpb
            have g2 := HEq.out.head.c2
            have g3 := HEq.out.head.lt
            have hll : l.length ≤ 200 := by omega
            have hps : p < wq.heap.size := (Array.getElem?_eq_some_iff.1 hpb).1
            have hwq : w.heap.size ≤ wq.heap.size := by have := hBq.size; omega
            have HBq := Lib.hid hBq
            have HAh : Hid (AhAt wq ⟨k, ⟨b, o, s⟩, xs, A2, c2, false⟩) := by
              unfold Hid AhAt
              dsimp only
              rw [Hn2.out]
              exact row_zero hrow
            have P0 : wq.cell? ⟨p, 0, none⟩ = some (.int .i64 k) := cell_of_row wq _ 0 _ 90 (0, 0) hpb
            have P1 : wq.cell? ⟨p, 1, none⟩ = some (.int .i64 b) := cell_of_row wq _ 1 _ 90 (0, 0) hpb
            have P2 : wq.cell? ⟨p, 2, none⟩ = some (.int .i64 o) := cell_of_row wq _ 2 _ 90 (0, 0) hpb
            have P3 : wq.cell? ⟨p, 3, none⟩ = some (.string s) := cell_of_row wq _ 3 _ 90 (0, 0) hpb
            have P4 : wq.cell? ⟨p, 4, none⟩ = some (.slice A2 n2 c2) := cell_of_row wq _ 4 _ 90 (0, 0) hpb
            have P5 : wq.cell? ⟨p, 5, none⟩ = some (.bool false) := cell_of_row wq _ 5 _ 90 (0, 0) hpb
            clear hrow hA hxs hn2 hpb hBq
            have Hone : Hid (∀ u ∈ ([.int .i64 k, .int .i64 b, .int .i64 o, .string s, .slice A2 n2 c2, .bool false] : List Value), u.oneCell' = true) := by
              intro u hu
              simp at hu
              rcases hu with rfl | rfl | rfl | rfl | rfl | rfl <;> rfl
            have HX : Hid ((wq.drew.alloc (.cells #[.int .i64 k, .int .i64 b, .int .i64 o, .string s, .slice A2 n2 c2, .bool false] 90)).ownsRow 0 90 6 (.slice A l.length c) l.length (flatW l)) := ((HEq.out.row.row).drew).alloc _
            have HN : Hid (∀ ad, some (⟨wq.heap.size, 0, none⟩ : Addr) = some ad → ∀ j u, ([.int .i64 k, .int .i64 b, .int .i64 o, .string s, .slice A2 n2 c2, .bool false] : List Value)[j]? = some u → (wq.drew.alloc (.cells #[.int .i64 k, .int .i64 b, .int .i64 o, .string s, .slice A2 n2 c2, .bool false] 90)).cell? (ad.add j) = some u) := fun ad e j u hu => by
              cases e
              exact World.news_of_block (heap_alloc_new wq.drew _) j u hu
            have HBd : Hid (Below wq.heap.size wq (wq.drew.alloc (.cells #[.int .i64 k, .int .i64 b, .int .i64 o, .string s, .slice A2 n2 c2, .bool false] 90))) := ((Below.refl _ _).drew).alloc (Nat.le_refl _) _
            have hsA : (wq.alloc (.cells #[.int .i64 k, .int .i64 b, .int .i64 o, .string s, .slice A2 n2 c2, .bool false] 90)).cell? ⟨ge, 2, none⟩ = some (.slice A l.length c) := (HEq.out.fresh ((Below.refl _ _).alloc (Nat.le_refl _) _)).head.c2
            have hne2 := World.new_ne wq ⟨ge, 2, none⟩ g2
            obtain ⟨i0, hi0, hz0, hz1, hz2⟩ := info_parts infoW
            go_wp2
            go_region_law (refine step_append_src rfl (.tmp 79) (.tmp 81) 70 rfl 0 90 i0 _ 6 72 Try.underlying70 hi0 hz0 hz1 hz2 rfl (by decide) (.slice A l.length c) l.length (flatW l) rfl HX.out (some ⟨wq.heap.size, 0, none⟩) 1 1 [.int .i64 k, .int .i64 b, .int .i64 o, .string s, .slice A2 n2 c2, .bool false] rfl rfl HN.out (fun e => by cases e) Hone.out (by unfold maxLen; omega) (by omega) (by simp) (l.length + 1) (by omega) ?_; intro A3 c3 w2 ho2 hg2 hor2; have hpu := HEq.out.pushed (x := ⟨k, ⟨b, o, s⟩, xs, A2, c2, false⟩) HBd.out (by rw [← own_eq A l.length c]; exact hg2) (by have e : (Wr.mk k ⟨b, o, s⟩ xs A2 c2 false).cs = [.int .i64 k, .int .i64 b, .int .i64 o, .string s, .slice A2 n2 c2, .bool false] := (by unfold Wr.cs; dsimp only; rw [Hn2.out]); rw [e]; exact ho2) (by rw [own_eq, own_eq] at hor2; rcases hor2 with q | q; exact .inl q; exact .inr (by rw [q]; simp)) HAh.out rfl hk0 HPr.out HPb.out hl; obtain ⟨⟨t0, t1, t2⟩, hpu⟩ := hpu; have HPu := Lib.hid hpu; clear ho2 hg2 hor2 hpu)
            all_goals
              have hv := HPu.out _ rfl
              generalize w2.setCell ⟨ge, 2, none⟩ (.slice A3 (l.length + 1) c3) = w5 at hv ⊢
              obtain ⟨⟨u1, u2, u3⟩, hE5, hK5, hF5⟩ := hv
              have HE5 := Lib.hid hE5
              have HK5 := Lib.hid hK5
              have HF5 := Lib.hid hF5
              clear hE5 hK5 hF5 t0 t1 t2 HPu
              go_wp2
              go_end0
              have hB0 : Below w.heap.size w wq := HB.out.trans (HBq.out.mono HB.out.size)
              refine ⟨rfl, footE ge A3 Fd, ⟨⟨k, ⟨b, o, s⟩, xs, A2, c2, false⟩, rfl, rfl, ?_, rfl, ⟨gd, A3, c3, Fd, HE5.out, rfl⟩⟩, (Kept.fresh (S := footE ge A Fd) hB0).trans HK5.out (fun b q => .inl q), fun b q => (HF5.out b q).imp id (fun q => by omega)⟩
              show xs = _
              rw [Hxs.out, HDm.out]
end Go.Proofs.Ytegacggkdjgdiaa
