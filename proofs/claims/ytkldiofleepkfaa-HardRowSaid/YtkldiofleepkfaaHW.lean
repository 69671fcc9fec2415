/- Those that wait and that a patch comes behind: ahead. -/
import Derived.Test.YtkldiofleepkfaaHV
import Derived.Sort.OwnSortedInts
import Derived.Lib.OwnBridge
import Derived.Lib.RowBridge
set_option linter.unusedVariables false
set_option linter.unusedSimpArgs false
namespace Go.Proofs.Ytkldiofleepkfaa.Hd
open Go.RowKit Go.Sort
open Go.Maps (Keyed)
theorem asc_ext : ∀ {a b : List Int}, a.Pairwise (· < ·) → b.Pairwise (· < ·) → (∀ x, x ∈ a ↔ x ∈ b) → a = b
  | [], [], _, _, _ => rfl
  | [], y :: b, _, _, h => by have := (h y).2 List.mem_cons_self; cases this
  | x :: a, [], _, _, h => by have := (h x).1 List.mem_cons_self; cases this
  | x :: a, y :: b, ha, hb, h => by
    obtain ⟨ha1, ha2⟩ := List.pairwise_cons.1 ha
    obtain ⟨hb1, hb2⟩ := List.pairwise_cons.1 hb
    have hxy : x = y := by
      rcases List.mem_cons.1 ((h x).1 List.mem_cons_self) with q | q
      · exact q
      · rcases List.mem_cons.1 ((h y).2 List.mem_cons_self) with q2 | q2
        · exact q2.symm
        · have := hb1 x q; have := ha1 y q2; omega
    subst hxy
    rw [asc_ext ha2 hb2 (fun z => ⟨fun hz => by
      rcases List.mem_cons.1 ((h z).1 (List.mem_cons_of_mem _ hz)) with q | q
      · subst q; have := ha1 z hz; omega
      · exact q, fun hz => by
      rcases List.mem_cons.1 ((h z).2 (List.mem_cons_of_mem _ hz)) with q | q
      · subst q; have := hb1 z hz; omega
      · exact q⟩)]
def srt (l : List Int) : List Int := l.mergeSort fun x y => decide (x ≤ y)
theorem length_srt (l : List Int) : (srt l).length = l.length := List.length_mergeSort l
theorem mem_srt {l : List Int} {x : Int} : x ∈ srt l ↔ x ∈ l := List.mem_mergeSort
theorem srt_le (l : List Int) : (srt l).Pairwise (· ≤ ·) := by
  have := List.pairwise_mergeSort (le := fun x y : Int => decide (x ≤ y)) (fun a b c h1 h2 => by simp at *; omega) (fun a b => by simp; omega) l
  unfold srt
  exact this.imp (fun h => by simpa using h)
theorem sort_any (B : Nat) (A : Option Addr) (n c : Nat) (zs : List Int) (w : World) (h : w.ownsRow B 3 1 (.slice A n c) n (intsI zs)) (hn : n ≤ 1000) :
    Calls Try.prog 42 #[.slice A n c] w fun e w' => e = .returned (.tuple #[]) ∧ w'.ownsRow B 3 1 (.slice A n c) n (intsI (srt zs)) ∧ w.grownBy w' (Value.slice A n c).ownBlock := by
  have hz : zs.length = n := by have := h.1; simpa [intsI] using this
  rcases h.2 with ⟨q, h0⟩ | ⟨g, cap, cur, q, hB, hb, h1, h2, h3, h4⟩
  · obtain ⟨rfl, rfl, rfl⟩ := Value.slice.inj q
    refine (AnyM.slices_Sort_int_none Try.sort42 none 0 w).mono ?_
    rintro e w' ⟨rfl, rfl⟩
    have : zs = [] := List.eq_nil_of_length_eq_zero hz
    subst this
    exact ⟨rfl, by simpa [srt] using h, World.grownBy.refl _ _⟩
  · obtain ⟨rfl, _, rfl⟩ := Value.slice.inj q
    subst hz
    rw [Nat.mul_one] at h4
    have hH := holds_of_blockI hb h4
    refine (AnyM.slices_Sort_int Try.sort42 g 0 c zs w hH (Array.getElem?_eq_some_iff.1 hb).1 (by omega)).mono ?_
    rintro e w' ⟨rfl, m, os, rfl⟩
    exact ⟨rfl, ownsRow_sortedI (length_srt zs) hB hb h1 h2 h3, grownBy_sortedI _⟩

theorem srt_eq {T xs : List Int} (hn : T.Nodup) (hr : xs.Pairwise (· < ·)) (h : ∀ x, x ∈ T ↔ x ∈ xs) : srt T = xs :=
  eq_of_rises ((List.mergeSort_perm T _).trans ((List.perm_ext_iff_of_nodup hn (hr.imp (fun q e => by omega))).2 h)) (srt_le T) hr
def ItemV (x : It) (A : Option Addr) (c : Nat) : Value := .agg #[.int .i64 x.p.b, .int .i64 x.p.o, .string x.p.s, .slice A x.d.length c]
theorem map_take_depN {ds : List Int} {j : Nat} (h : j < ds.length) (first : Int) : (ds.take (j + 1)).map (depN first) = (ds.take j).map (depN first) ++ [depN first (un ds j)] := by
  rw [List.take_succ_eq_append_getElem h, List.map_append, un_lt h]; rfl
set_option maxRecDepth 100000 in
set_option maxHeartbeats 4000000 in
theorem ahead_any {w : World} {g gd n cc : Nat} {S : Nat → Bk} {k jo id : Int} {l : List Hw} {sent : List Int} {m : Lay} {Fd : Nat → Prop} (h : HAt w g gd n S cc k jo id l sent m Fd) (hcc : cc ≤ 100000) (hk : k ≤ 1000000) (F : Nat → Prop) (Ax : Option Addr) (cx : Nat) (x : It) (hI : IntsF w F Ax x.d) (hs : x.small) (hr : x.p.right = true)
    (first : Int) (hf0 : 0 ≤ first) (hf1 : first ≤ 1000000) (hd : ∀ y ∈ x.d, -1000 ≤ y) :
    Calls Try.prog 38 #[.pointer (some ⟨g, 0, none⟩), ItemV x Ax cx, .int .i64 first] w (Says w (ahH l (x.d.map (depN first)) x.p)) := by
  have HH := Lib.hid h
  have Hok := Lib.hid h.ok
  have HI := Lib.hid hI
  have HD := Lib.hid hd
  have HSm := Lib.hid hs
  have HPr := Lib.hid hr
  have hge := h.glt
  have hfew := h.few
  have hmm := @run_makeMap Try.prog
  obtain ⟨i0, hi0, hz0, hz1, hz2⟩ := info_parts infoIn
  have hdl := hs.2.1
  obtain ⟨⟨b, o, s⟩, ds⟩ := x
  unfold ItemV
  dsimp only at HI HD HPr hdl ⊢
  obtain ⟨D0, hD0⟩ : ∃ D0, D0 = ds.map (depN first) := ⟨_, rfl⟩
  have HD0 := Lib.hid hD0
  rw [← hD0]
  obtain ⟨dl, hdl2⟩ : ∃ dl, dl = ds.length := ⟨_, rfl⟩
  have Hdl := Lib.hid hdl2
  rw [← hdl2] at hdl ⊢
  clear h hI hs hr hd hdl2 hD0
  go_enter Try.func38, Try.ntmps38
  go_wp2
  have hB1 : Below w.heap.size w ((w.alloc (Obj.cells #[.int .i64 b, .int .i64 o, .string s, .slice Ax dl cx] 35)).alloc (.map #[] 0)) := ((Below.refl _ _).alloc (Nat.le_refl _) _).alloc (by simp) _
  have hi1 : ((w.alloc (Obj.cells #[.int .i64 b, .int .i64 o, .string s, .slice Ax dl cx] 35)).alloc (.map #[] 0)).heap[w.heap.size]? = some (.cells #[.int .i64 b, .int .i64 o, .string s, .slice Ax dl cx] 35 (0, 0)) := heap_alloc2_old w _ _
  have hs1 : SetAt ((w.alloc (Obj.cells #[.int .i64 b, .int .i64 o, .string s, .slice Ax dl cx] 35)).alloc (.map #[] 0)) (w.heap.size + 1) 0 [] := by
    have := set_made (w.alloc (Obj.cells #[.int .i64 b, .int .i64 o, .string s, .slice Ax dl cx] 35))
    rwa [size_alloc1] at this
  generalize (w.alloc (Obj.cells #[.int .i64 b, .int .i64 o, .string s, .slice Ax dl cx] 35)).alloc (.map #[] 0) = W1 at hB1 hi1 hs1 ⊢
  have HB1 := Lib.hid hB1
  have Hi1 := Lib.hid hi1
  have HS1 := Lib.hid hs1
  have i3 : W1.cell? ⟨w.heap.size, 3, none⟩ = some (.slice Ax dl cx) := cell_of_row W1 _ 3 _ 35 (0, 0) hi1
  have hi3 : w.heap.size < W1.heap.size := (Array.getElem?_eq_some_iff.1 hi1).1
  clear hB1 hi1 hs1
  obtain ⟨sb, hsb⟩ : ∃ sb, sb = w.heap.size + 1 := ⟨_, rfl⟩
  have Hsb := Lib.hid hsb
  rw [← hsb] at HS1 ⊢
  clear hsb
  go_wp2
  go_loopw [21] (fun q wr => ∃ (j ct : Nat) (T : List Int), j ≤ dl ∧ q = .int .i64 j ∧ ct ≤ j ∧ Hid (SetAt wr sb ct T) ∧ Hid (∀ z, z ∈ T ↔ z ∈ (ds.take j).map (depN first) ∧ hasN l z = true) ∧ Below w.heap.size w wr ∧ Hid (wr.heap[w.heap.size]? = some (.cells #[.int .i64 b, .int .i64 o, .string s, .slice Ax dl cx] 35 (0, 0)))) (fun q _ => dl - (intOf q).toNat)
  case atStart => exact ⟨0, 0, [], Nat.zero_le _, rfl, Nat.le_refl _, HS1.out, fun z => by simp, HB1.out, Hi1.out⟩
  case round =>
    obtain ⟨j, ct, T, hj, rfl, hct, hset, hT, hB, hit⟩ := hrel
    rename World => wr
    have HB := Lib.hid hB
    have hsz := hB.size
    have HHr := HH.out.fresh hB
    have e4 := HHr.c4
    have hger := HHr.glt
    by_cases hlt : j < dl
    · have hlti : (j : Int) < (dl : Int) := by omega
      have hj0 : (0 : Int) ≤ (j : Int) := by omega
      have hjl : j < ds.length := by rw [← Hdl.out]; exact hlt
      obtain ⟨db, doff, hAx, hdb, _, hdc⟩ := (HI.out.keep (w' := wr) (F' := F) (G := fun _ => False) (Kept.fresh hB) (fun _ q => q.elim) (fun _ q => .inl q)) (by rw [← Hdl.out]; omega)
      have hdcm := hdc j hjl
      rw [← un_lt hjl] at hdcm
      have hmem := HD.out _ (un_mem hjl)
      have hi64 := HSm.out.2.2 _ (un_mem hjl)
      dsimp only at hi64
      have Hmap := Lib.hid (map_take_depN hjl first)
      obtain ⟨v, hv⟩ : ∃ v, v = un ds j := ⟨_, rfl⟩
      rw [← hv] at hdcm hmem hi64 Hmap
      subst hAx
      have HPl := Lib.hid (fun W => place_any v hi64 W)
      obtain ⟨u, hu⟩ : ∃ u, u = depN first v := ⟨_, rfl⟩
      rw [← hu] at Hmap
      have hwu : WfI u := by rw [hu]; unfold depN; unfold WfI at *; split <;> omega
      have HK := Lib.hid (keyI hwu)
      obtain ⟨Dw, hD1, hD2, hD3⟩ := HHr.wlook u
      have H1 := Lib.hid hD1
      obtain ⟨D, hs1, hs2⟩ := hset.out
      have hsbl : sb < wr.heap.size := hset.out.lt
      have HSo := Lib.hid hs1
      have HC : Hid (ct < maxLen) := by unfold Hid maxLen; omega
      have HF : Hid (∀ w7 : World, w7.ownsMap Try.prog 3 unitElem sb (ct + 1) (D.put (.int .i64 u) (.agg [])) → SetAt w7 sb (ct + 1) (u :: T)) := fun w7 h7 => by
        refine ⟨_, h7, fun z => ?_⟩
        by_cases e : z = u
        · rw [e, Maps.has_put_same hs1.isMap (isKey _)]; simp
        · rw [Maps.has_put_other (ne_key e), hs2 z]; simp [e]
      have Hsbw : Hid (w.heap.size + 1 ≤ sb) := by rw [Hsb.out]; exact Nat.le_refl _
      have HTy : Hid (hasN l u = true → ∀ z, z ∈ u :: T ↔ z ∈ (ds.take (j + 1)).map (depN first) ∧ hasN l z = true) := fun q z => by
        rw [Hmap.out, List.mem_append, List.mem_singleton, List.mem_cons, hT.out z]
        by_cases e : z = u
        · subst e; simp [q]
        · simp [e]
      have HTn : Hid (hasN l u = false → ∀ z, z ∈ T ↔ z ∈ (ds.take (j + 1)).map (depN first) ∧ hasN l z = true) := fun q z => by
        rw [Hmap.out, List.mem_append, List.mem_singleton, hT.out z]
        by_cases e : z = u
        · subst e; simp [q]
        · simp [e]
      have hwp : v < 0 → IntKind.i64.wrap (first + (-1 - v)) = first + (-1 - v) := fun q => by simp [IntKind.wrap, IntKind.bits, IntKind.signed]; omega
      have hu1 : v < 0 → u = first + (-1 - v) := fun q => by rw [hu]; unfold depN; rw [if_pos q]
      have hu2 : ¬ v < 0 → u = v := fun q => by rw [hu]; unfold depN; rw [if_neg q]
      have HBn := Lib.hid hB
      cases hw : hasN l u with
      | false =>
        have Hh : Hid (Maps.has Dw (.int .i64 u) = false) := hD2.trans hw
        have Hnx := Lib.hid (HTn.out hw)
        clear hD1 hD2 hD3 hs1 hs2 HTy HTn hB hdc hw hT hv HF HSo hu hwu
        by_cases hneg : v < 0
        · have hwp' := hwp hneg
          obtain rfl := hu1 hneg
          clear hwp hu1 hu2
          go_wp2_with (first
            | (go_at_call 37; refine (HPl.out _).mono ?_; rintro e w5 ⟨rfl, rfl⟩)
            | (at_lookup; refine wpList_lookup_own_ok _ rfl _ _ 42 rfl 3 82 lawI Try.underlying42 RV (zeroW _) (.held (.pointer none)) [] rfl m.gw cc Dw rfl H1.out _ _ rfl HK.out ?_; intro v ps hv; rw [Hh.out]; clear hv))
          go_roundw
          case rel => exact ⟨j + 1, ct, T, by omega, by go_num, by omega, hset.out, Hnx.out, HBn.out, hit.out⟩
          case measure => simp [intOf]; omega
        · obtain rfl := hu2 hneg
          clear hwp hu1 hu2
          go_wp2_with (at_lookup; refine wpList_lookup_own_ok _ rfl _ _ 42 rfl 3 82 lawI Try.underlying42 RV (zeroW _) (.held (.pointer none)) [] rfl m.gw cc Dw rfl H1.out _ _ rfl HK.out ?_; intro v ps hv; rw [Hh.out]; clear hv)
          go_roundw
          case rel => exact ⟨j + 1, ct, T, by omega, by go_num, by omega, hset.out, Hnx.out, HBn.out, hit.out⟩
          case measure => simp [intOf]; omega
      | true =>
        have Hh : Hid (Maps.has Dw (.int .i64 u) = true) := hD2.trans hw
        have Hat := Lib.hid (hD3 hw)
        have Hnx := Lib.hid (HTy.out hw)
        clear hD1 hD2 hD3 hs1 hs2 HTy HTn hB hdc hw hT hv hu hwu
        generalize m.wp u = yb at *
        by_cases hneg : v < 0
        · have hwp' := hwp hneg
          obtain rfl := hu1 hneg
          clear hwp hu1 hu2
          go_wp2_with (first
            | (go_at_call 37; refine (HPl.out _).mono ?_; rintro e w5 ⟨rfl, rfl⟩)
            | (at_lookup; refine wpList_lookup_own_ok _ rfl _ _ 42 rfl 3 82 lawI Try.underlying42 RV (zeroW _) (.held (.pointer none)) [] rfl m.gw cc Dw rfl H1.out _ _ rfl HK.out ?_; intro v ps hv; rw [Hh.out]; obtain rfl := Hat.out v ps hv; clear hv)
            | (at_mapUpdate; refine wpList_mapUpdate_own _ rfl _ _ _ 109 rfl 3 110 lawI Try.underlying109 unitElem sb ct D rfl HSo.out HC.out _ _ (.int .i64 (first + (-1 - v))) rfl rfl HK.out (.agg []) [] rfl ?_; intro w7 h7 hg7; have H7 := Lib.hid (HF.out w7 h7); have HG7 := Lib.hid hg7; clear h7 hg7))
          go_roundw
          case rel => exact ⟨j + 1, ct + 1, _, by omega, by go_num, by omega, H7.out, Hnx.out, HBn.out.grown HG7.out hsz (fun k e => by injection e with e; have := Hsbw.out; omega), by unfold Hid; rw [HG7.out.block _ (by have := Hsbw.out; omega) (fun e => by injection e with e; have := Hsbw.out; omega)]; exact hit.out⟩
          case measure => simp [intOf]; omega
        · obtain rfl := hu2 hneg
          clear hwp hu1 hu2
          go_wp2_with (first
            | (at_lookup; refine wpList_lookup_own_ok _ rfl _ _ 42 rfl 3 82 lawI Try.underlying42 RV (zeroW _) (.held (.pointer none)) [] rfl m.gw cc Dw rfl H1.out _ _ rfl HK.out ?_; intro v ps hv; rw [Hh.out]; obtain rfl := Hat.out v ps hv; clear hv)
            | (at_mapUpdate; refine wpList_mapUpdate_own _ rfl _ _ _ 109 rfl 3 110 lawI Try.underlying109 unitElem sb ct D rfl HSo.out HC.out _ _ (.int .i64 u) rfl rfl HK.out (.agg []) [] rfl ?_; intro w7 h7 hg7; have H7 := Lib.hid (HF.out w7 h7); have HG7 := Lib.hid hg7; clear h7 hg7))
          go_roundw
          case rel => exact ⟨j + 1, ct + 1, _, by omega, by go_num, by omega, H7.out, Hnx.out, HBn.out.grown HG7.out hsz (fun k e => by injection e with e; have := Hsbw.out; omega), by unfold Hid; rw [HG7.out.block _ (by have := Hsbw.out; omega) (fun e => by injection e with e; have := Hsbw.out; omega)]; exact hit.out⟩
          case measure => simp [intOf]; omega
    · obtain rfl : j = dl := by omega
      have hlti : ¬ (j : Int) < (j : Int) := by omega
      have HTn : Hid (∀ z, hasN l z = true → (z ∈ T ↔ z ∈ D0)) := fun z q => by rw [hT.out z, Hdl.out, List.take_length, ← HD0.out]; simp [q]
      obtain ⟨P, hP⟩ : ∃ P : Int → Prop, P = fun z => ∃ y ∈ l, y.num = z ∧ selH D0 ⟨b, o, s⟩ y = true := ⟨_, rfl⟩
      have HP := Lib.hid hP
      obtain ⟨Dm, h1, h2, h3⟩ := HHr.wmap
      have H1 := Lib.hid h1
      have H3 := Lib.hid h3
      have hszm : Maps.size Dm ≤ 200 := by rw [keys_sizeH (nodup_rise (nums_rise Hok.out.asc)) h1 h2]; simp only [nums, List.length_map]; exact hfew
      have hgw := h1.lt
      have Hin : Hid (∀ w0, w0.ranges Try.prog 3 RV m.gw wr.heap.size cc Dm (Maps.has Dm) (Maps.size Dm) → wr.grownBy w0 none → w0.heap.size = wr.heap.size + 1 → AhS wr w0 m.gw wr.heap.size cc Dm (nums l) P (Maps.has Dm) (Maps.size Dm) [] none 0) := fun w0 r0 g0 s0 =>
        ⟨r0, fun x hx => (h2 x).1 hx, ⟨g0.os, g0.tape, g0.output, g0.size, fun k hk => g0.block k hk (by simp)⟩, by omega, World.ownsRow_nil _ _ _ _, List.nodup_nil, by simp, fun x => by
          constructor
          · intro q; cases q
          · rintro ⟨⟨q, _⟩, q2⟩
            have := (h2 x).2 q
            rw [this] at q2; cases q2⟩
      have HSetW : Hid (∀ W, Below wr.heap.size wr W → SetAt W sb ct T) := fun W hW => hset.out.fresh hW
      have HItW : Hid (∀ W, Below wr.heap.size wr W → w.heap.size < W.heap.size ∧ W.cell? ⟨w.heap.size, 0, none⟩ = some (.int .i64 b) ∧ W.cell? ⟨w.heap.size, 1, none⟩ = some (.int .i64 o) ∧ W.cell? ⟨w.heap.size, 2, none⟩ = some (.string s)) := fun W hW => by
        have hh := (hW.block _ (Array.getElem?_eq_some_iff.1 hit.out).1).trans hit.out
        exact ⟨(Array.getElem?_eq_some_iff.1 hh).1, cell_of_row W _ 0 _ 35 (0, 0) hh, cell_of_row W _ 1 _ 35 (0, 0) hh, cell_of_row W _ 2 _ 35 (0, 0) hh⟩
      have HHx := Lib.hid HHr
      have hcw : w.heap.size ≤ wr.heap.size := hsz
      clear hB hT hset hit h1 h2 h3 hP HHr
      go_wp2_with (at_range; refine wpList_range_own _ rfl _ 42 rfl 3 82 lawI Try.underlying42 RV m.gw cc Dm rfl H1.out ?_; intro w0 hrg0 hg0 hs0; have HE := Lib.hid (Hin.out w0 hrg0 hg0 hs0); clear hrg0 hg0 hs0)
      clear e4
      go_loopw [12] (fun s wi => ∃ (left : Lit → Bool) (cnt : Nat) (T2 : List Int) (A : Option Addr) (c : Nat), s = .slice A T2.length c ∧ Hid (AhS wr wi m.gw wr.heap.size cc Dm (nums l) P left cnt T2 A c)) (fun _ wi => wi.rangeLeft m.gw wr.heap.size)
      case atStart => exact ⟨_, _, [], none, 0, rfl, HE.out⟩
      case round =>
        obtain ⟨left, cnt, T2, A, c, rfl, hE⟩ := hrel
        rename World => wi
        have HrgL := Lib.hid hE.out.1
        have hTl : T2.length ≤ 900 := by have := hE.out.2.2.2.2.2.2.1; omega
        go_wp2_with (at_next; refine wpList_next_ptr rfl _ rfl 3 lawI Try.underlying3 m.gw wr.heap.size cc Dm left cnt rfl HrgL.out (nums l) m.wp hE.out.2.1 H3.out ?_ ?_)
        · intro hc0 hl0
          obtain ⟨_, _, hB, hrl, hrow, hnd, _, hm⟩ := hE.out
          have Heq : Hid (srt T2 = ahH l D0 ⟨b, o, s⟩) := srt_eq hnd (ahH_rise Hok.out.asc _ _) (fun x => by
            rw [hm, mem_ahH, HP.out]
            exact ⟨fun q => q.1.2, fun q => ⟨⟨by obtain ⟨y, hy, e, _⟩ := q; exact mem_nums.2 ⟨y, hy, e⟩, q⟩, hl0 _⟩⟩)
          have HS := Lib.hid (sort_any _ A T2.length c T2 wi hrow (by omega))
          have HB2 := Lib.hid hB
          have Hrl := Lib.hid hrl
          have Hlt : Hid (∀ b, (Value.slice A T2.length c).ownBlock = some b → wr.heap.size ≤ b) := fun b hb => by have := (hrow.lt b hb).1; omega
          have Hl : Hid ((ahH l D0 ⟨b, o, s⟩).length = T2.length) := by unfold Hid; rw [← Heq.out, length_srt]
          clear hB hrow hnd hm hl0 hc0 hrl hE HrgL
          go_wp2_with (go_at_call 42; refine HS.out.mono ?_; rintro e w' ⟨rfl, hr', hg'⟩; have HR' := Lib.hid hr'; have HG' := Lib.hid hg'; clear hr' hg')
          go_ret
          unfold Says
          rw [Hl.out, ← Heq.out]
          exact ⟨A, c, rfl, (HR'.out).mono (by omega), HB.out.trans ((HB2.out.grown HG'.out (by have := Hrl.out; omega) (fun b e => Hlt.out b e)).mono hcw)⟩
        · intro x w1 cnt1 hx hlx hrg1 hlt hg1 hs1 hen
          obtain ⟨y, hy, rfl⟩ := mem_nums.1 hx
          have hB1 : Below wr.heap.size wr w1 := hE.out.2.2.1.trans (grown_below hg1 (Nat.le_refl _) (by have := hE.out.2.2.2.1; omega))
          have hrl := hE.out.2.2.2.1
          have HLt := Lib.hid hlt
          have HrgO := Lib.hid hE.out.1
          have HTk := Lib.hid (fun (hp : P y.num) (w2 w3 : World) (hb : Below w1.heap.size w1 w2) A2 c2 o hg3 hr3 => hE.out.took (w2 := w2) (w3 := w3) (A2 := A2) (c2 := c2) (Nat.le_refl _) hgw hx hp hlx hrg1 hlt hg1 hs1 hb o hg3 hr3)
          have HSk := Lib.hid (fun (hp : ¬ P y.num) (w2 : World) (hb : Below w1.heap.size w1 w2) => hE.out.skip (w2 := w2) (Nat.le_refl _) hp hrg1 hlt hg1 hs1 hb)
          have Hrow : Hid (∀ W, Below w1.heap.size w1 W → (W.alloc (.cells #[.int .i64 y.num] 3)).ownsRow (wr.heap.size + 1) 3 1 (.slice A T2.length c) T2.length (intsI T2)) := fun W hW => by
            obtain ⟨_, _, _, hrl, hrow, _⟩ := hE.out
            have hr1 : w1.ownsRow (wr.heap.size + 1) 3 1 (.slice A T2.length c) T2.length (intsI T2) := (Kept.grown (S := fun b => b = wr.heap.size) hg1 (fun b e => by cases e; exact .inl rfl)).row hrow fun b hb q => by
              have := (hrow.lt b hb).1
              omega
            exact ((Kept.fresh (S := fun _ => False) hW).row hr1 (fun _ _ q => q)).alloc _
          have Hsr : Hid (∀ W : World, ∀ ad, some (⟨W.heap.size, 0, none⟩ : Addr) = some ad → ∀ j u, ([.int .i64 y.num] : List Value)[j]? = some u → (W.alloc (.cells #[.int .i64 y.num] 3)).cell? (ad.add j) = some u) := fun W ad e j u hu => by
            cases e
            exact World.news_of_block (heap_alloc_new W _) j u hu
          have hs2 : wr.heap.size + 1 ≤ w1.heap.size := by omega
          have hyw : hasN l y.num = true := hasN_iff.2 ⟨y, hy, rfl⟩
          have hywf : WfI y.num := by have := HH.out.lo y hy; unfold WfI; omega
          have HK := Lib.hid (keyI hywf)
          obtain ⟨Ds, hq1, hq2⟩ := HSetW.out w1 hB1
          have HSo := Lib.hid hq1
          have hPy : P y.num ↔ (y.num ∈ T ∨ y.p.over ⟨b, o, s⟩ = true) := by
            rw [HP.out, HTn.out _ hyw]
            constructor
            · rintro ⟨z, hz, e, hsel⟩
              have : z = y := Hok.out.asc.inj hz hy e
              subst this
              unfold selH at hsel
              simpa using hsel
            · intro q
              refine ⟨y, hy, rfl, ?_⟩
              unfold selH
              simpa using q
          obtain ⟨hxl, x1, x2, x3, _, _⟩ := wcellsH (HHx.out.fresh hB1) hy
          have hyr : y.p.ok := Pt.ok_of_rightH (HH.out.right y hy)
          have hxr : (⟨b, o, s⟩ : Pt).ok := Pt.ok_of_rightH HPr.out
          have hbb : Below w1.heap.size w1 (w1.alloc (.cells #[] 110)) := below_alloc1 w1 _
          have HBb := Lib.hid hbb
          by_cases hin : y.num ∈ T
          · have Hs : Hid (Maps.has Ds (.int .i64 y.num) = true) := (hq2 _).2 hin
            have HT3 := Lib.hid (HTk.out (hPy.2 (.inl hin)))
            generalize m.wp y.num = yb at *
            generalize y.num = yn at *
            clear hrg1 hg1 hs1 hE HrgL hlx hq1 hq2 hin hPy HTk HSk hB1 hbb x1 x2 x3 hxl hyw hywf hyr hxr hx hlt
            go_wp2_with (at_lookup; refine wpList_lookup_own_unit _ rfl _ _ 109 rfl 3 110 lawI Try.underlying109 (zeroS _) sb ct Ds rfl HSo.out _ _ rfl HK.out ?_; rw [Hs.out])
            go_quiet (fail)
            generalize hW3 : World.drewN _ _ = W3
            have HB3 : Hid (Below w1.heap.size w1 W3) := HBb.out.trans ((Gr.Quiet.belowR (B := (w1.alloc (.cells #[] 110)).heap.size) ⟨_, hW3.symm⟩).mono (by simp))
            have hs3 : w1.heap.size ≤ W3.heap.size := HB3.out.size
            clear hW3
            go_wp2_with (at_builtin; refine wpList_append_src rfl (.tmp 71) (.tmp 73) 33 rfl (wr.heap.size + 1) 3 i0 _ 1 8 Try.underlying33 hi0 hz0 hz1 hz2 rfl (by decide) (.slice A T2.length c) T2.length (intsI T2) rfl (Hrow.out W3 HB3.out) (some ⟨W3.heap.size, 0, none⟩) 1 1 [.int .i64 yn] rfl rfl (by simpa using Hsr.out W3) (fun e => by cases e) (by intro u hu; rw [List.mem_singleton] at hu; rw [hu]; rfl) (by unfold maxLen; omega) (by omega) (by simp; omega) (T2.length + 1) rfl ?_; intro A3 c3 w4 ho2 hg2 hor2; have HO2 := Lib.hid ho2; have HG2 := Lib.hid hg2; clear ho2 hg2 hor2)
            have HZ := Lib.hid (HT3.out W3 w4 HB3.out A3 c3 _ HG2.out HO2.out)
            go_roundw
            case rel => exact ⟨_, cnt1, T2 ++ [yn], A3, c3, by simp, HZ.out⟩
            case measure => have := HLt.out; rw [HZ.out.1.left_eq, HrgO.out.left_eq]; omega
          · have Hs : Hid (Maps.has Ds (.int .i64 y.num) = false) := by
              unfold Hid
              cases q : Maps.has Ds (.int .i64 y.num) with
              | false => rfl
              | true => exact absurd ((hq2 _).1 q) hin
            have HOv := fun W => overlap_any y.p ⟨b, o, s⟩ W hyr hxr
            have HX : Hid (∀ W, Below w1.heap.size w1 W → W.cell? ⟨m.wp y.num, 1, none⟩ = some (.int .i64 y.p.b) ∧ W.cell? ⟨m.wp y.num, 2, none⟩ = some (.int .i64 y.p.o) ∧ W.cell? ⟨m.wp y.num, 3, none⟩ = some (.string y.p.s) ∧ W.cell? ⟨w.heap.size, 0, none⟩ = some (.int .i64 b) ∧ W.cell? ⟨w.heap.size, 1, none⟩ = some (.int .i64 o) ∧ W.cell? ⟨w.heap.size, 2, none⟩ = some (.string s)) := fun W hW => by
              have e : ∀ i, W.cell? ⟨m.wp y.num, i, none⟩ = w1.cell? ⟨m.wp y.num, i, none⟩ := fun i => hW.cell (p := ⟨m.wp y.num, i, none⟩) hxl
              obtain ⟨_, q0, q1, q2⟩ := HItW.out W (hB1.trans (hW.mono hB1.size))
              exact ⟨(e 1).trans x1, (e 2).trans x2, (e 3).trans x3, q0, q1, q2⟩
            cases hov : y.p.over ⟨b, o, s⟩ with
            | true =>
              have HT3 := Lib.hid (HTk.out (hPy.2 (.inr hov)))
              rw [hov] at HOv
              have HO := Lib.hid HOv
              clear HOv
              unfold Pt.v at HO
              simp only [Pt.cs] at HO
              generalize y.p.b = p0 at *
              generalize y.p.o = p1 at *
              generalize y.p.s = p2 at *
              generalize m.wp y.num = yb at *
              generalize y.num = yn at *
              clear hrg1 hg1 hs1 hE HrgL hlx hq1 hq2 hin hPy HTk HSk hB1 hbb x1 x2 x3 hxl hyw hywf hyr hxr hx hlt hov
              go_wp2_with (at_lookup; refine wpList_lookup_own_unit _ rfl _ _ 109 rfl 3 110 lawI Try.underlying109 (zeroS _) sb ct Ds rfl HSo.out _ _ rfl HK.out ?_; rw [Hs.out])
              generalize hW2 : w1.alloc (Obj.cells #[] 110) = W2
              have HB2 : Hid (Below w1.heap.size w1 W2) := by rw [← hW2]; exact HBb.out
              clear hW2
              have X0 := Lib.hid (HX.out W2.drew HB2.out.drew)
              go_region_held3 (fun W => W.cell? ⟨yb, 1, none⟩ = some (.int .i64 p0) ∧ W.cell? ⟨yb, 2, none⟩ = some (.int .i64 p1) ∧ W.cell? ⟨yb, 3, none⟩ = some (.string p2) ∧ W.cell? ⟨w.heap.size, 0, none⟩ = some (.int .i64 b) ∧ W.cell? ⟨w.heap.size, 1, none⟩ = some (.int .i64 o) ∧ W.cell? ⟨w.heap.size, 2, none⟩ = some (.string s)) (first | (with_reducible exact X0.out) | (with_reducible exact X9.out)) (first | (go_at_call 54; (with_reducible refine (HO.out _).mono ?_); rintro e W3 ⟨rfl, hb9⟩; have HB3 : Hid (Below w1.heap.size w1 W3) := HB2.out.drew.trans (hb9.mono HB2.out.size); have X9 := Lib.hid (HX.out W3 HB3.out); have hs3 : w1.heap.size ≤ W3.heap.size := HB3.out.size; clear hb9))
              go_wp2_with (at_builtin; refine wpList_append_src rfl (.tmp 71) (.tmp 73) 33 rfl (wr.heap.size + 1) 3 i0 _ 1 8 Try.underlying33 hi0 hz0 hz1 hz2 rfl (by decide) (.slice A T2.length c) T2.length (intsI T2) rfl (Hrow.out W3 HB3.out) (some ⟨W3.heap.size, 0, none⟩) 1 1 [.int .i64 yn] rfl rfl (by simpa using Hsr.out W3) (fun e => by cases e) (by intro u hu; rw [List.mem_singleton] at hu; rw [hu]; rfl) (by unfold maxLen; omega) (by omega) (by simp; omega) (T2.length + 1) rfl ?_; intro A3 c3 w4 ho2 hg2 hor2; have HO2 := Lib.hid ho2; have HG2 := Lib.hid hg2; clear ho2 hg2 hor2)
              have HZ := Lib.hid (HT3.out W3 w4 HB3.out A3 c3 _ HG2.out HO2.out)
              go_roundw
              case rel => exact ⟨_, cnt1, T2 ++ [yn], A3, c3, by simp, HZ.out⟩
              case measure => have := HLt.out; rw [HZ.out.1.left_eq, HrgO.out.left_eq]; omega
            | false =>
              have HT3 := Lib.hid (HSk.out (fun q => by
                rcases hPy.1 q with q | q
                · exact hin q
                · rw [hov] at q; cases q))
              rw [hov] at HOv
              have HO := Lib.hid HOv
              clear HOv
              unfold Pt.v at HO
              simp only [Pt.cs] at HO
              generalize y.p.b = p0 at *
              generalize y.p.o = p1 at *
              generalize y.p.s = p2 at *
              generalize m.wp y.num = yb at *
              generalize y.num = yn at *
              clear hrg1 hg1 hs1 hE HrgL hlx hq1 hq2 hin hPy HTk HSk hB1 hbb x1 x2 x3 hxl hyw hywf hyr hxr hx hlt hov
              go_wp2_with (at_lookup; refine wpList_lookup_own_unit _ rfl _ _ 109 rfl 3 110 lawI Try.underlying109 (zeroS _) sb ct Ds rfl HSo.out _ _ rfl HK.out ?_; rw [Hs.out])
              generalize hW2 : w1.alloc (Obj.cells #[] 110) = W2
              have HB2 : Hid (Below w1.heap.size w1 W2) := by rw [← hW2]; exact HBb.out
              clear hW2
              have X0 := Lib.hid (HX.out W2.drew HB2.out.drew)
              go_region_held3 (fun W => W.cell? ⟨yb, 1, none⟩ = some (.int .i64 p0) ∧ W.cell? ⟨yb, 2, none⟩ = some (.int .i64 p1) ∧ W.cell? ⟨yb, 3, none⟩ = some (.string p2) ∧ W.cell? ⟨w.heap.size, 0, none⟩ = some (.int .i64 b) ∧ W.cell? ⟨w.heap.size, 1, none⟩ = some (.int .i64 o) ∧ W.cell? ⟨w.heap.size, 2, none⟩ = some (.string s)) (first | (with_reducible exact X0.out) | (with_reducible exact X9.out)) (first | (go_at_call 54; (with_reducible refine (HO.out _).mono ?_); rintro e W3 ⟨rfl, hb9⟩; have HB3 : Hid (Below w1.heap.size w1 W3) := HB2.out.drew.trans (hb9.mono HB2.out.size); have X9 := Lib.hid (HX.out W3 HB3.out); have hs3 : w1.heap.size ≤ W3.heap.size := HB3.out.size; clear hb9))
              go_wp2
              have HZ := Lib.hid (HT3.out W3 HB3.out)
              go_roundw
              case rel => exact ⟨_, cnt1, T2, A, c, rfl, HZ.out⟩
              case measure => have := HLt.out; rw [HZ.out.1.left_eq, HrgO.out.left_eq]; omega
end Go.Proofs.Ytkldiofleepkfaa.Hd
