/- A block's bytes behind some of its units: behind. -/
import Derived.Test.YtkldiofleepkfaaHO
import Derived.Test.YtkldiofleepkfaaHHC
set_option linter.unusedVariables false
set_option linter.unusedSimpArgs false
namespace Go.Proofs.Ytkldiofleepkfaa.Hd
open Go.RowKit
open Go.Maps (Keyed)
theorem Pt.ok_of_rightH {p : Pt} (h : p.right = true) : p.ok := by
  obtain ⟨h1, h2, h3, h4, h5, h6⟩ := Pt.right_out h
  exact ⟨by omega, by omega, by unfold maxLen; omega⟩
def RightH (l : List Hw) : Prop := ∀ x ∈ l, x.p.right = true
theorem length_ptsH (l : List Hw) : (ptsH l).length = l.length := by simp [ptsH]
theorem ptsH_append (a b : List Hw) : ptsH (a ++ b) = ptsH a ++ ptsH b := by simp [ptsH]
theorem ptsH_take {l : List Hw} {k : Nat} (h : k < l.length) : ptsH (l.take (k + 1)) = ptsH (l.take k) ++ [(hn l k).p] := by rw [take_hn h]; simp [ptsH]
theorem allP_ptsH {l : List Hw} (h : RightH l) (b : List Int) : allP b (ptsH l) = some ((ptsH l).foldl put b) := by
  unfold allP
  rw [if_pos]
  rw [List.all_eq_true]
  intro p hp
  obtain ⟨x, hx, rfl⟩ := List.mem_map.1 hp
  exact h x hx
theorem putH_ok {b : List Int} (hb : OkS b) {l : List Hw} (h : RightH l) : OkS (putH b l) :=
  ⟨length_putAll hb.1 _ (by rw [List.all_eq_true]; intro p hp; obtain ⟨x, hx, rfl⟩ := List.mem_map.1 hp; exact h x hx), putAll_all hb.2 _⟩
theorem infoPatchH : (Try.prog.info? 32).map (fun i => (i.zero, i.size, i.bytes)) = some (some (.agg #[.int .i64 0, .int .i64 0, .string ⟨#[]⟩]), 3, 32) := by kernel_rfl
/-- bytes that a call answers, a row of its own -/
def Gives (w : World) (m : List Int) (e : Ending) (w' : World) : Prop := ∃ A c, e = .returned (.slice A 32 c) ∧ 32 ≤ c ∧ c ≤ maxLen ∧ Bts w' w'.heap.size A m ∧ m.length = 32 ∧ Below w.heap.size w w'
theorem setU_take {l : List Hw} {T : List Int} {j : Nat} (h : j < T.length) : setU l (T.take (j + 1)) = setU l (T.take j) ++ ofU l (un T j) := by
  unfold setU
  rw [List.take_succ_eq_append_getElem h, List.flatMap_append, un_lt h]; simp
theorem setU_take_len (l : List Hw) (T : List Int) (j : Nat) : (setU l (T.take j)).length ≤ (setU l T).length := by
  unfold setU
  conv => rhs; rw [← List.take_append_drop j T, List.flatMap_append]
  rw [List.length_append]; omega
theorem wcellsH {w : World} {g gd n cc : Nat} {S : Nat → Bk} {k jo id : Int} {l : List Hw} {sent : List Int} {m : Lay} {Fd : Nat → Prop} (h : HAt w g gd n S cc k jo id l sent m Fd) {x : Hw} (hx : x ∈ l) :
    m.wp x.num < w.heap.size ∧ w.cell? ⟨m.wp x.num, 1, none⟩ = some (.int .i64 x.p.b) ∧ w.cell? ⟨m.wp x.num, 2, none⟩ = some (.int .i64 x.p.o) ∧ w.cell? ⟨m.wp x.num, 3, none⟩ = some (.string x.p.s) ∧ w.cell? ⟨m.wp x.num, 4, none⟩ = some (.slice (m.WA x.num) x.ah.length (m.WC x.num)) ∧ w.cell? ⟨m.wp x.num, 5, none⟩ = some (.int .i64 x.u) :=
  ⟨(Array.getElem?_eq_some_iff.1 (h.ws x hx)).1, cell_of_row w _ 1 _ 84 (0, 0) (h.ws x hx), cell_of_row w _ 2 _ 84 (0, 0) (h.ws x hx), cell_of_row w _ 3 _ 84 (0, 0) (h.ws x hx), cell_of_row w _ 4 _ 84 (0, 0) (h.ws x hx), cell_of_row w _ 5 _ 84 (0, 0) (h.ws x hx)⟩
set_option maxRecDepth 100000 in
set_option maxHeartbeats 4000000 in
theorem behind_any {w : World} {g gd n cc : Nat} {S : Nat → Bk} {k jo id : Int} {l : List Hw} {sent : List Int} {m : Lay} {Fd : Nat → Prop} (h : HAt w g gd n S cc k jo id l sent m Fd) {i : Nat} (hi : i < n) (B : Nat) (A : Option Addr) (c : Nat) (T : List Int) (hR : w.ownsRow B 59 1 (.slice A T.length c) T.length (ptrsU m.up T)) (hT : ∀ u ∈ T, u ∈ units l) (hl : T.length ≤ 1000) (hl2 : (setU l T).length ≤ 1000) :
    Calls Try.prog 17 #[.pointer (some ⟨g, 0, none⟩), .int .i64 (i : Int), .slice A T.length c] w (Gives w (putH (S i).s (setU l T))) := by
  have hS := Code.okSH h.disk hi
  have e0 := h.c0
  have hge := h.glt
  have HH := Lib.hid h
  have HR := Lib.hid hR
  have HT := Lib.hid hT
  have HL2 := Lib.hid hl2
  have hsl := hS.1
  have hsz2 : Hid ((Try.prog.info? 47).map (·.size) = some (bytesV (S i).s).toArray.size) := by unfold Hid; rw [List.size_toArray, length_bytesV, hsl]; exact size36
  have hone : Hid ((bytesV (S i).s).toArray.all (·.oneCell') = true) := all_oneCell_toArray (bytesV_one _)
  have hold : Hid (32 = (bytesV (S i).s).toArray.size) := by unfold Hid; rw [List.size_toArray, length_bytesV, hsl]
  have HL := Lib.hid (fun W (hW : Below w.heap.size w W) => clast (h.fresh hW).disk hi)
  obtain ⟨i0, hi0, hz0, hz1, hz2⟩ := info_parts infoPatchH
  obtain ⟨sx, hsx⟩ : ∃ sx, sx = (S i).s := ⟨_, rfl⟩
  rw [← hsx] at HL hsz2 hone hold hsl hS ⊢
  have HS := Lib.hid hS
  unfold secV at HL
  obtain ⟨R0, hR0⟩ : ∃ R0, R0 = (bytesV sx).toArray := ⟨_, rfl⟩
  rw [← hR0] at HL hsz2 hone hold
  have HR0 := Lib.hid hR0
  clear h hR hT hS hsx hR0 hsl hl2
  go_enter Try.func17, Try.ntmps17
  go_wp2
  go_loopw [7, 18] (fun s q wr => ∃ (j : Nat) (A' : Option Addr) (c' r : Nat), j ≤ T.length ∧ q = .int .i64 j ∧ s = .slice A' r c' ∧ Hid ((setU l (T.take j)).length = r) ∧ Hid (wr.ownsRow w.heap.size 32 3 (.slice A' r c') r (ptsV (ptsH (setU l (T.take j))))) ∧ Below w.heap.size w wr) (fun _ q _ => T.length - (intOf q).toNat)
  case atStart => exact ⟨0, none, 0, 0, Nat.zero_le _, rfl, rfl, rfl, World.ownsRow_nil _ _ _ _, Below.refl _ _⟩
  case round =>
    obtain ⟨j, A', c', r, hj, rfl, rfl, hr, hrow, hB⟩ := hrel
    rename World => wr
    have HB := Lib.hid hB
    have hsz := hB.size
    by_cases hlt : j < T.length
    · have hlti : (j : Int) < (T.length : Int) := by omega
      have hj0 : (0 : Int) ≤ (j : Int) := by omega
      obtain ⟨ab, hA, h3, h4, hb, hcs, _⟩ := ptr_at ((Kept.fresh (S := fun _ => False) hB).row HR.out (fun _ _ q => q)) hlt
      rw [ptrsU_at m.up hlt] at hcs
      have hu := HT.out _ (un_mem hlt)
      have hub := HH.out.us _ hu
      have HUps := Lib.hid (HH.out.ups _ hu)
      have hul := (Array.getElem?_eq_some_iff.1 hub).1
      have Hst := Lib.hid (@setU_take l T j hlt)
      have Hlen := Lib.hid (setU_take_len l T (j + 1))
      have u2 : wr.cell? ⟨m.up (un T j), 2, none⟩ = some (.slice (m.UA (un T j)) (ofU l (un T j)).length (m.UC (un T j))) := (hB.cell (p := ⟨m.up (un T j), 2, none⟩) hul).trans (cell_of_row w _ 2 _ 62 (0, 0) hub)
      have hul2 : m.up (un T j) < wr.heap.size := by omega
      subst hA
      unfold maxLen at h4
      generalize m.up (un T j) = ub at *
      generalize m.UA (un T j) = uA at *
      generalize m.UC (un T j) = uC at *
      obtain ⟨L, hL⟩ : ∃ L, L = ofU l (un T j) := ⟨_, rfl⟩
      have HLm : Hid (∀ x ∈ L, x ∈ l) := fun x hx => by rw [hL] at hx; exact (mem_ofU.1 hx).1
      rw [← hL] at u2 HUps Hst
      have hLl : L.length ≤ 1000 := by have h5 := Hlen.out; rw [Hst.out, List.length_append] at h5; have := HL2.out; omega
      have HrL : Hid (r + L.length ≤ 1000) := by have h5 := Hlen.out; rw [Hst.out, List.length_append, hr.out] at h5; have := HL2.out; unfold Hid; omega
      obtain ⟨M, hM⟩ : ∃ M, M = ptsH (setU l (T.take j)) := ⟨_, rfl⟩
      have HMl : Hid (M.length = r) := by unfold Hid; rw [hM, length_ptsH]; exact hr.out
      have Hnx : Hid (ptsH (setU l (T.take (j + 1))) = M ++ ptsH L) := by unfold Hid; rw [Hst.out, ptsH_append, hM]
      have Hnl : Hid ((setU l (T.take (j + 1))).length = r + L.length) := by unfold Hid; rw [Hst.out, List.length_append, hr.out]
      rw [← hM] at hrow
      obtain ⟨ln, hln⟩ : ∃ ln, ln = L.length := ⟨_, rfl⟩
      have Hln := Lib.hid hln
      rw [← hln] at u2 hLl HrL Hnl
      clear hub hul hu hB Hlen Hst hM hr hL hln
      go_wp2
      go_loopw [7, 27] (fun s q wi => ∃ (j2 : Nat) (A2 : Option Addr) (c2 : Nat), j2 ≤ ln ∧ q = .int .i64 j2 ∧ s = .slice A2 (r + j2) c2 ∧ Hid (wi.ownsRow w.heap.size 32 3 (.slice A2 (r + j2) c2) (r + j2) (ptsV (M ++ ptsH (L.take j2)))) ∧ Below w.heap.size w wi) (fun _ q _ => ln - (intOf q).toNat)
      case atStart => exact ⟨0, A', c', Nat.zero_le _, rfl, rfl, by simpa [ptsH] using hrow, HB.out⟩
      case round =>
        obtain ⟨j2, A2, c2, hj2, rfl, rfl, hrow2, hB2⟩ := hrel
        rename World => wi
        have HB2 := Lib.hid hB2
        have hsz2' := hB2.size
        by_cases hlt2 : j2 < ln
        · have hlti2 : (j2 : Int) < (ln : Int) := by omega
          have hj20 : (0 : Int) ≤ (j2 : Int) := by omega
          have hltL : j2 < L.length := by rw [← Hln.out]; exact hlt2
          have hup : wi.ownsRow 0 82 1 (.slice uA ln uC) ln (ptrsH m.wp L) := by
            have := (Kept.fresh (S := fun _ => False) hB2).row HUps.out (fun _ _ q => q)
            rw [← Hln.out] at this
            exact this
          obtain ⟨pb, hPA, p3, p4, hpb, hpc, _⟩ := ptr_at hup hlt2
          rw [ptrsH_at m.wp hltL] at hpc
          have hxl := HLm.out _ (hn_mem hltL)
          obtain ⟨hxw, x1, x2, x3, _, _⟩ := wcellsH (HH.out.fresh hB2) hxl
          have Hpt := Lib.hid (ptsH_take hltL)
          subst hPA
          unfold maxLen at p4
          generalize m.wp (hn L j2).num = xb at *
          obtain ⟨⟨b, o, s⟩, hp⟩ : ∃ p, p = (hn L j2).p := ⟨_, rfl⟩
          rw [← hp] at x1 x2 x3 Hpt
          dsimp only at x1 x2 x3
          have HrL2 := HrL.out
          have Hrow : Hid (∀ W, Below wi.heap.size wi W → (W.alloc (.cells #[.int .i64 b, .int .i64 o, .string s] 32)).ownsRow w.heap.size 32 3 (.slice A2 (r + j2) c2) (r + j2) (ptsV (M ++ ptsH (L.take j2)))) := fun W hW => ((Kept.fresh (S := fun _ => False) hW).row hrow2.out (fun _ _ q => q)).alloc _
          have Hsr : Hid (∀ W : World, ∀ ad, some (⟨W.heap.size, 0, none⟩ : Addr) = some ad → ∀ j u, ([.int .i64 b, .int .i64 o, .string s] : List Value)[j]? = some u → (W.alloc (.cells #[.int .i64 b, .int .i64 o, .string s] 32)).cell? (ad.add j) = some u) := fun W ad e j u hu => by
            cases e
            exact World.news_of_block (heap_alloc_new W _) j u hu
          have Hon : Hid (∀ u ∈ ([.int .i64 b, .int .i64 o, .string s] : List Value), u.oneCell' = true) := by
            intro u hu
            simp at hu
            rcases hu with rfl | rfl | rfl <;> rfl
          have Hff : Hid (ptsV (M ++ ptsH (L.take j2)) ++ ([.int .i64 b, .int .i64 o, .string s] : List Value) = ptsV (M ++ ptsH (L.take (j2 + 1)))) := by unfold Hid; rw [Hpt.out, ← List.append_assoc, ptsV_snoc]; rfl
          have Hold := Lib.hid hrow2.out.lt
          clear Hpt hB2 hup hp hxl hltL hpb
          go_wp2_with (at_builtin; refine wpList_append_src rfl (.tmp 31) (.tmp 36) 89 rfl w.heap.size 32 i0 _ 3 32 Try.underlying89 hi0 hz0 hz1 hz2 rfl (by decide) (.slice A2 (r + j2) c2) (r + j2) (ptsV (M ++ ptsH (L.take j2))) rfl (Hrow.out _ (Below.refl _ _)) (some ⟨wi.heap.size, 0, none⟩) 1 1 [.int .i64 b, .int .i64 o, .string s] rfl rfl (by have := Hsr.out wi; simpa using this) (fun e => by cases e) Hon.out (by unfold maxLen; omega) (by omega) (by simp; omega) (r + j2 + 1) rfl ?_; intro A3 c3 w3 ho2 hg2 hor2; have HO2 := Lib.hid ho2; have HG2 := Lib.hid hg2; clear ho2 hg2 hor2)
          go_roundw
          case rel =>
            refine ⟨j2 + 1, A3, c3, by omega, by go_num, rfl, ?_, (HB2.out.alloc (by omega) _).grown HG2.out (by simp; omega) (fun j e => (Hold.out j e).1)⟩
            have := HO2.out
            rw [Hff.out] at this
            exact this
          case measure => simp [intOf]; omega
        · obtain rfl : j2 = ln := by omega
          have hlti2 : ¬ (j2 : Int) < (j2 : Int) := by omega
          have Hrow3 : Hid (wi.ownsRow w.heap.size 32 3 (.slice A2 (r + j2) c2) (r + j2) (ptsV (ptsH (setU l (T.take (j + 1)))))) := by
            have := hrow2.out
            rw [Hln.out, List.take_length, ← Hln.out, ← Hnx.out] at this
            exact this
          clear hB2
          go_wp2
          go_roundw
          case rel => exact ⟨j + 1, A2, c2, r + j2, by omega, by go_num, rfl, Hnl.out, Hrow3.out, HB2.out⟩
          case measure => simp [intOf]; omega
    · obtain rfl : j = T.length := by omega
      have hlti : ¬ (T.length : Int) < (T.length : Int) := by omega
      rw [List.take_length] at hrow hr
      have e0r := (hB.cell (p := ⟨g, 0, none⟩) hge).trans e0
      have hger : g < wr.heap.size := by omega
      have HLr := Lib.hid (HL.out wr hB)
      have HRt : Hid (RightH (setU l T)) := fun x hx => HH.out.right x (mem_setU.1 hx).1
      have HAll : Hid (∀ (W : World) (b : Nat), Below wr.heap.size wr W → W.heap[b]? = some (.cells R0 47 (0, 0)) → Calls Try.prog 33 #[.slice (some ⟨b, 0, none⟩) 32 32, .slice A' r c'] W (Ans W (some (putH sx (setU l T))))) := fun W b hW hsec => by
        have hl3 : (ptsH (setU l T)).length = r := by rw [length_ptsH]; exact hr.out
        have hP : Pats W W.heap.size A' (ptsH (setU l T)) := by
          have ho := (Kept.fresh (S := fun _ => False) hW).row hrow.out (fun _ _ q => q)
          rw [← hl3] at ho
          obtain ⟨A2, c2, e, _, _, h⟩ := OwnP.form (B := w.heap.size) (v := .slice A' (ptsH (setU l T)).length c') (l := ptsH (setU l T)) (w := W) ho
          obtain ⟨rfl, _, _⟩ := Value.slice.inj e
          exact h
        have hbt : Bts W W.heap.size (some ⟨b, 0, none⟩) sx := row_bts (t := 47) (by unfold BlkIs; rw [hsec, HR0.out]) HS.out.2 (Array.getElem?_eq_some_iff.1 hsec).1
        have HA := all_any (some ⟨b, 0, none⟩) A' 32 c' sx (ptsH (setU l T)) W hbt HS.out.1 hP (by rw [length_ptsH]; exact HL2.out) (fun k hk => by
          rw [pn_lt hk]
          refine Pt.ok_of_rightH ?_
          obtain ⟨x, hx, e⟩ := List.mem_map.1 (List.getElem_mem hk)
          rw [← e]; exact HRt.out x hx)
        rw [hl3, allP_ptsH HRt.out] at HA
        exact HA
      have Hpo := Lib.hid (putH_ok HS.out HRt.out)
      clear hB e0 hrow hr
      go_wp2_with (first
        | (go_at_call 28; refine HLr.out.mono ?_; rintro e w1 ⟨rfl, hb1⟩; have HB1 := Lib.hid hb1; clear hb1)
        | (refine wpList_store_row rfl 47 (.tmp 12) (.tmp 47) rfl w1.heap.size R0 rfl rfl 47 _ (heap_alloc_new w1 _) hsz2.out hold.out hone.out ?_; generalize hW : World.setRow (w1.alloc (Obj.cells _ 47)) _ R0 = w2; have HB2 : Hid (Below wr.heap.size wr w2) := (by rw [← hW]; exact HB1.out.trans ((below_setRow (below_alloc1 w1 _) (Nat.le_refl _) _).mono HB1.out.size)); have HS2 : Hid (w2.heap[w1.heap.size]? = some (.cells R0 47 (0, 0))) := (by rw [← hW]; exact setRow_heap _ _ _ _ _ _ (heap_alloc_new w1 _)); clear hW)
        | (go_at_call 33; refine (HAll.out w2 _ HB2.out HS2.out).mono ?_; rintro e w4 ⟨hb4, A4, c4, rfl, h1, h2, h3, h4⟩; have HB4 := Lib.hid hb4; have H1 := Lib.hid h1; have H2 := Lib.hid h2; have H3 := Lib.hid h3; have H4 := Lib.hid h4; clear hb4 h1 h2 h3 h4))
      go_ret
      exact ⟨A4, c4, rfl, H1.out, H2.out, H3.out, H4.out, (HB.out.trans (HB2.out.mono HB.out.size)).trans (HB4.out.mono (HB.out.trans (HB2.out.mono HB.out.size)).size)⟩
end Go.Proofs.Ytkldiofleepkfaa.Hd
