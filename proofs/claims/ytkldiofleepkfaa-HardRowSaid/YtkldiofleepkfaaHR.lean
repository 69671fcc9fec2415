/- The greatest set of units that wait on a block, that can be written: ready. -/
import Derived.Test.YtkldiofleepkfaaHP
import Derived.Test.YtkldiofleepkfaaGR
import Derived.Scope
import Derived.Control
set_option linter.unusedVariables false
set_option linter.unusedSimpArgs false
namespace Go.Proofs.Ytkldiofleepkfaa.Hd
open Go.RowKit
open Go.Maps (Keyed)
def lenV : Value → Nat
  | .slice _ n _ => n
  | _ => 0
theorem zeroW (w : World) : (zeroValue 82).run Try.prog w = .ok (.pointer none) w := by
  have := (by kernel_rfl : (Try.prog.info? 82).map (·.zero) = some (some (.pointer none)))
  cases hq : Try.prog.info? 82 with
  | none => simp [hq] at this
  | some i => simp [hq] at this; simp [zeroValue, typeInfo, hq, this]
/-- may one of those that a unit has be written with it? -/
def okD (l : List Hw) (kept : List Int) (u d : Int) : Bool := !hasN l d || (unitOf l d == u || kept.contains (unitOf l d))
theorem okU_eq (l : List Hw) (kept : List Int) (u : Int) : okU l kept u = (ofU l u).all fun x => x.ah.all (okD l kept u) := rfl
theorem okD_at {l : List Hw} (h : Asc l) {kept : List Int} {u : Int} {y : Hw} (hy : y ∈ l) : okD l kept u y.num = decide (y.u ∈ kept ++ [u]) := by
  unfold okD
  rw [hasN_iff.2 ⟨y, hy, rfl⟩, unitOf_at h hy]
  by_cases e : y.u = u
  · rw [decide_eq_true (by rw [e]; simp)]; simp [e]
  · by_cases q : y.u ∈ kept
    · rw [decide_eq_true (List.mem_append_left _ q)]; simp [q]
    · rw [decide_eq_false (by simp [e, q])]; simp [e, q]
theorem okD_no {l : List Hw} {kept : List Int} {u d : Int} (h : hasN l d = false) : okD l kept u d = true := by unfold okD; rw [h]; rfl
theorem okU_not {l : List Hw} {kept : List Int} {u : Int} {i j : Nat} (hi : i < (ofU l u).length) (hj : j < (hn (ofU l u) i).ah.length) (h : okD l kept u (un (hn (ofU l u) i).ah j) = false) : okU l kept u = false := by
  rw [okU_eq, Bool.eq_false_iff]
  intro q
  have h1 := List.all_eq_true.1 q _ (hn_mem hi)
  have h2 := List.all_eq_true.1 h1 _ (un_mem hj)
  rw [h] at h2; cases h2
theorem all_un {f : Int → Bool} {l : List Int} (h : ∀ j, j < l.length → f (un l j) = true) : l.all f = true := by
  rw [List.all_eq_true]
  intro x hx
  obtain ⟨j, hj, rfl⟩ := List.mem_iff_getElem.1 hx
  rw [← un_lt hj]; exact h j hj
theorem all_hn {f : Hw → Bool} {l : List Hw} (h : ∀ j, j < l.length → f (hn l j) = true) : l.all f = true := by
  rw [List.all_eq_true]
  intro x hx
  obtain ⟨j, hj, rfl⟩ := List.mem_iff_getElem.1 hx
  rw [← hn_lt hj]; exact h j hj
theorem un_mid (kept : List Int) (u : Int) (rest : List Int) : un (kept ++ u :: rest) kept.length = u := by rw [un_lt (by simp)]; simp
theorem intsI_at {l : List Int} {k : Nat} (h : k < l.length) : (intsI l)[k]? = some (.int .i64 (un l k)) := by
  unfold intsI; rw [List.getElem?_map, List.getElem?_eq_getElem h, un_lt h]; rfl
theorem ptrsU_take (f : Int → Nat) (T : List Int) (k : Nat) : (ptrsU f T).take k = ptrsU f (T.take k) := by unfold ptrsU; rw [List.map_take]
theorem ptrsU_one (f : Int → Nat) (T : List Int) : ∀ u ∈ ptrsU f T, u.oneCell' = true := by
  intro u hu
  obtain ⟨x, _, rfl⟩ := List.mem_map.1 hu
  rfl
/-- a number looked up among those that wait -/
theorem HAt.wlook {w : World} {g gd n cc : Nat} {S : Nat → Bk} {k jo id : Int} {l : List Hw} {sent : List Int} {m : Lay} {Fd : Nat → Prop} (h : HAt w g gd n S cc k jo id l sent m Fd) (d : Int) :
    ∃ D : DataW Value, w.ownsMap Try.prog 3 RV m.gw cc D ∧ Maps.has D (.int .i64 d) = hasN l d ∧ (hasN l d = true → ∀ v ps, RV v = some (D.atKey (.int .i64 d) (.held (.pointer none)), ps) → v = .pointer (some ⟨m.wp d, 0, none⟩)) := by
  obtain ⟨D, h1, h2, h3⟩ := h.wmap
  have he : Maps.has D (.int .i64 d) = true ↔ hasN l d = true := by rw [h2, mem_nums, hasN_iff]
  refine ⟨D, h1, ?_, fun hd v ps hv => ?_⟩
  · cases q : hasN l d with
    | true => exact he.2 q
    | false =>
      cases q2 : Maps.has D (.int .i64 d) with
      | false => rfl
      | true => rw [he.1 q2] at q; cases q
  · rw [h3 d (by rw [mem_nums, ← hasN_iff]; exact hd) (.held (.pointer none))] at hv
    unfold RV at hv
    injection hv with hv
    injection hv with hv _
    injection hv
theorem HAt.wf {w : World} {g gd n cc : Nat} {S : Nat → Bk} {k jo id : Int} {l : List Hw} {sent : List Int} {m : Lay} {Fd : Nat → Prop} (h : HAt w g gd n S cc k jo id l sent m Fd) (hk : k ≤ 1000000) {x : Hw} (hx : x ∈ l) {d : Int} (hd : d ∈ x.ah) : WfI d := by
  have h1 := h.ah0 x hx d hd
  have h2 := h.ok.behind x hx d hd
  have h3 := h.lo x hx
  unfold WfI; omega
set_option maxRecDepth 100000 in
set_option maxHeartbeats 4000000 in
theorem ready_any {w : World} {g gd n cc : Nat} {S : Nat → Bk} {k jo id : Int} {l : List Hw} {sent : List Int} {m : Lay} {Fd : Nat → Prop} (h : HAt w g gd n S cc k jo id l sent m Fd) (hcc : cc ≤ 100000) (hk : k ≤ 1000000) (i : Int) :
    Calls Try.prog 14 #[.pointer (some ⟨g, 0, none⟩), .int .i64 i] w fun e w' => ∃ A c, e = .returned (.slice A (readyU l i).length c) ∧ w'.ownsRow w.heap.size 59 1 (.slice A (readyU l i).length c) (readyU l i).length (ptrsU m.up (readyU l i)) ∧ Below w.heap.size w w' := by
  have HO := Lib.hid (on_any h hcc i)
  have HH := Lib.hid h
  have Hok := Lib.hid h.ok
  have hlen0 : (onU l i).length ≤ 1000 := by have := on_len (l := l) i; have := h.few; omega
  have Hon := Lib.hid (onU_rises h.ok.asc i)
  have hge := h.glt
  have e4 := h.c4
  have hfew := h.few
  clear h
  go_enter Try.func14, Try.ntmps14
  go_wp2_with fail
  refine wp_scope_straight ?_
  go_wp2_with (refine HO.out.mono ?_; rintro e w1 ⟨A1, c1, rfl, hr1, hb1⟩; have HR1 := Lib.hid hr1; have HB1 := Lib.hid hb1; clear hr1 hb1)
  refine wp_label ?_
  go_wp2
  go_loopw [5, 6] (fun s q wr => ∃ (kept rest : List Int) (A' : Option Addr) (c' : Nat), s = .slice A' (kept ++ rest).length c' ∧ q = .int .i64 kept.length ∧ Hid (wr.ownsRow w.heap.size 59 1 (.slice A' (kept ++ rest).length c') (kept ++ rest).length (ptrsU m.up (kept ++ rest))) ∧ Hid (keepU l kept rest = readyU l i) ∧ Hid ((kept ++ rest).Pairwise (· < ·)) ∧ Hid (∀ u ∈ kept ++ rest, u ∈ onU l i) ∧ (kept ++ rest).length ≤ 1000 ∧ Below w.heap.size w wr) (fun s q _ => lenV s - (intOf q).toNat)
  case atStart => exact ⟨[], onU l i, A1, c1, rfl, rfl, HR1.out, rfl, Hon.out, fun u hu => hu, hlen0, HB1.out⟩
  case round =>
    obtain ⟨kept, rest, A', c', rfl, rfl, hrow, hkeep, hasc, hsub, hlen, hB⟩ := hrel
    rename World => wr
    have HB := Lib.hid hB
    have hsz := hB.size
    cases rest with
    | nil =>
      have hlti : ¬ (kept.length : Int) < ((kept ++ ([] : List Int)).length : Int) := by simp
      have Hk : Hid (kept = readyU l i) := hkeep.out
      have Hr : Hid (wr.ownsRow w.heap.size 59 1 (.slice A' kept.length c') kept.length (ptrsU m.up kept)) := by have := hrow.out; rw [List.append_nil] at this; exact this
      rw [List.append_nil] at hlti ⊢
      clear hB hrow hkeep hasc hsub
      go_wp2
      go_ret
      rw [← Hk.out]
      exact ⟨A', c', rfl, Hr.out, HB.out⟩
    | cons u rest =>
      obtain ⟨sl, hsl⟩ : ∃ sl, sl = (kept ++ u :: rest).length := ⟨_, rfl⟩
      have Hsl := Lib.hid hsl
      have hkl : kept.length < sl := by rw [hsl]; simp
      have hlti : (kept.length : Int) < (sl : Int) := by omega
      have hk0 : (0 : Int) ≤ (kept.length : Int) := by omega
      rw [← hsl] at hlen hrow ⊢
      obtain ⟨ab, hA, h3, h4, hb, hcs, _⟩ := ptr_at hrow.out hkl
      rw [ptrsU_at m.up (by rw [← hsl]; exact hkl), un_mid] at hcs
      subst hA
      unfold maxLen at h4
      have hu : u ∈ units l := ((mem_onU' Hok.out.asc).1 (hsub.out u (by simp))).1
      have hub := HH.out.us _ hu
      have HUps := Lib.hid (HH.out.ups _ hu)
      have hul := (Array.getElem?_eq_some_iff.1 hub).1
      have u2 : wr.cell? ⟨m.up u, 2, none⟩ = some (.slice (m.UA u) (ofU l u).length (m.UC u)) := (hB.cell (p := ⟨m.up u, 2, none⟩) hul).trans (cell_of_row w _ 2 _ 62 (0, 0) hub)
      have hul2 : m.up u < wr.heap.size := by omega
      obtain ⟨ln, hln⟩ : ∃ ln, ln = (ofU l u).length := ⟨_, rfl⟩
      have Hln := Lib.hid hln
      have hln2 : ln ≤ 1000 := by rw [hln]; have := List.length_filter_le (fun x : Hw => x.u == u) l; unfold ofU; omega
      rw [← hln] at u2
      generalize m.UA u = uA at *
      generalize m.UC u = uC at *
      obtain ⟨kn, hkn⟩ : ∃ kn, kn = kept.length := ⟨_, rfl⟩
      have Hkn := Lib.hid hkn
      rw [← hkn] at hkl hlti hk0 hcs ⊢
      have hcc' : kn + 1 ≤ c' := by omega
      have hkw : IntKind.i64.wrap ((kn : Int) + 1) = (kn : Int) + 1 := by simp [IntKind.wrap, IntKind.bits, IntKind.signed]; omega
      have hkc2 : (kn : Int) + 1 ≤ (c' : Int) := by omega
      have hkc3 : (0 : Int) ≤ (kn : Int) + 1 := by omega
      have hkc4 : ((kn : Int) + 1).toNat = kn + 1 := by omega
      -- has, of the first ones and this
      have HHas : Hid (∀ W, Below wr.heap.size wr W → ∀ v, Calls Try.prog 30 #[.slice (some ⟨ab, 0, none⟩) (kn + 1) c', .int .i64 v] W fun e w' => e = .returned (.bool (decide (v ∈ kept ++ [u]))) ∧ Below W.heap.size W w') := fun W hW v => by
        have hr := (Kept.fresh (S := fun _ => False) hW).row hrow.out (fun _ _ q => q)
        have ht := own_take hr (i := kn + 1) (by omega)
        have e : (kept ++ u :: rest).take (kn + 1) = kept ++ [u] := by rw [Hkn.out, show kept ++ u :: rest = (kept ++ [u]) ++ rest by simp, List.take_left' (by simp)]
        rw [Nat.mul_one, ptrsU_take, e] at ht
        have hkl2 : (kept ++ [u]).length = kn + 1 := by rw [Hkn.out]; simp
        have := has_any m.up w.heap.size (some ⟨ab, 0, none⟩) c' (kept ++ [u]) v W (by rw [hkl2]; exact ht) (hasc.out.sublist (by rw [← e]; exact List.take_sublist _ _)) (fun v hv => by
          have hv2 : v ∈ units l := ((mem_onU' Hok.out.asc).1 (hsub.out v (by rcases List.mem_append.1 hv with q | q; exact List.mem_append_left _ q; rw [List.mem_singleton.1 q]; simp))).1
          have hB2 := HB.out.trans (hW.mono hsz)
          have hvb := HH.out.us _ hv2
          have hvl := (Array.getElem?_eq_some_iff.1 hvb).1
          have := hB2.size
          exact ⟨by omega, (hB2.cell (p := ⟨m.up v, 0, none⟩) hvl).trans (cell_of_row w _ 0 _ 62 (0, 0) hvb)⟩) (by rw [hkl2]; omega)
        rw [hkl2] at this
        exact this
      have HDel : Hid (∀ W, Below wr.heap.size wr W → Calls Try.prog 31 #[.slice (some ⟨ab, 0, none⟩) sl c', .int .i64 kn, .int .i64 ((kn : Int) + 1)] W fun e w' => e = .returned (.slice (some ⟨ab, 0, none⟩) (sl - 1) c') ∧ w'.ownsRow w.heap.size 59 1 (.slice (some ⟨ab, 0, none⟩) (sl - 1) c') (sl - 1) (ptrsU m.up (kept ++ rest)) ∧ W.grownBy w' (some ab)) := fun W hW => by
        have hrw := (Kept.fresh (S := fun _ => False) hW).row hrow.out (fun _ _ q => q)
        have := deleteU_any w.heap.size ab c' sl kn (kn + 1) (sl - 1) kn ((kn : Int) + 1) (ptrsU m.up (kept ++ u :: rest)) W hrw (ptrsU_one _ _) hkl hlen rfl (by omega) rfl (by omega)
        have e : (ptrsU m.up (kept ++ u :: rest)).take kn ++ (ptrsU m.up (kept ++ u :: rest)).drop (kn + 1) = ptrsU m.up (kept ++ rest) := by
          unfold ptrsU
          rw [← List.map_take, ← List.map_drop, ← List.map_append, Hkn.out]
          congr 1
          rw [List.take_append, List.drop_append]; simp
        rw [e] at this
        exact this
      have HOld : Hid (w.heap.size ≤ ab) := (hrow.out.lt ab rfl).1
      have HNx1 : Hid (okU l kept u = true → keepU l (kept ++ [u]) rest = readyU l i) := fun q => by have := hkeep.out; unfold keepU at this; rw [q] at this; exact this
      have HNx2 : Hid (okU l kept u = false → keepU l kept rest = readyU l i) := fun q => by have := hkeep.out; unfold keepU at this; rw [q] at this; exact this
      have HRow := Lib.hid hrow.out
      generalize m.up u = ub at *
      clear hub hul hu hB hsl hkn hln hrow hkeep
      go_wp2
      go_loopw [5, 28] (fun s5 q wi => ∃ m2 : Nat, s5 = .slice (some ⟨ab, 0, none⟩) sl c' ∧ m2 ≤ ln ∧ q = .int .i64 m2 ∧ Hid (∀ j, j < m2 → ((hn (ofU l u) j).ah.all (okD l kept u)) = true) ∧ Below wr.heap.size wr wi) (fun _ q _ => ln - (intOf q).toNat)
      case atStart => exact ⟨0, rfl, Nat.zero_le _, rfl, fun j h => absurd h (by omega), Below.refl _ _⟩
      case round =>
        obtain ⟨m2, rfl, hm2, rfl, hall, hBi⟩ := hrel
        rename World => wi
        have HBi := Lib.hid hBi
        have hszi := hBi.size
        by_cases hlt2 : m2 < ln
        · have hmi : (m2 : Int) < (ln : Int) := by omega
          have hm0 : (0 : Int) ≤ (m2 : Int) := by omega
          have hltL : m2 < (ofU l u).length := by rw [← Hln.out]; exact hlt2
          have hBwi := HB.out.trans (hBi.mono hsz)
          have hup : wi.ownsRow 0 82 1 (.slice uA ln uC) ln (ptrsH m.wp (ofU l u)) := by
            have := (Kept.fresh (S := fun _ => False) hBwi).row HUps.out (fun _ _ q => q)
            rw [← Hln.out] at this
            exact this
          obtain ⟨pb, hPA, p3, p4, hpb, hpc, _⟩ := ptr_at hup hlt2
          rw [ptrsH_at m.wp hltL] at hpc
          have hxl := (mem_ofU.1 (hn_mem hltL)).1
          obtain ⟨hxw, _, _, _, x4, _⟩ := wcellsH (HH.out.fresh hBwi) hxl
          have HAhs := Lib.hid (HH.out.ahs _ hxl)
          have HWf : Hid (∀ d ∈ (hn (ofU l u) m2).ah, WfI d) := fun d hd => HH.out.wf hk hxl hd
          have Hnall : Hid (((hn (ofU l u) m2).ah.all (okD l kept u)) = true → ∀ j, j < m2 + 1 → ((hn (ofU l u) j).ah.all (okD l kept u)) = true) := fun q j hj => by
            rcases Nat.lt_or_ge j m2 with h | h
            · exact hall.out j h
            · obtain rfl : j = m2 := by omega
              exact q
          have Hno : Hid (∀ j, j < (hn (ofU l u) m2).ah.length → okD l kept u (un (hn (ofU l u) m2).ah j) = false → okU l kept u = false) := fun j hj q => okU_not hltL hj q
          subst hPA
          unfold maxLen at p4
          generalize m.WA (hn (ofU l u) m2).num = xA at *
          generalize m.WC (hn (ofU l u) m2).num = xC at *
          generalize m.wp (hn (ofU l u) m2).num = xb at *
          generalize (hn (ofU l u) m2).ah = ah at *
          obtain ⟨an, han⟩ : ∃ an, an = ah.length := ⟨_, rfl⟩
          have Han := Lib.hid han
          rw [← han] at x4
          clear han hup hxl hltL hpb hBi hBwi hall
          go_wp2
          go_loopw [5, 37] (fun s5 q wj => ∃ m3 : Nat, s5 = .slice (some ⟨ab, 0, none⟩) sl c' ∧ m3 ≤ an ∧ q = .int .i64 m3 ∧ Hid (∀ j, j < m3 → okD l kept u (un ah j) = true) ∧ Below wi.heap.size wi wj) (fun _ q _ => an - (intOf q).toNat)
          case atStart => exact ⟨0, rfl, Nat.zero_le _, rfl, fun j h => absurd h (by omega), Below.refl _ _⟩
          case round =>
            obtain ⟨m3, rfl, hm3, rfl, hall3, hBj⟩ := hrel
            rename World => wj
            have HBj := Lib.hid hBj
            have hszj := hBj.size
            by_cases hlt3 : m3 < an
            · have hmi3 : (m3 : Int) < (an : Int) := by omega
              have hm03 : (0 : Int) ≤ (m3 : Int) := by omega
              have hml : m3 < ah.length := by rw [← Han.out]; exact hlt3
              have hBr : Below wr.heap.size wr wj := HBi.out.trans (hBj.mono hszi)
              have hBwj := HB.out.trans (hBr.mono hsz)
              have HBr := Lib.hid hBr
              have hHj := HH.out.fresh hBwj
              have hah : wj.ownsRow 0 3 1 (.slice xA an xC) an (intsI ah) := by
                have := (Kept.fresh (S := fun _ => False) hBwj).row HAhs.out (fun _ _ q => q)
                rw [← Han.out] at this
                exact this
              obtain ⟨db, hDA, d3, d4, hdb, hdc, _⟩ := ptr_at hah hlt3
              rw [intsI_at hml] at hdc
              have hwf := HWf.out _ (un_mem hml)
              obtain ⟨D, hD1, hD2, hD3⟩ := hHj.wlook (un ah m3)
              have H1 := Lib.hid hD1
              have HK := Lib.hid (keyI hwf)
              have e4j := hHj.c4
              have hgj := hHj.glt
              have Hno3 := Lib.hid (Hno.out m3 hml)
              have Hall3 : Hid (okD l kept u (un ah m3) = true → ∀ j, j < m3 + 1 → okD l kept u (un ah j) = true) := fun q j hj => by
                rcases Nat.lt_or_ge j m3 with h | h
                · exact hall3.out j h
                · obtain rfl : j = m3 := by omega
                  exact q
              subst hDA
              unfold maxLen at d4
              cases t1 : hasN l (un ah m3) with
              | false =>
                have Hh : Hid (Maps.has D (.int .i64 (un ah m3)) = false) := hD2.trans t1
                have Hnx := Lib.hid (Hall3.out (okD_no t1))
                generalize un ah m3 = d at hdc H1 HK Hh
                clear t1 hD1 hD2 hD3 hah hdb hBj hBr hBwj hHj hml hwf hall3 Hno3 Hall3
                go_wp2_with (at_lookup; refine wpList_lookup_own_ok _ rfl _ _ 42 rfl 3 82 lawI Try.underlying42 RV (zeroW _) (.held (.pointer none)) [] rfl m.gw cc D rfl H1.out _ _ rfl HK.out ?_; intro v ps hv; rw [Hh.out]; clear hv)
                go_quiet (fail)
                go_wp2
                go_roundw
                case rel => exact ⟨m3 + 1, rfl, by omega, by go_num, Hnx.out, HBj.out.trans ((Gr.Quiet.belowR ⟨_, rfl⟩).mono HBj.out.size)⟩
                case measure => simp [intOf]; omega
              | true =>
                obtain ⟨y, hy, hyn⟩ := hasN_iff.1 t1
                have Hh : Hid (Maps.has D (.int .i64 (un ah m3)) = true) := hD2.trans t1
                have Hat := Lib.hid (hD3 t1)
                obtain ⟨hyw, _, _, _, _, y5⟩ := wcellsH hHj hy
                have Hod : Hid (okD l kept u (un ah m3) = decide (y.u ∈ kept ++ [u])) := by unfold Hid; rw [← hyn]; exact okD_at Hok.out.asc hy
                rw [hyn] at hyw y5
                have HCalld := Lib.hid (HHas.out _ HBr.out.drew y.u)
                have Hyw : Hid (m.wp (un ah m3) < wj.drew.heap.size) := hyw
                have Y5d : Hid (wj.drew.cell? ⟨m.wp (un ah m3), 5, none⟩ = some (.int .i64 y.u)) := y5
                generalize m.wp (un ah m3) = yb at *
                cases t2 : decide (y.u ∈ kept ++ [u]) with
                | true =>
                  have Hnx := Lib.hid (Hall3.out (Hod.out.trans t2))
                  rw [t2] at HCalld
                  generalize un ah m3 = d at hdc H1 HK Hh Hat
                  generalize y.u = yu at y5 Y5d HCalld
                  clear t1 t2 hD1 hD2 hD3 hah hdb hBj hBr hBwj hHj hml hwf hall3 Hno3 Hall3 Hod hy hyn
                  go_wp2_with (at_lookup; refine wpList_lookup_own_ok _ rfl _ _ 42 rfl 3 82 lawI Try.underlying42 RV (zeroW _) (.held (.pointer none)) [] rfl m.gw cc D rfl H1.out _ _ rfl HK.out ?_; intro v ps hv; rw [Hh.out]; obtain rfl := Hat.out v ps hv; clear hv)
                  go_region_held3 (fun W => W.cell? ⟨yb, 5, none⟩ = some (.int .i64 yu)) (first | (with_reducible exact y5) | (with_reducible exact Y5d.out) | (with_reducible exact Y5.out)) (first | (go_at_call 30; (with_reducible refine HCalld.out.mono ?_); rintro e w2 ⟨rfl, hb2⟩; have HB2 := Lib.hid (HBr.out.drew.trans (hb2.mono HBr.out.size)); have HB2j := Lib.hid (HBj.out.drew.trans (hb2.mono HBj.out.size)); have Y5 : Hid (w2.cell? ⟨yb, 5, none⟩ = some (.int .i64 yu)) := (hb2.cell (p := ⟨yb, 5, none⟩) Hyw.out).trans Y5d.out; clear hb2))
                  go_wp2
                  go_roundw
                  case rel => exact ⟨m3 + 1, rfl, by omega, by go_num, Hnx.out, HB2j.out⟩
                  case measure => simp [intOf]; omega
                | false =>
                  have Hnx := Lib.hid (HNx2.out (Hno3.out (Hod.out.trans t2)))
                  rw [t2] at HCalld
                  generalize un ah m3 = d at hdc H1 HK Hh Hat
                  generalize y.u = yu at y5 Y5d HCalld
                  clear t1 t2 hD1 hD2 hD3 hah hdb hBj hBr hBwj hHj hml hwf hall3 Hno3 Hall3 Hod hy hyn
                  go_wp2_with (at_lookup; refine wpList_lookup_own_ok _ rfl _ _ 42 rfl 3 82 lawI Try.underlying42 RV (zeroW _) (.held (.pointer none)) [] rfl m.gw cc D rfl H1.out _ _ rfl HK.out ?_; intro v ps hv; rw [Hh.out]; obtain rfl := Hat.out v ps hv; clear hv)
                  go_region_held3 (fun W => W.cell? ⟨yb, 5, none⟩ = some (.int .i64 yu)) (first | (with_reducible exact y5) | (with_reducible exact Y5d.out) | (with_reducible exact Y5.out)) (first | (go_at_call 30; (with_reducible refine HCalld.out.mono ?_); rintro e w2 ⟨rfl, hb2⟩; have HB2 := Lib.hid (HBr.out.drew.trans (hb2.mono HBr.out.size)); have HB2j := Lib.hid (HBj.out.drew.trans (hb2.mono HBj.out.size)); have Y5 : Hid (w2.cell? ⟨yb, 5, none⟩ = some (.int .i64 yu)) := (hb2.cell (p := ⟨yb, 5, none⟩) Hyw.out).trans Y5d.out; clear hb2))
                  go_wp2_with (go_at_call 31; (with_reducible refine (HDel.out _ HB2.out).mono ?_); rintro e w4 ⟨rfl, ho4, hg4⟩; have HO4 := Lib.hid ho4; have HG4 := Lib.hid hg4; clear ho4 hg4)
                  have hlr : (kept ++ rest).length = sl - 1 := by rw [Hsl.out]; simp
                  refine ⟨⟨kept, rest, some ⟨ab, 0, none⟩, c', by rw [hlr], by rw [Hkn.out], by rw [hlr]; exact HO4.out, Hnx.out, hasc.out.sublist (List.Sublist.append (List.Sublist.refl _) (List.sublist_cons_self _ _)), fun v hv => hsub.out v (by rcases List.mem_append.1 hv with q | q; exact List.mem_append_left _ q; exact List.mem_append_right _ (List.mem_cons_of_mem _ q)), by omega, ?_⟩, ?_⟩
                  · exact (HB.out.trans (HB2.out.mono hsz)).grown HG4.out (HB.out.trans (HB2.out.mono hsz)).size (fun k e => by injection e with e; have := HOld.out; omega)
                  · simp [lenV, intOf]; omega
            · obtain rfl : m3 = an := by omega
              have hmi3 : ¬ (m3 : Int) < (m3 : Int) := by omega
              have Hnx := Lib.hid (Hnall.out (all_un fun j hj => hall3.out j (by rw [Han.out]; exact hj)))
              clear hBj hall3
              go_wp2
              go_roundw
              case rel => exact ⟨m2 + 1, rfl, by omega, by go_num, Hnx.out, HBi.out.trans (HBj.out.mono hszi)⟩
              case measure => simp [intOf]; omega
        · obtain rfl : m2 = ln := by omega
          have hmi : ¬ (m2 : Int) < (m2 : Int) := by omega
          have Hnx := Lib.hid (HNx1.out (by rw [okU_eq]; exact all_hn fun j hj => hall.out j (by rw [Hln.out]; exact hj)))
          clear hBi hall
          go_wp2
          have hlr : (kept ++ [u]).length = kn + 1 := by rw [Hkn.out]; simp
          have e : (kept ++ [u]) ++ rest = kept ++ u :: rest := by simp
          refine ⟨⟨kept ++ [u], rest, some ⟨ab, 0, none⟩, c', by rw [e, ← Hsl.out], by rw [hlr]; simp, ?_, Hnx.out, by rw [e]; exact hasc.out, by rw [e]; exact hsub.out, by rw [e, ← Hsl.out]; exact hlen, HB.out.trans (HBi.out.mono hsz)⟩, ?_⟩
          · rw [e, ← Hsl.out]
            exact (Kept.fresh (S := fun _ => False) HBi.out).row HRow.out (fun _ _ q => q)
          · simp [lenV, intOf]; omega
end Go.Proofs.Ytkldiofleepkfaa.Hd
