/- Contract of Closed. -/
import Derived.Test.YthffdkoncagimaaGM
namespace Go.Proofs.Ythffdkoncagimaa
set_option linter.unusedVariables false
set_option linter.unusedSimpArgs false
set_option maxRecDepth 100000
open Go.RowKit Go.Shelf

attribute [local go_sem] Oper.semAt_some
def ClosedP (D : List (List Nat)) (l : List Int) : Prop := (∀ x ∈ l, isN D x = true) ∧ ∀ n, markI D.length l n = true → ∀ d ∈ rowN D n, markI D.length l d = true
noncomputable def closedB (D : List (List Nat)) (l : List Int) : Bool := @decide (ClosedP D l) (Classical.propDecidable _)
theorem closedB_yes {D : List (List Nat)} {l : List Int} (h : ClosedP D l) : closedB D l = true := by unfold closedB; exact @decide_eq_true _ (Classical.propDecidable _) h
theorem closedB_no {D : List (List Nat)} {l : List Int} (h : ¬ ClosedP D l) : closedB D l = false := by unfold closedB; exact @decide_eq_false _ (Classical.propDecidable _) h
theorem zero4 : (Try.prog.info? 4).map (fun i => (i.zero, i.size)) = some (some (.bool false), 1) := by kernel_rfl
theorem boxed_below {w w' : World} {B k : Nat} {t : TypeId} {v : Value} (h : Boxed w k t v) (hb : Below B w w') (hk : k < B) : Boxed w' k t v := (hb.block k hk).trans h
theorem boxed_grown {w w' : World} {k g : Nat} {t : TypeId} {v : Value} (h : Boxed w k t v) (hg : w.grownBy w' (some g)) (hne : k ≠ g) : Boxed w' k t v := h.kept hg (fun e => hne (by injection e))
theorem ClosedP.out {D : List (List Nat)} {l : List Int} (h : ClosedP D l) {n d : Nat} (hn : markI D.length l n = true) (hd : d ∈ rowN D n) : markI D.length l d = true := h.2 n hn d hd
theorem results_cell4 {fn : Func} {p : Tmp} {ty : TypeId} (h : fn.results = #[.cell p ty]) (tmps : Array Value) (P : Program) (w : World) :
    (results fn tmps).run P w = ((asAddr (tmps.getD p undef)).run P w).andThen fun a w₁ => (loadVar ty a).run P w₁ := by
  simp only [results, h]
  simp [Sem.run_bind]

/-- a bool that is handed back out of a block -/
theorem results_one {fn : Func} {p : Tmp} (tmps : Array Value) (w : World) (g : Nat) (v : Bool) (h : fn.results = #[.cell p 4]) (hp : tmps.getD p undef = .pointer (some ⟨g, 0, none⟩)) (hb : Boxed w g 4 (.bool v)) :
    (results fn tmps).run Try.prog w = .ok (.bool v) w := by
  have hc := hb.cell
  have hp' : tmps[p]?.getD undef = .pointer (some ⟨g, 0, none⟩) := by simpa using hp
  rw [results_cell4 h, hp]
  simp [asAddr, Result.andThen, go_sem, hc]

set_option maxRecDepth 100000 in
set_option maxHeartbeats 1000000 in
theorem closed_in (n : Nat) (hn : 4 ≤ n) (A : Option Addr) (c kD : Nat) (D : List (List Nat)) (hkD : kD = D.length) (hD : OkD D) (A2 : Option Addr) (c2 k2 : Nat) (l : List Int) (hk2 : k2 = l.length) (hl : l.length ≤ 100000) (w : World)
    (hM : Mat w w.heap.size A (rowsI D)) (hI : Ints w w.heap.size A2 l) :
    CallsIn Fence.wide n Try.prog 19 #[.slice A kD c, .slice A2 k2 c2] w fun e W' => e = .returned (.bool (closedB D l)) ∧ Below w.heap.size w W' := by
  have h1 : 1 ≤ n := by omega
  subst hk2
  have hw0 : Below w.heap.size w ((w.alloc (.cells #[.slice A kD c] 22)).alloc (.cells #[.bool false] 4)) := ((Below.refl _ _).alloc (Nat.le_refl _) _).alloc (by simp) _
  have hb0 := (Boxed.new w 22 (.slice A kD c)).alloc (.cells #[.bool false] 4)
  have hb1 := Boxed.new (w.alloc (.cells #[.slice A kD c] 22)) 4 (.bool false)
  simp only [World.size_alloc] at hb1
  have hs0 : ((w.alloc (.cells #[.slice A kD c] 22)).alloc (.cells #[.bool false] 4)).heap.size = w.heap.size + 2 := by simp
  obtain ⟨hz4, _⟩ := zero_of_info (P := Try.prog) zero4
  refine callsIn_of_wp_marks Try.func19 rfl trivial ?_ rfl
  simp only [Try.ntmps19, List.size_toArray, List.length_cons, List.length_nil, Nat.reduceAdd, Nat.reduceSub, Array.replicate_succ, Array.replicate_zero, List.push_toArray, List.append_toArray, List.nil_append, List.cons_append]
  have HR := Lib.hid (right_yes A c kD D hkD hD ((w.alloc (.cells #[.slice A kD c] 22)).alloc (.cells #[.bool false] 4)) ((hM.below hw0).more (by simp; omega)))
  have HkD := Lib.hid hkD
  have HDo := Lib.hid hD
  have HM := Lib.hid hM
  have HI := Lib.hid hI
  have Hw0 := Lib.hid hw0
  have Hb0 := Lib.hid hb0
  have Hb1 := Lib.hid hb1
  have Hs0 := Lib.hid hs0
  clear hkD hD hM hI hw0 hb0 hb1 hs0
  gi_wp2_with (refine ⟨trivial, ?_⟩; gi_at_call 34; refine (callsIn_wide.2 HR.out).mono ?_; rintro e w' ⟨rfl, rfl⟩)
  generalize ((w.alloc (Obj.cells #[.slice A kD c] 22)).alloc (.cells #[.bool false] 4)) = W0 at Hw0 Hb0 Hb1 Hs0 ⊢
  clear HR
  have hcb0 := Hb0.out.cell
  have hcr0 := Hb1.out.cell
  have hfr0 := Hb1.out.frozen
  gi_loopw [16] (fun i wr => ∃ k : Nat, k ≤ l.length ∧ i = .int .i64 k ∧ wr = W0 ∧ ∀ x ∈ l.take k, isN D x = true) (fun i _ => l.length - (intOf i).toNat)
  case atStart => exact ⟨0, Nat.zero_le _, rfl, rfl, fun x hx => by simp at hx⟩
  case round =>
    obtain ⟨k, hk, rfl, rfl, hall⟩ := hrel
    have Hall := Lib.hid hall
    clear hall
    by_cases hlt : k < l.length
    · have hlti : (k : Int) < (l.length : Int) := by omega
      have hk0 : (0 : Int) ≤ (k : Int) := by omega
      obtain ⟨b2, o2, rfl, hb2, hc2⟩ := HI.out.at_ hlt
      have hc2' := (Below.cell Hw0.out (p := ⟨b2, o2 + k, none⟩) hb2).trans hc2
      have Htk := Lib.hid (take_nth l k hlt)
      have hmem : nth l k ∈ l := by rw [nth_lt hlt]; exact List.getElem_mem _
      obtain ⟨x, hx⟩ : ∃ x, x = nth l k := ⟨_, rfl⟩
      rw [← hx] at hc2' Htk hmem
      have Hmem := Lib.hid hmem
      clear hc2 hx hmem
      cases hv : isN D x with
      | true =>
        have Hv := Lib.hid hv
        clear hv
        gi_wp2_with (refine ⟨trivial, ?_⟩; gi_at_call 35; refine (callsIn_wide.2 (there_is A c kD D HkD.out x true Hv.out _)).mono ?_; rintro e w' ⟨rfl, rfl⟩)
        go_roundw
        case rel =>
          refine ⟨k + 1, by omega, by go_num, trivial, fun y hy => ?_⟩
          rw [Htk.out] at hy
          rcases List.mem_append.1 hy with hy | hy
          · exact Hall.out y hy
          · rw [List.mem_singleton.1 hy]; exact Hv.out
        case measure => simp [intOf]; omega
      | false =>
        have Hf := Lib.hid (closedB_no (D := D) (l := l) (fun h => by have := h.1 x Hmem.out; rw [hv] at this; cases this))
        have Hv := Lib.hid hv
        clear hv
        gi_wp2_with (refine ⟨trivial, ?_⟩; gi_at_call 35; refine (callsIn_wide.2 (there_is A c kD D HkD.out x false Hv.out _)).mono ?_; rintro e w' ⟨rfl, rfl⟩)
        exact ⟨.bool false, results_one _ _ _ _ rfl rfl (Hb1.out.set (.bool false)), by rw [Hf.out], Hw0.out.setCell (p := ⟨w.heap.size + 1, 0, none⟩) (by show w.heap.size ≤ w.heap.size + 1; omega) _⟩
    · have hlti : ¬ (k : Int) < (l.length : Int) := by omega
      obtain rfl : k = l.length := by omega
      have hkn := HkD.out
      subst hkn
      have Hall2 : Hid (∀ x ∈ l, isN D x = true) := by have := Hall.out; rw [List.take_length] at this; exact this
      have hI0 : Ints wr wr.heap.size A2 l := (HI.out.below Hw0.out).more Hw0.out.size
      have HMk := Lib.hid (mark_any A D.length c A2 c2 l.length l wr rfl HDo.out.right.1 hl hI0)
      obtain ⟨hz, hs⟩ := zero_of_info (P := Try.prog) info60
      obtain ⟨Z, hZ⟩ : ∃ Z, Z = zero60 := ⟨_, rfl⟩
      rw [← hZ] at hz
      obtain ⟨m, hm⟩ : ∃ m, m = markI D.length l := ⟨_, rfl⟩
      have Hm := Lib.hid hm
      have hml : ∀ x, m x = true → x < D.length := fun x h => by rw [hm] at h; exact markI_lt h
      have Hml := Lib.hid hml
      rw [← hm] at HMk
      obtain ⟨Tm, hT⟩ : ∃ Tm, Tm = (marksV m).toArray := ⟨_, rfl⟩
      have hTs : Tm.size = 256 := by rw [hT]; simp [length_marksV]
      have H1 : Hid (∀ v ∈ Tm.toList, v.oneCell' = true) := by unfold Hid; rw [hT]; exact marksV_one _
      have Hs51 : Hid ((Try.prog.info? 60).map (·.size) = some Tm.size) := by unfold Hid; rw [hs, hTs]
      have HZl : Hid (Z.size = Tm.size) := by unfold Hid; rw [hTs, hZ]; rfl
      have HT := Lib.hid hT
      rw [← hT] at HMk
      clear hZ hs hm hml hT hTs hI0 hcr0 hfr0
      gi_wp2_with (first
        | (refine ⟨trivial, ?_⟩; gi_at_call 36; refine (callsIn_wide.2 HMk.out).mono ?_; rintro e w1 ⟨rfl, hB1⟩)
        | (refine wpListIn_store_new rfl 60 (.tmp 7) (.tmp 27) rfl w1.heap.size rfl Tm Z rfl rfl Hs51.out HZl.out H1.out ?_)
        | (refine ⟨trivial, ?_⟩; gi_at_call 37; refine (riseMake_in (n - 1) _ _ w1.heap.size rfl).mono ?_; rintro e w' ⟨rfl, rfl⟩))
      have hBw : Below wr.heap.size wr ((w1.alloc (.cells Tm 60)).alloc (.cells #[.pointer (some ⟨w1.heap.size, 0, none⟩)] 70)) := (hB1.alloc hB1.size _).alloc (by have := hB1.size; simp; omega) _
      have hMo : Marks ((w1.alloc (.cells Tm 60)).alloc (.cells #[.pointer (some ⟨w1.heap.size, 0, none⟩)] 70)) w1.heap.size m := by
        have := (BlkIs.new w1 60 Tm).alloc (.cells #[.pointer (some ⟨w1.heap.size, 0, none⟩)] 70)
        rw [HT.out] at this ⊢
        exact this
      have hbx : Boxed ((w1.alloc (.cells Tm 60)).alloc (.cells #[.pointer (some ⟨w1.heap.size, 0, none⟩)] 70)) (w1.heap.size + 1) 70 (.pointer (some ⟨w1.heap.size, 0, none⟩)) := by
        have := Boxed.new (w1.alloc (.cells Tm 60)) 70 (.pointer (some ⟨w1.heap.size, 0, none⟩))
        simpa only [World.size_alloc] using this
      have hs1 : ((w1.alloc (.cells Tm 60)).alloc (.cells #[.pointer (some ⟨w1.heap.size, 0, none⟩)] 70)).heap.size = w1.heap.size + 2 := by simp
      have hs2 := hB1.size
      have hsw : w.heap.size + 2 ≤ wr.heap.size := by have := Hs0.out; omega
      generalize ((w1.alloc (.cells Tm 60)).alloc (.cells #[.pointer (some ⟨w1.heap.size, 0, none⟩)] 70)) = W1 at hBw hMo hbx hs1 ⊢
      have hbA : Boxed W1 w.heap.size 22 (.slice A D.length c) := boxed_below Hb0.out hBw (by omega)
      have hbR : Boxed W1 (w.heap.size + 1) 4 (.bool false) := boxed_below Hb1.out hBw (by omega)
      have hB0 : Below w.heap.size w W1 := Hw0.out.trans (hBw.mono (by omega))
      have HMo := Lib.hid hMo
      clear hB1 hBw hMo
      obtain ⟨I, hIe⟩ : ∃ I : List (On m) → World → Prop, I = fun pre W => (∀ x ∈ plainO pre, ∀ d ∈ rowN D x, m d = true) ∧ Marks W w1.heap.size m ∧ Boxed W w.heap.size 22 (.slice A D.length c) ∧ Boxed W (w.heap.size + 1) 4 (.bool false) ∧ Below w.heap.size w W := ⟨_, rfl⟩
      obtain ⟨X, hXe⟩ : ∃ X : Code → List (On m) → World → Prop, X = fun cd pre W => cd = .ret ∧ ¬ ClosedP D l ∧ Boxed W (w.heap.size + 1) 4 (.bool false) ∧ Below w.heap.size w W := ⟨_, rfl⟩
      have HIe := Lib.hid hIe
      have HXe := Lib.hid hXe
      refine wpIn_rangeFunc_ownG rfl h1 (gf := 43) (lb := #[.pointer (some ⟨w1.heap.size + 1, 0, none⟩)]) rfl trivial (enters_of Try.func43 (by kernel_rfl) rfl)
        (rise_stops (n - 1) (by omega) (w1.heap.size + 1) w1.heap.size w.heap.size m W1 (by omega) (by omega) hbx.cell HMo.out) KeepsTwo.trans (keepsTwo_b (by omega) (by omega) (by omega)) (Below.refl _ _) (fun _ => rfl)
        I X ?own ?ownx (by rw [hIe]; exact ⟨fun x hx => by simp [plainO] at hx, HMo.out, hbA, hbR, hB0⟩)
        ?a1 ?assign ?body ?done ?stop
      case own =>
        rw [hIe]
        exact OwnFrom.and (fun _ _ _ _ h _ _ => h) (OwnFrom.and (Own.from (marks_own w1.heap.size (fun _ => m)) _) (OwnFrom.and (Own.from (boxed_own w.heap.size 22 (fun _ => _)) _) (OwnFrom.and (Own.from (boxed_own (w.heap.size + 1) 4 (fun _ => _)) _) (ownFrom_below (Nat.le_refl _) (by omega)))))
      case ownx =>
        intro cd
        rw [hXe]
        exact OwnFrom.and (fun _ _ _ _ h _ _ => h) (OwnFrom.and (fun _ _ _ _ h _ _ => h) (OwnFrom.and (Own.from (boxed_own (w.heap.size + 1) 4 (fun _ => _)) _) (ownFrom_below (Nat.le_refl _) (by omega))))
      case assign =>
        intro l x W K hK
        gi_wp2
        exact hK
      case body =>
        rintro lp pre x W hi hlt'
        rw [hIe] at hi
        obtain ⟨hok, hMk, hA, hRb, hB⟩ := hi
        have hxD := Hml.out x.1 x.2.2
        have hxm := x.2.2
        have hMW := HM.out.below hB
        obtain ⟨bx, ox, Ax, cx, ex, hbx', hcx, hIx⟩ := hMW.at_ (k := x.1) (by rw [length_rowsI]; exact hxD)
        rw [rowI_rowsI, length_natsI] at hcx
        rw [rowI_rowsI] at hIx
        have hrl := HDo.out.len x.1
        have hrlt := HDo.out.right.row_lt x.1
        have hD256 := HDo.out.right.1
        obtain ⟨row, hrow⟩ : ∃ row, row = rowN D x.1 := ⟨_, rfl⟩
        rw [← hrow] at hcx hIx hrl hrlt
        subst ex
        have hxi : (x.1 : Int) < (D.length : Int) := by omega
        have hx0 : (0 : Int) ≤ (x.1 : Int) := by omega
        have cA := hA.cell
        have cR := hRb.cell
        have fR := hRb.frozen
        have Hok := Lib.hid hok
        have HMk2 := Lib.hid hMk
        have HA := Lib.hid hA
        have HRb := Lib.hid hRb
        have HB := Lib.hid hB
        have HIx := Lib.hid hIx
        have Hrow := Lib.hid hrow
        have Hrlt := Lib.hid hrlt
        clear hok hMk hA hRb hB hIx hMW hrow hrlt hIe hXe hcb0
        gi_wp2_with fail
        gi_loopw [35] (fun i w2 => ∃ j : Nat, j ≤ row.length ∧ i = .int .i64 j ∧ w2 = W ∧ ∀ d ∈ row.take j, m d = true) (fun i _ => row.length - (intOf i).toNat)
        case atStart => exact ⟨0, Nat.zero_le _, rfl, rfl, fun x hx => by simp at hx⟩
        case round =>
          obtain ⟨j, hj, rfl, rfl, hrowok⟩ := hrel
          rename World => w2
          have Hro := Lib.hid hrowok
          clear hrowok
          by_cases hltj : j < row.length
          · have hltji : (j : Int) < (row.length : Int) := by omega
            have hj0 : (0 : Int) ≤ (j : Int) := by omega
            obtain ⟨bj, oj, rfl, hbj, hcj⟩ := HIx.out.at_ (k := j) (by rw [length_natsI]; exact hltj)
            rw [nth_nats row j hltj] at hcj
            have htk := take_el row j hltj
            have hdl := Hrlt.out (el row j) (by rw [el_lt hltj]; exact List.getElem_mem _)
            have hdm : el row j ∈ row := by rw [el_lt hltj]; exact List.getElem_mem _
            obtain ⟨d, hd⟩ : ∃ d, d = el row j := ⟨_, rfl⟩
            rw [← hd] at hcj htk hdl hdm
            have Htk := Lib.hid htk
            have Hdm := Lib.hid hdm
            have hdi : (d : Int) < 256 := by omega
            have hd0 : (0 : Int) ≤ (d : Int) := by omega
            have hcd := HMk2.out.cell (x := d) (by omega)
            clear htk hd hdm
            cases hv : m d with
            | true =>
              have Hv := Lib.hid hv
              rw [hv] at hcd
              clear hv
              gi_wp2_with fail
              go_roundw
              case rel =>
                refine ⟨j + 1, by omega, by go_num, trivial, fun y hy => ?_⟩
                rw [Htk.out] at hy
                rcases List.mem_append.1 hy with hy | hy
                · exact Hro.out y hy
                · rw [List.mem_singleton.1 hy]; exact Hv.out
              case measure => simp [intOf]; omega
            | false =>
              have Hf : Hid (¬ ClosedP D l) := fun h => by
                have := h.2 x.1 (by rw [← Hm.out]; exact hxm) d (by rw [← Hrow.out]; exact Hdm.out)
                rw [← Hm.out, hv] at this; cases this
              rw [hv] at hcd
              clear hv
              gi_wp2_with fail
              have hG3 : w2.grownBy (w2.setCell ⟨w.heap.size + 1, 0, none⟩ (.bool false)) (some (w.heap.size + 1)) := grownBy_set w2 _ _ _
              have hQ : ∀ a3, ownPostG W1.heap.size (KeepsTwo w.heap.size (w1.heap.size + 1) w1.heap.size) I X (pre ++ [x]) w2 Exit.ret a3 (w2.setCell ⟨w.heap.size + 1, 0, none⟩ (.bool false)) := fun _ => by
                refine ⟨grown_keeps hG3 (by omega), ?_⟩
                rw [HXe.out]
                exact ⟨rfl, Hf.out, HRb.out.set _, HB.out.setCell (p := ⟨w.heap.size + 1, 0, none⟩) (by show w.heap.size ≤ w.heap.size + 1; omega) _⟩
              exact hQ { tmps := #[], defers := [] }
          · have hltji : ¬ (j : Int) < (row.length : Int) := by omega
            obtain rfl : j = row.length := by omega
            have Hro2 : Hid (∀ d ∈ row, m d = true) := by have := Hro.out; rw [List.take_length] at this; exact this
            gi_wp2_with fail
            have hQ : ∀ a3, ownPostG W1.heap.size (KeepsTwo w.heap.size (w1.heap.size + 1) w1.heap.size) I X (pre ++ [x]) w2 Exit.normal a3 w2 := fun _ => by
              refine ⟨KeepsFrom.refl _ _, KeepsTwo.refl _ _ _ _, ?_⟩
              rw [HIe.out]
              refine ⟨fun y hy => ?_, HMk2.out, HA.out, HRb.out, HB.out⟩
              rw [plainO_snoc] at hy
              rcases List.mem_append.1 hy with hy | hy
              · exact Hok.out y hy
              · rw [List.mem_singleton.1 hy, ← Hrow.out]; exact Hro2.out
            have hQ' := hQ { tmps := #[], defers := [] }
            rw [hs1] at hQ'
            exact hQ'
      case done =>
        rintro D1 ys W hD1 hys hi hK1
        rw [hIe, hys] at hi
        obtain ⟨hok, _, _, hRb, hB⟩ := hi
        have Hf := Lib.hid (closedB_yes (D := D) (l := l) ⟨Hall2.out, fun y hy d hd => by
          rw [← Hm.out] at hy ⊢
          exact hok y (mem_listM.2 ⟨by have := Hml.out y hy; have := HDo.out.right.1; omega, hy⟩) d hd⟩)
        have cR := hRb.cell
        have fR := hRb.frozen
        have HRb := Lib.hid hRb
        have HB := Lib.hid hB
        have HK1 := Lib.hid hK1
        have hD1' : w.heap.size + 2 ≤ D1 := by omega
        clear hok hRb hB hK1 hIe hXe hys HIe HXe hcb0
        gi_wp2_with fail
        have hG3 := grownBy_set W (w.heap.size + 1) 0 (.bool true)
        have hK3 : (W.setCell ⟨w.heap.size + 1, 0, none⟩ (.bool true)).heap[D1]? = some (.deferred (some [])) := (hG3.block D1 (Array.getElem?_eq_some_iff.1 HK1.out).1 (fun e => by injection e with e; omega)).trans HK1.out
        refine ⟨by simp, .inl ⟨_, _, rfl, run_takeDeferred hK3, ?_⟩⟩
        exact ⟨.bool true, results_one _ _ _ _ rfl rfl ((HRb.out.set (.bool true)).kept (grownBy_putObj' _ D1 _) (fun e => by injection e with e; omega)), by rw [Hf.out],
          (HB.out.setCell (p := ⟨w.heap.size + 1, 0, none⟩) (by show w.heap.size ≤ w.heap.size + 1; omega) _).grown (grownBy_putObj' _ D1 _) (by have := HB.out.size; simp [World.setCell]; omega) (fun k e => by injection e with e; omega)⟩
      case stop =>
        rintro D1 cd pre W hD1 hpre hx hK1
        rw [hXe] at hx
        obtain ⟨rfl, hnc, hRb, hB⟩ := hx
        have Hf := Lib.hid (closedB_no hnc)
        have HRb := Lib.hid hRb
        have HB := Lib.hid hB
        have HK1 := Lib.hid hK1
        have hD1' : w.heap.size + 2 ≤ D1 := by omega
        clear hnc hRb hB hK1 hIe hXe hpre HIe HXe hcb0
        gi_wp2_with fail
        refine ⟨by simp, .inl ⟨_, _, rfl, run_takeDeferred HK1.out, ?_⟩⟩
        exact ⟨.bool false, results_one _ _ _ _ rfl rfl (HRb.out.kept (grownBy_putObj' _ D1 _) (fun e => by injection e with e; omega)), by rw [Hf.out],
          HB.out.grown (grownBy_putObj' _ D1 _) (by have := HB.out.size; omega) (fun k e => by injection e with e; omega)⟩
end Go.Proofs.Ythffdkoncagimaa
