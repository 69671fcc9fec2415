/- EngineSyncs. Here: the walk of the law's text. -/
import Derived.Test.YtegacggkdjgdiaaGreatRA
import Derived.Test.YtegacggkdjgdiaaGreatRB
import Derived.WalkKit
import Derived.OpenShut
set_option linter.unusedVariables false
set_option linter.unusedSimpArgs false
namespace Go.Proofs.YtegacggkdjgdiaaGreat
open Go.RowKit
/-- an engine of this call's own, that can go on -/
structure Own1 (w wr : World) (e : Nat) (S : Nat → Bk) (l : List Wr) (k : Int) (cc : Nat) (F1 : Nat → Prop) : Prop where
  eng : Eng wr e 5 S cc k l F1
  lo : ∀ b, F1 b → w.heap.size ≤ b
  dep : ∀ x ∈ l, ∀ d ∈ x.ah, d < x.num
  fine : Fine S l
  below : Below w.heap.size w wr
theorem Own1.fresh {w wr w' : World} {e : Nat} {S : Nat → Bk} {l : List Wr} {k : Int} {cc : Nat} {F1 : Nat → Prop} (h : Own1 w wr e S l k cc F1) (hB : Below wr.heap.size wr w') : Own1 w w' e S l k cc F1 :=
  ⟨h.eng.fresh hB, h.lo, h.dep, h.fine, h.below.trans (hB.mono h.below.size)⟩
theorem Own1.spoil {w wr : World} {e : Nat} {S : Nat → Bk} {l : List Wr} {k : Int} {cc : Nat} {F1 : Nat → Prop} (h : Own1 w wr e S l k cc F1) {i : Nat} (hi : i < 5) (hb : ∀ j, j < i → (S j).b = false) :
    Calls Tryz.prog 10 #[.pointer (some ⟨e, 0, none⟩), .int .i64 (i : Int), .bool false] wr fun en w' => en = .returned (.int .i64 0) ∧ ∃ S' F1', Own1 w w' e S' l k cc F1' ∧ ∀ j, j < i + 1 → (S' j).b = false := by
  refine (espoil h.eng hi false).mono ?_
  rintro en w' ⟨rfl, F1', he, hk, hf⟩
  have hs := h.below.size
  refine ⟨rfl, _, F1', ⟨he, fun b q => ?_, h.dep, h.fine.spoil i false, h.below.trans (hk.below h.lo hs)⟩, fun j hj => ?_⟩
  · rcases hf b q with q | q
    · exact h.lo b q
    · omega
  · by_cases e : j = i
    · subst e; rw [upd_same]
    · rw [upd_other _ _ e]; exact hb j (by omega)
theorem Own1.sync {w wr : World} {e : Nat} {S : Nat → Bk} {l : List Wr} {k : Int} {cc : Nat} {F1 : Nat → Prop} (h : Own1 w wr e S l k cc F1) (hb : ∀ j, j < 5 → (S j).b = false) (hc : cc ≤ 60000) :
    Calls Tryz.prog 11 #[.pointer (some ⟨e, 0, none⟩)] wr fun en w' => en = .returned (.int .i64 0) ∧ ∃ S' F1', Eng w' e 5 S' 70000 k [] F1' ∧ (∀ b, F1' b → w.heap.size ≤ b) ∧ (∀ j, (S' j).v = []) ∧ Below w.heap.size w w' := by
  have hr := h.eng.rights
  have hg : Goes 5 S l := ⟨hr.2.2.2.2, h.dep, fun x hx => ⟨by have := Pt.right_out (hr.1 x hx); omega, hr.2.1 x hx⟩, hb⟩
  refine (esync5 h.eng (by omega) (Nat.le_refl _)).mono ?_
  rintro en w' ⟨S', l', r, rfl, hs, F1', ⟨c1, hc1, he⟩, hk, hf⟩
  obtain ⟨rfl, rfl, h3⟩ := Goes.all hs hg
  have hsz := h.below.size
  refine ⟨rfl, S', F1', he.mono (by omega), fun b q => ?_, fun j => ?_, h.below.trans (hk.below h.lo hsz)⟩
  · rcases hf b q with q | q
    · exact h.lo b q
    · omega
  · rcases h3 with ⟨rfl, rfl⟩ | h3
    · cases hv : (S' j).v with
      | nil => rfl
      | cons a b =>
        obtain ⟨x, hx, _⟩ := h.fine.idle j (by rw [hv]; exact List.cons_ne_nil _ _)
        cases hx
    · exact h3 j
namespace EngineSyncs
theorem quiet_conv {P : Program} {C : World → Prop} {a : Act} {o : Oper} {K : Act → Prop} {s t : TypeId} (x : Operand) (v : Value) (h : o.op = .convert s t x) (hc : ∀ w, C w → (convert s t (a.eval x)).run P w = .ok v w) (hk : K (a.put o.dst v)) : o.quiet P a C K :=
  ⟨v, fun w hw => by
    have e : (execOp a.eval o).run P w = .ok (.value v) w := by
      have e1 := hc w hw
      unfold execOp; rw [h]
      revert e1
      generalize a.eval = ev
      intro e1
      simp [go_sem, e1]
    unfold Oper.quietAt; rw [e]; exact ⟨rfl, rfl⟩, hk⟩
set_option maxRecDepth 100000 in
set_option maxHeartbeats 4000000 in
theorem walk (a0 : Option Addr) (len0 cap0 : Nat) (z0 : List Dd) (a1 : Option Addr) (len1 cap1 : Nat) (z1 : List Int) (w : World) (h0 : z0.length = len0 ∧ DeedsAt w a0 z0 ∧ ∀ x ∈ z0, DdC w x) (h1 : NumsIn w a1 len1 cap1 z1) :
    Calls Tryz.prog 4 #[.slice a0 len0 cap0, .slice a1 len1 cap1] w fun e w' => e = .returned (.bool true) ∧ Below w.heap.size w w' := by
  obtain ⟨rfl, hA, hL⟩ := h0
  have HP := Lib.hid (play_any w a0 cap0 z0 hA hL)
  have H1 := Lib.hid h1
  obtain ⟨hl1, _, _, hW1, _⟩ := h1
  have HW1 := Lib.hid hW1
  subst hl1
  clear hA hL hW1
  generalize z0.length = len0 at HP
  unfold Played at HP
  go_enter Tryz.func4, Tryz.ntmps4
  go_wp2_with (first
    | (go_at_call 7; refine HP.out.mono ?_; rintro en x1 ⟨e, r, rfl, hO⟩; have HO := Lib.hid hO; clear hO)
    | (go_at_call 8; refine (live_any _).mono ?_; rintro en x2 ⟨rfl, hb2⟩; have HO2 := Lib.hid (HO.out.next hb2); obtain ⟨S0, l0, k, cc0, hcc0, F1, hE0⟩ : ∃ S l k cc, cc ≤ 50000 ∧ ∃ F1, Own1 w x2 e S l k cc F1 := (by obtain ⟨F, ⟨S, l, lv, t, k, cc, F1, F2, hP, rfl⟩, h2, h3⟩ := HO2.out; exact ⟨S, l, k, cc, by have := hP.cb; omega, F1, hP.eng, fun b q => h2 b (.inl q), hP.tie.dep, hP.fine, h3⟩); have HE0 := Lib.hid hE0; clear hb2 hE0))
  clear HP
  go_loopw [8] (fun q wr => ∃ (i : Nat) (S : Nat → Bk) (F1 : Nat → Prop), i ≤ 5 ∧ q = .int .i64 i ∧ Hid (Own1 w wr e S l0 k cc0 F1) ∧ Hid (∀ j, j < i → (S j).b = false)) (fun q _ => 5 - (intOf q).toNat)
  case atStart => exact ⟨0, S0, F1, Nat.zero_le _, rfl, HE0.out, fun j hj => absurd hj (by omega)⟩
  case round =>
    obtain ⟨i, S, F1', hi, rfl, hE, hb⟩ := hrel
    rename World => wr
    by_cases hi5 : i < 5
    · have hi5i : (i : Int) < 5 := by omega
      have HS := Lib.hid (hE.out.spoil hi5 hb.out)
      go_wp2_with (go_at_call 10; refine HS.out.mono ?_; rintro en x3 ⟨rfl, S3, F3, hE3, hb3⟩; have HE3 := Lib.hid hE3; have HB3 := Lib.hid hb3; clear hE3 hb3)
      go_roundw
      case rel => exact ⟨i + 1, S3, F3, by omega, by go_num, HE3.out, HB3.out⟩
      case measure => simp [intOf]; omega
    · obtain rfl : i = 5 := by omega
      have hi5i : ¬ (5 : Int) < 5 := by omega
      have HS := Lib.hid (hE.out.sync hb.out (by omega))
      go_wp2_with (first
        | (go_at_call 11; refine HS.out.mono ?_; rintro en x4 ⟨rfl, S4, F4, hE4, hf4, hv4, hb4⟩; have HE4 := Lib.hid hE4; have HV4 := Lib.hid hv4; have HB4 := Lib.hid hb4; have HCr := Lib.hid (ecrash hE4 (by omega) z1 HW1.out a1 cap1 (pick_of H1.out hb4)); clear hE4 hf4 hv4 hb4)
        | (go_at_call 12; refine HCr.out.mono ?_; rintro en x5 ⟨gd, F5, rfl, hcd, hf5, hb5⟩; have HC5 := Lib.hid hcd; have HE5 := Lib.hid (HE4.out.fresh hb5); have HB5 := Lib.hid (HB4.out.trans (hb5.mono HB4.out.size)); clear hcd hf5 hb5))
      clear HCr
      go_loopw [11] (fun q wr => ∃ i : Nat, i ≤ 5 ∧ q = .int .i64 i ∧ Hid (Below x5.heap.size x5 wr)) (fun q _ => 5 - (intOf q).toNat)
      case atStart => exact ⟨0, Nat.zero_le _, rfl, Below.refl _ _⟩
      case round =>
        obtain ⟨i, hi, rfl, hBq⟩ := hrel
        rename World => wq
        have hsq := hBq.out.size
        by_cases hi5 : i < 5
        · have hi5i : (i : Int) < 5 := by omega
          have HEq := Lib.hid (HE5.out.fresh hBq.out)
          have HBl := Lib.hid (eblock HEq.out hi5)
          have hL0 := fun (W : World) (hW : Below wq.heap.size wq W) => clast (HC5.out.fresh (hBq.out.trans (hW.mono hsq))) hi5
          obtain ⟨T, hT⟩ : ∃ T, T = (S4 i).s := ⟨_, rfl⟩
          have e1 : putL (S4 i).s (onL [] (i : Int)) = T := hT.symm
          have e2 : (crashed 5 S4 z1 i).s = T := by rw [crashed_still z1 (HV4.out i)]; exact hT.symm
          rw [e1] at HBl
          rw [e2] at hL0
          have hTl : T.length = 32 := by
            have := (HC5.out.okS hi5).1
            rw [e2] at this; exact this
          have HTl := Lib.hid hTl
          have hsz2 : Hid ((Tryz.prog.info? 40).map (·.size) = some (bytesV T).toArray.size) := by unfold Hid; rw [List.size_toArray, length_bytesV, hTl]; exact size36
          have hone : Hid ((bytesV T).toArray.all (·.oneCell') = true) := all_oneCell_toArray (bytesV_one _)
          have hold : Hid (32 = (bytesV T).toArray.size) := by unfold Hid; rw [List.size_toArray, length_bytesV, hTl]
          have HL7 := Lib.hid hL0
          unfold secV at HL7
          obtain ⟨R0, hR0⟩ : ∃ R0, R0 = (bytesV T).toArray := ⟨_, rfl⟩
          rw [← hR0] at HL7 hsz2 hone hold
          have HR0 := Lib.hid hR0
          clear hL0 hT e1 e2 hTl hR0
          go_wp2_with (first
            | (go_at_call 13; refine HBl.out.mono ?_; rintro en y1 ⟨A1, c1, rfl, _, _, hb1, _, hB1⟩; have HX1 := Lib.hid hB1; have Hb1 := Lib.hid hb1; clear hb1 hB1)
            | (go_at_call 14; refine (HL7.out _ HX1.out).mono ?_; rintro en w8 ⟨rfl, hb8⟩; have HB8 := Lib.hid hb8; clear hb8)
            | (refine wpList_store_row rfl 40 (.tmp 14) (.tmp 54) rfl w8.heap.size R0 rfl rfl 40 _ (heap_alloc_new w8 _) hsz2.out hold.out hone.out ?_; generalize hW : World.setRow (w8.alloc (Obj.cells _ 40)) _ R0 = w9; have HB9 : Hid (Below wq.heap.size wq w9) := (by rw [← hW]; exact (HX1.out.trans (HB8.out.mono HX1.out.size)).trans ((below_setRow (below_alloc1 w8 _) (Nat.le_refl _) _).mono (HX1.out.trans (HB8.out.mono HX1.out.size)).size)); have HB19 : Hid (Below y1.heap.size y1 w9) := (by rw [← hW]; exact HB8.out.trans ((below_setRow (below_alloc1 w8 _) (Nat.le_refl _) _).mono HB8.out.size)); have hr9 : Hid (w9.heap[w8.heap.size]? = some (.cells R0 40 (0, 0))) := (by rw [← hW]; exact setRow_heap _ _ _ _ _ _ (heap_alloc_new w8 _)); have hl9 : w8.heap.size < w9.heap.size := (by rw [← hW]; simp); have ht1 := fun n => bts_text ((Hb1.out.below HB19.out).below (drewN_below _ w9 n)) c1 HTl.out (by decide); have ht2 : ∀ n, (convert 36 9 (.slice (some ⟨w8.heap.size, 0, none⟩) 32 32)).run Tryz.prog (w9.drewN n) = .ok (.string (strOfNums T)) (w9.drewN n) := fun n => bts_text ((row_bts (t := 40) (by unfold BlkIs; rw [← HR0.out]; exact hr9.out) Hb1.out.1 hl9).below (drewN_below _ w9 n)) 32 HTl.out (by decide); clear hW))
          refine wp_region_quiet_lit (by kernel_rfl) (by kernel_rfl) ?_
          go_big_quiet_step (fail)
          go_big_quiet_want
          refine quiet_conv _ (.string (strOfNums T)) rfl (by rintro _ ⟨n, rfl⟩; exact ht1 n) ?_
          simp only [Act.put, List.setIfInBounds_toArray, List.set_cons_succ, List.set_cons_zero]
          go_big_quiet_on
          go_big_quiet_step (fail)
          go_big_quiet_want
          refine quiet_conv _ (.string (strOfNums T)) rfl (by rintro _ ⟨n, rfl⟩; exact ht2 n) ?_
          simp only [Act.put, List.setIfInBounds_toArray, List.set_cons_succ, List.set_cons_zero]
          go_big_quiet_on
          repeat go_big_quiet_step (fail)
          refine wpQuiet_nil ?_
          rintro _ ⟨nq, rfl⟩
          have HBn := Lib.hid (drewN_below wq.heap.size w9 nq)
          go_wp2
          go_roundw
          case rel => exact ⟨i + 1, by omega, by go_num, hBq.out.trans ((HB9.out.trans HBn.out).mono hsq)⟩
          case measure => simp [intOf]; omega
        · obtain rfl : i = 5 := by omega
          have hi5i : ¬ (5 : Int) < 5 := by omega
          have HEq := Lib.hid (HE5.out.fresh hBq.out)
          have HWt := Lib.hid (ewaiting HEq.out)
          go_wp2_with (first
            | (go_at_call 15; refine HWt.out.mono ?_; rintro en x9 ⟨A9, c9, rfl, _, hb9⟩; have HB9 := Lib.hid hb9; have HDr := Lib.hid (edirty_nil (HEq.out.fresh hb9)); clear hb9)
            | (go_at_call 16; refine HDr.out.mono ?_; rintro en x10 ⟨rfl, rfl⟩))
          go_ret
          exact ⟨rfl, HB5.out.trans ((hBq.out.trans (HB9.out.mono hsq)).mono HB5.out.size)⟩
end EngineSyncs
end Go.Proofs.YtegacggkdjgdiaaGreat
