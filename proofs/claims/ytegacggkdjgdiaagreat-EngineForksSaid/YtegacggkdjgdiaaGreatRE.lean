/- Both engines tell the same. -/
import Derived.Test.YtegacggkdjgdiaaGreatRA
import Derived.Test.YtegacggkdjgdiaaGreatRD
set_option linter.unusedVariables false
set_option linter.unusedSimpArgs false
namespace Go.Proofs.YtegacggkdjgdiaaGreat
open Go.RowKit

theorem same_rows {W : World} {xs : List Int} {B1 B2 : Nat} {A1 A2 : Option Addr} {c1 c2 : Nat} (h1 : W.ownsRow B1 3 1 (.slice A1 xs.length c1) xs.length (intsI xs)) (h2 : W.ownsRow B2 3 1 (.slice A2 xs.length c2) xs.length (intsI xs)) (hl : xs.length ≤ 100000) :
    Calls Tryz.prog 32 #[.slice A1 xs.length c1, .slice A2 xs.length c2] W fun e w' => e = .returned (.bool true) ∧ Below W.heap.size W w' := by
  have := same_full A1 A2 c1 c2 _ _ xs xs W W.heap.size W.heap.size rfl rfl (grow_row rfl h1) (grow_row rfl h2) hl
  simpa using this
theorem ready_out {l : List Wr} {n : Nat} (h : ∀ x ∈ l, 0 ≤ x.p.b ∧ x.p.b < n) {z : Int} (hz : ¬ (0 ≤ z ∧ z < n)) : readyL l z = [] := by
  have : onL l z = [] := by
    unfold onL
    rw [List.filter_eq_nil_iff]
    intro x hx
    have := h x hx
    simp; omega
  unfold readyL; rw [this]; rfl
def Okl (l : List Wr) : Prop := ∀ x ∈ l, 0 ≤ x.p.b ∧ x.p.b < 5
theorem PairAt.okl {w : World} {e r : Nat} {S : Nat → Bk} {l : List Wr} {lv : List Vr} {t : List Tr} {k : Int} {m cc : Nat} {F1 F2 : Nat → Prop} (h : PairAt w e r S l lv t k m cc F1 F2) : ∀ x ∈ l, 0 ≤ x.p.b ∧ x.p.b < (5 : Nat) := fun x hx => ⟨by have := Pt.right_out (h.eng.rights.1 x hx); omega, h.eng.rights.2.1 x hx⟩
theorem nums_len (l : List Wr) : (numsL l).length = l.length := by simp [numsL]
set_option maxRecDepth 100000 in
set_option maxHeartbeats 4000000 in
theorem same_any {w : World} {e r : Nat} {S : Nat → Bk} {l : List Wr} {lv : List Vr} {t : List Tr} {k : Int} {m cc : Nat} {F1 F2 : Nat → Prop} (h : PairAt w e r S l lv t k m cc F1 F2) (hm : m ≤ 45) (pick : List Int) (hpw : ∀ x ∈ pick, -9223372036854775808 ≤ x ∧ x ≤ 9223372036854775807) (P : Option Addr) (pc pn : Nat) (hpn : pick.length = pn) (hP : PickAt w (fun b => w.heap.size ≤ b) P pick) :
    Calls Tryz.prog 9 #[.pointer (some ⟨e, 0, none⟩), .pointer (some ⟨r, 0, none⟩), .slice P pn pc] w fun en w' => en = .returned (.bool true) ∧ Below w.heap.size w w' := by
  subst hpn
  have HP := Lib.hid h
  have HPk : Hid (∀ W, Below w.heap.size w W → PickAt W (fun b => W.heap.size ≤ b) P pick) := fun W hW => by
    rcases hP with q | ⟨b, o, q1, q2, q3, q4⟩
    · exact .inl q
    · exact .inr ⟨b, o, q1, Nat.lt_of_lt_of_le q2 hW.size, fun q => by have := hW.size; omega, fun j u hj => by rw [World.cell?_of_block (a := ⟨b, o + j, none⟩) (hW.block b q2)]; exact q4 j u hj⟩
  have HW := Lib.hid hpw
  obtain ⟨pl, hpl⟩ : ∃ pl, pl = pick.length := ⟨_, rfl⟩
  have Hpl : Hid (pick.length = pl) := hpl.symm
  have hcc : cc ≤ 60000 := by have := h.cb; omega
  rw [← hpl]
  clear h hP hpw hpl
  go_enter Tryz.func9, Tryz.ntmps9
  go_wp2
  go_loopw [7] (fun q wr => ∃ z : Int, -1 ≤ z ∧ z ≤ 6 ∧ q = .int .i64 z ∧ Hid (Below w.heap.size w wr)) (fun q _ => (6 - intOf q).toNat)
  case atStart => exact ⟨-1, Int.le_refl _, by omega, rfl, Below.refl _ _⟩
  case round =>
    obtain ⟨z, hz1, hz2, rfl, hB⟩ := hrel
    rename World => wr
    have hsz := hB.out.size
    have HPr := Lib.hid (HP.out.fresh hB.out)
    have HSz := Lib.hid (qsize HPr.out.ref)
    by_cases hz5 : z ≤ 5
    · have hz5i : z ≤ ((5 : Nat) : Int) := by omega
      by_cases hin : 0 ≤ z ∧ z < 5
      · obtain ⟨i, rfl⟩ : ∃ i : Nat, z = (i : Int) := ⟨z.toNat, by omega⟩
        have hi5 : i < 5 := by omega
        obtain ⟨T, hT⟩ : ∃ T, T = putL (S i).s (onL l (i : Int)) := ⟨_, rfl⟩
        have HB1 := Lib.hid (eblock HPr.out.eng hi5)
        rw [← hT] at HB1
        have HB2 : Hid (∀ W, Below wr.heap.size wr W → Calls Tryz.prog 31 #[.pointer (some ⟨r, 0, none⟩), .int .i64 (i : Int)] W fun e w' => ∃ A c, e = .returned (.tuple #[.slice A 32 c, .int .i64 0]) ∧ Bts w' w'.heap.size A T ∧ T.length = 32 ∧ Below W.heap.size W w') := fun W hW => by
          have := qblock (HPr.out.fresh hW).ref (by have := HP.out.vlen; omega) HP.out.vr hi5
          rw [HP.out.tie.tw.all i, ← hT] at this
          exact this
        obtain ⟨xs, hxs⟩ : ∃ xs, xs = numsL (readyL l (i : Int)) := ⟨_, rfl⟩
        have hxl : xs.length ≤ 100000 := by
          rw [hxs, nums_len]
          have := (readyL_subL l i).length_le
          have := HP.out.eng.rights.2.2.2.1
          omega
        have HR1 : Hid (∀ W, Below wr.heap.size wr W → Calls Tryz.prog 33 #[.pointer (some ⟨e, 0, none⟩), .int .i64 (i : Int)] W (Says W xs)) := fun W hW => by rw [hxs]; exact eready (HPr.out.fresh hW).eng _
        have HR2 : Hid (∀ W, Below wr.heap.size wr W → Calls Tryz.prog 34 #[.pointer (some ⟨r, 0, none⟩), .int .i64 (i : Int)] W (Says W xs)) := fun W hW => by
          obtain ⟨d, A, c, A2, c2, Fd, hq, _⟩ := (HPr.out.fresh hW).ref
          have := qready_any hq (by have := HP.out.vlen; omega) (fun x hx => by have := HP.out.ds x hx; omega) (i : Int) (by omega)
          rw [HP.out.tie.ready_eq i, ← hxs] at this
          exact this
        clear hT hxs hin
        unfold Says at HR1 HR2
        go_wp2_with (first
          | (go_at_call 30; refine HSz.out.mono ?_; rintro en w' ⟨rfl, rfl⟩)
          | (go_at_call 13; refine HB1.out.mono ?_; rintro en y1 ⟨A1, c1, rfl, hc1, hm1, hb1, hl1, hB1⟩; have HX1 := Lib.hid hB1; have Hb1 := Lib.hid hb1; have Hl1 := Lib.hid hl1; clear hc1 hm1 hb1 hl1 hB1)
          | (go_at_call 31; refine (HB2.out y1 HX1.out).mono ?_; rintro en y2 ⟨A2, c2, rfl, hb2, hl2, hB2⟩; have HX2 := Lib.hid (HX1.out.trans (hB2.mono HX1.out.size)); have ht1 := bts_text (Hb1.out.below hB2) c1 Hl1.out (by decide); have ht2 := bts_text hb2 c2 Hl1.out (by decide); clear hb2 hl2 hB2)
          | (go_at_call 33; refine (HR1.out y2 HX2.out).mono ?_; rintro en y3 ⟨A3, c3, rfl, ho3, hb3⟩; have HX3 := Lib.hid (HX2.out.trans (hb3.mono HX2.out.size)); have HO3 := Lib.hid ho3; clear ho3 hb3)
          | (go_at_call 34; refine (HR2.out y3 HX3.out).mono ?_; rintro en y4 ⟨A4, c4, rfl, ho4, hb4⟩; have HX4 := Lib.hid (HX3.out.trans (hb4.mono HX3.out.size)); have HSa := Lib.hid (same_rows ((Kept.fresh (S := fun _ => False) hb4).row HO3.out (fun _ _ q => q)) ho4 hxl); clear ho4 hb4)
          | (go_at_call 32; refine HSa.out.mono ?_; rintro en y5 ⟨rfl, hb5⟩; have HX5 := Lib.hid (HX4.out.trans (hb5.mono HX4.out.size)); clear hb5))
        go_roundw
        case rel => exact ⟨(i : Int) + 1, by omega, by omega, by go_num, hB.out.trans (HX5.out.mono hsz)⟩
        case measure => simp [intOf]; omega
      · have hno : ¬ (0 ≤ z ∧ z < ((5 : Nat) : Int)) := by omega
        have HB1 := Lib.hid (eblock_no HPr.out.eng z hno)
        have HB2 := Lib.hid (fun W (hW : Below wr.heap.size wr W) => qblock_no (HPr.out.fresh hW).ref z hno)
        have HR1 : Hid (∀ W, Below wr.heap.size wr W → Calls Tryz.prog 33 #[.pointer (some ⟨e, 0, none⟩), .int .i64 z] W (Says W [])) := fun W hW => by
          have := eready (HPr.out.fresh hW).eng z
          rw [ready_out HP.out.okl hno] at this
          exact this
        have HR2 := Lib.hid (fun W (hW : Below wr.heap.size wr W) => qready_no (HPr.out.fresh hW).ref z hno)
        have hw1 : IntKind.i64.wrap (z + 1) = z + 1 := by simp [IntKind.wrap, IntKind.bits, IntKind.signed]; omega
        unfold Says at HR1
        simp only [List.length_nil] at HR1
        have hcv := fun W => convert_empty W none 0
        clear hin hno
        go_wp2_with (first
          | (go_at_call 30; refine HSz.out.mono ?_; rintro en w' ⟨rfl, rfl⟩)
          | (go_at_call 13; refine HB1.out.mono ?_; rintro en y1 ⟨rfl, hB1⟩; have HX1 := Lib.hid hB1; clear hB1)
          | (go_at_call 31; refine (HB2.out y1 HX1.out).mono ?_; rintro en y2 ⟨rfl, rfl⟩; have ht1 := hcv y1)
          | (go_at_call 33; refine (HR1.out _ HX1.out).mono ?_; rintro en y3 ⟨A3, c3, rfl, ho3, hb3⟩; have HX3 := Lib.hid (HX1.out.trans (hb3.mono HX1.out.size)); have HO3 := Lib.hid ho3; clear ho3 hb3)
          | (go_at_call 34; refine (HR2.out y3 HX3.out).mono ?_; rintro en y4 ⟨rfl, rfl⟩; have HSa : Hid (Calls Tryz.prog 32 #[.slice A3 0 c3, .slice none 0 0] y3 fun e w' => e = .returned (.bool true) ∧ Below y3.heap.size y3 w') := same_rows (xs := []) (B2 := 0) HO3.out (World.ownsRow_nil _ _ _ _) (by decide))
          | (go_at_call 32; refine HSa.out.mono ?_; rintro en y5 ⟨rfl, hb5⟩; have HX5 := Lib.hid (HX3.out.trans (hb5.mono HX3.out.size)); clear hb5))
        go_roundw
        case rel => exact ⟨z + 1, by omega, by omega, by go_num, hB.out.trans (HX5.out.mono hsz)⟩
        case measure => simp [intOf]; omega
    · obtain rfl : z = 6 := by omega
      have hz5i : ¬ (6 : Int) ≤ ((5 : Nat) : Int) := by omega
      have HC1 := Lib.hid (ecrash HPr.out.eng (by omega) pick HW.out P pc (HPk.out wr hB.out))
      have HC2 : Hid (∀ W, Below wr.heap.size wr W → Calls Tryz.prog 35 #[.pointer (some ⟨r, 0, none⟩), .slice P pl pc] W fun e w' => ∃ d F', e = .returned (.pointer (some ⟨d, 0, none⟩)) ∧ Ref w' d 5 (crashed 5 S pick) cc F' ∧ Below W.heap.size W w') := fun W hW => by
        have := qcrash (HPr.out.fresh hW).ref (by omega) pick HW.out P pc (HPk.out W (hB.out.trans (hW.mono hsz)))
        rw [Hpl.out] at this
        exact this
      rw [Hpl.out] at HC1
      go_wp2_with (first
        | (go_at_call 30; refine HSz.out.mono ?_; rintro en w' ⟨rfl, rfl⟩)
        | (go_at_call 12; refine HC1.out.mono ?_; rintro en y1 ⟨gd, F5, rfl, hcd, hf5, hb5⟩; have HCd := Lib.hid hcd; have HX1 := Lib.hid hb5; clear hcd hf5 hb5)
        | (go_at_call 35; refine (HC2.out y1 HX1.out).mono ?_; rintro en y2 ⟨rd, F6, rfl, hrd, hb6⟩; have HRd := Lib.hid hrd; have HC2d := Lib.hid (HCd.out.fresh hb6); have HX2 := Lib.hid (HX1.out.trans (hb6.mono HX1.out.size)); clear hrd hb6))
      clear HC1 HC2
      go_loopw [14] (fun q wq => ∃ i : Nat, i ≤ 5 ∧ q = .int .i64 i ∧ Hid (Below y2.heap.size y2 wq)) (fun q _ => 5 - (intOf q).toNat)
      case atStart => exact ⟨0, Nat.zero_le _, rfl, Below.refl _ _⟩
      case round =>
        obtain ⟨i, hi, rfl, hBq⟩ := hrel
        rename World => wq
        have hsq := hBq.out.size
        have HBr : Hid (Below wr.heap.size wr wq) := HX2.out.trans (hBq.out.mono HX2.out.size)
        have HPq := Lib.hid (HPr.out.fresh HBr.out)
        have HSz2 := Lib.hid (qsize HPq.out.ref)
        by_cases hi5 : i < 5
        · have hi5i : (i : Int) < ((5 : Nat) : Int) := by omega
          obtain ⟨T, hT⟩ : ∃ T, T = (crashed 5 S pick i).s := ⟨_, rfl⟩
          have hL1 := fun (W : World) (hW : Below wq.heap.size wq W) => clast (HC2d.out.fresh (hBq.out.trans (hW.mono hsq))) hi5
          have hL2 := fun (W : World) (hW : Below wq.heap.size wq W) => rlast (HRd.out.fresh (hBq.out.trans (hW.mono hsq))) hi5
          rw [← hT] at hL1 hL2
          have hTl : T.length = 32 := by rw [hT]; exact (HC2d.out.okS hi5).1
          have hszU : Hid ((Tryz.prog.info? 40).map (·.size) = some (bytesV T).toArray.size) := by unfold Hid; rw [List.size_toArray, length_bytesV, hTl]; exact size36
          have hszR : Hid ((Tryz.prog.info? 69).map (·.size) = some (bytesV T).toArray.size) := by unfold Hid; rw [List.size_toArray, length_bytesV, hTl]; exact size53
          have hone : Hid ((bytesV T).toArray.all (·.oneCell') = true) := all_oneCell_toArray (bytesV_one _)
          have hold : Hid (32 = (bytesV T).toArray.size) := by unfold Hid; rw [List.size_toArray, length_bytesV, hTl]
          have EU : Hid (∀ W, (Op.equalIn 10000 39 (.agg (bytesV T).toArray) (.agg (bytesV T).toArray)).run Tryz.prog W = .ok true W) := fun W => by
            have := eqAny 39 Tryz.underlying39 _ _ hTl hTl W
            simpa using this
          have HL1 := Lib.hid hL1
          have HL2 := Lib.hid hL2
          unfold secV at HL1 HL2
          obtain ⟨U, hU⟩ : ∃ U, U = (bytesV T).toArray := ⟨_, rfl⟩
          rw [← hU] at HL1 HL2 hszU hszR hone hold EU
          clear hL1 hL2 hT hTl hU
          go_wp2_with (first
            | (go_at_call 30; refine HSz2.out.mono ?_; rintro en w' ⟨rfl, rfl⟩)
            | (go_at_call 14; refine (HL1.out _ (Below.refl _ _)).mono ?_; rintro en v1 ⟨rfl, hb1⟩; have HV1 := Lib.hid hb1; clear hb1)
            | (refine wpList_store_row rfl 40 (.tmp 15) (.tmp 73) rfl v1.heap.size U rfl rfl 40 _ (heap_alloc_new v1 _) hszU.out hold.out hone.out ?_
               generalize hW : World.setRow (v1.alloc (Obj.cells _ 40)) _ U = v2
               have b2 : Hid (v2.heap[v1.heap.size]? = some (.cells U 40 (0, 0))) := by rw [← hW]; exact setRow_heap _ _ _ _ _ _ (heap_alloc_new v1 _)
               have HV2 : Hid (Below wq.heap.size wq v2) := by rw [← hW]; exact HV1.out.trans ((below_setRow (below_alloc1 v1 _) (Nat.le_refl _) _).mono HV1.out.size)
               clear hW)
            | (go_at_call 36; refine (HL2.out _ HV2.out).mono ?_; rintro en v3 ⟨rfl, hb3⟩; have HV3 := Lib.hid (HV2.out.trans (hb3.mono HV2.out.size)); have b3 : Hid (v3.heap[v1.heap.size]? = some (.cells U 40 (0, 0))) := (hb3.block _ (Array.getElem?_eq_some_iff.1 b2.out).1).trans b2.out; clear hb3)
            | (refine wpList_store_row rfl 69 (.tmp 17) (.tmp 79) rfl v3.heap.size U rfl rfl 69 _ (heap_alloc_new v3 _) hszR.out hold.out hone.out ?_
               generalize hW : World.setRow (v3.alloc (Obj.cells _ 69)) _ U = v4
               have hB4 : Below v3.heap.size v3 v4 := by rw [← hW]; exact below_setRow (below_alloc1 v3 _) (Nat.le_refl _) _
               have c4 : Hid (v4.heap[v3.heap.size]? = some (.cells U 69 (0, 0))) := by rw [← hW]; exact setRow_heap _ _ _ _ _ _ (heap_alloc_new v3 _)
               have b4 : Hid (v4.heap[v1.heap.size]? = some (.cells U 40 (0, 0))) := (hB4.block _ (Array.getElem?_eq_some_iff.1 b3.out).1).trans b3.out
               have HV4 := Lib.hid (HV3.out.trans (hB4.mono HV3.out.size))
               have eu := EU.out v4
               have l1 : (loadVar 40 ⟨v1.heap.size, 0, none⟩).run Tryz.prog v4 = .ok (.agg U) v4 := run_loadVar_row (P := Tryz.prog) v4 v1.heap.size 40 40 U (0, 0) _ b4.out Tryz.underlying40 rfl hszU.out
               have l2 : (loadVar 69 ⟨v3.heap.size, 0, none⟩).run Tryz.prog v4 = .ok (.agg U) v4 := run_loadVar_row (P := Tryz.prog) v4 v3.heap.size 69 69 U (0, 0) _ c4.out Tryz.underlying69 rfl hszR.out
               clear hW hB4)
            | (refine wpList_load_row rfl 40 (.tmp 15) rfl v1.heap.size rfl 40 U (0, 0) _ b4.out Tryz.underlying40 rfl hszU.out ?_)
            | (refine wpList_load_row rfl 69 (.tmp 17) rfl v3.heap.size rfl 69 U (0, 0) _ c4.out Tryz.underlying69 rfl hszR.out ?_))
          go_roundw
          case rel => exact ⟨i + 1, by omega, by go_num, hBq.out.trans (HV4.out.mono hsq)⟩
          case measure => simp [intOf]; omega
        · obtain rfl : i = 5 := by omega
          have hi5i : ¬ ((5 : Nat) : Int) < ((5 : Nat) : Int) := by omega
          obtain ⟨xs, hxs⟩ : ∃ xs, xs = numsL l := ⟨_, rfl⟩
          obtain ⟨ys, hys⟩ : ∃ ys, ys = dirI 5 (anyV lv) := ⟨_, rfl⟩
          have hxl : xs.length ≤ 100000 := by rw [hxs, nums_len]; have := HP.out.eng.rights.2.2.2.1; omega
          have hyl : ys.length ≤ 100000 := by rw [hys]; have := dirI_len 5 (anyV lv); omega
          have K1 : Hid (∀ W, Below wq.heap.size wq W → Calls Tryz.prog 15 #[.pointer (some ⟨e, 0, none⟩)] W (Says W xs)) := fun W hW => by rw [hxs]; exact ewaiting (HPq.out.fresh hW).eng
          have K2 : Hid (∀ W, Below wq.heap.size wq W → Calls Tryz.prog 37 #[.pointer (some ⟨r, 0, none⟩)] W (Says W xs)) := fun W hW => by
            have := qwaiting (HPq.out.fresh hW).ref (by have := HP.out.vlen; omega)
            rw [HP.out.tie.tw.nums, ← hxs] at this
            exact this
          have K3 : Hid (∀ W, Below wq.heap.size wq W → Calls Tryz.prog 16 #[.pointer (some ⟨e, 0, none⟩)] W (Says W ys)) := fun W hW => by
            have := edirty (HPq.out.fresh hW).eng
            rw [bl_dir HP.out.okl] at this
            have e1 : (fun i : Nat => l.any fun x => x.p.b == (i : Int)) = anyV lv := by funext i; exact (HP.out.tie.tw.any i).symm
            rw [e1, ← hys] at this
            exact this
          have K4 : Hid (∀ W, Below wq.heap.size wq W → Calls Tryz.prog 38 #[.pointer (some ⟨r, 0, none⟩)] W (Says W ys)) := fun W hW => by
            rw [hys]; exact qdirty (HPq.out.fresh hW).ref (by have := HP.out.vlen; omega) (by decide)
          have K5 := Lib.hid (fun W (hW : Below wq.heap.size wq W) => enext (HPq.out.fresh hW).eng)
          have K6 := Lib.hid (fun W (hW : Below wq.heap.size wq W) => qnext (HPq.out.fresh hW).ref)
          have K7 := Lib.hid (fun W (hW : Below wq.heap.size wq W) => esize (HPq.out.fresh hW).eng)
          have K8 := Lib.hid (fun W (hW : Below wq.heap.size wq W) => qsize (HPq.out.fresh hW).ref)
          have T1 : Hid True := trivial
          clear hxs hys
          unfold Says at K1 K2 K3 K4
          go_wp2_with (first
            | (go_at_call 30; have _t := T1; clear _t T1; refine HSz2.out.mono ?_; rintro en w' ⟨rfl, rfl⟩)
            | (go_at_call 15; refine (K1.out _ (Below.refl _ _)).mono ?_; rintro en u1 ⟨A1, c1, rfl, ho1, hb1⟩; have HU1 := Lib.hid hb1; have HO1 := Lib.hid ho1; clear ho1 hb1)
            | (go_at_call 37; refine (K2.out _ HU1.out).mono ?_; rintro en u2 ⟨A2, c2, rfl, ho2, hb2⟩; have HU2 := Lib.hid (HU1.out.trans (hb2.mono HU1.out.size)); have HSa := Lib.hid (same_rows ((Kept.fresh (S := fun _ => False) hb2).row HO1.out (fun _ _ q => q)) ho2 hxl); have T2 : Hid True := trivial; clear ho2 hb2)
            | (go_at_call 32; have _t := T2; clear _t T2; refine HSa.out.mono ?_; rintro en u3 ⟨rfl, hb3⟩; have HU3 := Lib.hid (HU2.out.trans (hb3.mono HU2.out.size)); clear hb3)
            | (go_at_call 16; refine (K3.out _ HU3.out).mono ?_; rintro en u4 ⟨A4, c4, rfl, ho4, hb4⟩; have HU4 := Lib.hid (HU3.out.trans (hb4.mono HU3.out.size)); have HO4 := Lib.hid ho4; clear ho4 hb4)
            | (go_at_call 38; refine (K4.out _ HU4.out).mono ?_; rintro en u5 ⟨A5, c5, rfl, ho5, hb5⟩; have HU5 := Lib.hid (HU4.out.trans (hb5.mono HU4.out.size)); have HSb := Lib.hid (same_rows ((Kept.fresh (S := fun _ => False) hb5).row HO4.out (fun _ _ q => q)) ho5 hyl); have T3 : Hid True := trivial; clear ho5 hb5)
            | (go_at_call 32; have _t := T3; clear _t T3; refine HSb.out.mono ?_; rintro en u6 ⟨rfl, hb6⟩; have HU6 := Lib.hid (HU5.out.trans (hb6.mono HU5.out.size)); clear hb6)
            | (go_at_call 20; refine (K5.out _ HU6.out).mono ?_; rintro en w' ⟨rfl, rfl⟩)
            | (go_at_call 19; refine (K6.out _ HU6.out).mono ?_; rintro en w' ⟨rfl, rfl⟩)
            | (go_at_call 39; refine (K7.out _ HU6.out).mono ?_; rintro en w' ⟨rfl, rfl⟩; have T4 : Hid True := trivial)
            | (go_at_call 30; have _t := T4; clear _t T4; refine (K8.out _ HU6.out).mono ?_; rintro en w' ⟨rfl, rfl⟩))
          go_ret
          exact ⟨rfl, hB.out.trans ((HBr.out.trans (HU6.out.mono HBr.out.size)).mono hsz)⟩
end Go.Proofs.YtegacggkdjgdiaaGreat
