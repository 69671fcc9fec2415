/- The program's rolled: all laid, those that do not stay put back from above. -/
import Derived.Test.YtibkipdadpidnaaT
set_option linter.unusedVariables false
set_option linter.unusedSimpArgs false
namespace Go.Proofs.Ytibkipdadpidnaa
open Go.RowKit
open Pat (Pt AllB undoP nth)
theorem size71 : (Try.prog.info? 71).map (·.size) = some 32 := by kernel_rfl
def secV (l : List Int) : Value := .agg (Pat.bytesV l).toArray
theorem StkAt.range {B : Nat} {w : World} {g : Nat} {L : List Ly} {s : Sk} (h : StkAt B w g L s) : w.rangeAt g 0 (Pat.bytesV s.f) := fun j v hv => by
  have hj : j < 32 := by
    have := (List.getElem?_eq_some_iff.1 hv).1
    rw [Pat.length_bytesV, h.len] at this; exact this
  rw [Nat.zero_add, h.byte hj]
  rw [Pat.bytesV, List.getElem?_map, List.getElem?_eq_getElem (by rw [h.len]; exact hj)] at hv
  rw [← hv, Pat.nth_lt (by rw [h.len]; exact hj)]; rfl
def mkD (R d : Nat) : Deferred := { target := .fn (.func 67) #[.pointer (some ⟨R, 0, none⟩), .pointer (some ⟨d, 0, none⟩)], args := #[] }
/-- boxes of patches -/
def Boxes (w : World) : List Nat → List Pt → Prop
  | [], [] => True
  | d :: ds, u :: us => Pat.Boxed w d u ∧ Boxes w ds us
  | _, _ => False
theorem Boxes.keep {w w' : World} : ∀ {ds : List Nat} {us : List Pt}, Boxes w ds us → (∀ d u, Pat.Boxed w d u → Pat.Boxed w' d u) → Boxes w' ds us
  | [], [], _, _ => trivial
  | d :: ds, u :: us, h, hk => ⟨hk d u h.1, h.2.keep hk⟩
  | [], _ :: _, h, _ => h.elim
  | _ :: _, [], h, _ => h.elim
theorem Boxes.below {w w' : World} {ds : List Nat} {us : List Pt} (h : Boxes w ds us) (hb : Below w.heap.size w w') : Boxes w' ds us := h.keep fun d u hd => hd.below hb (Pat.BlkIs.lt hd)
/-- a box is no sector -/
theorem box_other {w w' : World} {R d : Nat} {u : Pt} {cur : List Value} (h : Pat.Boxed w d u) (hR : Pat.BlkIs w R 71 cur) (hk : Kept w w' (fun b => b = R)) : Pat.Boxed w' d u := by
  refine (hk.block d (Pat.BlkIs.lt h) (fun e => ?_)).trans h
  rw [e] at h
  have := h.symm.trans hR
  simp only [Option.some.injEq, Obj.cells.injEq] at this
  exact absurd this.2.1 (by decide)
/-- at the door: all that was put off is put back -/
theorem leaves_undos {fn : Func} {tmps : Array Value} {R : Nat} {w0 : World} (Post : Ending → World → Prop) 
    (hend : ∀ cur W, cur.length = 32 → Pat.BlkIs W R 71 (Pat.bytesV cur) → Below w0.heap.size w0 W → (∃ v, (results fn tmps).run Try.prog W = .ok v W ∧ v = secV cur))
    (hR : w0.heap.size ≤ R) (fin : List Int) (hpost : ∀ W, Below w0.heap.size w0 W → Post (.returned (secV fin)) W) :
    ∀ (ds : List Nat) (us : List Pt) (cur : List Int) (W : World), Boxes W ds us → (∀ u ∈ us, u.right = true) → cur.length = 32 → us.foldl Pat.put cur = fin → Pat.BlkIs W R 71 (Pat.bytesV cur) → Below w0.heap.size w0 W →
    Leaves Try.prog fn tmps Post (ds.map (mkD R)) .returning W
  | [], [], cur, W, _, _, hc, hf, hb, hB => by
    obtain ⟨v, h1, h2⟩ := hend cur W hc hb hB
    refine ⟨v, h1, ?_⟩
    rw [h2, show cur = fin from hf]
    exact hpost W hB
  | d :: ds, u :: us, cur, W, hx, hu, hc, hf, hb, hB => by
    refine leaves_cons (f := 67) (args := #[.pointer (some ⟨R, 0, none⟩), .pointer (some ⟨d, 0, none⟩)]) (by simp) (by simp [go_sem]) ?_
    refine (und_any R d cur u .returning W hb hx.1 hc (hu u (List.mem_cons_self ..))).mono ?_
    rintro e m' W' ⟨rfl, rfl, hb', hk⟩
    show Leaves Try.prog fn tmps Post (ds.map (mkD R)) .returning W'
    exact leaves_undos Post hend hR fin hpost ds us (Pat.put cur u) W' (hx.2.keep fun d u hd => box_other hd hb hk) (fun z hz => hu z (List.mem_cons_of_mem _ hz)) (Pat.length_put (hu u (List.mem_cons_self ..)) hc) hf hb' (hB.trans (hk.below (fun b e => by rw [e]; exact hR) hB.size))
  | [], _ :: _, _, _, hx, _, _, _, _, _ => hx.elim
  | _ :: _, [], _, _, hx, _, _, _, _, _ => hx.elim
theorem rowP_other {w : World} {B c R : Nat} {A : Option Addr} {L : List Ly} {cur : List Value} (h : RowP w B A c L) (hR : Pat.BlkIs w R 71 cur) : ∀ b, own A = some b → b ≠ R := by
  intro b e hb
  rcases h.2 with ⟨z, _⟩ | ⟨k2, cap, cur2, z, _, hk, _⟩
  · obtain ⟨rfl, _⟩ := Value.slice.inj z; cases e
  · obtain ⟨rfl, _⟩ := Value.slice.inj z
    obtain rfl : k2 = b := by simpa [own] using e
    rw [hb] at hk
    have := hk.symm.trans hR
    simp only [Option.some.injEq, Obj.cells.injEq] at this
    exact absurd this.2.1 (by decide)
theorem bts_blk {w : World} {R : Nat} {t : TypeId} {l : List Int} (h : Pat.BlkIs w R t (Pat.bytesV l)) (ha : AllB l) (hl : l.length = 32) : Pat.Bts w w.heap.size (some ⟨R, 0, none⟩) l :=
  ⟨ha, fun _ => ⟨R, 0, rfl, Pat.BlkIs.lt h, fun j hj => by
    rw [Nat.zero_add, h.cell j, Pat.bytesV, List.getElem?_map, List.getElem?_eq_getElem hj, Pat.nth_lt hj]; rfl⟩⟩
set_option maxRecDepth 100000 in
set_option maxHeartbeats 4000000 in
theorem rolled_all (B g : Nat) (L : List Ly) (s : Sk) (cb : Nat) (kf : Int → Bool) (w : World) (hC : StkAt B w g L s) (hr : Rights s.l) (hl : s.l.length ≤ 900)
    (hF : ∀ (q : Ly) W, q ∈ L → Below w.heap.size w W → Calls Try.prog 46 #[q.ptr] W fun e w' => e = .returned (.bool (kf q.x.n)) ∧ Below W.heap.size W w') :
    Calls Try.prog 42 #[.pointer (some ⟨g, 0, none⟩), .func (.func 46) #[] #[]] w fun e w' => e = .returned (secV (rollL kf s.f s.l)) ∧ Below w.heap.size w w' := by
  have HC := Lib.hid hC
  have HF := Lib.hid hF
  have hg := hC.glt
  have hLl : L.length ≤ 900 := by rw [hC.llen]; exact hl
  have hmf : ∀ (fn : Fn) (first cap : Array Value) (w : World), (Instr.makeFunc fn first cap).run Try.prog w = .ok (.func fn first cap) w := fun _ _ _ _ => rfl
  have hnot : ∀ (x : Bool) (w : World), (Op.unary .not (.bool x)).run Try.prog w = .ok (.bool (!x)) w := fun _ _ => rfl
  have hsz : Hid ((Try.prog.info? 71).map (·.size) = some (Pat.bytesV s.f).length) := by unfold Hid; rw [Pat.length_bytesV, hC.len]; exact size71
  have hsz2 : Hid ((Try.prog.info? 71).map (·.size) = some (Pat.bytesV s.f).toArray.size) := by unfold Hid; rw [List.size_toArray, Pat.length_bytesV, hC.len]; exact size71
  have hone : Hid ((Pat.bytesV s.f).toArray.all (·.oneCell') = true) := all_oneCell_toArray (Pat.bytesV_one _)
  have hold : Hid ((Pat.bytesV (List.replicate 32 0)).toArray.size = (Pat.bytesV s.f).toArray.size) := by unfold Hid; rw [List.size_toArray, List.size_toArray, Pat.length_bytesV, Pat.length_bytesV, hC.len]; rfl
  have HR : Hid (∀ W, Below w.heap.size w W → W.rangeAt g 0 (Pat.bytesV s.f)) := fun W hB => (hC.fresh hB).range
  have HRs : Hid (∀ W, Below w.heap.size w W → Calls Try.prog 48 #[.agg #[.int .i64 s.k, topV L]] W fun e w' => ∃ A c, e = .returned (.slice A L.length c) ∧ RowP w' W.heap.size A c L ∧ Below W.heap.size W w') := fun W hW => rising_any L s.k W (hC.fresh hW).ch hLl
  have HLay0 : Hid (layAll s.f (s.l.take 0) = s.f) := rfl
  obtain ⟨R0, hR0⟩ : ∃ R0, R0 = Pat.bytesV s.f := ⟨_, rfl⟩
  have HR0 := Lib.hid hR0
  rw [← hR0] at hsz hsz2 hone hold HR
  obtain ⟨Z0, hZ0⟩ : ∃ Z0, Z0 = (Pat.bytesV (List.replicate 32 0)).toArray := ⟨_, rfl⟩
  have HZ := Lib.hid hZ0
  rw [← hZ0] at hold
  clear hR0 hZ0 hC hF
  go_enter_defers Try.func42, Try.ntmps42
  go_wp2_with (first
    | (generalize hW : w.alloc (Obj.cells _ 71) = w1; have b1 : Hid (w1.heap[w.heap.size]? = some (.cells Z0 71 (0, 0))) := (by rw [← hW, HZ.out]; exact heap_alloc_new w _); have B1 : Hid (Below w.heap.size w w1) := (by rw [← hW]; exact Pat.below_alloc1 w _); have hRg := Lib.hid (HR.out w1 B1.out); have hb2 := Lib.hid (setRow_heap w1 w.heap.size Z0 R0.toArray 71 (0, 0) b1.out); have B2 := Lib.hid (below_setRow B1.out (Nat.le_refl _) R0.toArray); clear hW; refine wpList_load_mid rfl 71 (.tmp 11) rfl g 0 rfl R0 _ hRg.out Try.underlying71 rfl hsz.out ?_)
    | (refine wpList_store_row rfl 71 (.tmp 4) (.tmp 12) rfl w.heap.size R0.toArray rfl rfl 71 Z0 b1.out hsz2.out hold.out hone.out ?_; generalize hW2 : w1.setRow w.heap.size R0.toArray = w2 at *; clear hW2; have C2 := Lib.hid (HC.out.fresh B2.out); have t2 := C2.out.num; have t3 := C2.out.top; have hg2 := C2.out.glt)
    | (go_at_call 48; (with_reducible refine (HRs.out _ B2.out).mono ?_); rintro e w3 ⟨A3, c3, rfl, hr3, hb3⟩; have R3 := Lib.hid hr3; have B3 := Lib.hid (Below.trans B2.out (Below.mono hb3 B2.out.size)); have b3 : Hid (Pat.BlkIs w3 w.heap.size 71 (Pat.bytesV s.f)) := (by unfold Hid; rw [← HR0.out]; exact (hb3.block _ (Pat.BlkIs.lt (l := R0) hb2.out)).trans hb2.out); clear hr3 hb3))
  clear t2 t3 hg2
  refine wp_loop (fun a W => ∃ (k : Nat) (ds : List Nat) (u6 u7 u8 u20 u21 u22 u23 u24 u25 u26 u27 u28 u29 u30 u31 u32 u33 u34 u35 u36 u37 u38 u39 u40 u41 u42 u43 u44 u45 u46 u47 u48 u49 : Value), k ≤ L.length ∧ Pat.BlkIs W w.heap.size 71 (Pat.bytesV (layAll s.f (s.l.take k))) ∧ Boxes W ds (undos kf s.f (s.l.take k)) ∧ (∃ bb, RowP W bb A3 c3 L) ∧ Below w.heap.size w W ∧ a = { tmps := ((.pointer (some ⟨g, 0, none⟩)) :: (.func (.func 46) #[] #[]) :: undef :: undef :: (.pointer (some ⟨w.heap.size, 0, none⟩)) :: undef :: u6 :: u7 :: u8 :: (.pointer (some ⟨g, 0, none⟩)) :: (.pointer (some ⟨g, 0, none⟩)) :: (.pointer (some ⟨g, 0, none⟩)) :: (.agg R0.toArray) :: (.pointer (some ⟨g, 0, none⟩)) :: (.pointer (some ⟨g, 0, none⟩)) :: (.pointer (some ⟨g, 32, none⟩)) :: (.agg #[.int .i64 s.k, topV L]) :: (.slice A3 L.length c3) :: (.int .i64 (L.length : Int)) :: (.int .i64 (k : Int)) :: u20 :: u21 :: u22 :: u23 :: u24 :: u25 :: u26 :: u27 :: u28 :: u29 :: u30 :: u31 :: u32 :: u33 :: u34 :: u35 :: u36 :: u37 :: u38 :: u39 :: u40 :: u41 :: u42 :: u43 :: u44 :: u45 :: u46 :: u47 :: u48 :: u49 :: undef :: []).toArray, defers := ds.map (mkD w.heap.size) }) (fun a _ => L.length - (intOf (a.tmps.getD 19 undef)).toNat) ?start ?round
  case start => exact ⟨0, [], _, _, _, _, _, _, _, _, _, _, _, _, _, _, _, _, _, _, _, _, _, _, _, _, _, _, _, _, _, _, _, _, _, Nat.zero_le _, by rw [HLay0.out]; exact b3.out, trivial, ⟨_, R3.out⟩, B3.out, rfl⟩
  case round =>
    rintro a wr ⟨k, ds, u6, u7, u8, u20, u21, u22, u23, u24, u25, u26, u27, u28, u29, u30, u31, u32, u33, u34, u35, u36, u37, u38, u39, u40, u41, u42, u43, u44, u45, u46, u47, u48, u49, hk, hblk, hbox, hrow, hB, rfl⟩
    have hk0 : (0 : Int) ≤ (k : Int) := by omega
    have wk : IntKind.i64.wrap ((k : Int) + 1) = ((k + 1 : Nat) : Int) := by rw [IntWalk.i64_in _ (by omega)]; omega
    by_cases hlt : k < L.length
    · have hki : (k : Int) < (L.length : Int) := by omega
      obtain ⟨bb, hrw⟩ := hrow
      obtain ⟨ab, hA, hab, h1, h2, e0⟩ := hrw.at_ hlt
      subst hA
      unfold maxLen at h2
      have hlay := (HC.out.ch k hlt)
      have hqw := hlay.lt
      have HLay : Hid (∀ V, Below w.heap.size w V → LayAt V (lyn L k) (topV (L.take k))) := fun V hV => hlay.fresh hV
      have HS := Lib.hid (HF.out (lyn L k) wr (lyn_mem hlt) hB)
      have hx := HC.out.lyx hlt
      have hsl : k < s.l.length := by rw [← HC.out.llen]; exact hlt
      have HT : Hid (s.l.take (k + 1) = s.l.take k ++ [(lyn L k).x]) := by unfold Hid; rw [take_onn hsl, hx]
      have hpr : (lyn L k).x.p.right = true := by rw [hx]; exact hr _ (onn_mem hsl)
      have hTk : Rights (s.l.take k) := fun x hx => hr x (List.mem_of_mem_take hx)
      have hcl : (layAll s.f (s.l.take k)).length = 32 := withL_len hTk HC.out.len
      have hca : AllB (layAll s.f (s.l.take k)) := withL_all HC.out.all
      have HLs : Hid (layAll s.f (s.l.take k ++ [(lyn L k).x]) = Pat.put (layAll s.f (s.l.take k)) (lyn L k).x.p) := layAll_snoc _ _ _
      have HUs0 : Hid (undos kf s.f (s.l.take k ++ [(lyn L k).x]) = (if kf (lyn L k).x.n = true then [] else [undoP (layAll s.f (s.l.take k)) (lyn L k).x.p]) ++ undos kf s.f (s.l.take k)) := undos_snoc _ _ _ _
      have FRo : Hid (∀ b, own (some (⟨ab, 0, none⟩ : Addr)) = some b → b ≠ w.heap.size) := rowP_other hrw hblk
      have Hblk := Lib.hid hblk
      have Hbox := Lib.hid hbox
      have Hrw := Lib.hid hrw
      have HB := Lib.hid hB
      clear hblk hbox hrw hB hlay hx hTk
      generalize layAll s.f (s.l.take k) = cur at *
      generalize undos kf s.f (s.l.take k) = UU at *
      generalize hq : lyn L k = q at *
      generalize hkf : kf q.x.n = kq at *
      clear hkf hq
      obtain ⟨qb, y, pb, po, ps⟩ := q
      obtain ⟨g0, g1, g2, g3, g4, g5⟩ := Pat.Pt.right_out hpr
      obtain ⟨n, rfl⟩ := Int.eq_ofNat_of_zero_le g2
      unfold Ly.ptr at *
      simp only at *
      cases kq with
      | true =>
        have HUs : Hid (undos kf s.f (s.l.take k ++ [(⟨y, ⟨pb, n, ps⟩⟩ : On)]) = UU) := by unfold Hid; rw [HUs0.out, if_pos rfl]; rfl
        clear HUs0
        go_wp2_with (first | (go_at_call 46; (with_reducible refine HS.out.mono ?_); rintro e V ⟨rfl, hb5⟩; have FB := Lib.hid (show Pat.BlkIs V w.heap.size 71 (Pat.bytesV cur) from (hb5.block _ (Pat.BlkIs.lt Hblk.out)).trans Hblk.out); have FX := Lib.hid (Hbox.out.below hb5); have FW := Lib.hid (Below.trans HB.out (Below.mono hb5 HB.out.size)); have FR := Lib.hid (show ∃ bb, RowP V bb (some ⟨ab, 0, none⟩) c3 L from ⟨_, Hrw.out.fresh hb5⟩); have FL0 := (HLay.out V FW.out).cells; have FL := Lib.hid (show V.cell? ⟨qb, 0, none⟩ = some (.int .i64 pb) ∧ V.cell? ⟨qb, 1, none⟩ = some (.int .i64 (n : Int)) ∧ V.cell? ⟨qb, 2, none⟩ = some (.string ps) from ⟨FL0.1, FL0.2.1, FL0.2.2.1⟩); clear FL0 hb5) | fail)
        go_wp2_with fail
        have hfit : n + ps.size ≤ (Pat.bytesV cur).length := by rw [Pat.length_bytesV]; omega
        have hle : ps.size ≤ 32 - n := by omega
        have Hf := Lib.hid hfit
        have Hl := Lib.hid hle
        have h32n : (32 = n) = False := by simp; omega
        have hn32 : (n : Int) ≤ 32 := by omega
        clear hfit hle
        have X0 := Lib.hid (show V.drew.cell? ⟨qb, 0, none⟩ = some (.int .i64 pb) ∧ V.drew.cell? ⟨qb, 1, none⟩ = some (.int .i64 (n : Int)) ∧ V.drew.cell? ⟨qb, 2, none⟩ = some (.string ps) from FL.out)
        have HP : Hid (∀ W, W = V.drew.setRow w.heap.size (splice (Pat.bytesV cur) n (Pat.bytesV (Pat.sb ps))).toArray → (W.cell? ⟨qb, 0, none⟩ = some (.int .i64 pb) ∧ W.cell? ⟨qb, 1, none⟩ = some (.int .i64 (n : Int)) ∧ W.cell? ⟨qb, 2, none⟩ = some (.string ps)) ∧ Pat.BlkIs W w.heap.size 71 (Pat.bytesV (Pat.put cur ⟨pb, n, ps⟩)) ∧ Kept V W (fun b => b = w.heap.size)) := fun W e => by
          subst e
          have hk : Kept V (V.drew.setRow w.heap.size (splice (Pat.bytesV cur) n (Pat.bytesV (Pat.sb ps))).toArray) (fun b => b = w.heap.size) := (Kept.refl V _).drew.trans (Kept.row' _ _ _) (fun b e => .inl e)
          have hqR : qb ≠ w.heap.size := by omega
          refine ⟨⟨?_, ?_, ?_⟩, ?_, hk⟩
          · rw [cell_setRow_other _ _ _ _ hqR]; exact X0.out.1
          · rw [cell_setRow_other _ _ _ _ hqR]; exact X0.out.2.1
          · rw [cell_setRow_other _ _ _ _ hqR]; exact X0.out.2.2
          · have e : Pat.bytesV (Pat.put cur ⟨pb, n, ps⟩) = splice (Pat.bytesV cur) n (Pat.bytesV (Pat.sb ps)) := (Pat.splice_bytes _ _ _).symm
            rw [e]
            exact setRow_heap V.drew w.heap.size _ _ 71 (0, 0) FB.out
        have X1 := Lib.hid (HP.out _ rfl).1
        go_region_held3 (fun W => W.cell? ⟨qb, 0, none⟩ = some (.int .i64 pb) ∧ W.cell? ⟨qb, 1, none⟩ = some (.int .i64 (n : Int)) ∧ W.cell? ⟨qb, 2, none⟩ = some (.string ps))
          (first | exact X0.out | exact X1.out)
          (refine step_copy_text2 rfl (.tmp 42) (.tmp 47) rfl w.heap.size n (32 - n) (32 - n) ps rfl rfl (Pat.bytesV cur) 71 (Pat.BlkIs.drew FB.out) Hl.out Hf.out ?_)
        generalize hV2 : V.drew.setRow w.heap.size (splice (Pat.bytesV cur) n (Pat.bytesV (Pat.sb ps))).toArray = V2
        obtain ⟨_, e2, k2⟩ := HP.out V2 hV2.symm
        have E2 := Lib.hid e2
        have K2 := Lib.hid k2
        clear hV2 e2 k2 X1 HP
        go_wp2
        refine ⟨⟨k + 1, ds, _, _, _, _, _, _, _, _, _, _, _, _, _, _, _, _, _, _, _, _, _, _, _, _, _, _, _, _, _, _, _, _, _, by omega, ?_, ?_, ?_, ?_, rfl⟩, ?_⟩
        · rw [HT.out, HLs.out]; exact E2.out
        · rw [HT.out, HUs.out]; exact FX.out.keep fun d u hd => box_other hd FB.out K2.out
        · obtain ⟨bb, hbb⟩ := FR.out
          exact ⟨bb, RowP.keep hbb K2.out (fun b e z => FRo.out b e z)⟩
        · exact Below.trans FW.out (K2.out.below (fun b e => by omega) FW.out.size)
        · simp [intOf]; omega
      | false =>
        have HUs : Hid (undos kf s.f (s.l.take k ++ [(⟨y, ⟨pb, n, ps⟩⟩ : On)]) = undoP cur ⟨pb, n, ps⟩ :: UU) := by unfold Hid; rw [HUs0.out, if_neg (by decide)]; rfl
        have HU : Hid (∀ W, Pat.BlkIs W w.heap.size 71 (Pat.bytesV cur) → Calls Try.prog 51 #[.slice (some ⟨w.heap.size, 0, none⟩) 32 32, .agg #[.int .i64 pb, .int .i64 (n : Int), .string ps]] W fun e w' => e = .returned (.tuple #[(undoP cur ⟨pb, n, ps⟩).v, .int .i64 0]) ∧ Below W.heap.size W w') := fun W hW =>
          Pat.undo_yes (some ⟨w.heap.size, 0, none⟩) 32 cur ⟨pb, n, ps⟩ W (bts_blk hW hca hcl) hcl (by omega) hpr
        generalize undoP cur ⟨pb, n, ps⟩ = U at *
        obtain ⟨ub, uo, us⟩ := U
        unfold Pat.Pt.v at HU
        simp only at HU
        -- what holds in every world behind the call, with no block of it written
        have HNx : Hid (∀ V, Below wr.heap.size wr V → (V.cell? ⟨qb, 0, none⟩ = some (.int .i64 pb) ∧ V.cell? ⟨qb, 1, none⟩ = some (.int .i64 (n : Int)) ∧ V.cell? ⟨qb, 2, none⟩ = some (.string ps)) ∧ Pat.BlkIs V w.heap.size 71 (Pat.bytesV cur) ∧ Boxes V ds UU ∧ (∃ bb, RowP V bb (some ⟨ab, 0, none⟩) c3 L) ∧ Below w.heap.size w V) := fun V hV => by
          have hw := Below.trans HB.out (Below.mono hV HB.out.size)
          have hl := (HLay.out V hw).cells
          exact ⟨⟨hl.1, hl.2.1, hl.2.2.1⟩, (hV.block _ (Pat.BlkIs.lt Hblk.out)).trans Hblk.out, Hbox.out.below hV, ⟨_, Hrw.out.fresh hV⟩, hw⟩
        clear HUs0 HLay Hbox Hrw
        go_wp2_with (first | (go_at_call 46; (with_reducible refine HS.out.mono ?_); rintro e W5 ⟨rfl, hb5⟩; have B5 := Lib.hid hb5; clear hb5) | fail)
        have X0 := Lib.hid (HNx.out W5.drew B5.out.drew).1
        have X1 := Lib.hid (HNx.out W5 B5.out).1
        have BA := Lib.hid (show Below wr.heap.size wr (W5.alloc (.cells #[.int .i64 0, .int .i64 0, .string ⟨#[]⟩] 38)).drew from (B5.out.alloc B5.out.size _).drew)
        have XA := Lib.hid (HNx.out _ BA.out).1
        have QA : Hid (Pat.Boxed (W5.alloc (.cells #[.int .i64 0, .int .i64 0, .string ⟨#[]⟩] 38)).drew W5.heap.size Pat.zeroP) := Pat.boxed1 W5 Pat.zeroP
        have HU0 := Lib.hid (HU.out W5.drew (HNx.out W5.drew B5.out.drew).2.1)
        have HUA := Lib.hid (HU.out _ (HNx.out _ BA.out).2.1)
        have HSt : Hid (∀ (V : World) (d : Nat), Below wr.heap.size wr V → wr.heap.size ≤ d → Pat.Boxed V d Pat.zeroP → Below wr.heap.size wr (((V.setCell ⟨d, 0, none⟩ (.int .i64 ub)).setCell ⟨d, 1, none⟩ (.int .i64 uo)).setCell ⟨d, 2, none⟩ (.string us)) ∧ Pat.Boxed (((V.setCell ⟨d, 0, none⟩ (.int .i64 ub)).setCell ⟨d, 1, none⟩ (.int .i64 uo)).setCell ⟨d, 2, none⟩ (.string us)) d ⟨ub, uo, us⟩) := fun V d hV hd hq =>
          ⟨((hV.setCell (p := ⟨d, 0, none⟩) hd _).setCell (p := ⟨d, 1, none⟩) hd _).setCell (p := ⟨d, 2, none⟩) hd _, box_set hq ⟨ub, uo, us⟩⟩
        go_wp2_with fail
        go_region_held3 (fun V => V.cell? ⟨qb, 0, none⟩ = some (.int .i64 pb) ∧ V.cell? ⟨qb, 1, none⟩ = some (.int .i64 (n : Int)) ∧ V.cell? ⟨qb, 2, none⟩ = some (.string ps))
          (first | exact X0.out | exact X1.out | exact XA.out | exact X6.out | exact X6a.out | exact X6u.out | exact Y7.out)
          (first
            | (go_at_call 51; (with_reducible refine HU0.out.mono ?_); rintro e w6 ⟨rfl, hb6⟩; have B6 := Lib.hid (Below.trans B5.out (Below.mono ((Below.refl W5.heap.size W5).drew.trans hb6) B5.out.size)); have X6 := Lib.hid (HNx.out w6 B6.out).1; have X6a := Lib.hid (HNx.out (w6.alloc (.cells #[.int .i64 0, .int .i64 0, .string ⟨#[]⟩] 38)) (B6.out.alloc B6.out.size _)).1; have B6u := Lib.hid (show Below wr.heap.size wr (w6.alloc (.cells #[.int .i64 ub, .int .i64 uo, .string us] 38)) from B6.out.alloc B6.out.size _); have X6u := Lib.hid (HNx.out _ B6u.out).1; clear hb6)
            | (go_at_call 51; (with_reducible refine HUA.out.mono ?_); rintro e w6 ⟨rfl, hb6⟩; have B6 := Lib.hid (Below.trans BA.out (Below.mono hb6 BA.out.size)); have X6 := Lib.hid (HNx.out w6 B6.out).1; have Q6 := Lib.hid (QA.out.below hb6 (Pat.BlkIs.lt QA.out)); have St6 := Lib.hid (HSt.out w6 W5.heap.size B6.out B5.out.size Q6.out); have Y7 := Lib.hid (HNx.out _ St6.out.1).1; obtain ⟨q0, q1, q2⟩ := Q6.out.cells; simp only [Pat.zeroP] at q0 q1 q2; have qf := Q6.out.frozen; clear hb6)
            | fail)
        all_goals first
          | (have NX := Lib.hid (HNx.out _ St6.out.1)
             have FBox := Lib.hid St6.out.2
             generalize (((w6.setCell ⟨W5.heap.size, 0, none⟩ (.int .i64 ub)).setCell ⟨W5.heap.size, 1, none⟩ (.int .i64 uo)).setCell ⟨W5.heap.size, 2, none⟩ (.string us)) = V at *
             generalize W5.heap.size = dd at *)
          | (have NX := Lib.hid (HNx.out _ B6u.out)
             have FBox : Hid (Pat.Boxed (w6.alloc (.cells #[.int .i64 ub, .int .i64 uo, .string us] 38)) w6.heap.size ⟨ub, uo, us⟩) := Pat.boxed1 w6 ⟨ub, uo, us⟩
             generalize w6.alloc (.cells #[.int .i64 ub, .int .i64 uo, .string us] 38) = V at *
             generalize w6.heap.size = dd at *)
        all_goals
          have FL := Lib.hid NX.out.1
          have FB := Lib.hid NX.out.2.1
          have FX := Lib.hid NX.out.2.2.1
          have FR := Lib.hid NX.out.2.2.2.1
          have FW := Lib.hid NX.out.2.2.2.2
          go_wp2_with fail
          have hfit : n + ps.size ≤ (Pat.bytesV cur).length := by rw [Pat.length_bytesV]; omega
          have hle : ps.size ≤ 32 - n := by omega
          have Hf := Lib.hid hfit
          have Hl := Lib.hid hle
          have h32n : (32 = n) = False := by simp; omega
          have hn32 : (n : Int) ≤ 32 := by omega
          clear hfit hle
          have X0 := Lib.hid (show V.drew.cell? ⟨qb, 0, none⟩ = some (.int .i64 pb) ∧ V.drew.cell? ⟨qb, 1, none⟩ = some (.int .i64 (n : Int)) ∧ V.drew.cell? ⟨qb, 2, none⟩ = some (.string ps) from FL.out)
          have HP : Hid (∀ W, W = V.drew.setRow w.heap.size (splice (Pat.bytesV cur) n (Pat.bytesV (Pat.sb ps))).toArray → (W.cell? ⟨qb, 0, none⟩ = some (.int .i64 pb) ∧ W.cell? ⟨qb, 1, none⟩ = some (.int .i64 (n : Int)) ∧ W.cell? ⟨qb, 2, none⟩ = some (.string ps)) ∧ Pat.BlkIs W w.heap.size 71 (Pat.bytesV (Pat.put cur ⟨pb, n, ps⟩)) ∧ Kept V W (fun b => b = w.heap.size)) := fun W e => by
            subst e
            have hk : Kept V (V.drew.setRow w.heap.size (splice (Pat.bytesV cur) n (Pat.bytesV (Pat.sb ps))).toArray) (fun b => b = w.heap.size) := (Kept.refl V _).drew.trans (Kept.row' _ _ _) (fun b e => .inl e)
            have hqR : qb ≠ w.heap.size := by omega
            refine ⟨⟨?_, ?_, ?_⟩, ?_, hk⟩
            · rw [cell_setRow_other _ _ _ _ hqR]; exact X0.out.1
            · rw [cell_setRow_other _ _ _ _ hqR]; exact X0.out.2.1
            · rw [cell_setRow_other _ _ _ _ hqR]; exact X0.out.2.2
            · have e : Pat.bytesV (Pat.put cur ⟨pb, n, ps⟩) = splice (Pat.bytesV cur) n (Pat.bytesV (Pat.sb ps)) := (Pat.splice_bytes _ _ _).symm
              rw [e]
              exact setRow_heap V.drew w.heap.size _ _ 71 (0, 0) FB.out
          have X1 := Lib.hid (HP.out _ rfl).1
          go_region_held3 (fun W => W.cell? ⟨qb, 0, none⟩ = some (.int .i64 pb) ∧ W.cell? ⟨qb, 1, none⟩ = some (.int .i64 (n : Int)) ∧ W.cell? ⟨qb, 2, none⟩ = some (.string ps))
            (first | exact X0.out | exact X1.out)
            (refine step_copy_text2 rfl (.tmp 42) (.tmp 47) rfl w.heap.size n (32 - n) (32 - n) ps rfl rfl (Pat.bytesV cur) 71 (Pat.BlkIs.drew FB.out) Hl.out Hf.out ?_)
          generalize hV2 : V.drew.setRow w.heap.size (splice (Pat.bytesV cur) n (Pat.bytesV (Pat.sb ps))).toArray = V2
          obtain ⟨_, e2, k2⟩ := HP.out V2 hV2.symm
          have E2 := Lib.hid e2
          have K2 := Lib.hid k2
          clear hV2 e2 k2 X1 HP
          go_wp2
          refine ⟨⟨k + 1, dd :: ds, _, _, _, _, _, _, _, _, _, _, _, _, _, _, _, _, _, _, _, _, _, _, _, _, _, _, _, _, _, _, _, _, _, by omega, ?_, ?_, ?_, ?_, rfl⟩, ?_⟩
          · rw [HT.out, HLs.out]; exact E2.out
          · rw [HT.out, HUs.out]; exact ⟨box_other FBox.out FB.out K2.out, FX.out.keep fun d u hd => box_other hd FB.out K2.out⟩
          · obtain ⟨bb, hbb⟩ := FR.out
            exact ⟨bb, RowP.keep hbb K2.out (fun b e z => FRo.out b e z)⟩
          · exact Below.trans FW.out (K2.out.below (fun b e => by omega) FW.out.size)
          · simp [intOf]; omega
    · obtain rfl : k = L.length := by omega
      have hki : ¬ (L.length : Int) < (L.length : Int) := by omega
      have hTl : s.l.take L.length = s.l := by rw [HC.out.llen, List.take_length]
      rw [hTl] at hblk hbox
      have hfl := withL_len (k := fun _ => true) hr HC.out.len
      have HEq := Lib.hid (roll_undos kf s.l s.f)
      have HUr := Lib.hid (undos_right (k := kf) hr HC.out.len)
      have Hbl := Lib.hid hblk
      have Hbx := Lib.hid hbox
      have HB := Lib.hid hB
      have Hfl : Hid ((layAll s.f s.l).length = 32) := hfl
      have hszc : Hid ((Try.prog.info? 71).map (·.size) = some (Pat.bytesV (layAll s.f s.l)).length) := by unfold Hid; rw [Pat.length_bytesV, Hfl.out]; exact size71
      have hszd : Hid ((Try.prog.info? 71).map (·.size) = some (Pat.bytesV (layAll s.f s.l)).toArray.size) := by unfold Hid; rw [List.size_toArray, Pat.length_bytesV, Hfl.out]; exact size71
      have honc : Hid ((Pat.bytesV (layAll s.f s.l)).toArray.all (·.oneCell') = true) := all_oneCell_toArray (Pat.bytesV_one _)
      have hrgc : Hid (wr.rangeAt w.heap.size 0 (Pat.bytesV (layAll s.f s.l))) := fun j v hv => by rw [Nat.zero_add, Pat.BlkIs.cell Hbl.out j]; exact hv
      have hself : Hid (wr.setRow w.heap.size (Pat.bytesV (layAll s.f s.l)).toArray = wr) := setRow_self wr w.heap.size _ 71 (0, 0) Hbl.out
      clear hblk hbox hrow hB hfl hTl
      generalize layAll s.f s.l = cur at *
      generalize undos kf s.f s.l = UU at *
      obtain ⟨CL, hCL⟩ : ∃ CL, CL = Pat.bytesV cur := ⟨_, rfl⟩
      have HCL := Lib.hid hCL
      rw [← hCL] at hszc hszd honc hrgc hself
      clear hCL
      go_wp2_with (first
        | (refine wpList_load_mid rfl 71 (.tmp 4) rfl w.heap.size 0 rfl CL _ hrgc.out Try.underlying71 rfl hszc.out ?_)
        | (refine wpList_store_row rfl 71 (.tmp 4) (.tmp 50) rfl w.heap.size CL.toArray rfl rfl 71 CL.toArray (by rw [HCL.out]; exact Hbl.out) hszd.out rfl honc.out ?_; rw [hself.out]))
      refine leaves_undos (R := w.heap.size) (w0 := w) _ ?hend (Nat.le_refl _) (rollL kf s.f s.l) (fun W hW => ⟨rfl, hW⟩) ds UU cur wr Hbx.out HUr.out Hfl.out HEq.out.symm Hbl.out HB.out
      intro cur2 W hc2 hb2 hB2
      refine ⟨_, results_cell_row rfl _ _ w.heap.size 71 (Pat.bytesV cur2).toArray (0, 0) _ rfl hb2 Try.underlying71 rfl ?_, rfl⟩
      rw [List.size_toArray, Pat.length_bytesV, hc2]; exact size71
set_option maxRecDepth 100000 in
set_option maxHeartbeats 4000000 in
theorem rolled_low (B g : Nat) (L : List Ly) (s : Sk) (cb : Nat) (kf : Int → Bool) (w : World) (hC : StkAt B w g L s) (hr : Rights s.l) (hl : s.l.length ≤ 900)
    (hF : ∀ (q : Ly) W, q ∈ L → Below w.heap.size w W → Calls Try.prog 50 #[q.ptr, .pointer (some ⟨cb, 0, none⟩)] W fun e w' => e = .returned (.bool (kf q.x.n)) ∧ Below W.heap.size W w') :
    Calls Try.prog 42 #[.pointer (some ⟨g, 0, none⟩), .func (.func 50) #[] #[.pointer (some ⟨cb, 0, none⟩)]] w fun e w' => e = .returned (secV (rollL kf s.f s.l)) ∧ Below w.heap.size w w' := by
  have HC := Lib.hid hC
  have HF := Lib.hid hF
  have hg := hC.glt
  have hLl : L.length ≤ 900 := by rw [hC.llen]; exact hl
  have hmf : ∀ (fn : Fn) (first cap : Array Value) (w : World), (Instr.makeFunc fn first cap).run Try.prog w = .ok (.func fn first cap) w := fun _ _ _ _ => rfl
  have hnot : ∀ (x : Bool) (w : World), (Op.unary .not (.bool x)).run Try.prog w = .ok (.bool (!x)) w := fun _ _ => rfl
  have hsz : Hid ((Try.prog.info? 71).map (·.size) = some (Pat.bytesV s.f).length) := by unfold Hid; rw [Pat.length_bytesV, hC.len]; exact size71
  have hsz2 : Hid ((Try.prog.info? 71).map (·.size) = some (Pat.bytesV s.f).toArray.size) := by unfold Hid; rw [List.size_toArray, Pat.length_bytesV, hC.len]; exact size71
  have hone : Hid ((Pat.bytesV s.f).toArray.all (·.oneCell') = true) := all_oneCell_toArray (Pat.bytesV_one _)
  have hold : Hid ((Pat.bytesV (List.replicate 32 0)).toArray.size = (Pat.bytesV s.f).toArray.size) := by unfold Hid; rw [List.size_toArray, List.size_toArray, Pat.length_bytesV, Pat.length_bytesV, hC.len]; rfl
  have HR : Hid (∀ W, Below w.heap.size w W → W.rangeAt g 0 (Pat.bytesV s.f)) := fun W hB => (hC.fresh hB).range
  have HRs : Hid (∀ W, Below w.heap.size w W → Calls Try.prog 48 #[.agg #[.int .i64 s.k, topV L]] W fun e w' => ∃ A c, e = .returned (.slice A L.length c) ∧ RowP w' W.heap.size A c L ∧ Below W.heap.size W w') := fun W hW => rising_any L s.k W (hC.fresh hW).ch hLl
  have HLay0 : Hid (layAll s.f (s.l.take 0) = s.f) := rfl
  obtain ⟨R0, hR0⟩ : ∃ R0, R0 = Pat.bytesV s.f := ⟨_, rfl⟩
  have HR0 := Lib.hid hR0
  rw [← hR0] at hsz hsz2 hone hold HR
  obtain ⟨Z0, hZ0⟩ : ∃ Z0, Z0 = (Pat.bytesV (List.replicate 32 0)).toArray := ⟨_, rfl⟩
  have HZ := Lib.hid hZ0
  rw [← hZ0] at hold
  clear hR0 hZ0 hC hF
  go_enter_defers Try.func42, Try.ntmps42
  go_wp2_with (first
    | (generalize hW : w.alloc (Obj.cells _ 71) = w1; have b1 : Hid (w1.heap[w.heap.size]? = some (.cells Z0 71 (0, 0))) := (by rw [← hW, HZ.out]; exact heap_alloc_new w _); have B1 : Hid (Below w.heap.size w w1) := (by rw [← hW]; exact Pat.below_alloc1 w _); have hRg := Lib.hid (HR.out w1 B1.out); have hb2 := Lib.hid (setRow_heap w1 w.heap.size Z0 R0.toArray 71 (0, 0) b1.out); have B2 := Lib.hid (below_setRow B1.out (Nat.le_refl _) R0.toArray); clear hW; refine wpList_load_mid rfl 71 (.tmp 11) rfl g 0 rfl R0 _ hRg.out Try.underlying71 rfl hsz.out ?_)
    | (refine wpList_store_row rfl 71 (.tmp 4) (.tmp 12) rfl w.heap.size R0.toArray rfl rfl 71 Z0 b1.out hsz2.out hold.out hone.out ?_; generalize hW2 : w1.setRow w.heap.size R0.toArray = w2 at *; clear hW2; have C2 := Lib.hid (HC.out.fresh B2.out); have t2 := C2.out.num; have t3 := C2.out.top; have hg2 := C2.out.glt)
    | (go_at_call 48; (with_reducible refine (HRs.out _ B2.out).mono ?_); rintro e w3 ⟨A3, c3, rfl, hr3, hb3⟩; have R3 := Lib.hid hr3; have B3 := Lib.hid (Below.trans B2.out (Below.mono hb3 B2.out.size)); have b3 : Hid (Pat.BlkIs w3 w.heap.size 71 (Pat.bytesV s.f)) := (by unfold Hid; rw [← HR0.out]; exact (hb3.block _ (Pat.BlkIs.lt (l := R0) hb2.out)).trans hb2.out); clear hr3 hb3))
  clear t2 t3 hg2
  refine wp_loop (fun a W => ∃ (k : Nat) (ds : List Nat) (u6 u7 u8 u20 u21 u22 u23 u24 u25 u26 u27 u28 u29 u30 u31 u32 u33 u34 u35 u36 u37 u38 u39 u40 u41 u42 u43 u44 u45 u46 u47 u48 u49 : Value), k ≤ L.length ∧ Pat.BlkIs W w.heap.size 71 (Pat.bytesV (layAll s.f (s.l.take k))) ∧ Boxes W ds (undos kf s.f (s.l.take k)) ∧ (∃ bb, RowP W bb A3 c3 L) ∧ Below w.heap.size w W ∧ a = { tmps := ((.pointer (some ⟨g, 0, none⟩)) :: (.func (.func 50) #[] #[.pointer (some ⟨cb, 0, none⟩)]) :: undef :: undef :: (.pointer (some ⟨w.heap.size, 0, none⟩)) :: undef :: u6 :: u7 :: u8 :: (.pointer (some ⟨g, 0, none⟩)) :: (.pointer (some ⟨g, 0, none⟩)) :: (.pointer (some ⟨g, 0, none⟩)) :: (.agg R0.toArray) :: (.pointer (some ⟨g, 0, none⟩)) :: (.pointer (some ⟨g, 0, none⟩)) :: (.pointer (some ⟨g, 32, none⟩)) :: (.agg #[.int .i64 s.k, topV L]) :: (.slice A3 L.length c3) :: (.int .i64 (L.length : Int)) :: (.int .i64 (k : Int)) :: u20 :: u21 :: u22 :: u23 :: u24 :: u25 :: u26 :: u27 :: u28 :: u29 :: u30 :: u31 :: u32 :: u33 :: u34 :: u35 :: u36 :: u37 :: u38 :: u39 :: u40 :: u41 :: u42 :: u43 :: u44 :: u45 :: u46 :: u47 :: u48 :: u49 :: undef :: []).toArray, defers := ds.map (mkD w.heap.size) }) (fun a _ => L.length - (intOf (a.tmps.getD 19 undef)).toNat) ?start ?round
  case start => exact ⟨0, [], _, _, _, _, _, _, _, _, _, _, _, _, _, _, _, _, _, _, _, _, _, _, _, _, _, _, _, _, _, _, _, _, _, Nat.zero_le _, by rw [HLay0.out]; exact b3.out, trivial, ⟨_, R3.out⟩, B3.out, rfl⟩
  case round =>
    rintro a wr ⟨k, ds, u6, u7, u8, u20, u21, u22, u23, u24, u25, u26, u27, u28, u29, u30, u31, u32, u33, u34, u35, u36, u37, u38, u39, u40, u41, u42, u43, u44, u45, u46, u47, u48, u49, hk, hblk, hbox, hrow, hB, rfl⟩
    have hk0 : (0 : Int) ≤ (k : Int) := by omega
    have wk : IntKind.i64.wrap ((k : Int) + 1) = ((k + 1 : Nat) : Int) := by rw [IntWalk.i64_in _ (by omega)]; omega
    by_cases hlt : k < L.length
    · have hki : (k : Int) < (L.length : Int) := by omega
      obtain ⟨bb, hrw⟩ := hrow
      obtain ⟨ab, hA, hab, h1, h2, e0⟩ := hrw.at_ hlt
      subst hA
      unfold maxLen at h2
      have hlay := (HC.out.ch k hlt)
      have hqw := hlay.lt
      have HLay : Hid (∀ V, Below w.heap.size w V → LayAt V (lyn L k) (topV (L.take k))) := fun V hV => hlay.fresh hV
      have HS := Lib.hid (HF.out (lyn L k) wr (lyn_mem hlt) hB)
      have hx := HC.out.lyx hlt
      have hsl : k < s.l.length := by rw [← HC.out.llen]; exact hlt
      have HT : Hid (s.l.take (k + 1) = s.l.take k ++ [(lyn L k).x]) := by unfold Hid; rw [take_onn hsl, hx]
      have hpr : (lyn L k).x.p.right = true := by rw [hx]; exact hr _ (onn_mem hsl)
      have hTk : Rights (s.l.take k) := fun x hx => hr x (List.mem_of_mem_take hx)
      have hcl : (layAll s.f (s.l.take k)).length = 32 := withL_len hTk HC.out.len
      have hca : AllB (layAll s.f (s.l.take k)) := withL_all HC.out.all
      have HLs : Hid (layAll s.f (s.l.take k ++ [(lyn L k).x]) = Pat.put (layAll s.f (s.l.take k)) (lyn L k).x.p) := layAll_snoc _ _ _
      have HUs0 : Hid (undos kf s.f (s.l.take k ++ [(lyn L k).x]) = (if kf (lyn L k).x.n = true then [] else [undoP (layAll s.f (s.l.take k)) (lyn L k).x.p]) ++ undos kf s.f (s.l.take k)) := undos_snoc _ _ _ _
      have FRo : Hid (∀ b, own (some (⟨ab, 0, none⟩ : Addr)) = some b → b ≠ w.heap.size) := rowP_other hrw hblk
      have Hblk := Lib.hid hblk
      have Hbox := Lib.hid hbox
      have Hrw := Lib.hid hrw
      have HB := Lib.hid hB
      clear hblk hbox hrw hB hlay hx hTk
      generalize layAll s.f (s.l.take k) = cur at *
      generalize undos kf s.f (s.l.take k) = UU at *
      generalize hq : lyn L k = q at *
      generalize hkf : kf q.x.n = kq at *
      clear hkf hq
      obtain ⟨qb, y, pb, po, ps⟩ := q
      obtain ⟨g0, g1, g2, g3, g4, g5⟩ := Pat.Pt.right_out hpr
      obtain ⟨n, rfl⟩ := Int.eq_ofNat_of_zero_le g2
      unfold Ly.ptr at *
      simp only at *
      cases kq with
      | true =>
        have HUs : Hid (undos kf s.f (s.l.take k ++ [(⟨y, ⟨pb, n, ps⟩⟩ : On)]) = UU) := by unfold Hid; rw [HUs0.out, if_pos rfl]; rfl
        clear HUs0
        go_wp2_with (first | (go_at_call 50; (with_reducible refine HS.out.mono ?_); rintro e V ⟨rfl, hb5⟩; have FB := Lib.hid (show Pat.BlkIs V w.heap.size 71 (Pat.bytesV cur) from (hb5.block _ (Pat.BlkIs.lt Hblk.out)).trans Hblk.out); have FX := Lib.hid (Hbox.out.below hb5); have FW := Lib.hid (Below.trans HB.out (Below.mono hb5 HB.out.size)); have FR := Lib.hid (show ∃ bb, RowP V bb (some ⟨ab, 0, none⟩) c3 L from ⟨_, Hrw.out.fresh hb5⟩); have FL0 := (HLay.out V FW.out).cells; have FL := Lib.hid (show V.cell? ⟨qb, 0, none⟩ = some (.int .i64 pb) ∧ V.cell? ⟨qb, 1, none⟩ = some (.int .i64 (n : Int)) ∧ V.cell? ⟨qb, 2, none⟩ = some (.string ps) from ⟨FL0.1, FL0.2.1, FL0.2.2.1⟩); clear FL0 hb5) | fail)
        go_wp2_with fail
        have hfit : n + ps.size ≤ (Pat.bytesV cur).length := by rw [Pat.length_bytesV]; omega
        have hle : ps.size ≤ 32 - n := by omega
        have Hf := Lib.hid hfit
        have Hl := Lib.hid hle
        have h32n : (32 = n) = False := by simp; omega
        have hn32 : (n : Int) ≤ 32 := by omega
        clear hfit hle
        have X0 := Lib.hid (show V.drew.cell? ⟨qb, 0, none⟩ = some (.int .i64 pb) ∧ V.drew.cell? ⟨qb, 1, none⟩ = some (.int .i64 (n : Int)) ∧ V.drew.cell? ⟨qb, 2, none⟩ = some (.string ps) from FL.out)
        have HP : Hid (∀ W, W = V.drew.setRow w.heap.size (splice (Pat.bytesV cur) n (Pat.bytesV (Pat.sb ps))).toArray → (W.cell? ⟨qb, 0, none⟩ = some (.int .i64 pb) ∧ W.cell? ⟨qb, 1, none⟩ = some (.int .i64 (n : Int)) ∧ W.cell? ⟨qb, 2, none⟩ = some (.string ps)) ∧ Pat.BlkIs W w.heap.size 71 (Pat.bytesV (Pat.put cur ⟨pb, n, ps⟩)) ∧ Kept V W (fun b => b = w.heap.size)) := fun W e => by
          subst e
          have hk : Kept V (V.drew.setRow w.heap.size (splice (Pat.bytesV cur) n (Pat.bytesV (Pat.sb ps))).toArray) (fun b => b = w.heap.size) := (Kept.refl V _).drew.trans (Kept.row' _ _ _) (fun b e => .inl e)
          have hqR : qb ≠ w.heap.size := by omega
          refine ⟨⟨?_, ?_, ?_⟩, ?_, hk⟩
          · rw [cell_setRow_other _ _ _ _ hqR]; exact X0.out.1
          · rw [cell_setRow_other _ _ _ _ hqR]; exact X0.out.2.1
          · rw [cell_setRow_other _ _ _ _ hqR]; exact X0.out.2.2
          · have e : Pat.bytesV (Pat.put cur ⟨pb, n, ps⟩) = splice (Pat.bytesV cur) n (Pat.bytesV (Pat.sb ps)) := (Pat.splice_bytes _ _ _).symm
            rw [e]
            exact setRow_heap V.drew w.heap.size _ _ 71 (0, 0) FB.out
        have X1 := Lib.hid (HP.out _ rfl).1
        go_region_held3 (fun W => W.cell? ⟨qb, 0, none⟩ = some (.int .i64 pb) ∧ W.cell? ⟨qb, 1, none⟩ = some (.int .i64 (n : Int)) ∧ W.cell? ⟨qb, 2, none⟩ = some (.string ps))
          (first | exact X0.out | exact X1.out)
          (refine step_copy_text2 rfl (.tmp 42) (.tmp 47) rfl w.heap.size n (32 - n) (32 - n) ps rfl rfl (Pat.bytesV cur) 71 (Pat.BlkIs.drew FB.out) Hl.out Hf.out ?_)
        generalize hV2 : V.drew.setRow w.heap.size (splice (Pat.bytesV cur) n (Pat.bytesV (Pat.sb ps))).toArray = V2
        obtain ⟨_, e2, k2⟩ := HP.out V2 hV2.symm
        have E2 := Lib.hid e2
        have K2 := Lib.hid k2
        clear hV2 e2 k2 X1 HP
        go_wp2
        refine ⟨⟨k + 1, ds, _, _, _, _, _, _, _, _, _, _, _, _, _, _, _, _, _, _, _, _, _, _, _, _, _, _, _, _, _, _, _, _, _, by omega, ?_, ?_, ?_, ?_, rfl⟩, ?_⟩
        · rw [HT.out, HLs.out]; exact E2.out
        · rw [HT.out, HUs.out]; exact FX.out.keep fun d u hd => box_other hd FB.out K2.out
        · obtain ⟨bb, hbb⟩ := FR.out
          exact ⟨bb, RowP.keep hbb K2.out (fun b e z => FRo.out b e z)⟩
        · exact Below.trans FW.out (K2.out.below (fun b e => by omega) FW.out.size)
        · simp [intOf]; omega
      | false =>
        have HUs : Hid (undos kf s.f (s.l.take k ++ [(⟨y, ⟨pb, n, ps⟩⟩ : On)]) = undoP cur ⟨pb, n, ps⟩ :: UU) := by unfold Hid; rw [HUs0.out, if_neg (by decide)]; rfl
        have HU : Hid (∀ W, Pat.BlkIs W w.heap.size 71 (Pat.bytesV cur) → Calls Try.prog 51 #[.slice (some ⟨w.heap.size, 0, none⟩) 32 32, .agg #[.int .i64 pb, .int .i64 (n : Int), .string ps]] W fun e w' => e = .returned (.tuple #[(undoP cur ⟨pb, n, ps⟩).v, .int .i64 0]) ∧ Below W.heap.size W w') := fun W hW =>
          Pat.undo_yes (some ⟨w.heap.size, 0, none⟩) 32 cur ⟨pb, n, ps⟩ W (bts_blk hW hca hcl) hcl (by omega) hpr
        generalize undoP cur ⟨pb, n, ps⟩ = U at *
        obtain ⟨ub, uo, us⟩ := U
        unfold Pat.Pt.v at HU
        simp only at HU
        -- what holds in every world behind the call, with no block of it written
        have HNx : Hid (∀ V, Below wr.heap.size wr V → (V.cell? ⟨qb, 0, none⟩ = some (.int .i64 pb) ∧ V.cell? ⟨qb, 1, none⟩ = some (.int .i64 (n : Int)) ∧ V.cell? ⟨qb, 2, none⟩ = some (.string ps)) ∧ Pat.BlkIs V w.heap.size 71 (Pat.bytesV cur) ∧ Boxes V ds UU ∧ (∃ bb, RowP V bb (some ⟨ab, 0, none⟩) c3 L) ∧ Below w.heap.size w V) := fun V hV => by
          have hw := Below.trans HB.out (Below.mono hV HB.out.size)
          have hl := (HLay.out V hw).cells
          exact ⟨⟨hl.1, hl.2.1, hl.2.2.1⟩, (hV.block _ (Pat.BlkIs.lt Hblk.out)).trans Hblk.out, Hbox.out.below hV, ⟨_, Hrw.out.fresh hV⟩, hw⟩
        clear HUs0 HLay Hbox Hrw
        go_wp2_with (first | (go_at_call 50; (with_reducible refine HS.out.mono ?_); rintro e W5 ⟨rfl, hb5⟩; have B5 := Lib.hid hb5; clear hb5) | fail)
        have X0 := Lib.hid (HNx.out W5.drew B5.out.drew).1
        have X1 := Lib.hid (HNx.out W5 B5.out).1
        have BA := Lib.hid (show Below wr.heap.size wr (W5.alloc (.cells #[.int .i64 0, .int .i64 0, .string ⟨#[]⟩] 38)).drew from (B5.out.alloc B5.out.size _).drew)
        have XA := Lib.hid (HNx.out _ BA.out).1
        have QA : Hid (Pat.Boxed (W5.alloc (.cells #[.int .i64 0, .int .i64 0, .string ⟨#[]⟩] 38)).drew W5.heap.size Pat.zeroP) := Pat.boxed1 W5 Pat.zeroP
        have HU0 := Lib.hid (HU.out W5.drew (HNx.out W5.drew B5.out.drew).2.1)
        have HUA := Lib.hid (HU.out _ (HNx.out _ BA.out).2.1)
        have HSt : Hid (∀ (V : World) (d : Nat), Below wr.heap.size wr V → wr.heap.size ≤ d → Pat.Boxed V d Pat.zeroP → Below wr.heap.size wr (((V.setCell ⟨d, 0, none⟩ (.int .i64 ub)).setCell ⟨d, 1, none⟩ (.int .i64 uo)).setCell ⟨d, 2, none⟩ (.string us)) ∧ Pat.Boxed (((V.setCell ⟨d, 0, none⟩ (.int .i64 ub)).setCell ⟨d, 1, none⟩ (.int .i64 uo)).setCell ⟨d, 2, none⟩ (.string us)) d ⟨ub, uo, us⟩) := fun V d hV hd hq =>
          ⟨((hV.setCell (p := ⟨d, 0, none⟩) hd _).setCell (p := ⟨d, 1, none⟩) hd _).setCell (p := ⟨d, 2, none⟩) hd _, box_set hq ⟨ub, uo, us⟩⟩
        go_wp2_with fail
        go_region_held3 (fun V => V.cell? ⟨qb, 0, none⟩ = some (.int .i64 pb) ∧ V.cell? ⟨qb, 1, none⟩ = some (.int .i64 (n : Int)) ∧ V.cell? ⟨qb, 2, none⟩ = some (.string ps))
          (first | exact X0.out | exact X1.out | exact XA.out | exact X6.out | exact X6a.out | exact X6u.out | exact Y7.out)
          (first
            | (go_at_call 51; (with_reducible refine HU0.out.mono ?_); rintro e w6 ⟨rfl, hb6⟩; have B6 := Lib.hid (Below.trans B5.out (Below.mono ((Below.refl W5.heap.size W5).drew.trans hb6) B5.out.size)); have X6 := Lib.hid (HNx.out w6 B6.out).1; have X6a := Lib.hid (HNx.out (w6.alloc (.cells #[.int .i64 0, .int .i64 0, .string ⟨#[]⟩] 38)) (B6.out.alloc B6.out.size _)).1; have B6u := Lib.hid (show Below wr.heap.size wr (w6.alloc (.cells #[.int .i64 ub, .int .i64 uo, .string us] 38)) from B6.out.alloc B6.out.size _); have X6u := Lib.hid (HNx.out _ B6u.out).1; clear hb6)
            | (go_at_call 51; (with_reducible refine HUA.out.mono ?_); rintro e w6 ⟨rfl, hb6⟩; have B6 := Lib.hid (Below.trans BA.out (Below.mono hb6 BA.out.size)); have X6 := Lib.hid (HNx.out w6 B6.out).1; have Q6 := Lib.hid (QA.out.below hb6 (Pat.BlkIs.lt QA.out)); have St6 := Lib.hid (HSt.out w6 W5.heap.size B6.out B5.out.size Q6.out); have Y7 := Lib.hid (HNx.out _ St6.out.1).1; obtain ⟨q0, q1, q2⟩ := Q6.out.cells; simp only [Pat.zeroP] at q0 q1 q2; have qf := Q6.out.frozen; clear hb6)
            | fail)
        all_goals first
          | (have NX := Lib.hid (HNx.out _ St6.out.1)
             have FBox := Lib.hid St6.out.2
             generalize (((w6.setCell ⟨W5.heap.size, 0, none⟩ (.int .i64 ub)).setCell ⟨W5.heap.size, 1, none⟩ (.int .i64 uo)).setCell ⟨W5.heap.size, 2, none⟩ (.string us)) = V at *
             generalize W5.heap.size = dd at *)
          | (have NX := Lib.hid (HNx.out _ B6u.out)
             have FBox : Hid (Pat.Boxed (w6.alloc (.cells #[.int .i64 ub, .int .i64 uo, .string us] 38)) w6.heap.size ⟨ub, uo, us⟩) := Pat.boxed1 w6 ⟨ub, uo, us⟩
             generalize w6.alloc (.cells #[.int .i64 ub, .int .i64 uo, .string us] 38) = V at *
             generalize w6.heap.size = dd at *)
        all_goals
          have FL := Lib.hid NX.out.1
          have FB := Lib.hid NX.out.2.1
          have FX := Lib.hid NX.out.2.2.1
          have FR := Lib.hid NX.out.2.2.2.1
          have FW := Lib.hid NX.out.2.2.2.2
          go_wp2_with fail
          have hfit : n + ps.size ≤ (Pat.bytesV cur).length := by rw [Pat.length_bytesV]; omega
          have hle : ps.size ≤ 32 - n := by omega
          have Hf := Lib.hid hfit
          have Hl := Lib.hid hle
          have h32n : (32 = n) = False := by simp; omega
          have hn32 : (n : Int) ≤ 32 := by omega
          clear hfit hle
          have X0 := Lib.hid (show V.drew.cell? ⟨qb, 0, none⟩ = some (.int .i64 pb) ∧ V.drew.cell? ⟨qb, 1, none⟩ = some (.int .i64 (n : Int)) ∧ V.drew.cell? ⟨qb, 2, none⟩ = some (.string ps) from FL.out)
          have HP : Hid (∀ W, W = V.drew.setRow w.heap.size (splice (Pat.bytesV cur) n (Pat.bytesV (Pat.sb ps))).toArray → (W.cell? ⟨qb, 0, none⟩ = some (.int .i64 pb) ∧ W.cell? ⟨qb, 1, none⟩ = some (.int .i64 (n : Int)) ∧ W.cell? ⟨qb, 2, none⟩ = some (.string ps)) ∧ Pat.BlkIs W w.heap.size 71 (Pat.bytesV (Pat.put cur ⟨pb, n, ps⟩)) ∧ Kept V W (fun b => b = w.heap.size)) := fun W e => by
            subst e
            have hk : Kept V (V.drew.setRow w.heap.size (splice (Pat.bytesV cur) n (Pat.bytesV (Pat.sb ps))).toArray) (fun b => b = w.heap.size) := (Kept.refl V _).drew.trans (Kept.row' _ _ _) (fun b e => .inl e)
            have hqR : qb ≠ w.heap.size := by omega
            refine ⟨⟨?_, ?_, ?_⟩, ?_, hk⟩
            · rw [cell_setRow_other _ _ _ _ hqR]; exact X0.out.1
            · rw [cell_setRow_other _ _ _ _ hqR]; exact X0.out.2.1
            · rw [cell_setRow_other _ _ _ _ hqR]; exact X0.out.2.2
            · have e : Pat.bytesV (Pat.put cur ⟨pb, n, ps⟩) = splice (Pat.bytesV cur) n (Pat.bytesV (Pat.sb ps)) := (Pat.splice_bytes _ _ _).symm
              rw [e]
              exact setRow_heap V.drew w.heap.size _ _ 71 (0, 0) FB.out
          have X1 := Lib.hid (HP.out _ rfl).1
          go_region_held3 (fun W => W.cell? ⟨qb, 0, none⟩ = some (.int .i64 pb) ∧ W.cell? ⟨qb, 1, none⟩ = some (.int .i64 (n : Int)) ∧ W.cell? ⟨qb, 2, none⟩ = some (.string ps))
            (first | exact X0.out | exact X1.out)
            (refine step_copy_text2 rfl (.tmp 42) (.tmp 47) rfl w.heap.size n (32 - n) (32 - n) ps rfl rfl (Pat.bytesV cur) 71 (Pat.BlkIs.drew FB.out) Hl.out Hf.out ?_)
          generalize hV2 : V.drew.setRow w.heap.size (splice (Pat.bytesV cur) n (Pat.bytesV (Pat.sb ps))).toArray = V2
          obtain ⟨_, e2, k2⟩ := HP.out V2 hV2.symm
          have E2 := Lib.hid e2
          have K2 := Lib.hid k2
          clear hV2 e2 k2 X1 HP
          go_wp2
          refine ⟨⟨k + 1, dd :: ds, _, _, _, _, _, _, _, _, _, _, _, _, _, _, _, _, _, _, _, _, _, _, _, _, _, _, _, _, _, _, _, _, _, by omega, ?_, ?_, ?_, ?_, rfl⟩, ?_⟩
          · rw [HT.out, HLs.out]; exact E2.out
          · rw [HT.out, HUs.out]; exact ⟨box_other FBox.out FB.out K2.out, FX.out.keep fun d u hd => box_other hd FB.out K2.out⟩
          · obtain ⟨bb, hbb⟩ := FR.out
            exact ⟨bb, RowP.keep hbb K2.out (fun b e z => FRo.out b e z)⟩
          · exact Below.trans FW.out (K2.out.below (fun b e => by omega) FW.out.size)
          · simp [intOf]; omega
    · obtain rfl : k = L.length := by omega
      have hki : ¬ (L.length : Int) < (L.length : Int) := by omega
      have hTl : s.l.take L.length = s.l := by rw [HC.out.llen, List.take_length]
      rw [hTl] at hblk hbox
      have hfl := withL_len (k := fun _ => true) hr HC.out.len
      have HEq := Lib.hid (roll_undos kf s.l s.f)
      have HUr := Lib.hid (undos_right (k := kf) hr HC.out.len)
      have Hbl := Lib.hid hblk
      have Hbx := Lib.hid hbox
      have HB := Lib.hid hB
      have Hfl : Hid ((layAll s.f s.l).length = 32) := hfl
      have hszc : Hid ((Try.prog.info? 71).map (·.size) = some (Pat.bytesV (layAll s.f s.l)).length) := by unfold Hid; rw [Pat.length_bytesV, Hfl.out]; exact size71
      have hszd : Hid ((Try.prog.info? 71).map (·.size) = some (Pat.bytesV (layAll s.f s.l)).toArray.size) := by unfold Hid; rw [List.size_toArray, Pat.length_bytesV, Hfl.out]; exact size71
      have honc : Hid ((Pat.bytesV (layAll s.f s.l)).toArray.all (·.oneCell') = true) := all_oneCell_toArray (Pat.bytesV_one _)
      have hrgc : Hid (wr.rangeAt w.heap.size 0 (Pat.bytesV (layAll s.f s.l))) := fun j v hv => by rw [Nat.zero_add, Pat.BlkIs.cell Hbl.out j]; exact hv
      have hself : Hid (wr.setRow w.heap.size (Pat.bytesV (layAll s.f s.l)).toArray = wr) := setRow_self wr w.heap.size _ 71 (0, 0) Hbl.out
      clear hblk hbox hrow hB hfl hTl
      generalize layAll s.f s.l = cur at *
      generalize undos kf s.f s.l = UU at *
      obtain ⟨CL, hCL⟩ : ∃ CL, CL = Pat.bytesV cur := ⟨_, rfl⟩
      have HCL := Lib.hid hCL
      rw [← hCL] at hszc hszd honc hrgc hself
      clear hCL
      go_wp2_with (first
        | (refine wpList_load_mid rfl 71 (.tmp 4) rfl w.heap.size 0 rfl CL _ hrgc.out Try.underlying71 rfl hszc.out ?_)
        | (refine wpList_store_row rfl 71 (.tmp 4) (.tmp 50) rfl w.heap.size CL.toArray rfl rfl 71 CL.toArray (by rw [HCL.out]; exact Hbl.out) hszd.out rfl honc.out ?_; rw [hself.out]))
      refine leaves_undos (R := w.heap.size) (w0 := w) _ ?hend (Nat.le_refl _) (rollL kf s.f s.l) (fun W hW => ⟨rfl, hW⟩) ds UU cur wr Hbx.out HUr.out Hfl.out HEq.out.symm Hbl.out HB.out
      intro cur2 W hc2 hb2 hB2
      refine ⟨_, results_cell_row rfl _ _ w.heap.size 71 (Pat.bytesV cur2).toArray (0, 0) _ rfl hb2 Try.underlying71 rfl ?_, rfl⟩
      rw [List.size_toArray, Pat.length_bytesV, hc2]; exact size71
set_option maxRecDepth 100000 in
set_option maxHeartbeats 4000000 in
theorem rolled_has (B g : Nat) (L : List Ly) (s : Sk) (cb : Nat) (kf : Int → Bool) (w : World) (hC : StkAt B w g L s) (hr : Rights s.l) (hl : s.l.length ≤ 900)
    (hF : ∀ (q : Ly) W, q ∈ L → Below w.heap.size w W → Calls Try.prog 43 #[.map (some cb), q.ptr] W fun e w' => e = .returned (.bool (kf q.x.n)) ∧ Below W.heap.size W w') :
    Calls Try.prog 42 #[.pointer (some ⟨g, 0, none⟩), .func (.func 43) #[.map (some cb)] #[]] w fun e w' => e = .returned (secV (rollL kf s.f s.l)) ∧ Below w.heap.size w w' := by
  have HC := Lib.hid hC
  have HF := Lib.hid hF
  have hg := hC.glt
  have hLl : L.length ≤ 900 := by rw [hC.llen]; exact hl
  have hmf : ∀ (fn : Fn) (first cap : Array Value) (w : World), (Instr.makeFunc fn first cap).run Try.prog w = .ok (.func fn first cap) w := fun _ _ _ _ => rfl
  have hnot : ∀ (x : Bool) (w : World), (Op.unary .not (.bool x)).run Try.prog w = .ok (.bool (!x)) w := fun _ _ => rfl
  have hsz : Hid ((Try.prog.info? 71).map (·.size) = some (Pat.bytesV s.f).length) := by unfold Hid; rw [Pat.length_bytesV, hC.len]; exact size71
  have hsz2 : Hid ((Try.prog.info? 71).map (·.size) = some (Pat.bytesV s.f).toArray.size) := by unfold Hid; rw [List.size_toArray, Pat.length_bytesV, hC.len]; exact size71
  have hone : Hid ((Pat.bytesV s.f).toArray.all (·.oneCell') = true) := all_oneCell_toArray (Pat.bytesV_one _)
  have hold : Hid ((Pat.bytesV (List.replicate 32 0)).toArray.size = (Pat.bytesV s.f).toArray.size) := by unfold Hid; rw [List.size_toArray, List.size_toArray, Pat.length_bytesV, Pat.length_bytesV, hC.len]; rfl
  have HR : Hid (∀ W, Below w.heap.size w W → W.rangeAt g 0 (Pat.bytesV s.f)) := fun W hB => (hC.fresh hB).range
  have HRs : Hid (∀ W, Below w.heap.size w W → Calls Try.prog 48 #[.agg #[.int .i64 s.k, topV L]] W fun e w' => ∃ A c, e = .returned (.slice A L.length c) ∧ RowP w' W.heap.size A c L ∧ Below W.heap.size W w') := fun W hW => rising_any L s.k W (hC.fresh hW).ch hLl
  have HLay0 : Hid (layAll s.f (s.l.take 0) = s.f) := rfl
  obtain ⟨R0, hR0⟩ : ∃ R0, R0 = Pat.bytesV s.f := ⟨_, rfl⟩
  have HR0 := Lib.hid hR0
  rw [← hR0] at hsz hsz2 hone hold HR
  obtain ⟨Z0, hZ0⟩ : ∃ Z0, Z0 = (Pat.bytesV (List.replicate 32 0)).toArray := ⟨_, rfl⟩
  have HZ := Lib.hid hZ0
  rw [← hZ0] at hold
  clear hR0 hZ0 hC hF
  go_enter_defers Try.func42, Try.ntmps42
  go_wp2_with (first
    | (generalize hW : w.alloc (Obj.cells _ 71) = w1; have b1 : Hid (w1.heap[w.heap.size]? = some (.cells Z0 71 (0, 0))) := (by rw [← hW, HZ.out]; exact heap_alloc_new w _); have B1 : Hid (Below w.heap.size w w1) := (by rw [← hW]; exact Pat.below_alloc1 w _); have hRg := Lib.hid (HR.out w1 B1.out); have hb2 := Lib.hid (setRow_heap w1 w.heap.size Z0 R0.toArray 71 (0, 0) b1.out); have B2 := Lib.hid (below_setRow B1.out (Nat.le_refl _) R0.toArray); clear hW; refine wpList_load_mid rfl 71 (.tmp 11) rfl g 0 rfl R0 _ hRg.out Try.underlying71 rfl hsz.out ?_)
    | (refine wpList_store_row rfl 71 (.tmp 4) (.tmp 12) rfl w.heap.size R0.toArray rfl rfl 71 Z0 b1.out hsz2.out hold.out hone.out ?_; generalize hW2 : w1.setRow w.heap.size R0.toArray = w2 at *; clear hW2; have C2 := Lib.hid (HC.out.fresh B2.out); have t2 := C2.out.num; have t3 := C2.out.top; have hg2 := C2.out.glt)
    | (go_at_call 48; (with_reducible refine (HRs.out _ B2.out).mono ?_); rintro e w3 ⟨A3, c3, rfl, hr3, hb3⟩; have R3 := Lib.hid hr3; have B3 := Lib.hid (Below.trans B2.out (Below.mono hb3 B2.out.size)); have b3 : Hid (Pat.BlkIs w3 w.heap.size 71 (Pat.bytesV s.f)) := (by unfold Hid; rw [← HR0.out]; exact (hb3.block _ (Pat.BlkIs.lt (l := R0) hb2.out)).trans hb2.out); clear hr3 hb3))
  clear t2 t3 hg2
  refine wp_loop (fun a W => ∃ (k : Nat) (ds : List Nat) (u6 u7 u8 u20 u21 u22 u23 u24 u25 u26 u27 u28 u29 u30 u31 u32 u33 u34 u35 u36 u37 u38 u39 u40 u41 u42 u43 u44 u45 u46 u47 u48 u49 : Value), k ≤ L.length ∧ Pat.BlkIs W w.heap.size 71 (Pat.bytesV (layAll s.f (s.l.take k))) ∧ Boxes W ds (undos kf s.f (s.l.take k)) ∧ (∃ bb, RowP W bb A3 c3 L) ∧ Below w.heap.size w W ∧ a = { tmps := ((.pointer (some ⟨g, 0, none⟩)) :: (.func (.func 43) #[.map (some cb)] #[]) :: undef :: undef :: (.pointer (some ⟨w.heap.size, 0, none⟩)) :: undef :: u6 :: u7 :: u8 :: (.pointer (some ⟨g, 0, none⟩)) :: (.pointer (some ⟨g, 0, none⟩)) :: (.pointer (some ⟨g, 0, none⟩)) :: (.agg R0.toArray) :: (.pointer (some ⟨g, 0, none⟩)) :: (.pointer (some ⟨g, 0, none⟩)) :: (.pointer (some ⟨g, 32, none⟩)) :: (.agg #[.int .i64 s.k, topV L]) :: (.slice A3 L.length c3) :: (.int .i64 (L.length : Int)) :: (.int .i64 (k : Int)) :: u20 :: u21 :: u22 :: u23 :: u24 :: u25 :: u26 :: u27 :: u28 :: u29 :: u30 :: u31 :: u32 :: u33 :: u34 :: u35 :: u36 :: u37 :: u38 :: u39 :: u40 :: u41 :: u42 :: u43 :: u44 :: u45 :: u46 :: u47 :: u48 :: u49 :: undef :: []).toArray, defers := ds.map (mkD w.heap.size) }) (fun a _ => L.length - (intOf (a.tmps.getD 19 undef)).toNat) ?start ?round
  case start => exact ⟨0, [], _, _, _, _, _, _, _, _, _, _, _, _, _, _, _, _, _, _, _, _, _, _, _, _, _, _, _, _, _, _, _, _, _, Nat.zero_le _, by rw [HLay0.out]; exact b3.out, trivial, ⟨_, R3.out⟩, B3.out, rfl⟩
  case round =>
    rintro a wr ⟨k, ds, u6, u7, u8, u20, u21, u22, u23, u24, u25, u26, u27, u28, u29, u30, u31, u32, u33, u34, u35, u36, u37, u38, u39, u40, u41, u42, u43, u44, u45, u46, u47, u48, u49, hk, hblk, hbox, hrow, hB, rfl⟩
    have hk0 : (0 : Int) ≤ (k : Int) := by omega
    have wk : IntKind.i64.wrap ((k : Int) + 1) = ((k + 1 : Nat) : Int) := by rw [IntWalk.i64_in _ (by omega)]; omega
    by_cases hlt : k < L.length
    · have hki : (k : Int) < (L.length : Int) := by omega
      obtain ⟨bb, hrw⟩ := hrow
      obtain ⟨ab, hA, hab, h1, h2, e0⟩ := hrw.at_ hlt
      subst hA
      unfold maxLen at h2
      have hlay := (HC.out.ch k hlt)
      have hqw := hlay.lt
      have HLay : Hid (∀ V, Below w.heap.size w V → LayAt V (lyn L k) (topV (L.take k))) := fun V hV => hlay.fresh hV
      have HS := Lib.hid (HF.out (lyn L k) wr (lyn_mem hlt) hB)
      have hx := HC.out.lyx hlt
      have hsl : k < s.l.length := by rw [← HC.out.llen]; exact hlt
      have HT : Hid (s.l.take (k + 1) = s.l.take k ++ [(lyn L k).x]) := by unfold Hid; rw [take_onn hsl, hx]
      have hpr : (lyn L k).x.p.right = true := by rw [hx]; exact hr _ (onn_mem hsl)
      have hTk : Rights (s.l.take k) := fun x hx => hr x (List.mem_of_mem_take hx)
      have hcl : (layAll s.f (s.l.take k)).length = 32 := withL_len hTk HC.out.len
      have hca : AllB (layAll s.f (s.l.take k)) := withL_all HC.out.all
      have HLs : Hid (layAll s.f (s.l.take k ++ [(lyn L k).x]) = Pat.put (layAll s.f (s.l.take k)) (lyn L k).x.p) := layAll_snoc _ _ _
      have HUs0 : Hid (undos kf s.f (s.l.take k ++ [(lyn L k).x]) = (if kf (lyn L k).x.n = true then [] else [undoP (layAll s.f (s.l.take k)) (lyn L k).x.p]) ++ undos kf s.f (s.l.take k)) := undos_snoc _ _ _ _
      have FRo : Hid (∀ b, own (some (⟨ab, 0, none⟩ : Addr)) = some b → b ≠ w.heap.size) := rowP_other hrw hblk
      have Hblk := Lib.hid hblk
      have Hbox := Lib.hid hbox
      have Hrw := Lib.hid hrw
      have HB := Lib.hid hB
      clear hblk hbox hrw hB hlay hx hTk
      generalize layAll s.f (s.l.take k) = cur at *
      generalize undos kf s.f (s.l.take k) = UU at *
      generalize hq : lyn L k = q at *
      generalize hkf : kf q.x.n = kq at *
      clear hkf hq
      obtain ⟨qb, y, pb, po, ps⟩ := q
      obtain ⟨g0, g1, g2, g3, g4, g5⟩ := Pat.Pt.right_out hpr
      obtain ⟨n, rfl⟩ := Int.eq_ofNat_of_zero_le g2
      unfold Ly.ptr at *
      simp only at *
      cases kq with
      | true =>
        have HUs : Hid (undos kf s.f (s.l.take k ++ [(⟨y, ⟨pb, n, ps⟩⟩ : On)]) = UU) := by unfold Hid; rw [HUs0.out, if_pos rfl]; rfl
        clear HUs0
        go_wp2_with (first | (go_at_call 43; (with_reducible refine HS.out.mono ?_); rintro e V ⟨rfl, hb5⟩; have FB := Lib.hid (show Pat.BlkIs V w.heap.size 71 (Pat.bytesV cur) from (hb5.block _ (Pat.BlkIs.lt Hblk.out)).trans Hblk.out); have FX := Lib.hid (Hbox.out.below hb5); have FW := Lib.hid (Below.trans HB.out (Below.mono hb5 HB.out.size)); have FR := Lib.hid (show ∃ bb, RowP V bb (some ⟨ab, 0, none⟩) c3 L from ⟨_, Hrw.out.fresh hb5⟩); have FL0 := (HLay.out V FW.out).cells; have FL := Lib.hid (show V.cell? ⟨qb, 0, none⟩ = some (.int .i64 pb) ∧ V.cell? ⟨qb, 1, none⟩ = some (.int .i64 (n : Int)) ∧ V.cell? ⟨qb, 2, none⟩ = some (.string ps) from ⟨FL0.1, FL0.2.1, FL0.2.2.1⟩); clear FL0 hb5) | fail)
        go_wp2_with fail
        have hfit : n + ps.size ≤ (Pat.bytesV cur).length := by rw [Pat.length_bytesV]; omega
        have hle : ps.size ≤ 32 - n := by omega
        have Hf := Lib.hid hfit
        have Hl := Lib.hid hle
        have h32n : (32 = n) = False := by simp; omega
        have hn32 : (n : Int) ≤ 32 := by omega
        clear hfit hle
        have X0 := Lib.hid (show V.drew.cell? ⟨qb, 0, none⟩ = some (.int .i64 pb) ∧ V.drew.cell? ⟨qb, 1, none⟩ = some (.int .i64 (n : Int)) ∧ V.drew.cell? ⟨qb, 2, none⟩ = some (.string ps) from FL.out)
        have HP : Hid (∀ W, W = V.drew.setRow w.heap.size (splice (Pat.bytesV cur) n (Pat.bytesV (Pat.sb ps))).toArray → (W.cell? ⟨qb, 0, none⟩ = some (.int .i64 pb) ∧ W.cell? ⟨qb, 1, none⟩ = some (.int .i64 (n : Int)) ∧ W.cell? ⟨qb, 2, none⟩ = some (.string ps)) ∧ Pat.BlkIs W w.heap.size 71 (Pat.bytesV (Pat.put cur ⟨pb, n, ps⟩)) ∧ Kept V W (fun b => b = w.heap.size)) := fun W e => by
          subst e
          have hk : Kept V (V.drew.setRow w.heap.size (splice (Pat.bytesV cur) n (Pat.bytesV (Pat.sb ps))).toArray) (fun b => b = w.heap.size) := (Kept.refl V _).drew.trans (Kept.row' _ _ _) (fun b e => .inl e)
          have hqR : qb ≠ w.heap.size := by omega
          refine ⟨⟨?_, ?_, ?_⟩, ?_, hk⟩
          · rw [cell_setRow_other _ _ _ _ hqR]; exact X0.out.1
          · rw [cell_setRow_other _ _ _ _ hqR]; exact X0.out.2.1
          · rw [cell_setRow_other _ _ _ _ hqR]; exact X0.out.2.2
          · have e : Pat.bytesV (Pat.put cur ⟨pb, n, ps⟩) = splice (Pat.bytesV cur) n (Pat.bytesV (Pat.sb ps)) := (Pat.splice_bytes _ _ _).symm
            rw [e]
            exact setRow_heap V.drew w.heap.size _ _ 71 (0, 0) FB.out
        have X1 := Lib.hid (HP.out _ rfl).1
        go_region_held3 (fun W => W.cell? ⟨qb, 0, none⟩ = some (.int .i64 pb) ∧ W.cell? ⟨qb, 1, none⟩ = some (.int .i64 (n : Int)) ∧ W.cell? ⟨qb, 2, none⟩ = some (.string ps))
          (first | exact X0.out | exact X1.out)
          (refine step_copy_text2 rfl (.tmp 42) (.tmp 47) rfl w.heap.size n (32 - n) (32 - n) ps rfl rfl (Pat.bytesV cur) 71 (Pat.BlkIs.drew FB.out) Hl.out Hf.out ?_)
        generalize hV2 : V.drew.setRow w.heap.size (splice (Pat.bytesV cur) n (Pat.bytesV (Pat.sb ps))).toArray = V2
        obtain ⟨_, e2, k2⟩ := HP.out V2 hV2.symm
        have E2 := Lib.hid e2
        have K2 := Lib.hid k2
        clear hV2 e2 k2 X1 HP
        go_wp2
        refine ⟨⟨k + 1, ds, _, _, _, _, _, _, _, _, _, _, _, _, _, _, _, _, _, _, _, _, _, _, _, _, _, _, _, _, _, _, _, _, _, by omega, ?_, ?_, ?_, ?_, rfl⟩, ?_⟩
        · rw [HT.out, HLs.out]; exact E2.out
        · rw [HT.out, HUs.out]; exact FX.out.keep fun d u hd => box_other hd FB.out K2.out
        · obtain ⟨bb, hbb⟩ := FR.out
          exact ⟨bb, RowP.keep hbb K2.out (fun b e z => FRo.out b e z)⟩
        · exact Below.trans FW.out (K2.out.below (fun b e => by omega) FW.out.size)
        · simp [intOf]; omega
      | false =>
        have HUs : Hid (undos kf s.f (s.l.take k ++ [(⟨y, ⟨pb, n, ps⟩⟩ : On)]) = undoP cur ⟨pb, n, ps⟩ :: UU) := by unfold Hid; rw [HUs0.out, if_neg (by decide)]; rfl
        have HU : Hid (∀ W, Pat.BlkIs W w.heap.size 71 (Pat.bytesV cur) → Calls Try.prog 51 #[.slice (some ⟨w.heap.size, 0, none⟩) 32 32, .agg #[.int .i64 pb, .int .i64 (n : Int), .string ps]] W fun e w' => e = .returned (.tuple #[(undoP cur ⟨pb, n, ps⟩).v, .int .i64 0]) ∧ Below W.heap.size W w') := fun W hW =>
          Pat.undo_yes (some ⟨w.heap.size, 0, none⟩) 32 cur ⟨pb, n, ps⟩ W (bts_blk hW hca hcl) hcl (by omega) hpr
        generalize undoP cur ⟨pb, n, ps⟩ = U at *
        obtain ⟨ub, uo, us⟩ := U
        unfold Pat.Pt.v at HU
        simp only at HU
        -- what holds in every world behind the call, with no block of it written
        have HNx : Hid (∀ V, Below wr.heap.size wr V → (V.cell? ⟨qb, 0, none⟩ = some (.int .i64 pb) ∧ V.cell? ⟨qb, 1, none⟩ = some (.int .i64 (n : Int)) ∧ V.cell? ⟨qb, 2, none⟩ = some (.string ps)) ∧ Pat.BlkIs V w.heap.size 71 (Pat.bytesV cur) ∧ Boxes V ds UU ∧ (∃ bb, RowP V bb (some ⟨ab, 0, none⟩) c3 L) ∧ Below w.heap.size w V) := fun V hV => by
          have hw := Below.trans HB.out (Below.mono hV HB.out.size)
          have hl := (HLay.out V hw).cells
          exact ⟨⟨hl.1, hl.2.1, hl.2.2.1⟩, (hV.block _ (Pat.BlkIs.lt Hblk.out)).trans Hblk.out, Hbox.out.below hV, ⟨_, Hrw.out.fresh hV⟩, hw⟩
        clear HUs0 HLay Hbox Hrw
        go_wp2_with (first | (go_at_call 43; (with_reducible refine HS.out.mono ?_); rintro e W5 ⟨rfl, hb5⟩; have B5 := Lib.hid hb5; clear hb5) | fail)
        have X0 := Lib.hid (HNx.out W5.drew B5.out.drew).1
        have X1 := Lib.hid (HNx.out W5 B5.out).1
        have BA := Lib.hid (show Below wr.heap.size wr (W5.alloc (.cells #[.int .i64 0, .int .i64 0, .string ⟨#[]⟩] 38)).drew from (B5.out.alloc B5.out.size _).drew)
        have XA := Lib.hid (HNx.out _ BA.out).1
        have QA : Hid (Pat.Boxed (W5.alloc (.cells #[.int .i64 0, .int .i64 0, .string ⟨#[]⟩] 38)).drew W5.heap.size Pat.zeroP) := Pat.boxed1 W5 Pat.zeroP
        have HU0 := Lib.hid (HU.out W5.drew (HNx.out W5.drew B5.out.drew).2.1)
        have HUA := Lib.hid (HU.out _ (HNx.out _ BA.out).2.1)
        have HSt : Hid (∀ (V : World) (d : Nat), Below wr.heap.size wr V → wr.heap.size ≤ d → Pat.Boxed V d Pat.zeroP → Below wr.heap.size wr (((V.setCell ⟨d, 0, none⟩ (.int .i64 ub)).setCell ⟨d, 1, none⟩ (.int .i64 uo)).setCell ⟨d, 2, none⟩ (.string us)) ∧ Pat.Boxed (((V.setCell ⟨d, 0, none⟩ (.int .i64 ub)).setCell ⟨d, 1, none⟩ (.int .i64 uo)).setCell ⟨d, 2, none⟩ (.string us)) d ⟨ub, uo, us⟩) := fun V d hV hd hq =>
          ⟨((hV.setCell (p := ⟨d, 0, none⟩) hd _).setCell (p := ⟨d, 1, none⟩) hd _).setCell (p := ⟨d, 2, none⟩) hd _, box_set hq ⟨ub, uo, us⟩⟩
        go_wp2_with fail
        go_region_held3 (fun V => V.cell? ⟨qb, 0, none⟩ = some (.int .i64 pb) ∧ V.cell? ⟨qb, 1, none⟩ = some (.int .i64 (n : Int)) ∧ V.cell? ⟨qb, 2, none⟩ = some (.string ps))
          (first | exact X0.out | exact X1.out | exact XA.out | exact X6.out | exact X6a.out | exact X6u.out | exact Y7.out)
          (first
            | (go_at_call 51; (with_reducible refine HU0.out.mono ?_); rintro e w6 ⟨rfl, hb6⟩; have B6 := Lib.hid (Below.trans B5.out (Below.mono ((Below.refl W5.heap.size W5).drew.trans hb6) B5.out.size)); have X6 := Lib.hid (HNx.out w6 B6.out).1; have X6a := Lib.hid (HNx.out (w6.alloc (.cells #[.int .i64 0, .int .i64 0, .string ⟨#[]⟩] 38)) (B6.out.alloc B6.out.size _)).1; have B6u := Lib.hid (show Below wr.heap.size wr (w6.alloc (.cells #[.int .i64 ub, .int .i64 uo, .string us] 38)) from B6.out.alloc B6.out.size _); have X6u := Lib.hid (HNx.out _ B6u.out).1; clear hb6)
            | (go_at_call 51; (with_reducible refine HUA.out.mono ?_); rintro e w6 ⟨rfl, hb6⟩; have B6 := Lib.hid (Below.trans BA.out (Below.mono hb6 BA.out.size)); have X6 := Lib.hid (HNx.out w6 B6.out).1; have Q6 := Lib.hid (QA.out.below hb6 (Pat.BlkIs.lt QA.out)); have St6 := Lib.hid (HSt.out w6 W5.heap.size B6.out B5.out.size Q6.out); have Y7 := Lib.hid (HNx.out _ St6.out.1).1; obtain ⟨q0, q1, q2⟩ := Q6.out.cells; simp only [Pat.zeroP] at q0 q1 q2; have qf := Q6.out.frozen; clear hb6)
            | fail)
        all_goals first
          | (have NX := Lib.hid (HNx.out _ St6.out.1)
             have FBox := Lib.hid St6.out.2
             generalize (((w6.setCell ⟨W5.heap.size, 0, none⟩ (.int .i64 ub)).setCell ⟨W5.heap.size, 1, none⟩ (.int .i64 uo)).setCell ⟨W5.heap.size, 2, none⟩ (.string us)) = V at *
             generalize W5.heap.size = dd at *)
          | (have NX := Lib.hid (HNx.out _ B6u.out)
             have FBox : Hid (Pat.Boxed (w6.alloc (.cells #[.int .i64 ub, .int .i64 uo, .string us] 38)) w6.heap.size ⟨ub, uo, us⟩) := Pat.boxed1 w6 ⟨ub, uo, us⟩
             generalize w6.alloc (.cells #[.int .i64 ub, .int .i64 uo, .string us] 38) = V at *
             generalize w6.heap.size = dd at *)
        all_goals
          have FL := Lib.hid NX.out.1
          have FB := Lib.hid NX.out.2.1
          have FX := Lib.hid NX.out.2.2.1
          have FR := Lib.hid NX.out.2.2.2.1
          have FW := Lib.hid NX.out.2.2.2.2
          go_wp2_with fail
          have hfit : n + ps.size ≤ (Pat.bytesV cur).length := by rw [Pat.length_bytesV]; omega
          have hle : ps.size ≤ 32 - n := by omega
          have Hf := Lib.hid hfit
          have Hl := Lib.hid hle
          have h32n : (32 = n) = False := by simp; omega
          have hn32 : (n : Int) ≤ 32 := by omega
          clear hfit hle
          have X0 := Lib.hid (show V.drew.cell? ⟨qb, 0, none⟩ = some (.int .i64 pb) ∧ V.drew.cell? ⟨qb, 1, none⟩ = some (.int .i64 (n : Int)) ∧ V.drew.cell? ⟨qb, 2, none⟩ = some (.string ps) from FL.out)
          have HP : Hid (∀ W, W = V.drew.setRow w.heap.size (splice (Pat.bytesV cur) n (Pat.bytesV (Pat.sb ps))).toArray → (W.cell? ⟨qb, 0, none⟩ = some (.int .i64 pb) ∧ W.cell? ⟨qb, 1, none⟩ = some (.int .i64 (n : Int)) ∧ W.cell? ⟨qb, 2, none⟩ = some (.string ps)) ∧ Pat.BlkIs W w.heap.size 71 (Pat.bytesV (Pat.put cur ⟨pb, n, ps⟩)) ∧ Kept V W (fun b => b = w.heap.size)) := fun W e => by
            subst e
            have hk : Kept V (V.drew.setRow w.heap.size (splice (Pat.bytesV cur) n (Pat.bytesV (Pat.sb ps))).toArray) (fun b => b = w.heap.size) := (Kept.refl V _).drew.trans (Kept.row' _ _ _) (fun b e => .inl e)
            have hqR : qb ≠ w.heap.size := by omega
            refine ⟨⟨?_, ?_, ?_⟩, ?_, hk⟩
            · rw [cell_setRow_other _ _ _ _ hqR]; exact X0.out.1
            · rw [cell_setRow_other _ _ _ _ hqR]; exact X0.out.2.1
            · rw [cell_setRow_other _ _ _ _ hqR]; exact X0.out.2.2
            · have e : Pat.bytesV (Pat.put cur ⟨pb, n, ps⟩) = splice (Pat.bytesV cur) n (Pat.bytesV (Pat.sb ps)) := (Pat.splice_bytes _ _ _).symm
              rw [e]
              exact setRow_heap V.drew w.heap.size _ _ 71 (0, 0) FB.out
          have X1 := Lib.hid (HP.out _ rfl).1
          go_region_held3 (fun W => W.cell? ⟨qb, 0, none⟩ = some (.int .i64 pb) ∧ W.cell? ⟨qb, 1, none⟩ = some (.int .i64 (n : Int)) ∧ W.cell? ⟨qb, 2, none⟩ = some (.string ps))
            (first | exact X0.out | exact X1.out)
            (refine step_copy_text2 rfl (.tmp 42) (.tmp 47) rfl w.heap.size n (32 - n) (32 - n) ps rfl rfl (Pat.bytesV cur) 71 (Pat.BlkIs.drew FB.out) Hl.out Hf.out ?_)
          generalize hV2 : V.drew.setRow w.heap.size (splice (Pat.bytesV cur) n (Pat.bytesV (Pat.sb ps))).toArray = V2
          obtain ⟨_, e2, k2⟩ := HP.out V2 hV2.symm
          have E2 := Lib.hid e2
          have K2 := Lib.hid k2
          clear hV2 e2 k2 X1 HP
          go_wp2
          refine ⟨⟨k + 1, dd :: ds, _, _, _, _, _, _, _, _, _, _, _, _, _, _, _, _, _, _, _, _, _, _, _, _, _, _, _, _, _, _, _, _, _, by omega, ?_, ?_, ?_, ?_, rfl⟩, ?_⟩
          · rw [HT.out, HLs.out]; exact E2.out
          · rw [HT.out, HUs.out]; exact ⟨box_other FBox.out FB.out K2.out, FX.out.keep fun d u hd => box_other hd FB.out K2.out⟩
          · obtain ⟨bb, hbb⟩ := FR.out
            exact ⟨bb, RowP.keep hbb K2.out (fun b e z => FRo.out b e z)⟩
          · exact Below.trans FW.out (K2.out.below (fun b e => by omega) FW.out.size)
          · simp [intOf]; omega
    · obtain rfl : k = L.length := by omega
      have hki : ¬ (L.length : Int) < (L.length : Int) := by omega
      have hTl : s.l.take L.length = s.l := by rw [HC.out.llen, List.take_length]
      rw [hTl] at hblk hbox
      have hfl := withL_len (k := fun _ => true) hr HC.out.len
      have HEq := Lib.hid (roll_undos kf s.l s.f)
      have HUr := Lib.hid (undos_right (k := kf) hr HC.out.len)
      have Hbl := Lib.hid hblk
      have Hbx := Lib.hid hbox
      have HB := Lib.hid hB
      have Hfl : Hid ((layAll s.f s.l).length = 32) := hfl
      have hszc : Hid ((Try.prog.info? 71).map (·.size) = some (Pat.bytesV (layAll s.f s.l)).length) := by unfold Hid; rw [Pat.length_bytesV, Hfl.out]; exact size71
      have hszd : Hid ((Try.prog.info? 71).map (·.size) = some (Pat.bytesV (layAll s.f s.l)).toArray.size) := by unfold Hid; rw [List.size_toArray, Pat.length_bytesV, Hfl.out]; exact size71
      have honc : Hid ((Pat.bytesV (layAll s.f s.l)).toArray.all (·.oneCell') = true) := all_oneCell_toArray (Pat.bytesV_one _)
      have hrgc : Hid (wr.rangeAt w.heap.size 0 (Pat.bytesV (layAll s.f s.l))) := fun j v hv => by rw [Nat.zero_add, Pat.BlkIs.cell Hbl.out j]; exact hv
      have hself : Hid (wr.setRow w.heap.size (Pat.bytesV (layAll s.f s.l)).toArray = wr) := setRow_self wr w.heap.size _ 71 (0, 0) Hbl.out
      clear hblk hbox hrow hB hfl hTl
      generalize layAll s.f s.l = cur at *
      generalize undos kf s.f s.l = UU at *
      obtain ⟨CL, hCL⟩ : ∃ CL, CL = Pat.bytesV cur := ⟨_, rfl⟩
      have HCL := Lib.hid hCL
      rw [← hCL] at hszc hszd honc hrgc hself
      clear hCL
      go_wp2_with (first
        | (refine wpList_load_mid rfl 71 (.tmp 4) rfl w.heap.size 0 rfl CL _ hrgc.out Try.underlying71 rfl hszc.out ?_)
        | (refine wpList_store_row rfl 71 (.tmp 4) (.tmp 50) rfl w.heap.size CL.toArray rfl rfl 71 CL.toArray (by rw [HCL.out]; exact Hbl.out) hszd.out rfl honc.out ?_; rw [hself.out]))
      refine leaves_undos (R := w.heap.size) (w0 := w) _ ?hend (Nat.le_refl _) (rollL kf s.f s.l) (fun W hW => ⟨rfl, hW⟩) ds UU cur wr Hbx.out HUr.out Hfl.out HEq.out.symm Hbl.out HB.out
      intro cur2 W hc2 hb2 hB2
      refine ⟨_, results_cell_row rfl _ _ w.heap.size 71 (Pat.bytesV cur2).toArray (0, 0) _ rfl hb2 Try.underlying71 rfl ?_, rfl⟩
      rw [List.size_toArray, Pat.length_bytesV, hc2]; exact size71
end Go.Proofs.Ytibkipdadpidnaa
