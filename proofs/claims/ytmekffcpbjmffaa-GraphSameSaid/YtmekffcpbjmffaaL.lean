/- Contract of Thin. -/
import Derived.Test.YtmekffcpbjmffaaK
import Derived.Laws.MakeOwn
namespace Go.Proofs.Ytmekffcpbjmffaa
open Go.RowKit Go.Shelf

attribute [local go_sem] Oper.semAt_some
theorem info23 : (Try.prog.info? 23).map (fun i => (i.zero, i.size, i.bytes)) = some (some (.slice none 0 0), 1, 24) := by kernel_rfl
theorem made_rows (n : Nat) : (madeCells #[Value.slice none 0 0] n).toList = List.replicate n (Value.slice none 0 0) := by
  apply List.ext_getElem
  · simp [size_madeCells]
  · intro i h1 h2; simp [madeCells, Nat.mod_one]
theorem make_rows (n : Nat) (hn : n ≤ 256) : ∃ M : Array Value, M.toList = List.replicate n (Value.slice none 0 0) ∧ ∀ W : World, (Instr.makeSlice 22 (.int .i64 (n : Int)) (.int .i64 (n : Int))).run Try.prog W = .ok (.slice (some ⟨W.heap.size, 0, none⟩) n n) (W.alloc (.cells M 23)) := by
  obtain ⟨i0, hi0, hz0, hz1, hz2⟩ := info_parts info23
  refine ⟨madeCells #[Value.slice none 0 0] n, made_rows n, fun W => ?_⟩
  have := run_makeSlice (P := Try.prog) W 22 23 i0 (.slice none 0 0) Try.underlying22 hi0 hz0 .i64 .i64 n n (by omega) (Int.le_refl _) (by rw [hz1]; omega) (by rw [hz2]; omega) (by omega)
  rw [hz1] at this
  simpa [Value.cells] using this

/-- a slice of ints that lies beyond block lo -/
def IntsOver (w : World) (lo : Nat) (A : Option Addr) (l : List Int) : Prop :=
  0 < l.length → ∃ b off, A = some ⟨b, off, none⟩ ∧ lo < b ∧ b < w.heap.size ∧ ∀ j, j < l.length → w.cell? ⟨b, off + j, none⟩ = some (.int .i64 (nth l j))
theorem IntsOver.grown {w w' : World} {lo g : Nat} {A : Option Addr} {l : List Int} (h : IntsOver w lo A l) (hg : w.grownBy w' (some g)) (hl : g ≤ lo) : IntsOver w' lo A l := fun hn => by
  obtain ⟨b, off, e, h1, h2, hc⟩ := h hn
  refine ⟨b, off, e, h1, Nat.lt_of_lt_of_le h2 hg.size, fun j hj => ?_⟩
  rw [← hc j hj]
  exact World.cell?_of_block (hg.block b h2 (fun e => by injection e with e; omega))
theorem IntsOver.ints {w : World} {lo : Nat} {A : Option Addr} {l : List Int} (h : IntsOver w lo A l) : Ints w w.heap.size A l := fun hn => by
  obtain ⟨b, off, e, _, h2, hc⟩ := h hn
  exact ⟨b, off, e, h2, hc⟩
theorem own_over {w : World} {B lo : Nat} {v : Value} {n : Nat} {l : List Int} (h : w.ownsRow B 3 1 v n (intsV l)) (hlo : lo < B) : ∃ A c, v = .slice A l.length c ∧ IntsOver w lo A l := by
  have hn : l.length = n := by have := h.1; simpa [intsV] using this
  subst hn
  rcases h.2 with ⟨rfl, hn⟩ | ⟨g, cap, cur, rfl, hbg, hg, hnc, hcm, _⟩
  · have hl : l = [] := List.eq_nil_of_length_eq_zero hn
    subst hl
    exact ⟨none, 0, rfl, fun h => by simp at h⟩
  · refine ⟨some ⟨g, 0, none⟩, cap, rfl, fun _ => ⟨g, 0, rfl, by omega, (h.lt g rfl).2, fun j hj => ?_⟩⟩
    rw [Nat.zero_add, h.cellAt j (by omega), intsV, List.getElem?_map, List.getElem?_eq_getElem hj, nth_lt hj]; rfl

theorem IntsOver.below {w w' : World} {lo : Nat} {A : Option Addr} {l : List Int} (h : IntsOver w lo A l) (hb : Below w.heap.size w w') : IntsOver w' lo A l := fun hn => by
  obtain ⟨b, off, e, h1, h2, hc⟩ := h hn
  exact ⟨b, off, e, h1, Nat.lt_of_lt_of_le h2 hb.size, fun j hj => (Below.cell hb (p := ⟨b, off + j, none⟩) h2).trans (hc j hj)⟩
theorem map_range_set {α : Type} (n k : Nat) (S : Nat → α) (v : α) : ((List.range n).map S).set k v = (List.range n).map (fun j => if j = k then v else S j) := by
  apply List.ext_getElem
  · simp
  · intro i h1 h2
    rw [List.getElem_set]
    by_cases e : k = i
    · subst e; simp
    · rw [if_neg e]
      simp [Ne.symm e]
/-- what stands at the head of each round of Thin -/
structure ThSt (w wr : World) (A : Option Addr) (c : Nat) (D : List (List Nat)) (k : Nat) (S : Nat → Value) (L : List Nat) : Prop where
  box : Boxed wr w.heap.size 22 (.slice A D.length c)
  out : BlkIs wr (w.heap.size + 1) 23 ((List.range D.length).map S)
  rows : ∀ j, j < k → ∃ Aj cj, S j = .slice Aj (natsI (thinRow D j)).length cj ∧ IntsOver wr (w.heap.size + 1) Aj (natsI (thinRow D j))
  below : Below w.heap.size w wr
  nodup : L.Nodup
  marks : ∀ d ∈ L, w.heap.size + 2 ≤ d ∧ wr.heap[d]? = some (.deferred (some []))

theorem rowN_thinL {D : List (List Nat)} {j : Nat} (hj : j < D.length) : rowN (thinL D) j = thinRow D j := by
  rw [rowN_lt (by rw [length_thinL]; exact hj)]
  simp [thinL]
/-- a store of a whole array into a block that was just made, within a fence -/
theorem wpIn_store_new {F : Fence} {n : Nat} {P : Program} {op : Oper} {a : Act} {w : World} {K : Act → World → Prop} {Q : Exit → Act → World → Prop} (ty : TypeId) (x y : Operand) (ho : op.op = .store ty x y)
    (g : Nat) (hgs : g = w.heap.size) (cs cur : Array Value) (hx : a.eval x = .pointer (some ⟨g, 0, none⟩)) (hy : a.eval y = .agg cs)
    (hi : (P.info? ty).map (·.size) = some cs.size) (hsz : cur.size = cs.size) (h1 : ∀ v ∈ cs.toList, v.oneCell' = true)
    (h : K (a.put op.dst undef) (w.alloc (.cells cs ty))) : op.wpIn F n P a (w.alloc (.cells cur ty)) K Q := by
  subst hgs
  have hrun := run_storeVar_new (P := P) w ty cur cs hi hsz (Array.all_eq_true_iff_forall_mem.2 (fun v hv => h1 v (by simpa using hv)))
  unfold Oper.wpIn
  refine ⟨fun f hf => by simp [Oper.about, ho] at hf, ?_⟩
  rw [Oper.semAt_plain F _ _ (by rw [ho]; intro c hc'; cases hc')]
  unfold execOp
  simp only [ho, hx, hy, Instr.storeAt, Instr.sureAddr, Sem.run_bind, Sem.run_pure, Result.andThen_ok, hrun]
  exact h
theorem wpListIn_store_new {F : Fence} {n : Nat} {P : Program} {ops : Array Oper} {rest : List Oper} {op : Oper} {a : Act} {w : World} {Q : Exit → Act → World → Prop} (hgd : op.guard = none) (ty : TypeId) (x y : Operand) (ho : op.op = .store ty x y)
    (g : Nat) (hgs : g = w.heap.size) (cs cur : Array Value) (hx : a.eval x = .pointer (some ⟨g, 0, none⟩)) (hy : a.eval y = .agg cs)
    (hi : (P.info? ty).map (·.size) = some cs.size) (hsz : cur.size = cs.size) (h1 : ∀ v ∈ cs.toList, v.oneCell' = true)
    (h : wpListIn F n P ops Q rest (a.put op.dst undef) (w.alloc (.cells cs ty))) : wpListIn F n P ops Q (op :: rest) a (w.alloc (.cells cur ty)) :=
  wpListIn_plain hgd fun _ hK => wpIn_store_new ty x y ho g hgs cs cur hx hy hi hsz h1 (hK _ _ h)
def ThinSays (w : World) (D : List (List Nat)) (e : Ending) (W' : World) : Prop :=
  (∃ A' c', e = .returned (.slice A' D.length c') ∧ Mat W' W'.heap.size A' (rowsI (thinL D))) ∧ Below w.heap.size w W'

set_option maxRecDepth 100000 in
set_option maxHeartbeats 1000000 in
theorem thin_in (n : Nat) (hn : 4 ≤ n) (A : Option Addr) (c kD : Nat) (D : List (List Nat)) (hkD : kD = D.length) (hD : OkD D) (w : World) (hM : Mat w w.heap.size A (rowsI D)) :
    CallsIn Fence.wide n Try.prog 31 #[.slice A kD c] w (ThinSays w D) := by
  subst hkD
  have h1 : 1 ≤ n := by omega
  have hw0 : Below w.heap.size w (w.alloc (.cells #[.slice A D.length c] 22)) := (Below.refl _ _).alloc (Nat.le_refl _) _
  have HR := Lib.hid (right_yes A c D.length D rfl hD (w.alloc (.cells #[.slice A D.length c] 22)) ((hM.below hw0).more (by simp)))
  obtain ⟨M, hMl, hmk⟩ := make_rows D.length hD.right.1
  have HMl := Lib.hid hMl
  have HDo := Lib.hid hD
  have HM := Lib.hid hM
  clear hw0 hMl hD hM
  refine callsIn_of_wp_marks Try.func31 rfl trivial ?_ rfl
  simp only [Try.ntmps31, List.size_toArray, List.length_cons, List.length_nil, Nat.reduceAdd, Nat.reduceSub, Array.replicate_succ, Array.replicate_zero, List.push_toArray, List.append_toArray, List.nil_append, List.cons_append]
  gi_wp2_with (refine ⟨trivial, ?_⟩; gi_at_call 16; refine (callsIn_wide.2 HR.out).mono ?_; rintro e w' ⟨rfl, rfl⟩)
  refine wpIn_loop (fun a W => ∃ (k : Nat) (S : Nat → Value) (L : List Nat) (u4 u5 u6 u7 u8 u9 u19 u20 u21 u22 u23 u24 u25 u26 u27 u28 u29 u30 u31 u32 u33 u34 u35 u36 u37 u38 u39 u40 u41 u42 u43 : Value), k ≤ D.length ∧ ThSt w W A c D k S L ∧ a = { tmps := ((.slice A D.length c) :: (.pointer (some ⟨w.heap.size, 0, none⟩)) :: (.slice none 0 0) :: (.slice (some ⟨w.heap.size + 1, 0, none⟩) D.length D.length) :: (u4) :: (u5) :: (u6) :: (u7) :: (u8) :: (u9) :: (.slice A D.length c) :: (.bool true) :: (.bool false) :: (.slice A D.length c) :: (.int .i64 (D.length : Int)) :: (.slice (some ⟨w.heap.size + 1, 0, none⟩) D.length D.length) :: (.slice A D.length c) :: (.int .i64 (D.length : Int)) :: (.int .i64 (k : Int)) :: (u19) :: (u20) :: (u21) :: (u22) :: (u23) :: (u24) :: (u25) :: (u26) :: (u27) :: (u28) :: (u29) :: (u30) :: (u31) :: (u32) :: (u33) :: (u34) :: (u35) :: (u36) :: (u37) :: (u38) :: (u39) :: (u40) :: (u41) :: (u42) :: (u43) :: (undef) :: []).toArray, defers := L.map markD }) (fun a _ => D.length - (intOf (a.tmps.getD 18 undef)).toNat) ?start ?round
  case start =>
    have b0 := (Boxed.new w 22 (.slice A D.length c)).alloc (.cells M 23)
    have b1 := BlkIs.new (w.alloc (.cells #[.slice A D.length c] 22)) 23 M
    simp only [World.size_alloc] at b1
    have hS : M.toList = (List.range D.length).map (fun _ => Value.slice none 0 0) := by
      rw [HMl.out]
      apply List.ext_getElem
      · simp
      · intro i h1 h2; simp
    rw [hS] at b1
    exact ⟨0, _, [], _, _, _, _, _, _, _, _, _, _, _, _, _, _, _, _, _, _, _, _, _, _, _, _, _, _, _, _, _, _, _, Nat.zero_le _, ⟨b0, b1, fun j hj => by omega, ((Below.refl _ _).alloc (Nat.le_refl _) _).alloc (by simp) _, List.nodup_nil, fun d hd => by cases hd⟩, rfl⟩
  case round =>
    rintro a wr ⟨k, S, L, u4, u5, u6, u7, u8, u9, u19, u20, u21, u22, u23, u24, u25, u26, u27, u28, u29, u30, u31, u32, u33, u34, u35, u36, u37, u38, u39, u40, u41, u42, u43, hk, hst, rfl⟩
    clear hmk
    by_cases hlt : k < D.length
    · have hlti : (k : Int) < (D.length : Int) := by omega
      obtain ⟨hbox, hout, hrows, hB, hnd, hmks⟩ := hst
      have hk0 : (0 : Int) ≤ (k : Int) := by omega
      have hk256 : D.length ≤ 256 := HDo.out.right.1
      obtain ⟨b, off, Ak, ck, rfl, hb, hcw, hIw⟩ := HM.out.at_ (k := k) (by rw [length_rowsI]; exact hlt)
      have hc := (Below.cell hB (p := ⟨b, off + k, none⟩) hb).trans hcw
      have hIr := (hIw.below hB).more hB.size
      have hrl := HDo.out.len k
      rw [rowI_rowsI] at hIr hc
      have HMk := Lib.hid (mark_any (some ⟨b, off, none⟩) D.length c Ak ck (natsI (rowN D k)).length (natsI (rowN D k)) wr rfl hk256 (by rw [length_natsI]; omega) hIr)
      obtain ⟨hz, hs⟩ := zero_of_info (P := Try.prog) info51
      obtain ⟨Z, hZ⟩ : ∃ Z, Z = zero51 := ⟨_, rfl⟩
      rw [← hZ] at hz
      have HZ := Lib.hid hZ
      have HS := Lib.hid hs
      obtain ⟨m, hm⟩ : ∃ m, m = ownM D k := ⟨_, rfl⟩
      have Hm := Lib.hid hm
      have hm' : markI D.length (natsI (rowN D k)) = m := hm.symm
      rw [hm'] at HMk
      have hml : ∀ x, m x = true → x < D.length := fun x h => by rw [hm] at h; exact ownM_lt h
      have Hml := Lib.hid hml
      obtain ⟨Tm, hT⟩ : ∃ Tm, Tm = (marksV m).toArray := ⟨_, rfl⟩
      have hTs : Tm.size = 256 := by rw [hT]; simp [length_marksV]
      have H1 : Hid (∀ v ∈ Tm.toList, v.oneCell' = true) := by unfold Hid; rw [hT]; exact marksV_one _
      have Hs51 : Hid ((Try.prog.info? 51).map (·.size) = some Tm.size) := by unfold Hid; rw [HS.out, hTs]
      have HZl : Hid (Z.size = Tm.size) := by unfold Hid; rw [hTs, HZ.out]; rfl
      have HT := Lib.hid hT
      rw [← hT] at HMk
      have Hout := Lib.hid hout
      have Hrows := Lib.hid hrows
      have HB := Lib.hid hB
      have Hnd := Lib.hid hnd
      have Hmks := Lib.hid hmks
      have Hbox := Lib.hid hbox
      have hcb := hbox.cell
      clear hZ hs hm hm' hml hT hTs hout hrows hB hnd hmks hbox hIw hIr hcw HR
      gi_wp2_with (first
        | (refine ⟨trivial, ?_⟩; gi_at_call 39; refine (callsIn_wide.2 HMk.out).mono ?_; rintro e w1 ⟨rfl, hB1⟩)
        | (refine wpListIn_store_new rfl 51 (.tmp 6) (.tmp 25) rfl w1.heap.size rfl Tm Z rfl rfl Hs51.out HZl.out H1.out ?_)
        | (refine ⟨trivial, ?_⟩; gi_at_call 40; refine (riseMake_in (n - 1) _ _ w1.heap.size rfl).mono ?_; rintro e w' ⟨rfl, rfl⟩))
      have hBw : Below wr.heap.size wr (((w1.alloc (.cells Tm 51)).alloc (.cells Z 51)).alloc (.cells #[.pointer (some ⟨w1.heap.size, 0, none⟩)] 70)) := ((hB1.alloc hB1.size _).alloc (by have := hB1.size; simp; omega) _).alloc (by have := hB1.size; simp; omega) _
      have hMo : Marks (((w1.alloc (.cells Tm 51)).alloc (.cells Z 51)).alloc (.cells #[.pointer (some ⟨w1.heap.size, 0, none⟩)] 70)) w1.heap.size m := by
        have := ((BlkIs.new w1 51 Tm).alloc (.cells Z 51)).alloc (.cells #[.pointer (some ⟨w1.heap.size, 0, none⟩)] 70)
        rw [HT.out] at this ⊢
        exact this
      have hMs : Marks (((w1.alloc (.cells Tm 51)).alloc (.cells Z 51)).alloc (.cells #[.pointer (some ⟨w1.heap.size, 0, none⟩)] 70)) (w1.heap.size + 1) (fun _ => false) := by
        have := (BlkIs.new (w1.alloc (.cells Tm 51)) 51 Z).alloc (.cells #[.pointer (some ⟨w1.heap.size, 0, none⟩)] 70)
        simp only [World.size_alloc] at this
        unfold Marks
        rw [marksV_zero, ← HZ.out]
        exact this
      have hbx : Boxed (((w1.alloc (.cells Tm 51)).alloc (.cells Z 51)).alloc (.cells #[.pointer (some ⟨w1.heap.size, 0, none⟩)] 70)) (w1.heap.size + 2) 70 (.pointer (some ⟨w1.heap.size, 0, none⟩)) := by
        have := Boxed.new ((w1.alloc (.cells Tm 51)).alloc (.cells Z 51)) 70 (.pointer (some ⟨w1.heap.size, 0, none⟩))
        simpa only [World.size_alloc] using this
      have hs0 : (((w1.alloc (.cells Tm 51)).alloc (.cells Z 51)).alloc (.cells #[.pointer (some ⟨w1.heap.size, 0, none⟩)] 70)).heap.size = w1.heap.size + 3 := by simp
      have hs1 := hB1.size
      generalize (((w1.alloc (.cells Tm 51)).alloc (.cells Z 51)).alloc (.cells #[.pointer (some ⟨w1.heap.size, 0, none⟩)] 70)) = W0 at hBw hMo hMs hbx hs0 ⊢
      have HBw := Lib.hid hBw
      have HMo := Lib.hid hMo
      have HMs := Lib.hid hMs
      clear hB1 hBw hMo hMs
      obtain ⟨gs, hgs⟩ : ∃ gs, gs = w1.heap.size + 1 := ⟨_, rfl⟩
      obtain ⟨I, hIe⟩ : ∃ I : List (On m) → World → Prop, I = fun pre W => Marks W (w1.heap.size + 1) (foldR D (fun _ => false) (plainO pre)) ∧ W0.grownBy W (some (w1.heap.size + 1)) := ⟨_, rfl⟩
      have HIe := Lib.hid hIe
      refine wpIn_rangeFunc_ownG rfl h1 (gf := 49) (lb := #[.pointer (some ⟨w1.heap.size + 2, 0, none⟩)]) rfl trivial (enters_of Try.func49 (by kernel_rfl) rfl)
        (rise_stops (n - 1) (by omega) (w1.heap.size + 2) w1.heap.size wr.heap.size m W0 (by omega) (by omega) hbx.cell HMo.out) KeepsTwo.trans (keepsTwo_b (by omega) (by omega) (by omega)) (Below.refl _ _) (fun _ => rfl)
        I (fun _ _ _ => False)
        ?own (fun _ _ _ _ _ hs _ _ => hs)
        (by rw [hIe]; exact ⟨HMs.out, ⟨rfl, rfl, rfl, Nat.le_refl _, fun _ _ _ => rfl⟩⟩)
        ?a1 ?assign ?body ?done ?stop
      case own =>
        rw [hIe]
        exact OwnFrom.and (Own.from (marks_own (w1.heap.size + 1) (fun pre => foldR D (fun _ => false) (plainO pre))) _) (grown_own W0 (w1.heap.size + 1) (Nat.le_refl _))
      case assign =>
        intro l x W K hK
        gi_wp2
        exact hK
      case stop =>
        rintro D c pre W _ _ h _
        exact h.elim
      case body =>
        rintro l pre x W hi hlt'
        rw [hIe] at hi
        obtain ⟨hMk, hG⟩ := hi
        have hxD := Hml.out x.1 x.2.2
        have hbl := Hbox.out.lt
        have mv : ∀ j, j < wr.heap.size → W.heap[j]? = wr.heap[j]? := fun j hj => (hG.block j (by omega) (fun e => by injection e with e; omega)).trans (HBw.out.block j hj)
        have hbW : Boxed W w.heap.size 22 (.slice (some ⟨b, off, none⟩) D.length c) := (mv _ hbl).trans Hbox.out
        have hMW : Mat W w.heap.size (some ⟨b, off, none⟩) (rowsI D) := (HM.out.below HB.out).keep fun p hp => World.cell?_of_block (mv p.block (by omega))
        obtain ⟨bx, ox, Ax, cx, ex, hbx', hcx, hIx⟩ := hMW.at_ (k := x.1) (by rw [length_rowsI]; exact hxD)
        obtain ⟨rfl, rfl⟩ : b = bx ∧ off = ox := by injection ex with ex; injection ex with e1 e2; exact ⟨e1, e2⟩
        have Hadd := Lib.hid (add_at (w1.heap.size + 1) Ax cx _ D HDo.out.right HDo.out.lenBig x.1 W w.heap.size hMk hIx (by omega))
        have hxi : (x.1 : Int) < (D.length : Int) := by omega
        have hx0 : (0 : Int) ≤ (x.1 : Int) := by omega
        have c1 := hbW.cell
        have HG := Lib.hid hG
        clear hMk hG hIx hMW ex hbW mv hIe hcb
        gi_wp2_with (refine ⟨trivial, wide_depth, ?_⟩; gi_at_call 44; refine (CallsIn.inRound l (callsIn_wide.2 Hadd.out)).mono ?_; rintro e W3 ⟨⟨v, rfl⟩, hM3, hG3, hs3⟩)
        have hQ : ∀ a3, ownPostG W0.heap.size (KeepsTwo wr.heap.size (w1.heap.size + 2) w1.heap.size) I (fun _ _ _ => False) (pre ++ [x]) W Exit.normal a3 W3 := fun _ => by
          refine ⟨grown_keeps hG3 (by omega), ⟨(Below.refl _ W).grown hG3 (by have := HG.out.size; omega) (fun j e => by injection e with e; omega), hG3.block _ (by have := HG.out.size; omega) (fun e => by injection e with e; omega), hG3.block _ (by have := HG.out.size; omega) (fun e => by injection e with e; omega)⟩, ?_⟩
          rw [HIe.out]
          exact ⟨by rw [plainO_snoc, foldR_snoc]; exact hM3, HG.out.trans hG3⟩
        exact hQ { tmps := #[], defers := [] }
      case done =>
        rintro D1 ys W1 hD1 hys hi hK1
        rw [hIe, hys] at hi
        obtain ⟨hMk1, hG1⟩ := hi
        have hMk1' : Marks W1 (w1.heap.size + 1) (sayM D k) := by unfold sayM; rw [← Hm.out]; exact hMk1
        have hbl := Hbox.out.lt
        have mv : ∀ j, j < wr.heap.size → W1.heap[j]? = wr.heap[j]? := fun j hj => (hG1.block j (by omega) (fun e => by injection e with e; omega)).trans (HBw.out.block j hj)
        have hbW : Boxed W1 w.heap.size 22 (.slice (some ⟨b, off, none⟩) D.length c) := (mv _ hbl).trans Hbox.out
        have hMW : Mat W1 w.heap.size (some ⟨b, off, none⟩) (rowsI D) := (HM.out.below HB.out).keep fun p hp => World.cell?_of_block (mv p.block (by omega))
        have hB0 := HB.out.size
        have Hah := Lib.hid (ahead_in (n - 1) (by omega) (w1.heap.size + 1) (some ⟨b, off, none⟩) c D.length D rfl HDo.out.right HDo.out.lenBig (sayM D k) (fun x h => sayM_lt HDo.out.right h) W1 w.heap.size (by omega) hMk1' hMW)
        have c1 := hbW.cell
        have HG1 := Lib.hid hG1
        have HK1 := Lib.hid hK1
        clear hMk1 hMk1' hG1 hK1 hys hMW hbW mv hIe HIe hcb
        gi_wp2_with (first
          | (refine ⟨trivial, ?_⟩; gi_at_call 41; ((with_reducible refine Hah.out.mono ?_); rintro e w2 ⟨⟨v2, rfl⟩, hM2, hG2⟩))
          | (refine ⟨trivial, ?_⟩; gi_at_call 40; refine (riseMake_in (n - 1) _ _ (w1.heap.size + 1) rfl).mono ?_; rintro e w' ⟨rfl, rfl⟩))
        have hM2' : Marks (w2.alloc (.cells #[.pointer (some ⟨w1.heap.size + 1, 0, none⟩)] 70)) (w1.heap.size + 1) (saidM D k) := BlkIs.alloc hM2 _
        have hb2 := Boxed.new w2 70 (.pointer (some ⟨w1.heap.size + 1, 0, none⟩))
        have hG1' := HG1.out
        have hsz2 : W0.heap.size ≤ w2.heap.size := Nat.le_trans hG1'.size hG2.size
        have hgo2 : Marks w2 w1.heap.size m := by
          have h0 := HMo.out
          unfold Marks BlkIs at h0 ⊢
          rw [hG2.block _ (by have := hG1'.size; omega) (fun e => by injection e with e; omega), hG1'.block _ (by omega) (fun e => by injection e with e; omega)]
          exact h0
        have hmv2 : ∀ j, j < wr.heap.size → (w2.alloc (.cells #[.pointer (some ⟨w1.heap.size + 1, 0, none⟩)] 70)).heap[j]? = wr.heap[j]? := fun j hj =>
          ((heap_alloc_old w2 _ j (by omega)).trans (hG2.block j (by have := hG1'.size; omega) (fun e => by injection e with e; omega))).trans ((hG1'.block j (by omega) (fun e => by injection e with e; omega)).trans (HBw.out.block j hj))
        have hK12 : (w2.alloc (.cells #[.pointer (some ⟨w1.heap.size + 1, 0, none⟩)] 70)).heap[D1]? = some (.deferred (some [])) := by
          have hl := (Array.getElem?_eq_some_iff.1 HK1.out).1
          rw [heap_alloc_old w2 _ D1 (Nat.lt_of_lt_of_le hl hG2.size), hG2.block D1 hl (fun e => by injection e with e; omega)]
          exact HK1.out
        have hBw2 : Below wr.heap.size wr (w2.alloc (.cells #[.pointer (some ⟨w1.heap.size + 1, 0, none⟩)] 70)) := by
          refine Below.alloc ((HBw.out.grown hG1' (by omega) (fun j e => by injection e with e; omega)).grown hG2 (by have := hG1'.size; omega) (fun j e => by injection e with e; omega)) (by omega) _
        have hgo2' : Marks (w2.alloc (.cells #[.pointer (some ⟨w1.heap.size + 1, 0, none⟩)] 70)) w1.heap.size m := BlkIs.alloc hgo2 _
        have hs2 : (w2.alloc (.cells #[.pointer (some ⟨w1.heap.size + 1, 0, none⟩)] 70)).heap.size = w2.heap.size + 1 := by simp
        have hD1l := (Array.getElem?_eq_some_iff.1 hK12).1
        generalize (w2.alloc (.cells #[.pointer (some ⟨w1.heap.size + 1, 0, none⟩)] 70)) = W2 at hM2' hb2 hmv2 hK12 hBw2 hgo2' hs2 hD1l ⊢
        obtain ⟨ms, hms⟩ : ∃ ms, ms = saidM D k := ⟨_, rfl⟩
        rw [← hms] at hM2'
        have Hms := Lib.hid hms
        have Hmv2 := Lib.hid hmv2
        have HK12 := Lib.hid hK12
        have HBw2 := Lib.hid hBw2
        have Hgo2 := Lib.hid hgo2'
        clear hM2 hG2 hgo2 hmv2 hK12 hBw2 hgo2' hms hG1'
        obtain ⟨I2, hI2⟩ : ∃ I2 : List (On ms) → World → Prop, I2 = fun pre W => Marks W w1.heap.size (clr m (plainO pre)) ∧ W2.grownBy W (some w1.heap.size) := ⟨_, rfl⟩
        have HI2 := Lib.hid hI2
        refine wpIn_rangeFunc_ownG rfl h1 (gf := 49) (lb := #[.pointer (some ⟨w2.heap.size, 0, none⟩)]) rfl trivial (enters_of Try.func49 (by kernel_rfl) rfl)
          (rise_stops (n - 1) (by omega) w2.heap.size (w1.heap.size + 1) wr.heap.size ms W2 (by omega) (by omega) hb2.cell hM2') KeepsTwo.trans (keepsTwo_b (by omega) (by omega) (by omega)) (Below.refl _ _) (fun _ => rfl)
          I2 (fun _ _ _ => False)
          ?own2 (fun _ _ _ _ _ hs _ _ => hs)
          (by rw [hI2]; exact ⟨by show Marks _ _ (clr m []); rw [clr_nil]; exact Hgo2.out, ⟨rfl, rfl, rfl, Nat.le_refl _, fun _ _ _ => rfl⟩⟩)
          ?a2 ?assign2 ?body2 ?done2 ?stop2
        case own2 =>
          rw [hI2]
          exact OwnFrom.and (Own.from (marks_own w1.heap.size (fun pre => clr m (plainO pre))) _) (grown_own W2 w1.heap.size (Nat.le_refl _))
        case assign2 =>
          intro l x W K hK
          gi_wp2
          exact hK
        case stop2 =>
          rintro D c pre W _ _ h _
          exact h.elim
        case body2 =>
          rintro l pre x W hi hlt'
          rw [hI2] at hi
          obtain ⟨hMk, hG⟩ := hi
          have hx256 := x.2.1
          have hxi : (x.1 : Int) < 256 := by omega
          have hx0 : (0 : Int) ≤ (x.1 : Int) := by omega
          have hcell := hMk.cell hx256
          have hfr := BlkIs.frozen hMk x.1
          have HMk3 := Lib.hid hMk
          have HG := Lib.hid hG
          clear hMk hG hI2
          gi_wp2_with fail
          have hG3 : W.grownBy (W.setCell ⟨w1.heap.size, x.1, none⟩ (.bool false)) (some w1.heap.size) := grownBy_set W _ _ _
          have hQ : ∀ a3, ownPostG W2.heap.size (KeepsTwo wr.heap.size w2.heap.size (w1.heap.size + 1)) I2 (fun _ _ _ => False) (pre ++ [x]) W Exit.normal a3 (W.setCell ⟨w1.heap.size, x.1, none⟩ (.bool false)) := fun _ => by
            refine ⟨grown_keeps hG3 (by omega), ⟨(Below.refl _ W).grown hG3 (by have := HG.out.size; omega) (fun j e => by injection e with e; omega), hG3.block _ (by have := HG.out.size; omega) (fun e => by injection e with e; omega), hG3.block _ (by have := HG.out.size; omega) (fun e => by injection e with e; omega)⟩, ?_⟩
            rw [HI2.out]
            exact ⟨by rw [plainO_snoc, clr_snoc]; exact HMk3.out.clear_ x.1, HG.out.trans hG3⟩
          exact hQ { tmps := #[], defers := [] }
        case done2 =>
          rintro D2 ys2 W3 hD2 hys2 hi2 hK2
          rw [hI2, hys2] at hi2
          obtain ⟨hMk3, hG3⟩ := hi2
          have hL := Lib.hid (list_in (n - 1) (by omega) w1.heap.size _ W3 hMk3)
          rw [Hms.out, Hm.out] at hL
          have hmv3 : ∀ j, j < wr.heap.size → W3.heap[j]? = wr.heap[j]? := fun j hj => (hG3.block j (by have := HBw2.out.size; omega) (fun e => by injection e with e; omega)).trans (Hmv2.out j hj)
          have hK13 : W3.heap[D1]? = some (.deferred (some [])) := (hG3.block D1 (by omega) (fun e => by injection e with e; omega)).trans HK12.out
          have hB3 : Below wr.heap.size wr W3 := HBw2.out.grown hG3 (by have := HBw2.out.size; omega) (fun j e => by injection e with e; omega)
          have hD2l := (Array.getElem?_eq_some_iff.1 hK2).1
          have hs3 := hG3.size
          have Hmv3 := Lib.hid hmv3
          have HK13 := Lib.hid hK13
          have HK2 := Lib.hid hK2
          have HB3 := Lib.hid hB3
          clear hMk3 hG3 hmv3 hK13 hK2 hB3 hI2 HI2 hys2
          gi_wp2_with (refine ⟨trivial, ?_⟩; gi_at_call 42; refine hL.out.mono ?_; rintro e w4 ⟨v4, rfl, hown4, hB4⟩; rw [natsV_intsV] at hown4; obtain ⟨A4, c4, rfl, hI4⟩ := own_over (lo := w.heap.size + 1) hown4 (by have := Hbox.out.lt; have := HB.out.size; have := BlkIs.lt Hout.out; omega); have hout4 : BlkIs w4 (w.heap.size + 1) 23 ((List.range D.length).map S) := (show w4.heap[w.heap.size + 1]? = _ from (hB4.block _ (by have := BlkIs.lt Hout.out; have := HB3.out.size; omega)).trans ((Hmv3.out _ (BlkIs.lt Hout.out)).trans Hout.out)); have hc4 := hout4.cell k; rw [List.getElem?_map, List.getElem?_range hlt] at hc4; have hf4 := hout4.frozen k; have Hout4 := Lib.hid hout4; have HB4 := Lib.hid hB4; have HI4 := Lib.hid hI4; clear hown4 hB4 hI4 hout4)
          have hgT := BlkIs.lt Hout.out
          have hb0 := Hbox.out.lt
          have hsB := HB.out.size
          have hs3' := HB3.out.size
          have hs4 := HB4.out.size
          have hG5 := grownBy_set w4 (w.heap.size + 1) k (.slice A4 (natsI (listM 256 (clr (ownM D k) (listM 256 (saidM D k))))).length c4)
          have hB04 : Below wr.heap.size wr w4 := HB3.out.trans (HB4.out.mono (by omega))
          have hkeep : ∀ j, j < W3.heap.size → j ≠ w.heap.size + 1 → (w4.setCell ⟨w.heap.size + 1, k, none⟩ (.slice A4 (natsI (listM 256 (clr (ownM D k) (listM 256 (saidM D k))))).length c4)).heap[j]? = W3.heap[j]? := fun j hj hne =>
            (hG5.block j (by omega) (fun e => by injection e with e; omega)).trans (HB4.out.block j hj)
          refine ⟨⟨k + 1, (fun j => if j = k then .slice A4 (natsI (listM 256 (clr (ownM D k) (listM 256 (saidM D k))))).length c4 else S j), D2 :: D1 :: L, _, _, _, _, _, _, _, _, _, _, _, _, _, _, _, _, _, _, _, _, _, _, _, _, _, _, _, _, _, _, _, by omega, ⟨?_, ?_, ?_, ?_, ?_, ?_⟩, rfl⟩, ?_⟩
          · exact (show _ = _ from (hkeep _ (by omega) (by omega)).trans ((Hmv3.out _ hb0).trans Hbox.out))
          · have := Hout4.out.set_ k (.slice A4 (natsI (listM 256 (clr (ownM D k) (listM 256 (saidM D k))))).length c4)
            rw [map_range_set] at this
            exact this
          · intro j hj
            by_cases ej : j = k
            · rw [if_pos ej]
              refine ⟨A4, c4, by rw [ej]; rfl, ?_⟩
              rw [ej]
              exact HI4.out.grown hG5 (Nat.le_refl _)
            · rw [if_neg ej]
              obtain ⟨Aj, cj, e, hI⟩ := Hrows.out j (by omega)
              exact ⟨Aj, cj, e, (hI.below hB04).grown hG5 (Nat.le_refl _)⟩
          · exact ((HB.out.trans (HB3.out.mono hsB)).trans (HB4.out.mono (by omega))).setCell (p := ⟨w.heap.size + 1, k, none⟩) (by show w.heap.size ≤ w.heap.size + 1; omega) _
          · have hL : ∀ d ∈ L, d < wr.heap.size := fun d hd => (Array.getElem?_eq_some_iff.1 (Hmks.out d hd).2).1
            refine List.nodup_cons.2 ⟨fun h => ?_, List.nodup_cons.2 ⟨fun h => ?_, Hnd.out⟩⟩
            · rcases List.mem_cons.1 h with h | h
              · omega
              · have := hL _ h; omega
            · have := hL _ h; omega
          · intro d hd
            rcases List.mem_cons.1 hd with rfl | hd
            · exact ⟨by omega, (hkeep _ hD2l (by omega)).trans HK2.out⟩
            · rcases List.mem_cons.1 hd with rfl | hd
              · exact ⟨by omega, (hkeep _ (by omega) (by omega)).trans HK13.out⟩
              · obtain ⟨k1, k2⟩ := Hmks.out d hd
                have hdl := (Array.getElem?_eq_some_iff.1 k2).1
                exact ⟨k1, (hkeep _ (by omega) (by omega)).trans ((Hmv3.out _ hdl).trans k2)⟩
          · simp [intOf]; omega
    · have hlti : ¬ (k : Int) < (D.length : Int) := by omega
      obtain rfl : k = D.length := by omega
      obtain ⟨hbox, hout, hrows, hB, hnd, hmks⟩ := hst
      gi_wp2
      refine leaves_marks (base := w.heap.size + 2) (fun W => BlkIs W (w.heap.size + 1) 23 ((List.range D.length).map S) ∧ (∀ j, j < D.length → ∃ Aj cj, S j = .slice Aj (natsI (thinRow D j)).length cj ∧ IntsOver W (w.heap.size + 1) Aj (natsI (thinRow D j))) ∧ Below w.heap.size w W)
        ?turn ?fin L wr hnd hmks ⟨hout, hrows, hB⟩
      case turn =>
        rintro W d ⟨h1, h2, h3⟩ hd hk
        refine ⟨h1.kept (grownBy_putObj' W d _) (fun e => by injection e with e; omega), fun j hj => ?_, h3.grown (grownBy_putObj' W d _) (by have := h3.size; omega) (fun k e => by injection e with e; omega)⟩
        obtain ⟨Aj, cj, e, hI⟩ := h2 j hj
        refine ⟨Aj, cj, e, fun hn => ?_⟩
        obtain ⟨b, off, e, k1, k2, hc⟩ := hI hn
        refine ⟨b, off, e, k1, Nat.lt_of_lt_of_le k2 (grownBy_putObj' W d _).size, fun i hi => ?_⟩
        rw [← hc i hi]
        refine World.cell?_of_block ((grownBy_putObj' W d _).block b k2 (fun e => ?_))
        injection e with e
        subst e
        have := hc i hi
        simp [World.cell?, hk] at this
      case fin =>
        rintro W ⟨h1, h2, h3⟩
        refine ⟨_, results_tmp rfl _ _ _, ⟨some ⟨w.heap.size + 1, 0, none⟩, D.length, rfl, fun hn => ⟨w.heap.size + 1, 0, rfl, BlkIs.lt h1, fun j hj => ?_⟩⟩, h3⟩
        have hj' : j < D.length := by rw [length_rowsI, length_thinL] at hj; exact hj
        obtain ⟨Aj, cj, e, hI⟩ := h2 j hj'
        refine ⟨Aj, cj, ?_, ?_⟩
        · rw [rowI_rowsI, rowN_thinL hj', Nat.zero_add, h1.cell, List.getElem?_map, List.getElem?_range hj', ← e]; rfl
        · rw [rowI_rowsI, rowN_thinL hj']; exact hI.ints
end Go.Proofs.Ytmekffcpbjmffaa
