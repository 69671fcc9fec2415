/- The document's engine: Write, where there is something to write. -/
import Derived.Test.YtegacggkdjgdiaaH6
set_option linter.unusedVariables false
set_option linter.unusedSimpArgs false
namespace Go.Proofs.Ytegacggkdjgdiaa
open Go.RowKit

theorem rbuilt_noSec : (bytesV noSec).length = 32 := by rw [length_bytesV]; rfl
/-- bytes being copied into a sector -/
def mixB (m : List Int) (k : Nat) : List Int := m.take k ++ noSec.drop k
theorem mixB_zero (m : List Int) : mixB m 0 = noSec := by simp [mixB]
theorem mixB_all {m : List Int} (h : m.length = 32) : mixB m 32 = m := by
  unfold mixB
  rw [List.take_of_length_le (by omega), List.drop_of_length_le (by rw [noSec_len]; exact Nat.le_refl _), List.append_nil]
theorem length_mixB {m : List Int} (h : m.length = 32) {k : Nat} (hk : k ≤ 32) : (mixB m k).length = 32 := by
  unfold mixB; rw [List.length_append, List.length_take, List.length_drop, noSec_len]; omega
theorem mixB_step {m : List Int} (h : m.length = 32) {k : Nat} (hk : k < 32) : (bytesV (mixB m k)).set k (.int .u8 (nth m k)) = bytesV (mixB m (k + 1)) := by
  rw [bytesV_set]
  congr 1
  refine ext_nth (by rw [List.length_set, length_mixB h (by omega), length_mixB h (by omega)]) fun j hj => ?_
  rw [List.length_set, length_mixB h (by omega)] at hj
  rw [nth_set, length_mixB h (by omega)]
  unfold mixB
  rw [nth_append, nth_append, List.length_take, List.length_take, nth_take, nth_take, nth_drop, nth_drop]
  by_cases e : k = j
  · subst e
    rw [if_pos ⟨rfl, by omega⟩, if_pos (by omega), if_pos (by omega)]
  · rw [if_neg (by omega)]
    by_cases q : j < k
    · have h1 : j < min k m.length := by omega
      have h2 : j < min (k + 1) m.length := by omega
      simp only [if_pos h1, if_pos h2, if_pos q, if_pos (show j < k + 1 by omega)]
    · have h1 : ¬ j < min k m.length := by omega
      have h2 : ¬ j < min (k + 1) m.length := by omega
      rw [if_neg h1, if_neg h2]
      congr 1; omega
def TL (i : Nat) (set : List Int) (Ar : Option Addr) (cr : Nat) (t : List Tr) (j : Nat) : List Tr := ⟨(i : Int), set, Ar, cr⟩ :: (t.take j).filter fun y => decide (y.b ≠ (i : Int))
theorem TL_len (i : Nat) (set : List Int) (Ar : Option Addr) (cr : Nat) (t : List Tr) (j : Nat) : (TL i set Ar cr t j).length ≤ j + 1 := by
  unfold TL
  have h1 := List.length_filter_le (fun y : Tr => decide (y.b ≠ (i : Int))) (t.take j)
  rw [List.length_take] at h1
  rw [List.length_cons]; omega
theorem TL_step (i : Nat) (set : List Int) (Ar : Option Addr) (cr : Nat) {t : List Tr} {j : Nat} (h : j < t.length) : TL i set Ar cr t (j + 1) = if (tn t j).b = (i : Int) then TL i set Ar cr t j else TL i set Ar cr t j ++ [tn t j] := by
  unfold TL
  rw [take_tn h, List.filter_append]
  by_cases e : (tn t j).b = (i : Int)
  · rw [if_pos e]; simp [e]
  · rw [if_neg e]; simp [e]
/-- all last Writes but those of a block -/
def dropT (t : List Tr) (i : Nat) : List Tr := t.filter fun y => decide (y.b ≠ (i : Int))
theorem TL_all (i : Nat) (set : List Int) (Ar : Option Addr) (cr : Nat) (t : List Tr) : TL i set Ar cr t t.length = ⟨(i : Int), set, Ar, cr⟩ :: dropT t i := by unfold TL dropT; rw [List.take_length]
theorem HeadQ.put_w {w : World} {g d : Nat} {vl vt : Value} {k : Int} (h : HeadQ w g d vl vt k) (vt' : Value) : HeadQ (w.setCell ⟨g, 2, none⟩ vt') g d vl vt' k ∧ Kept w (w.setCell ⟨g, 2, none⟩ vt') (fun b => b = g) := by
  have e1 := heap_setCell_same w g 2 _ 133 vt' h.head
  exact ⟨⟨by simpa using e1⟩, ⟨rfl, rfl, rfl, by simp, fun b hb hn => heap_setCell_other _ ⟨g, 2, none⟩ b _ hn⟩⟩
theorem putS_ok {i : Int} {all : Bool} {set : List Int} {l : List Vr} {b : List Int} (h : OkS b) (hr : ∀ x ∈ l, x.p.right = true) : OkS (putS i all set l b) := by
  unfold putS
  induction l generalizing b with
  | nil => exact h
  | cons x r ih =>
    rw [List.foldl_cons]
    refine ih ?_ (fun y hy => hr y (List.mem_cons_of_mem _ hy))
    split
    · exact putL_ok (l := [⟨0, x.p, [], none, 0, false⟩]) h (fun y hy => by rw [List.mem_singleton] at hy; subst hy; exact hr x List.mem_cons_self)
    · exact h
set_option maxRecDepth 100000 in
set_option maxHeartbeats 4000000 in
theorem qwrite_bad {w : World} {g n cc : Nat} {S : Nat → Bk} {k : Int} {l : List Vr} {t : List Tr} {F : Nat → Prop} (h : Qe w g n S cc k l t F) (hl : l.length ≤ 1000) (hds : ∀ x ∈ l, x.ds.length ≤ 100000) (ht : t.length ≤ 1000) (hr : ∀ x ∈ l, x.p.right = true) {i : Nat} (hi : i < n) (hne : readyV l i ≠ []) (hns : readyV l i ≠ lastS t i) (hb : (S i).b = true) :
    Calls Try.prog 78 #[.pointer (some ⟨g, 0, none⟩), .int .i64 (i : Int)] w fun e w' => e = .returned (.tuple #[.int .i64 0, .int .i64 10]) ∧ Below w.heap.size w w' := by
  obtain ⟨d, A, c, A2, c2, Fd, h, rfl⟩ := h
  have HM := Lib.hid (qmay_any h (i : Int))
  rw [if_pos (by omega)] at HM
  have HR := Lib.hid (qready_any h hl hds (i : Int) (by omega))
  have hrl : (readyV l i).length ≤ 1000 := by rw [← readyK_all]; have := readyK_len l i l.length; omega
  have HQ := Lib.hid h
  have hlf := last_form h.tow (i : Int)
  have HLa := Lib.hid (fun W hW => qlast_any (h.fresh (w' := W) hW) ht (i : Int))
  have hgl := h.head.lt
  obtain ⟨Al, cl, hlv, hla⟩ := hlf
  rw [hlv] at HLa
  have HI := Lib.hid hla
  have Hfin : Hid (OkS (putS i false (readyV l i) l (S i).s)) := by
    have hok : OkS (S i).s := by obtain ⟨gb, cp, A, C, hd, _⟩ := h.disk; exact (hd.ok i hi).1
    exact putS_ok hok hr
  have HWr := Lib.hid (fun W (hW : Below w.heap.size w W) => rbad (h.fresh hW).disk hi hb (putS i false (readyV l i) l (S i).s))
  have HBy := Lib.hid (fun W (hW : Below w.heap.size w W) Ar cr (hI : Gr.Ints W W.heap.size Ar (readyV l i)) => qbytes_any (h.fresh hW) hl hr hi false Ar cr _ (readyV l i) rfl (by omega) hI)
  unfold secV at HWr
  generalize hset : readyV l i = set at *
  generalize lastS t i = lst at *
  obtain ⟨m, hm⟩ : ∃ m, m = putS i false set l (S i).s := ⟨_, rfl⟩
  rw [← hm] at HBy HWr Hfin
  obtain ⟨nl, hnl⟩ : ∃ nl, nl = lst.length := ⟨_, rfl⟩
  rw [← hnl] at HLa
  have Hnl := Lib.hid hnl
  obtain ⟨ns, hnse⟩ : ∃ ns, ns = set.length := ⟨_, rfl⟩
  unfold Says at HR
  rw [← hnse] at HR hrl HBy
  have Hns := Lib.hid hnse
  have h0 : ¬ ns = 0 := fun e => hne (List.eq_nil_of_length_eq_zero (by omega))
  have h0' : ¬ (ns : Int) = 0 := by omega
  have hsl : Hid (decide (set = lst) = false) := decide_eq_false hns
  have HSm : Hid (∀ (Ar : Option Addr) (cr : Nat) (W : World), W.ownsRow w.heap.size 3 1 (.slice Ar ns cr) ns (intsI set) → Below w.heap.size w W → Calls Try.prog 95 #[.slice Ar ns cr, .slice Al nl cl] W fun e w' => e = .returned (.bool false) ∧ Below W.heap.size W w') := fun Ar cr W ho hb => by
    have := same_full Ar Al cr cl ns nl set lst W W.heap.size w.heap.size Hns.out Hnl.out (grow_row Hns.out.symm ho) (HI.out.keep (fun p hp => hb.cell hp)) (by rw [← Hns.out]; omega)
    rw [hsl.out] at this
    exact this
  have hm32 := Hfin.out.1
  have hszm : Hid ((Try.prog.info? 146).map (·.size) = some (bytesV m).toArray.size) := by unfold Hid; rw [List.size_toArray, length_bytesV, hm32]; exact size53
  have Hm32 := Lib.hid hm32
  obtain ⟨R0, hR0⟩ : ∃ R0, R0 = (bytesV m).toArray := ⟨_, rfl⟩
  rw [← hR0] at HWr hszm
  have HR0 := Lib.hid hR0
  clear hset hla hlv hnl hnse h hds hne hns hr hm hm32 hR0 hb
  go_enter Try.func78, Try.ntmps78
  go_wp2_with (first
    | (go_at_call 93; refine HM.out.mono ?_; rintro e w' ⟨rfl, rfl⟩)
    | (go_at_call 94; refine HR.out.mono ?_; rintro e w1 ⟨Ar, cr, rfl, hor, hbr⟩; have HBr := Lib.hid hbr; have HOr := Lib.hid hor; have HL1 := Lib.hid (HLa.out w1 hbr); have HS1 := Lib.hid (HSm.out Ar cr w1 hor hbr); clear hor hbr)
    | (go_at_call 96; refine HL1.out.mono ?_; rintro e w' ⟨rfl, rfl⟩)
    | (go_at_call 95; refine HS1.out.mono ?_; rintro e w2 ⟨rfl, hb2⟩; have HO2 := Lib.hid ((Kept.fresh (S := fun _ => False) hb2).row HOr.out (fun _ _ q => q)); have HB2 := Lib.hid (HBr.out.trans (hb2.mono HBr.out.size)); have HB3 : Hid (Below w.heap.size w (w2.alloc (.cells (bytesV noSec).toArray 146))) := HB2.out.alloc HB2.out.size _; clear hb2)
    | (go_at_call 97; refine (HBy.out _ HB3.out Ar cr (grow_row Hns.out.symm (HO2.out.alloc _))).mono ?_; rintro e w4 ⟨hb4, gA, cA, rfl, k0, k1, k2, k3, k4⟩; have HB34 := Lib.hid hb4; have HK0 := Lib.hid k0; have HK4 := Lib.hid k3; have hcA := k1; have hcA2 := k2; clear hb4 k0 k1 k2 k3 k4))
  obtain ⟨sb, hsb⟩ : ∃ sb, sb = w2.heap.size := ⟨_, rfl⟩
  have Hsb := Lib.hid hsb
  have hsz3 : Hid ((w2.alloc (.cells (bytesV noSec).toArray 146)).heap.size = sb + 1) := by rw [hsb]; simp [Hid]
  have HS4 : Hid (BlkIs w4 sb 146 (bytesV (mixB m 0))) := by
    unfold Hid BlkIs
    rw [mixB_zero, HB34.out.block sb (by rw [hsz3.out]; omega), hsb]
    exact heap_alloc_new w2 _
  rw [← hsb]
  have HgA : Hid (sb < gA) := by have := HK0.out; rw [hsz3.out] at this; unfold Hid; omega
  have HB4 := Lib.hid (HB3.out.trans (HB34.out.mono HB3.out.size))
  have hwsb : w.heap.size ≤ sb := by rw [hsb]; exact HB2.out.size
  clear hsb
  unfold maxLen at hcA2
  go_loopw [10] (fun q wr => ∃ kk : Nat, kk ≤ 32 ∧ q = .int .i64 kk ∧ Hid (BlkIs wr sb 146 (bytesV (mixB m kk))) ∧ Hid (Kept w4 wr (fun b => b = sb))) (fun q _ => 32 - (intOf q).toNat)
  case atStart => exact ⟨0, Nat.zero_le _, rfl, HS4.out, Kept.refl _ _⟩
  case round =>
    obtain ⟨kk, hkk, rfl, hblk, hkp⟩ := hrel
    rename World => wr
    by_cases hlt : kk < 32
    · have hlti : (kk : Int) < 32 := by omega
      have hk0 : (0 : Int) ≤ (kk : Int) := by omega
      obtain ⟨sb2, so2, he, hlt2, hcs⟩ := HK4.out.at_ (k := kk) (by rw [Hm32.out]; exact hlt)
      have e1 := Option.some.inj he
      injection e1 with e1 e2 e3
      subst e1
      subst e2
      have hcs' := (hkp.out.cell (a := ⟨gA, 0 + kk, none⟩) hlt2 (by have := HgA.out; show ¬ gA = sb; omega)).trans hcs
      rw [Nat.zero_add] at hcs'
      have hgw : gA < wr.heap.size := Nat.lt_of_lt_of_le hlt2 hkp.out.size
      have hd1 : wr.cell? ⟨sb, kk, none⟩ = some (.int .u8 (nth (mixB m kk) kk)) := by
        rw [hblk.out.cell, bytesV, List.getElem?_map, List.getElem?_eq_getElem (by rw [length_mixB Hm32.out (by omega)]; exact hlt), nth_lt (by rw [length_mixB Hm32.out (by omega)]; exact hlt)]; rfl
      have hd2 : wr.frozen? ⟨sb, kk, none⟩ = false := hblk.out.frozen kk
      have hsw : sb < wr.heap.size := hblk.out.lt
      have Hst := Lib.hid (mixB_step Hm32.out hlt)
      clear he e3 hcs
      go_wp2
      go_roundw
      case rel =>
        refine ⟨kk + 1, by omega, by go_num, ?_, hkp.out.trans (Kept.grown (setCell_grown wr _ _) (fun b e => by cases e; exact .inl rfl)) (fun b q => .inl q)⟩
        have := hblk.out.set_ kk (.int .u8 (nth m kk))
        rw [Hst.out] at this
        exact this
      case measure => simp [intOf]; omega
    · obtain rfl : kk = 32 := by omega
      have hlti : ¬ (32 : Int) < 32 := by omega
      rw [mixB_all Hm32.out] at hblk
      have HB5 : Hid (Below w.heap.size w wr) := HB4.out.trans (hkp.out.below (fun b q => by subst q; exact hwsb) HB4.out.size)
      have X : Hid (wr.drew.cell? ⟨g, 0, none⟩ = some (.pointer (some ⟨d, 0, none⟩)) ∧ wr.drew.heap[sb]? = some (.cells R0 146 (0, 0))) := ⟨(HQ.out.fresh HB5.out.drew).head.c0, by rw [HR0.out]; exact hblk.out⟩
      have hgw : g < wr.heap.size := Nat.lt_of_lt_of_le hgl HB5.out.size
      go_wp2
      refine wp_region_held_drew (S := (fun W => W.cell? ⟨g, 0, none⟩ = some (.pointer (some ⟨d, 0, none⟩)))) (by kernel_rfl) (X.out.1) (fun hHeld => ?_)
      refine takeH (i := 0) (some 49) (v := ?_) rfl rfl (by kernel_rfl) (by kernel_rfl) (by kernel_rfl) (fun _ _ _ h => h) (by rfl) ?_ (by assumption) ?_
      rotate_left
      · (intro w hSw; (try dsimp only at hSw); go_simp; try with_reducible rfl)
      simp only [Act.put, List.setIfInBounds_toArray, List.set_cons_zero, List.set_cons_succ]
      refine takeH (i := 1) (some 50) (v := ?_) rfl rfl (by kernel_rfl) (by kernel_rfl) (by kernel_rfl) (fun _ _ _ h => h) (by rfl) ?_ (by assumption) ?_
      rotate_left
      · (intro w hSw; (try dsimp only at hSw); go_simp; try with_reducible rfl)
      simp only [Act.put, List.setIfInBounds_toArray, List.set_cons_zero, List.set_cons_succ]
      refine takeH (i := 2) (some 51) (v := ?_) rfl rfl (by kernel_rfl) (by kernel_rfl) (by kernel_rfl) (fun _ _ _ h => h) (by rfl) ?_ (by assumption) ?_
      rotate_left
      · (intro w hSw; (try dsimp only at hSw); go_simp; try with_reducible rfl)
      simp only [Act.put, List.setIfInBounds_toArray, List.set_cons_zero, List.set_cons_succ]
      refine takeH (i := 3) (some 52) (v := ?_) rfl rfl (by kernel_rfl) (by kernel_rfl) (by kernel_rfl) (fun _ _ _ h => h) (by rfl) ?_ (by assumption) ?_
      rotate_left
      · (intro w hSw; (try dsimp only at hSw); go_simp; try with_reducible rfl)
      simp only [Act.put, List.setIfInBounds_toArray, List.set_cons_zero, List.set_cons_succ]
      refine takeH (i := 4) (some 53) (v := ?_) rfl rfl (by kernel_rfl) (by kernel_rfl) (by kernel_rfl) (fun _ _ _ h => h) (by rfl) ?_ (by assumption) ?_
      rotate_left
      · (intro w hSw; (try dsimp only at hSw); go_simp; try with_reducible rfl)
      simp only [Act.put, List.setIfInBounds_toArray, List.set_cons_zero, List.set_cons_succ]
      refine wpAnyH_ready (rs := [5]) (by kernel_rfl) (by simp) ?_
      refine AllReadyH.cons rfl (fun K hK => ?_) AllReadyH.nil
      refine step_of rfl (wp_load_row 146 (.tmp 8) rfl sb rfl 146 R0 (0, 0) _ X.out.2 Try.underlying146 rfl hszm.out ?_)
      refine hK _ _ (X.out.1) (fun hHeld => ?_)
      clear hK K
      try simp only [Act.put, List.setIfInBounds_toArray, List.set_cons_zero, List.set_cons_succ]
      try simp only [List.getElem_toArray, List.getElem_cons_zero, List.getElem_cons_succ, Act.put, List.setIfInBounds_toArray, List.set_cons_zero, List.set_cons_succ]
      refine wpAnyH_ready (rs := [6]) (by kernel_rfl) (by simp) ?_
      refine AllReadyH.cons rfl (fun K hK => ?_) AllReadyH.nil
      go_simp
      refine (HWr.out _ HB5.out.drew).mono ?_
      rintro e w7 ⟨rfl, hb7⟩
      have HB7 := Lib.hid (HB5.out.drew.trans (hb7.mono HB5.out.size))
      clear hb7
      refine hK _ _ ((HQ.out.fresh HB7.out).head.c0) (fun hHeld => ?_)
      clear hK K
      try simp only [Act.put, List.setIfInBounds_toArray, List.set_cons_zero, List.set_cons_succ]
      refine takeH (i := 7) (some 11) (v := ?_) rfl rfl (by kernel_rfl) (by kernel_rfl) (by kernel_rfl) (fun _ _ _ h => h) (by rfl) ?_ (by assumption) ?_
      rotate_left
      · (intro w hSw; (try dsimp only at hSw); go_simp; try with_reducible rfl)
      simp only [Act.put, List.setIfInBounds_toArray, List.set_cons_zero, List.set_cons_succ]
      refine wpAnyH_done (by kernel_rfl) ?_ _
      go_wp2
      go_ret2
      exact ⟨rfl, HB7.out⟩
set_option maxRecDepth 100000 in
set_option maxHeartbeats 4000000 in
theorem qwrite_ok {w : World} {g n cc : Nat} {S : Nat → Bk} {k : Int} {l : List Vr} {t : List Tr} {F : Nat → Prop} (h : Qe w g n S cc k l t F) (hl : l.length ≤ 1000) (hds : ∀ x ∈ l, x.ds.length ≤ 100000) (ht : t.length ≤ 1000) (hr : ∀ x ∈ l, x.p.right = true) {i : Nat} (hi : i < n) (hne : readyV l i ≠ []) (hns : readyV l i ≠ lastS t i) (hb : (S i).b = false) (hc : cc < 99999) :
    Calls Try.prog 78 #[.pointer (some ⟨g, 0, none⟩), .int .i64 (i : Int)] w fun e w' => e = .returned (.tuple #[.int .i64 (readyV l i).length, .int .i64 0]) ∧ Went w w' F (fun F' => ∃ A3 c3, Qe w' g n (upd S i ⟨(S i).s, (S i).v ++ [putS i false (readyV l i) l (S i).s], (S i).b⟩) (cc + 1) k l (⟨i, readyV l i, A3, c3⟩ :: dropT t i) F') := by
  obtain ⟨d, A, c, A2, c2, Fd, h, rfl⟩ := h
  have HM := Lib.hid (qmay_any h (i : Int))
  rw [if_pos (by omega)] at HM
  have HR := Lib.hid (qready_any h hl hds (i : Int) (by omega))
  have hrl : (readyV l i).length ≤ 1000 := by rw [← readyK_all]; have := readyK_len l i l.length; omega
  have HQ := Lib.hid h
  have hlf := last_form h.tow (i : Int)
  have HLa := Lib.hid (fun W hW => qlast_any (h.fresh (w' := W) hW) ht (i : Int))
  have hgl := h.head.lt
  obtain ⟨Al, cl, hlv, hla⟩ := hlf
  rw [hlv] at HLa
  have HI := Lib.hid hla
  have Hfin : Hid (OkS (putS i false (readyV l i) l (S i).s)) := by
    have hok : OkS (S i).s := by obtain ⟨gb, cp, A, C, hd, _⟩ := h.disk; exact (hd.ok i hi).1
    exact putS_ok hok hr
  have HWr := Lib.hid (fun W (hW : Below w.heap.size w W) => rwrite (h.fresh hW).disk hi hb Hfin.out (by omega))
  have HBy := Lib.hid (fun W (hW : Below w.heap.size w W) Ar cr (hI : Gr.Ints W W.heap.size Ar (readyV l i)) => qbytes_any (h.fresh hW) hl hr hi false Ar cr _ (readyV l i) rfl (by omega) hI)
  unfold secV at HWr
  generalize hset : readyV l i = set at *
  generalize lastS t i = lst at *
  obtain ⟨m, hm⟩ : ∃ m, m = putS i false set l (S i).s := ⟨_, rfl⟩
  rw [← hm] at HBy HWr Hfin ⊢
  obtain ⟨nl, hnl⟩ : ∃ nl, nl = lst.length := ⟨_, rfl⟩
  rw [← hnl] at HLa
  have Hnl := Lib.hid hnl
  obtain ⟨ns, hnse⟩ : ∃ ns, ns = set.length := ⟨_, rfl⟩
  unfold Says at HR
  rw [← hnse] at HR hrl HBy ⊢
  have Hns := Lib.hid hnse
  have h0 : ¬ ns = 0 := fun e => hne (List.eq_nil_of_length_eq_zero (by omega))
  have h0' : ¬ (ns : Int) = 0 := by omega
  have hsl : Hid (decide (set = lst) = false) := decide_eq_false hns
  have HSm : Hid (∀ (Ar : Option Addr) (cr : Nat) (W : World), W.ownsRow w.heap.size 3 1 (.slice Ar ns cr) ns (intsI set) → Below w.heap.size w W → Calls Try.prog 95 #[.slice Ar ns cr, .slice Al nl cl] W fun e w' => e = .returned (.bool false) ∧ Below W.heap.size W w') := fun Ar cr W ho hb => by
    have := same_full Ar Al cr cl ns nl set lst W W.heap.size w.heap.size Hns.out Hnl.out (grow_row Hns.out.symm ho) (HI.out.keep (fun p hp => hb.cell hp)) (by rw [← Hns.out]; omega)
    rw [hsl.out] at this
    exact this
  have hm32 := Hfin.out.1
  have hszm : Hid ((Try.prog.info? 146).map (·.size) = some (bytesV m).toArray.size) := by unfold Hid; rw [List.size_toArray, length_bytesV, hm32]; exact size53
  have Hm32 := Lib.hid hm32
  obtain ⟨R0, hR0⟩ : ∃ R0, R0 = (bytesV m).toArray := ⟨_, rfl⟩
  rw [← hR0] at HWr hszm
  have HR0 := Lib.hid hR0
  clear hset hla hlv hnl hnse h hds hne hns hr hm hm32 hR0 hb
  go_enter Try.func78, Try.ntmps78
  go_wp2_with (first
    | (go_at_call 93; refine HM.out.mono ?_; rintro e w' ⟨rfl, rfl⟩)
    | (go_at_call 94; refine HR.out.mono ?_; rintro e w1 ⟨Ar, cr, rfl, hor, hbr⟩; have HBr := Lib.hid hbr; have HOr := Lib.hid hor; have HL1 := Lib.hid (HLa.out w1 hbr); have HS1 := Lib.hid (HSm.out Ar cr w1 hor hbr); clear hor hbr)
    | (go_at_call 96; refine HL1.out.mono ?_; rintro e w' ⟨rfl, rfl⟩)
    | (go_at_call 95; refine HS1.out.mono ?_; rintro e w2 ⟨rfl, hb2⟩; have HO2 := Lib.hid ((Kept.fresh (S := fun _ => False) hb2).row HOr.out (fun _ _ q => q)); have HB2 := Lib.hid (HBr.out.trans (hb2.mono HBr.out.size)); have HB3 : Hid (Below w.heap.size w (w2.alloc (.cells (bytesV noSec).toArray 146))) := HB2.out.alloc HB2.out.size _; clear hb2)
    | (go_at_call 97; refine (HBy.out _ HB3.out Ar cr (grow_row Hns.out.symm (HO2.out.alloc _))).mono ?_; rintro e w4 ⟨hb4, gA, cA, rfl, k0, k1, k2, k3, k4⟩; have HB34 := Lib.hid hb4; have HK0 := Lib.hid k0; have HK4 := Lib.hid k3; have hcA := k1; have hcA2 := k2; clear hb4 k0 k1 k2 k3 k4))
  obtain ⟨sb, hsb⟩ : ∃ sb, sb = w2.heap.size := ⟨_, rfl⟩
  have Hsb := Lib.hid hsb
  have hsz3 : Hid ((w2.alloc (.cells (bytesV noSec).toArray 146)).heap.size = sb + 1) := by rw [hsb]; simp [Hid]
  have HS4 : Hid (BlkIs w4 sb 146 (bytesV (mixB m 0))) := by
    unfold Hid BlkIs
    rw [mixB_zero, HB34.out.block sb (by rw [hsz3.out]; omega), hsb]
    exact heap_alloc_new w2 _
  rw [← hsb]
  have HgA : Hid (sb < gA) := by have := HK0.out; rw [hsz3.out] at this; unfold Hid; omega
  have HB4 := Lib.hid (HB3.out.trans (HB34.out.mono HB3.out.size))
  have hwsb : w.heap.size ≤ sb := by rw [hsb]; exact HB2.out.size
  clear hsb
  unfold maxLen at hcA2
  go_loopw [10] (fun q wr => ∃ kk : Nat, kk ≤ 32 ∧ q = .int .i64 kk ∧ Hid (BlkIs wr sb 146 (bytesV (mixB m kk))) ∧ Hid (Kept w4 wr (fun b => b = sb))) (fun q _ => 32 - (intOf q).toNat)
  case atStart => exact ⟨0, Nat.zero_le _, rfl, HS4.out, Kept.refl _ _⟩
  case round =>
    obtain ⟨kk, hkk, rfl, hblk, hkp⟩ := hrel
    rename World => wr
    by_cases hlt : kk < 32
    · have hlti : (kk : Int) < 32 := by omega
      have hk0 : (0 : Int) ≤ (kk : Int) := by omega
      obtain ⟨sb2, so2, he, hlt2, hcs⟩ := HK4.out.at_ (k := kk) (by rw [Hm32.out]; exact hlt)
      have e1 := Option.some.inj he
      injection e1 with e1 e2 e3
      subst e1
      subst e2
      have hcs' := (hkp.out.cell (a := ⟨gA, 0 + kk, none⟩) hlt2 (by have := HgA.out; show ¬ gA = sb; omega)).trans hcs
      rw [Nat.zero_add] at hcs'
      have hgw : gA < wr.heap.size := Nat.lt_of_lt_of_le hlt2 hkp.out.size
      have hd1 : wr.cell? ⟨sb, kk, none⟩ = some (.int .u8 (nth (mixB m kk) kk)) := by
        rw [hblk.out.cell, bytesV, List.getElem?_map, List.getElem?_eq_getElem (by rw [length_mixB Hm32.out (by omega)]; exact hlt), nth_lt (by rw [length_mixB Hm32.out (by omega)]; exact hlt)]; rfl
      have hd2 : wr.frozen? ⟨sb, kk, none⟩ = false := hblk.out.frozen kk
      have hsw : sb < wr.heap.size := hblk.out.lt
      have Hst := Lib.hid (mixB_step Hm32.out hlt)
      clear he e3 hcs
      go_wp2
      go_roundw
      case rel =>
        refine ⟨kk + 1, by omega, by go_num, ?_, hkp.out.trans (Kept.grown (setCell_grown wr _ _) (fun b e => by cases e; exact .inl rfl)) (fun b q => .inl q)⟩
        have := hblk.out.set_ kk (.int .u8 (nth m kk))
        rw [Hst.out] at this
        exact this
      case measure => simp [intOf]; omega
    · obtain rfl : kk = 32 := by omega
      have hlti : ¬ (32 : Int) < 32 := by omega
      rw [mixB_all Hm32.out] at hblk
      have HB5 : Hid (Below w.heap.size w wr) := HB4.out.trans (hkp.out.below (fun b q => by subst q; exact hwsb) HB4.out.size)
      have X : Hid (wr.drew.cell? ⟨g, 0, none⟩ = some (.pointer (some ⟨d, 0, none⟩)) ∧ wr.drew.heap[sb]? = some (.cells R0 146 (0, 0))) := ⟨(HQ.out.fresh HB5.out.drew).head.c0, by rw [HR0.out]; exact hblk.out⟩
      have hgw : g < wr.heap.size := Nat.lt_of_lt_of_le hgl HB5.out.size
      have HN5 : Hid (NumTAt wr.drew ⟨i, set, Ar, cr⟩) := by
        have h2 : NumTAt w2 ⟨i, set, Ar, cr⟩ := by
          have := row_zero HO2.out
          rw [Hns.out] at this
          exact this
        have h4 : NumTAt w4 ⟨i, set, Ar, cr⟩ := h2.keep (F := fun _ => False) (Kept.fresh (((Below.refl _ _).alloc (Nat.le_refl _) _).trans (HB34.out.mono (by rw [hsz3.out, ← Hsb.out]; omega)))) (NI.none _)
        have h5 : NumTAt wr ⟨i, set, Ar, cr⟩ := h4.keep hkp.out (NI.of_type HS4.out (by decide))
        exact h5
      go_wp2
      refine wp_region_held_drew (S := (fun W => W.cell? ⟨g, 0, none⟩ = some (.pointer (some ⟨d, 0, none⟩)))) (by kernel_rfl) (X.out.1) (fun hHeld => ?_)
      refine takeH (i := 0) (some 49) (v := ?_) rfl rfl (by kernel_rfl) (by kernel_rfl) (by kernel_rfl) (fun _ _ _ h => h) (by rfl) ?_ (by assumption) ?_
      rotate_left
      · (intro w hSw; (try dsimp only at hSw); go_simp; try with_reducible rfl)
      simp only [Act.put, List.setIfInBounds_toArray, List.set_cons_zero, List.set_cons_succ]
      refine takeH (i := 1) (some 50) (v := ?_) rfl rfl (by kernel_rfl) (by kernel_rfl) (by kernel_rfl) (fun _ _ _ h => h) (by rfl) ?_ (by assumption) ?_
      rotate_left
      · (intro w hSw; (try dsimp only at hSw); go_simp; try with_reducible rfl)
      simp only [Act.put, List.setIfInBounds_toArray, List.set_cons_zero, List.set_cons_succ]
      refine takeH (i := 2) (some 51) (v := ?_) rfl rfl (by kernel_rfl) (by kernel_rfl) (by kernel_rfl) (fun _ _ _ h => h) (by rfl) ?_ (by assumption) ?_
      rotate_left
      · (intro w hSw; (try dsimp only at hSw); go_simp; try with_reducible rfl)
      simp only [Act.put, List.setIfInBounds_toArray, List.set_cons_zero, List.set_cons_succ]
      refine takeH (i := 3) (some 52) (v := ?_) rfl rfl (by kernel_rfl) (by kernel_rfl) (by kernel_rfl) (fun _ _ _ h => h) (by rfl) ?_ (by assumption) ?_
      rotate_left
      · (intro w hSw; (try dsimp only at hSw); go_simp; try with_reducible rfl)
      simp only [Act.put, List.setIfInBounds_toArray, List.set_cons_zero, List.set_cons_succ]
      refine takeH (i := 4) (some 53) (v := ?_) rfl rfl (by kernel_rfl) (by kernel_rfl) (by kernel_rfl) (fun _ _ _ h => h) (by rfl) ?_ (by assumption) ?_
      rotate_left
      · (intro w hSw; (try dsimp only at hSw); go_simp; try with_reducible rfl)
      simp only [Act.put, List.setIfInBounds_toArray, List.set_cons_zero, List.set_cons_succ]
      refine wpAnyH_ready (rs := [5]) (by kernel_rfl) (by simp) ?_
      refine AllReadyH.cons rfl (fun K hK => ?_) AllReadyH.nil
      refine step_of rfl (wp_load_row 146 (.tmp 8) rfl sb rfl 146 R0 (0, 0) _ X.out.2 Try.underlying146 rfl hszm.out ?_)
      refine hK _ _ (X.out.1) (fun hHeld => ?_)
      clear hK K
      try simp only [Act.put, List.setIfInBounds_toArray, List.set_cons_zero, List.set_cons_succ]
      try simp only [List.getElem_toArray, List.getElem_cons_zero, List.getElem_cons_succ, Act.put, List.setIfInBounds_toArray, List.set_cons_zero, List.set_cons_succ]
      refine wpAnyH_ready (rs := [6]) (by kernel_rfl) (by simp) ?_
      refine AllReadyH.cons rfl (fun K hK => ?_) AllReadyH.nil
      go_simp
      refine (HWr.out _ HB5.out.drew).mono ?_
      rintro e w7 ⟨rfl, F7, hd7, hk7, hf7⟩
      have HK7 := Lib.hid hk7
      have HF7 := Lib.hid hf7
      have HQ7 := Lib.hid ((HQ.out.fresh HB5.out.drew).disked hk7 hd7)
      clear hd7 hk7 hf7
      refine hK _ _ (HQ7.out.head.c0) (fun hHeld => ?_)
      clear hK K
      try simp only [Act.put, List.setIfInBounds_toArray, List.set_cons_zero, List.set_cons_succ]
      refine takeH (i := 7) (some 11) (v := ?_) rfl rfl (by kernel_rfl) (by kernel_rfl) (by kernel_rfl) (fun _ _ _ h => h) (by rfl) ?_ (by assumption) ?_
      rotate_left
      · (intro w hSw; (try dsimp only at hSw); go_simp; try with_reducible rfl)
      simp only [Act.put, List.setIfInBounds_toArray, List.set_cons_zero, List.set_cons_succ]
      refine wpAnyH_done (by kernel_rfl) ?_ _
      have HN7 : Hid (NumTAt w7 ⟨i, set, Ar, cr⟩) := HN5.out.keep HK7.out (HQ.out.fresh HB5.out.drew).disk.ni
      have hs7 : w.heap.size ≤ w7.heap.size := Nat.le_trans HB5.out.drew.size HK7.out.size
      have HM7 : Hid (RowT (w7.alloc (.cells #[.int .i64 (i : Int), .slice Ar ns cr] 157)) w7.heap.size (some ⟨w7.heap.size, 0, none⟩) 1 (TL i set Ar cr t 0)) := by
        refine ⟨⟨by rw [length_flatT], .inr ⟨w7.heap.size, 1, #[.int .i64 (i : Int), .slice Ar ns cr], rfl, Nat.le_refl _, heap_alloc_new w7 _, by simp [TL], by decide, rfl, ?_⟩⟩, fun y hy => ?_⟩
        · rw [Hns.out]; simp [TL, flatT, Tr.cs]
        · have hy2 : y = ⟨i, set, Ar, cr⟩ := by simpa [TL] using hy
          rw [hy2]
          exact HN7.out.keep (F := fun _ => False) (Kept.fresh ((Below.refl _ _).alloc (Nat.le_refl _) _)) (NI.none _)
      obtain ⟨i0, hi0, hz0, hz1, hz2⟩ := info_parts infoT
      go_wp2
      go_loopw [12, 13] (fun v q wx => ∃ (j m9 : Nat) (A' : Option Addr) (c' : Nat), j ≤ t.length ∧ q = .int .i64 j ∧ v = .slice A' m9 c' ∧ (TL i set Ar cr t j).length = m9 ∧ Hid (RowT wx w7.heap.size A' c' (TL i set Ar cr t j)) ∧ Hid (Below w7.heap.size w7 wx)) (fun _ q _ => t.length - (intOf q).toNat)
      case atStart => exact ⟨0, 1, _, 1, Nat.zero_le _, rfl, rfl, by simp [TL], HM7.out, (Below.refl _ _).alloc (Nat.le_refl _) _⟩
      case round =>
        obtain ⟨j, m9, A', c', hj, rfl, rfl, hm9, hrow, hBx⟩ := hrel
        rename World => wx
        have hszx := hBx.out.size
        have hml : m9 ≤ j + 1 := by rw [← hm9]; exact TL_len _ _ _ _ _ _
        have HQx := Lib.hid (HQ7.out.fresh hBx.out)
        have h2x := HQx.out.head.c2
        have hgx := HQx.out.head.lt
        by_cases hltx : j < t.length
        · have hltxi : (j : Int) < (t.length : Int) := by omega
          have hj0 : (0 : Int) ≤ (j : Int) := by omega
          obtain ⟨ab, hA, h3, h4, hbx, hcs, _⟩ := HQx.out.tow.at_ hltx
          have hah := HQx.out.tow.ah _ (tn_mem hltx)
          have Hst := Lib.hid (TL_step i set Ar cr hltx)
          subst hA
          unfold maxLen at h4
          have d0 := hcs 0 (by omega)
          have d1 := hcs 1 (by omega)
          clear hcs
          obtain ⟨y, hy⟩ : ∃ y, y = tn t j := ⟨_, rfl⟩
          rw [← hy] at d0 d1 Hst hah
          have hon : Hid (∀ u ∈ y.cs, u.oneCell' = true) := cs_oneT y
          have hff : Hid (∀ M, flatT M ++ y.cs = flatT (M ++ [y])) := fun M => by rw [flatT_append, flatT_one]
          clear hy
          obtain ⟨yb, ys, yA, yc⟩ := y
          simp [Tr.cs] at d0 d1
          obtain ⟨M, hM⟩ : ∃ M, M = TL i set Ar cr t j := ⟨_, rfl⟩
          rw [← hM] at hrow Hst hm9
          have Hm9 := Lib.hid hm9
          have Hah := Lib.hid hah
          dsimp only at Hst
          clear hM hm9 hah
          by_cases hbi : yb = (i : Int)
          · have hst : Hid (TL i set Ar cr t (j + 1) = M) := by unfold Hid; rw [Hst.out, if_pos hbi]
            subst hbi
            clear Hst
            go_wp2
            go_roundw
            case rel => exact ⟨j + 1, m9, A', c', by omega, by go_num, rfl, by rw [hst.out]; exact Hm9.out, by rw [hst.out]; exact hrow, hBx⟩
            case measure => simp [intOf]; omega
          · have hst : Hid (TL i set Ar cr t (j + 1) = M ++ [⟨yb, ys, yA, yc⟩]) := by unfold Hid; rw [Hst.out, if_neg hbi]
            have Hrm : Hid (wx.ownsRow w7.heap.size 157 2 (.slice A' m9 c') m9 (flatT M)) := by have := hrow.out.row; rw [Hm9.out] at this; exact this
            clear Hst
            go_wp2_with (at_builtin; go_loud (refine wpList_append_src rfl (.tmp 82) (.tmp 90) 131 rfl w7.heap.size 157 i0 _ 2 32 Try.underlying131 hi0 hz0 hz1 hz2 rfl (by decide) (.slice A' m9 c') m9 (flatT M) rfl (Hrm.out.alloc _) (some ⟨wx.heap.size, 0, none⟩) 1 1 [.int .i64 yb, .slice yA ys.length yc] rfl rfl (fun ad e j u hu => by cases e; exact World.news_of_block (heap_alloc_new wx _) j u hu) (fun e => by cases e) hon.out (by unfold maxLen; omega) (by omega) (by simp; omega) (m9 + 1) rfl ?_; intro A3 c3 wy ho2 hg2 hor2; have HO9 := Lib.hid ho2; have HG9 := Lib.hid hg2; clear ho2 hg2 hor2))
            go_roundw
            case rel =>
              have hB9 : Below w7.heap.size w7 wy := (hBx.out.alloc hszx _).grown HG9.out (by simp; omega) (fun j e => (Hrm.out.lt j e).1)
              have hk : Kept wx wy (fun b => own A' = some b) := (Kept.fresh (S := fun b => own A' = some b) ((Below.refl _ _).alloc (Nat.le_refl _) _)).trans (Kept.grown (S := fun b => own A' = some b) HG9.out (fun k e => .inl (by rw [← own_eq]; exact e))) (fun b q => .inl q)
              refine ⟨j + 1, m9 + 1, A3, c3, by omega, by go_num, rfl, by rw [hst.out, List.length_append, Hm9.out]; rfl, ?_, hB9⟩
              rw [hst.out]
              refine ⟨?_, fun y hy => ?_⟩
              · have e := hff.out M
                rw [← e, List.length_append, Hm9.out]
                exact HO9.out
              · rcases List.mem_append.1 hy with hy | hy
                · exact (hrow.out.ah y hy).keep hk hrow.out.ni
                · rw [List.mem_singleton] at hy
                  subst hy
                  exact Hah.out.keep hk hrow.out.ni
            case measure => simp [intOf]; omega
        · obtain rfl : j = t.length := by omega
          have hltxi : ¬ (t.length : Int) < (t.length : Int) := by omega
          rw [TL_all] at hrow hm9
          have f2 := HQx.out.head.free 2
          go_wp2
          go_ret2
          obtain ⟨hh, hk⟩ := HQx.out.head.put_w (.slice A' m9 c')
          refine ⟨rfl, footQ g A A' F7, ⟨Ar, cr, d, A, c, A', c', F7, HQx.out.rowed (by rw [hm9]; exact hh) hk (HQx.out.row.head HQx.out.head hk) (hrow.out.head HQx.out.head hk).zero, rfl⟩, ?_, ?_⟩
          · exact (((Kept.fresh (S := footQ g A A2 Fd) (HB5.out.drew)).trans HK7.out (fun b q => .inl (.inr (.inr (.inr q))))).trans (Kept.fresh (S := fun _ => False) hBx.out) (fun b q => q.elim)).trans hk (fun b q => .inl (.inl q))
          · rintro b (q | q | q | q)
            · exact .inl (.inl q)
            · exact .inl (.inr (.inl q))
            · have := (hrow.out.lt b q).1; exact .inr (by omega)
            · rcases HF7.out b q with q | q
              · exact .inl (.inr (.inr (.inr q)))
              · exact .inr (Nat.le_trans HB5.out.drew.size q)
end Go.Proofs.Ytegacggkdjgdiaa
