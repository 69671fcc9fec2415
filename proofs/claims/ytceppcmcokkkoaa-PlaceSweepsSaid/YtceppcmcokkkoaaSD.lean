/- Contract of once: each block where it comes first, and how many times. -/
import Derived.Test.YtceppcmcokkkoaaSC
import Derived.Deep.WholeRow
namespace Go.Proofs.Ytceppcmcokkkoaa
open Go.RowKit

def zero70 : Array Value := (List.replicate 1024 (Value.int .i64 0)).toArray
theorem info70 : (Try.prog.info? 70).map (fun i => (i.zero, i.size)) = some (some (.agg zero70), 1024) := by kernel_rfl
/-- how many times each -/
def timesG (N : Nat) (p : List Nat) : List Value := (List.range N).map fun x => .int .i64 ((p.count x : Nat) : Int)
theorem length_timesG (N : Nat) (p : List Nat) : (timesG N p).length = N := by simp [timesG]
theorem timesG_at (N : Nat) (p : List Nat) (x : Nat) (h : x < N) : (timesG N p)[x]? = some (.int .i64 ((p.count x : Nat) : Int)) := by
  rw [List.getElem?_eq_getElem (by rw [length_timesG]; exact h)]
  simp [timesG]
theorem timesG_nil (N : Nat) : timesG N [] = List.replicate N (Value.int .i64 0) := by
  apply List.ext_getElem
  · simp [timesG]
  · intro i h1 h2; simp [timesG]
theorem timesG_snoc (N : Nat) (p : List Nat) (x : Nat) : (timesG N p).set x (.int .i64 ((p.count x + 1 : Nat) : Int)) = timesG N (p ++ [x]) := by
  apply List.ext_getElem
  · simp [timesG]
  · intro i h1 h2
    rw [List.getElem_set]
    by_cases e : x = i
    · subst e; simp [timesG]
    · rw [if_neg e]
      simp [timesG, List.count_append, List.count_cons, e]
theorem timesG_one (N : Nat) (p : List Nat) : ∀ u ∈ timesG N p, u.oneCell' = true := by
  intro u hu
  obtain ⟨x, _, rfl⟩ := List.mem_map.1 hu
  rfl
def timesV (p : List Nat) : List Value := timesG 1024 p
theorem length_timesV (p : List Nat) : (timesV p).length = 1024 := length_timesG _ _
theorem timesV_at (p : List Nat) (x : Nat) (h : x < 1024) : (timesV p)[x]? = some (.int .i64 ((p.count x : Nat) : Int)) := timesG_at _ _ _ h
theorem timesV_nil : timesV [] = List.replicate 1024 (Value.int .i64 0) := timesG_nil _
theorem timesV_snoc (p : List Nat) (x : Nat) : (timesV p).set x (.int .i64 ((p.count x + 1 : Nat) : Int)) = timesV (p ++ [x]) := timesG_snoc _ _ _
theorem timesV_one (p : List Nat) : ∀ u ∈ timesV p, u.oneCell' = true := timesG_one _ _
theorem BlkIs.range {w : World} {g : Nat} {t : TypeId} {l : List Value} (h : BlkIs w g t l) : w.rangeAt g 0 l := fun j v hv => by
  rw [Nat.zero_add, h.cell]; exact hv
theorem BlkIs.there {w : World} {g : Nat} {t : TypeId} {l : List Value} (h : BlkIs w g t l) (n : Nat) (hn : n ≤ l.length) : w.there g 0 n := fun j hj => by
  rw [Nat.zero_add, h.cell, List.getElem?_eq_getElem (by omega)]
  exact ⟨rfl, h.frozen _⟩
theorem BlkIs.kept {w w' : World} {g : Nat} {t : TypeId} {l : List Value} {row : Option Nat} (h : BlkIs w g t l) (hg : w.grownBy w' row) (hne : some g ≠ row) : BlkIs w' g t l := by
  unfold BlkIs at h ⊢
  rw [hg.block g (Array.getElem?_eq_some_iff.1 h).1 hne]
  exact h
theorem grownBy_setCells (b : Nat) : ∀ (vs : List Value) (o : Nat) (w w' : World), w.grownBy w' (some b) → w.grownBy (w'.setCells b o vs) (some b)
  | [], _, _, _, h => h
  | v :: r, o, w, w', h => by
    refine grownBy_setCells b r (o + 1) w _ ?_
    refine ⟨h.os, h.tape, h.output, by have := h.size; simpa [World.setCell] using this, fun k hk hne => ?_⟩
    rw [← h.block k hk hne]
    have : k ≠ b := fun e => hne (by rw [e])
    simp [World.setCell, Array.getElem?_modify]
    intro e
    exact absurd e.symm this

theorem nth_nats (q : List Nat) (k : Nat) (h : k < q.length) : nth (natsI q) k = ((el q k : Nat) : Int) := by
  rw [nth_lt (by rw [length_natsI]; exact h), el_lt h]
  simp [natsI]
theorem take_el (q : List Nat) (k : Nat) (h : k < q.length) : q.take (k + 1) = q.take k ++ [el q k] := by
  rw [List.take_succ_eq_append_getElem h, el_lt h]
theorem dd_len (q : List Nat) : (dd q).length ≤ q.length := by
  induction q using snocInd with
  | h0 => simp [dd]
  | h1 l x ih =>
    rw [dd_snoc]
    split
    · simp; omega
    · simp; omega

theorem results_tmp_cell {fn : Func} {p u : Tmp} {ty : TypeId} (h : fn.results = #[.tmp u, .cell p ty]) (tmps : Array Value) (P : Program) (w : World) :
    (results fn tmps).run P w = ((asAddr (tmps.getD p undef)).run P w).andThen fun a w₁ => ((loadVar ty a).run P w₁).andThen fun v w₂ => .ok (.tuple #[tmps.getD u undef, v]) w₂ := by
  simp only [results, h]
  simp [Sem.run_bind, Result.andThen]

def OnceSays (w : World) (q : List Nat) (e : Ending) (w' : World) : Prop :=
  ∃ v, e = .returned (.tuple #[v, .agg (timesV q).toArray]) ∧ w'.ownsRow w.heap.size 3 1 v (dd q).length (natsV (dd q)) ∧ Below w.heap.size w w'

set_option maxRecDepth 100000 in
set_option maxHeartbeats 2000000 in
theorem once_any (A : Option Addr) (c n : Nat) (q : List Nat) (w : World) (hn : n = q.length) (hl : q.length ≤ 1000) (hq : ∀ x ∈ q, x < 1024) (hi : Ints w w.heap.size A (natsI q)) :
    Calls Try.prog 53 #[.slice A n c] w (OnceSays w q) := by
  subst hn
  obtain ⟨hz, hs⟩ := zero_of_info (P := Try.prog) info70
  obtain ⟨i0, hi0, hz0, hz1, hz2⟩ := info_parts info3
  obtain ⟨Z, hZ⟩ : ∃ Z, Z = zero70 := ⟨_, rfl⟩
  rw [← hZ] at hz
  have HZ := Lib.hid hZ
  have HI := Lib.hid hi
  have HQ := Lib.hid hq
  have HS := Lib.hid hs
  have Hi0 := Lib.hid hi0
  clear hZ hi hq hs
  go_enter Try.func53, Try.ntmps53
  go_wp2_with fail
  go_loopw [4, 10] (fun v i wr => ∃ k : Nat, k ≤ q.length ∧ i = .int .i64 k ∧ wr.ownsRow (w.heap.size + 2) 3 1 v (dd (q.take k)).length (natsV (dd (q.take k))) ∧ BlkIs wr (w.heap.size + 1) 70 (timesV (q.take k)) ∧ BlkIs wr w.heap.size 70 Z.toList ∧ Below w.heap.size w wr ∧ w.heap.size + 2 ≤ wr.heap.size) (fun _ i _ => q.length - (intOf i).toNat)
  case atStart =>
    have hsz1 : (w.alloc (.cells Z 70)).heap.size = w.heap.size + 1 := by simp
    have hzl : Z.toList = timesV [] := by rw [HZ.out, timesV_nil]; rfl
    have hb1 : BlkIs ((w.alloc (.cells Z 70)).alloc (.cells Z 70)) (w.heap.size + 1) 70 Z.toList := by
      have := heap_alloc_new (w.alloc (.cells Z 70)) (.cells Z 70)
      rw [hsz1] at this
      unfold BlkIs
      rw [Array.toArray_toList]
      exact this
    have hb0 : BlkIs ((w.alloc (.cells Z 70)).alloc (.cells Z 70)) w.heap.size 70 Z.toList := by
      have := heap_alloc_new w (.cells Z 70)
      unfold BlkIs
      rw [Array.toArray_toList, heap_alloc_old _ _ (by simp)]
      exact this
    refine ⟨0, Nat.zero_le _, rfl, World.ownsRow_nil _ _ _ _, ?_, hb0, ((Below.refl _ _).alloc (Nat.le_refl _) _).alloc (by simp) _, by simp⟩
    rw [List.take_zero, ← hzl]
    exact hb1
  case round =>
    obtain ⟨k, hk, rfl, hown, hblk, hblk0, hB, hsz⟩ := hrel
    rename World => wr
    by_cases hlt : k < q.length
    · have hlti : (k : Int) < (q.length : Int) := by omega
      have hk0 : (0 : Int) ≤ (k : Int) := by omega
      obtain ⟨b, off, rfl, hb, hc⟩ := HI.out.at_ (k := k) (by rw [length_natsI]; exact hlt)
      rw [nth_nats q k hlt] at hc
      have hck := (hB.cell hb).trans hc
      have hx := HQ.out (el q k) (by rw [el_lt hlt]; exact List.getElem_mem _)
      have htk := take_el q k hlt
      have hddk := dd_snoc (q.take k) (el q k)
      have hddm := dd_mem (q.take k) (el q k)
      have hddl := dd_len (q.take k)
      rw [List.length_take, Nat.min_eq_left hk] at hddl
      obtain ⟨p, hp⟩ : ∃ p, p = q.take k := ⟨_, rfl⟩
      obtain ⟨x, hxe⟩ : ∃ x, x = el q k := ⟨_, rfl⟩
      rw [← hp] at htk hown hblk hddk hddm hddl
      rw [← hxe] at htk hck hx hddk hddm
      have hcell := hblk.cell x
      rw [timesV_at p x hx] at hcell
      have hfr := hblk.frozen x
      have hset := timesV_snoc p x
      have hcl : p.count x ≤ 1000 := by
        have := List.count_le_length (a := x) (l := p)
        have : p.length ≤ k := by rw [hp, List.length_take]; omega
        omega
      have hc0 : p.count x = 0 ↔ x ∉ p := List.count_eq_zero
      obtain ⟨cn, hcn⟩ : ∃ cn, cn = p.count x := ⟨_, rfl⟩
      rw [← hcn] at hcell hset hcl hc0
      have Htk := Lib.hid htk
      have Hset := Lib.hid hset
      have Hblk := Lib.hid hblk
      have Hblk0 := Lib.hid hblk0
      have hxi : (x : Int) < 1024 := by omega
      have hx0 : (0 : Int) ≤ (x : Int) := by omega
      have hci : (cn : Int) ≤ 1000 := by omega
      have hdl : (dd p).length ≤ 1000 := by omega
      clear hc htk hset hblk hblk0 hp hxe hcn hi0
      by_cases hz0' : cn = 0
      · have hxp : x ∉ dd p := fun h => (hc0.1 hz0') (hddm.1 h)
        rw [if_neg hxp] at hddk
        have Hdd := Lib.hid hddk
        subst hz0'
        clear hddk hddm hxp hc0 hcl
        have Hcell := Lib.hid hcell
        go_wp2_with (at_builtin; refine wpList_append_own _ rfl _ _ 22 rfl (w.heap.size + 2) 3 i0 (.int .i64 0) 1 8 Try.underlying22 Hi0.out hz0 hz1 hz2 rfl (by decide) _ _ _ rfl (hown.alloc _) ⟨wr.heap.size, 0, none⟩ 1 1 [.int .i64 (x : Int)] rfl rfl (cell_one_new _ _ _) (by simp [Value.oneCell']) (by unfold maxLen; omega) (by omega) (by simp; omega) ?_)
        intro v' w3 hown' hgrow _
        have hg3 : wr.grownBy w3 u4.ownBlock := ⟨hgrow.os, hgrow.tape, hgrow.output, by have := hgrow.size; simp at this; omega, fun j hj hne => (hgrow.block j (by simp; omega) hne).trans (heap_alloc_old _ _ hj)⟩
        have hob : ∀ j, u4.ownBlock = some j → w.heap.size + 2 ≤ j := fun j hj => (hown.lt j hj).1
        have hblk3 : BlkIs w3 (w.heap.size + 1) 70 (timesV p) := Hblk.out.kept hg3 (fun e => by have := hob _ e.symm; omega)
        have hblk03 : BlkIs w3 w.heap.size 70 Z.toList := Hblk0.out.kept hg3 (fun e => by have := hob _ e.symm; omega)
        have hB3 : Below w.heap.size w w3 := hB.grown hg3 (by omega) (fun j e => by have := hob _ e; omega)
        have hs3 : w.heap.size + 2 ≤ w3.heap.size := by have := hg3.size; omega
        have hcell3 : w3.cell? ⟨w.heap.size + 1, x, none⟩ = some (.int .i64 0) := by
          rw [hblk3.cell, ← Hblk.out.cell]; exact Hcell.out
        have hfr3 : w3.frozen? ⟨w.heap.size + 1, x, none⟩ = false := hblk3.frozen x
        clear hcell hfr
        have Hfin : Hid (BlkIs (w3.setCell ⟨w.heap.size + 1, x, none⟩ (.int .i64 1)) (w.heap.size + 1) 70 (timesV (q.take (k + 1)))) := by
          have := hblk3.set_ x (.int .i64 ((0 + 1 : Nat) : Int))
          rw [Hset.out, ← Htk.out] at this
          exact this
        have HG : Hid (w3.grownBy (w3.setCell ⟨w.heap.size + 1, x, none⟩ (.int .i64 1)) (some (w.heap.size + 1))) := grownBy_setCells (w.heap.size + 1) [.int .i64 1] x w3 w3 ⟨rfl, rfl, rfl, Nat.le_refl _, fun _ _ _ => rfl⟩
        have HB := Lib.hid (hB3.setCell (p := ⟨w.heap.size + 1, x, none⟩) (by show w.heap.size ≤ w.heap.size + 1; omega) (.int .i64 1))
        have HOwn : Hid ((w3.setCell ⟨w.heap.size + 1, x, none⟩ (.int .i64 1)).ownsRow (w.heap.size + 2) 3 1 v' (dd (q.take (k + 1))).length (natsV (dd (q.take (k + 1))))) := by
          rw [Htk.out, Hdd.out]
          unfold Hid
          have hk1 := hown'.kept HG.out (by
            cases hv : v'.ownBlock with
            | none => exact .inl rfl
            | some j => exact .inr (fun e => by have := (hown'.lt j hv).1; injection e with e; omega))
          simpa [natsV] using hk1
        have HB0 := Lib.hid (hblk03.kept HG.out (fun e => by injection e with e; omega))
        have HS3 : Hid (w.heap.size + 2 ≤ (w3.setCell ⟨w.heap.size + 1, x, none⟩ (.int .i64 1)).heap.size) := by
          have : (w3.setCell ⟨w.heap.size + 1, x, none⟩ (.int .i64 1)).heap.size = w3.heap.size := by simp [World.setCell]
          show _ ≤ _
          rw [this]; exact hs3
        clear hblk3 hblk03 hB3 hs3 hown' hgrow hg3 hob
        go_wp2
        go_roundw
        case rel => exact ⟨k + 1, by omega, by go_num, HOwn.out, Hfin.out, HB0.out, HB.out, HS3.out⟩
        case measure => simp [intOf]; omega
      · have hxp : x ∈ dd p := hddm.2 (by
          rcases Classical.em (x ∈ p) with h | h
          · exact h
          · exact absurd (hc0.2 h) hz0')
        rw [if_pos hxp] at hddk
        have Hdd := Lib.hid hddk
        have hcz : ((cn : Int) == 0) = false := by rw [beq_eq_false_iff_ne]; omega
        have hcz' : (cn == 0) = false := by rw [beq_eq_false_iff_ne]; omega
        clear hddk hddm hxp hc0 hcl
        have Hfin : Hid (BlkIs (wr.setCell ⟨w.heap.size + 1, x, none⟩ (.int .i64 ((cn + 1 : Nat) : Int))) (w.heap.size + 1) 70 (timesV (q.take (k + 1)))) := by
          have := Hblk.out.set_ x (.int .i64 ((cn + 1 : Nat) : Int))
          rw [Hset.out, ← Htk.out] at this
          exact this
        have HG : Hid (wr.grownBy (wr.setCell ⟨w.heap.size + 1, x, none⟩ (.int .i64 ((cn + 1 : Nat) : Int))) (some (w.heap.size + 1))) := grownBy_setCells (w.heap.size + 1) [.int .i64 ((cn + 1 : Nat) : Int)] x wr wr ⟨rfl, rfl, rfl, Nat.le_refl _, fun _ _ _ => rfl⟩
        have HB := Lib.hid (hB.setCell (p := ⟨w.heap.size + 1, x, none⟩) (by show w.heap.size ≤ w.heap.size + 1; omega) (.int .i64 ((cn + 1 : Nat) : Int)))
        have HOwn : Hid ((wr.setCell ⟨w.heap.size + 1, x, none⟩ (.int .i64 ((cn + 1 : Nat) : Int))).ownsRow (w.heap.size + 2) 3 1 u4 (dd (q.take (k + 1))).length (natsV (dd (q.take (k + 1))))) := by
          rw [Htk.out, Hdd.out]
          refine hown.kept HG.out ?_
          cases hv : u4.ownBlock with
          | none => exact .inl rfl
          | some j => exact .inr (fun e => by have := (hown.lt j hv).1; injection e with e; omega)
        have HB0 := Lib.hid (Hblk0.out.kept HG.out (fun e => by injection e with e; omega))
        have hs3 : w.heap.size + 2 ≤ (wr.setCell ⟨w.heap.size + 1, x, none⟩ (.int .i64 ((cn + 1 : Nat) : Int))).heap.size := by simpa [World.setCell] using hsz
        have HS3 := Lib.hid hs3
        clear hs3
        go_wp2
        go_roundw
        case rel => exact ⟨k + 1, by omega, by go_num, HOwn.out, Hfin.out, HB0.out, HB.out, HS3.out⟩
        case measure => simp [intOf]; omega
    · have hlti : ¬ (k : Int) < (q.length : Int) := by omega
      obtain rfl : k = q.length := by omega
      rw [List.take_length] at hown hblk
      have HB := Lib.hid hB
      have HO := Lib.hid hown
      have hr : wr.rangeAt (w.heap.size + 1) 0 (timesV q) := hblk.range
      have ht : wr.there w.heap.size 0 1024 := hblk0.there 1024 (by rw [HZ.out]; simp [zero70])
      have hu := Try.underlying70
      have hi : (Try.prog.info? 70).map (·.size) = some (timesV q).length := by rw [HS.out, length_timesV]
      have h1c := timesV_one q
      have hl70 := length_timesV q
      obtain ⟨T, hT⟩ : ∃ T, T = timesV q := ⟨_, rfl⟩
      rw [← hT] at hr hi h1c hl70
      have HT := Lib.hid hT
      clear hblk hblk0 hB hown hT
      go_wp2_with fail
      go_region_held3 (fun w' => w'.rangeAt (w.heap.size + 1) 0 T ∧ w'.there w.heap.size 0 1024) (go_keep_ranges) (fail)
      have hg : wr.grownBy (wr.drew.setCells w.heap.size 0 T) (some w.heap.size) := grownBy_setCells _ _ _ _ _ ⟨rfl, rfl, rfl, Nat.le_refl _, fun _ _ _ => rfl⟩
      have hld := run_loadVar_mid (P := Try.prog) (wr.drew.setCells w.heap.size 0 T) w.heap.size 0 70 T _ (World.rangeAt_setCells_same _ _ _ _ (by rw [hl70]; exact ht)) hu rfl hi
      have HX : Hid (OnceSays w q (.returned (.tuple #[u4, .agg T.toArray])) (wr.drew.setCells w.heap.size 0 T)) := by
        refine ⟨u4, by rw [HT.out], ?_, ?_⟩
        · refine own_mono (HO.out.kept hg ?_) (show w.heap.size ≤ w.heap.size + 2 by omega)
          cases hv : u4.ownBlock with
          | none => exact .inl rfl
          | some j => exact .inr (fun e => by have := (HO.out.lt j hv).1; injection e with e; omega)
        · exact HB.out.grown hg (by show w.heap.size ≤ wr.heap.size; omega) (fun j e => by injection e with e; omega)
      go_wp2
      refine bodyPost_ret (v := .tuple #[u4, .agg T.toArray]) ?_ rfl HX.out
      rw [results_tmp_cell rfl]
      simp [asAddr, Result.andThen, hld]
end Go.Proofs.Ytceppcmcokkkoaa
