/- Whether a patch changes nothing: the program's Idle and the document's. -/
import Derived.Test.YtkldiofleepkfaaDQ
import Derived.Laws.Strings
set_option linter.unusedVariables false
set_option linter.unusedSimpArgs false
set_option maxRecDepth 100000
namespace Go.Proofs.Ytkldiofleepkfaa
open Go.RowKit

theorem info24 : (Try.prog.info? 32).map (·.size) = some 3 := by kernel_rfl
set_option maxRecDepth 100000 in
set_option maxHeartbeats 1000000 in
theorem cut_any (bl : Int) (A : Option Addr) (c : Nat) (l : List Int) (f t : Nat) (w : World) (hb : Bts w w.heap.size A l) (hf : f < t) (ht : t ≤ l.length) (hc : l.length ≤ c) :
    Calls Try.prog 65 #[.int .i64 bl, .slice A l.length c, .int .i64 (f : Int), .int .i64 (t : Int)] w fun e w' => e = .returned (cutP bl l f t).v ∧ Below w.heap.size w w' := by
  obtain ⟨b, off, rfl, hbb, _⟩ := hb.at_ (show f < l.length by omega)
  have hbb0 := below_alloc1 w (.cells #[.int .i64 0, .int .i64 0, .string { data := #[] }] 32)
  have htx := fun c' => text_part (hb.below hbb0) f t c' hf ht 30 Try.underlying30

  have h1 : (f : Int) ≤ (t : Int) := by omega
  have h2 : (t : Int) ≤ (c : Int) := by omega
  have h3 : (0 : Int) ≤ (f : Int) := by omega
  go_enter Try.func65, Try.ntmps65
  go_wp2
  refine bodyPost_ret (v := (cutP bl l f t).v) ?_ rfl ⟨rfl, below_alloc1 w _⟩
  exact results_cell_row rfl _ _ w.heap.size 32 (cutP bl l f t).cs.toArray (0, 0) _ rfl (heap_alloc_new w _) Try.underlying32 rfl info24

section
variable {w w' : World} {B B' : Nat} {A : Option Addr} {l : List Pt}
end

def undoP (l : List Int) (p : Pt) : Pt := cutP p.b l p.o.toNat (p.o.toNat + p.s.size)
theorem undo_right {l : List Int} {p : Pt} (hl : l.length = 32) (hp : p.right = true) : (undoP l p).right = true := by
  obtain ⟨h1, h2, h3, h4, h5, h6⟩ := Pt.right_out hp
  exact cutP_ok p.b l _ _ h1 h2 (by omega) (by omega) (by omega)
theorem Pt.cs_one (p : Pt) : p.cs.toArray.all (·.oneCell') = true := by simp [Pt.cs, Value.oneCell']
def zeroP : Pt := ⟨0, 0, ⟨#[]⟩⟩

/-- one step of a drawn region: a store of a whole struct -/
theorem step_store_row {P : Program} {ops : Array Oper} {o : Oper} {a : Act} {w : World} {K : Act → World → Prop} {Q : Exit → Act → World → Prop} {E : Prop} (hgd : o.guard = none) (ty : TypeId) (x y : Operand) (ho : o.op = .store ty x y)
    (g : Nat) (cells : Array Value) (hx : a.eval x = .pointer (some ⟨g, 0, none⟩)) (hy : a.eval y = .agg cells)
    (t : TypeId) (old : Array Value) (hg : w.heap[g]? = some (.cells old t (0, 0))) (hi : (P.info? ty).map (·.size) = some cells.size)
    (hold : old.size = cells.size) (h1 : cells.all (·.oneCell') = true)
    (h : K (a.put o.dst undef) (w.setRow g cells)) : if Region.wanted o (yielded ops a.tmps) = true then Oper.wp P o a w K Q else E := by
  have hw : Region.wanted o (yielded ops a.tmps) = true := by simp [Region.wanted, hgd]
  rw [if_pos hw]
  exact wp_store_row ty x y ho g cells hx hy t old hg hi hold h1 h

set_option maxRecDepth 100000 in
set_option linter.unusedSimpArgs false in
set_option maxHeartbeats 1000000 in
theorem undo_yes (A : Option Addr) (c : Nat) (l : List Int) (p : Pt) (w : World) (hb : Bts w w.heap.size A l) (hl : l.length = 32) (hc : 32 ≤ c) (hr : p.right = true) :
    Calls Try.prog 55 #[.slice A 32 c, p.v] w fun e w' => e = .returned (.tuple #[(undoP l p).v, .int .i64 0]) ∧ Below w.heap.size w w' := by
  obtain ⟨p1, p2, p3, p4, p5, p6⟩ := Pt.right_out hr
  have hps : p.s.size ≤ 1000 := by omega
  have R := Lib.hid (fun w => right_yes p w hr)
  have E := Lib.hid (fun W => end_any p W p3 p4 hps)
  have HT := Lib.hid (fun w1 hB => @Boxed.two w w1 p zeroP hB)
  have HD : Hid (∀ W, St2 w p zeroP W → St2 w p zeroP W.drew) := fun W h => h.drew
  have HC : Hid (∀ W, St2 w p zeroP W → W.cell? ⟨w.heap.size, 0, none⟩ = some (.int .i64 p.b) ∧ W.cell? ⟨w.heap.size, 1, none⟩ = some (.int .i64 p.o) ∧ W.cell? ⟨w.heap.size, 2, none⟩ = some (.string p.s)) := fun W h => h.2.1.cells
  have HN := Lib.hid (fun W W' => @St2.next w W W' p zeroP)
  have C : Hid (∀ W, St2 w p zeroP W → Calls Try.prog 65 #[.int .i64 p.b, .slice A 32 c, .int .i64 (p.o.toNat : Int), .int .i64 (p.o + p.s.size)] W fun e w' => e = .returned (undoP l p).v ∧ Below W.heap.size W w') := by
    intro W h
    have := cut_any p.b A c l p.o.toNat (p.o.toNat + p.s.size) W ((hb.below h.1).more h.1.size) (by omega) (by omega) (by omega)
    rw [hl, show ((p.o.toNat + p.s.size : Nat) : Int) = p.o + p.s.size by omega] at this
    exact this
  have HL : Hid (∀ W, St2 w p zeroP W → (W.setRow (w.heap.size + 1) (undoP l p).cs.toArray).cell? ⟨w.heap.size, 0, none⟩ = some (.int .i64 p.b) ∧ (W.setRow (w.heap.size + 1) (undoP l p).cs.toArray).cell? ⟨w.heap.size, 1, none⟩ = some (.int .i64 p.o) ∧ (W.setRow (w.heap.size + 1) (undoP l p).cs.toArray).cell? ⟨w.heap.size, 2, none⟩ = some (.string p.s)) := by
    intro W h
    have hk : Boxed (W.setRow (w.heap.size + 1) (undoP l p).cs.toArray) w.heap.size p := BlkIs.other h.2.1 (by omega) _
    exact hk.cells
  clear hb hl hr
  obtain ⟨b, o, s⟩ := p
  obtain ⟨n, rfl⟩ := Int.eq_ofNat_of_zero_le p3
  simp only [Int.toNat_natCast] at *
  unfold Pt.v at *
  simp only [Pt.cs] at *
  go_enter Try.func55, Try.ntmps55
  go_wp2_with fail
  refine (R.out _).mono ?_
  rintro e w1 ⟨rfl, hB1⟩
  have HS := Lib.hid (HT.out _ (by simpa [zeroP] using hB1))
  replace HS := Lib.hid (HD.out _ HS.out)
  have X := Lib.hid (HC.out _ HS.out)
  clear hB1
  go_wp2_with fail
  refine wp_region_held_drew (S := (fun W =>
      W.cell? ⟨w.heap.size, 0, none⟩ = some (.int .i64 b) ∧ W.cell? ⟨w.heap.size, 1, none⟩ = some (.int .i64 (n : Int)) ∧ W.cell? ⟨w.heap.size, 2, none⟩ = some (.string s))) (by kernel_rfl) (X.out) (fun hHeld => ?_)
  refine takeH (i := 0) (some 15) (v := ?_) rfl rfl (by kernel_rfl) (by kernel_rfl) (by kernel_rfl) (fun _ _ _ h => h) (by rfl) ?_ (by assumption) ?_
  rotate_left
  · (intro w hSw; (try dsimp only at hSw); go_simp; try with_reducible rfl)
  simp only [Act.put, List.setIfInBounds_toArray, List.set_cons_zero, List.set_cons_succ]
  refine takeH (i := 1) (some 16) (v := ?_) rfl rfl (by kernel_rfl) (by kernel_rfl) (by kernel_rfl) (fun _ _ _ h => h) (by rfl) ?_ (by assumption) ?_
  rotate_left
  · (intro w hSw; (try dsimp only at hSw); go_simp; try with_reducible rfl)
  simp only [Act.put, List.setIfInBounds_toArray, List.set_cons_zero, List.set_cons_succ]
  refine takeH (i := 2) (some 17) (v := ?_) rfl rfl (by kernel_rfl) (by kernel_rfl) (by kernel_rfl) (fun _ _ _ h => h) (by rfl) ?_ (by assumption) ?_
  rotate_left
  · (intro w hSw; (try dsimp only at hSw); go_simp; try with_reducible rfl)
  simp only [Act.put, List.setIfInBounds_toArray, List.set_cons_zero, List.set_cons_succ]
  refine takeH (i := 3) (some 18) (v := ?_) rfl rfl (by kernel_rfl) (by kernel_rfl) (by kernel_rfl) (fun _ _ _ h => h) (by rfl) ?_ (by assumption) ?_
  rotate_left
  · (intro w hSw; (try dsimp only at hSw); go_simp; try with_reducible rfl)
  simp only [Act.put, List.setIfInBounds_toArray, List.set_cons_zero, List.set_cons_succ]
  refine takeH (i := 4) (some 19) (v := ?_) rfl rfl (by kernel_rfl) (by kernel_rfl) (by kernel_rfl) (fun _ _ _ h => h) (by rfl) ?_ (by assumption) ?_
  rotate_left
  · (intro w hSw; (try dsimp only at hSw); go_simp; try with_reducible rfl)
  simp only [Act.put, List.setIfInBounds_toArray, List.set_cons_zero, List.set_cons_succ]
  refine takeH (i := 5) (some 20) (v := ?_) rfl rfl (by kernel_rfl) (by kernel_rfl) (by kernel_rfl) (fun _ _ _ h => h) (by rfl) ?_ (by assumption) ?_
  rotate_left
  · (intro w hSw; (try dsimp only at hSw); go_simp; try with_reducible rfl)
  simp only [Act.put, List.setIfInBounds_toArray, List.set_cons_zero, List.set_cons_succ]
  refine wpAnyH_ready (rs := [6]) (by kernel_rfl) (by simp) ?_
  refine AllReadyH.cons rfl (fun K hK => ?_) AllReadyH.nil
  go_simp
  ((with_reducible refine (E.out _).mono ?_); rintro e w3 ⟨rfl, hB3⟩; replace HS := Lib.hid (HN.out _ _ HS.out hB3); replace X := Lib.hid (HC.out _ HS.out))
  refine hK _ _ (X.out) (fun hHeld => ?_)
  clear hK K
  try simp only [Act.put, List.setIfInBounds_toArray, List.set_cons_zero, List.set_cons_succ]
  refine wpAnyH_ready (rs := [7]) (by kernel_rfl) (by simp) ?_
  refine AllReadyH.cons rfl (fun K hK => ?_) AllReadyH.nil
  go_simp
  (refine (C.out _ HS.out).mono ?_; rintro e w3 ⟨rfl, hB3⟩; replace HS := Lib.hid (HN.out _ _ HS.out hB3); replace X := Lib.hid (HC.out _ HS.out))
  refine hK _ _ (X.out) (fun hHeld => ?_)
  clear hK K
  try simp only [Act.put, List.setIfInBounds_toArray, List.set_cons_zero, List.set_cons_succ]
  refine wpAnyH_ready (rs := [8]) (by kernel_rfl) (by simp) ?_
  refine AllReadyH.cons rfl (fun K hK => ?_) AllReadyH.nil
  refine step_store_row rfl 32 (.tmp 4) (.tmp 22) rfl (w.heap.size + 1) (undoP l ⟨b, n, s⟩).cs.toArray rfl rfl 32 zeroP.cs.toArray HS.out.2.2 info24 rfl (Pt.cs_one _) ?_
  refine hK _ _ (HL.out _ HS.out) (fun hHeld => ?_)
  clear hK K
  try simp only [Act.put, List.setIfInBounds_toArray, List.set_cons_zero, List.set_cons_succ]
  refine takeH (i := 9) (some 5) (v := ?_) rfl rfl (by kernel_rfl) (by kernel_rfl) (by kernel_rfl) (fun _ _ _ h => h) (by rfl) ?_ (by assumption) ?_
  rotate_left
  · (intro w hSw; (try dsimp only at hSw); go_simp; try with_reducible rfl)
  simp only [Act.put, List.setIfInBounds_toArray, List.set_cons_zero, List.set_cons_succ]
  refine wpAnyH_done (by kernel_rfl) ?_ _
  go_wp2
  have hh := setRow_heap _ (w.heap.size + 1) zeroP.cs.toArray (undoP l ⟨b, n, s⟩).cs.toArray 32 (0, 0) HS.out.2.2
  refine bodyPost_ret (v := .tuple #[(undoP l ⟨b, n, s⟩).v, .int .i64 0]) ?_ rfl ⟨rfl, below_setRow HS.out.1 (by omega) _⟩
  exact results_cell_row_tmp rfl _ _ (w.heap.size + 1) 32 (undoP l ⟨b, n, s⟩).cs.toArray (0, 0) _ rfl hh Try.underlying32 rfl info24 _ rfl
theorem toList_iff (a b : ByteArray) : (a.toList = b.toList) = (a = b) := by
  rw [ByteArray.toList_eq, ByteArray.toList_eq]
  apply propext
  constructor
  · intro h
    have : a.data = b.data := Array.ext' h
    cases a; cases b; simp_all
  · intro h; rw [h]
set_option maxRecDepth 100000 in
theorem idle_yes (A : Option Addr) (c : Nat) (l : List Int) (p : Pt) (w : World) (hb : Bts w w.heap.size A l) (hl : l.length = 32) (hc : 32 ≤ c) (hr : p.right = true) :
    Calls Try.prog 39 #[.slice A 32 c, p.v] w fun e w' => e = .returned (.bool (decide ((undoP l p).s = p.s))) ∧ Below w.heap.size w w' := by
  have U := Lib.hid (undo_yes A c l p (w.alloc (.cells p.cs.toArray 32)) ((hb.below (below_alloc1 w _)).more (by simp)) hl hc hr)
  have HT : Hid (∀ w1, Below (w.heap.size + 1) (w.alloc (.cells p.cs.toArray 32)) w1 → St1 w p w1) := fun w1 h => (St1.start w p).next (by simpa using h)
  obtain ⟨q, hq⟩ : ∃ q, q = undoP l p := ⟨_, rfl⟩
  have hqb : Hid (q.b = p.b ∧ q.o = p.o) := by
    unfold Hid
    rw [hq]
    obtain ⟨p1, p2, p3, _⟩ := Pt.right_out hr
    exact ⟨rfl, by simp only [undoP, cutP]; omega⟩
  rw [← hq] at U ⊢
  clear hb hl hc hr hq
  obtain ⟨b, o, s⟩ := p
  obtain ⟨b', o', s'⟩ := q
  obtain ⟨rfl, rfl⟩ := hqb.out
  unfold Pt.v at *
  simp only [Pt.cs] at *
  go_enter Try.func39, Try.ntmps39
  go_wp2_with fail
  refine U.out.mono ?_
  rintro e w1 ⟨rfl, hB1⟩
  have t := Lib.hid (HT.out _ (by simpa using hB1))
  have t2 : St1 w ⟨b', o', s⟩ (w1.alloc (.cells #[.int .i64 b', .int .i64 o', .string s'] 32)) := t.out.next (below_alloc1 _ _)
  obtain ⟨d0, d1, d2⟩ := t2.2.cells
  simp only at d0 d1 d2
  clear hB1
  go_wp2
  all_goals go_ret
  all_goals refine ⟨ret_bool ?_, t2.1⟩
  all_goals simp_all [toList_iff]
theorem toList_beq (a b : ByteArray) : (a.toList == b.toList) = decide (a = b) := by
  have := toList_iff a b
  by_cases h : a = b
  · subst h; simp
  · have h2 : ¬ a.toList = b.toList := by rw [this]; exact h
    simp [h, h2]
theorem convert_empty (w : World) (A : Option Addr) (c : Nat) : (convert 30 9 (.slice A 0 c)).run Try.prog w = .ok (.string (strOfNums [])) w := by
  rw [run_convert_bytes_string w 30 9 5 _ 0 c Try.underlying30 Try.underlying5 Try.underlying9]
  cases A <;> simp [Conv.bytesToString, loadCells]
  all_goals rfl
theorem Bts.text {w : World} {B : Nat} {A : Option Addr} {l : List Int} (h : Bts w B A l) (c n : Nat) (hn : n = l.length) : (convert 30 9 (.slice A n c)).run Try.prog w = .ok (.string (strOfNums l)) w := by
  subst hn
  cases l with
  | nil => exact convert_empty w A c
  | cons x l =>
    obtain ⟨b, off, rfl, _, hc⟩ := h.2 (by simp)
    exact run_convert_bytes_arg w 30 5 Try.underlying30 Try.underlying5 b off _ c (x :: l) rfl hc 9 Try.underlying9

theorem strOf_inj {a b : List Int} (ha : AllB a) (hb : AllB b) : (strOfNums a = strOfNums b) = (a = b) := by
  apply propext
  constructor
  · intro h
    rw [← sb_strOf a ha, ← sb_strOf b hb, h]
  · intro h; rw [h]
theorem undo_sb {l : List Int} {p : Pt} (ha : AllB l) : sb (undoP l p).s = part l p.o.toNat (p.o.toNat + p.s.size) := sb_strOf _ (part_all ha _ _)
/-- a patch changes nothing just if what would take it back is it -/
theorem idle_iff {l : List Int} {p : Pt} (hp : p.right = true) (hl : l.length = 32) (ha : AllB l) : ((undoP l p).s = p.s) = (put l p = l) := by
  obtain ⟨_, _, h3, h4, h5, h6⟩ := Pt.right_out hp
  have hpl := length_part l p.o.toNat (p.o.toNat + p.s.size) (by omega)
  apply propext
  constructor
  · intro h
    have h1 : part l p.o.toNat (p.o.toNat + p.s.size) = sb p.s := by rw [← undo_sb ha, h]
    refine ext_nth (by rw [length_put hp hl, hl]) fun i _ => ?_
    rw [nth_put hp hl]
    split
    · next hi => rw [← h1, nth_part _ _ _ _ (by omega), show p.o.toNat + (i - p.o.toNat) = i by omega]
    · rfl
  · intro h
    refine sb_inj ?_
    rw [undo_sb ha]
    refine ext_nth (by rw [hpl, length_sb]; omega) fun i hi => ?_
    rw [hpl] at hi
    have := nth_put hp hl (p.o.toNat + i)
    rw [h, if_pos (by omega), show p.o.toNat + i - p.o.toNat = i by omega] at this
    rw [nth_part _ _ _ _ (by omega), this]

end Go.Proofs.Ytkldiofleepkfaa
