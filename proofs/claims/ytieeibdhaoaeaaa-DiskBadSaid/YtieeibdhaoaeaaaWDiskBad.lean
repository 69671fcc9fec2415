/- DiskBad is true of whatever came in, and leaves its arguments as they are. Here: the walk of the law's text. -/
import Derived.Test.YtieeibdhaoaeaaaWDiskPlays
set_option linter.unusedVariables false
set_option linter.unusedSimpArgs false
namespace Go.Proofs.Ytieeibdhaoaeaaa
open Go.RowKit

theorem DeedsAt.to {w W : World} {A : Option Addr} {L : List Dd} (h : DeedsAt w A L) (hB : Below w.heap.size w W) : DeedsAt W A L := by
  rcases h with rfl | ⟨b, o, hA, hb, hr⟩
  · exact .inl rfl
  · exact .inr ⟨b, o, hA, Nat.lt_of_lt_of_le hb hB.size, fun j u hj => by rw [World.cell?_of_block (a := ⟨b, o + j, none⟩) (hB.block b hb)]; exact hr j u hj⟩
theorem DdIn.to {w W : World} {x : Dd} (h : DdIn w x) (hB : Below w.heap.size w W) : DdIn W x :=
  ⟨h.c0, h.pw, h.at_.kept (Kept.fresh (S := fun _ => False) hB) (fun _ q => q) (fun _ q => q)⟩
/-- the program's disk: of one block, if it is bad and what it reads as; and rows that lie beside it -/
def OneB (w wr : World) (d n c i : Nat) (b : Bool) (N : List Int) (X : List (Nat × Obj)) : Prop :=
  ∃ S F, Code wr d n S c F ∧ (S i).b = b ∧ (S i).now = N ∧ (∀ b, F b → w.heap.size ≤ b) ∧ (∀ p ∈ X, wr.heap[p.1]? = some p.2 ∧ ¬ F p.1) ∧ Below w.heap.size w wr
section
variable {w w1 w2 : World} {d n c i : Nat} {b : Bool} {N : List Int} {X : List (Nat × Obj)}
theorem OneB.below (H : OneB w w1 d n c i b N X) : Below w.heap.size w w1 := by
  obtain ⟨S, F, h1, h2, h3, h4, h5, h6⟩ := H
  exact h6
theorem OneB.side (H : OneB w w1 d n c i b N X) {p : Nat × Obj} (hp : p ∈ X) : w1.heap[p.1]? = some p.2 := by
  obtain ⟨S, F, h1, h2, h3, h4, h5, h6⟩ := H
  exact (h5 p hp).1
theorem OneB.next (H : OneB w w1 d n c i b N X) (hB : Below w1.heap.size w1 w2) : OneB w w2 d n c i b N X := by
  obtain ⟨S, F, h1, h2, h3, h4, h5, h6⟩ := H
  exact ⟨S, F, h1.fresh hB, h2, h3, h4, fun p hp => ⟨(hB.block _ (Array.getElem?_eq_some_iff.1 (h5 p hp).1).1).trans (h5 p hp).1, (h5 p hp).2⟩, h6.trans (hB.mono h6.size)⟩
theorem OneB.add (H : OneB w w1 d n c i b N X) (hB : Below w1.heap.size w1 w2) {o : Obj} (ho : w2.heap[w1.heap.size]? = some o) : OneB w w2 d n c i b N ((w1.heap.size, o) :: X) := by
  obtain ⟨S, F, h1, h2, h3, h4, h5, h6⟩ := H
  refine ⟨S, F, h1.fresh hB, h2, h3, h4, fun p hp => ?_, h6.trans (hB.mono h6.size)⟩
  rcases List.mem_cons.1 hp with rfl | hp
  · exact ⟨ho, fun q => by have := h1.lt _ q; simp at this⟩
  · exact ⟨(hB.block _ (Array.getElem?_eq_some_iff.1 (h5 p hp).1).1).trans (h5 p hp).1, (h5 p hp).2⟩
theorem OneB.went {F : Nat → Prop} {S' : Nat → Bk} {c' : Nat} {b' : Bool} {N' : List Int} (h4 : ∀ b, F b → w.heap.size ≤ b) (h5 : ∀ p ∈ X, w1.heap[p.1]? = some p.2 ∧ ¬ F p.1) (h6 : Below w.heap.size w w1)
    (hb : (S' i).b = b') (hN : (S' i).now = N') (hw : Went w1 w2 F (Code w2 d n S' c')) : OneB w w2 d n c' i b' N' X := by
  obtain ⟨F', q, hk, hf⟩ := hw
  refine ⟨S', F', q, hb, hN, fun b p => ?_, fun p hp => ?_, h6.trans (hk.below h4 h6.size)⟩
  · rcases hf b p with q | q
    · exact h4 b q
    · exact Nat.le_trans h6.size q
  · have hlt := (Array.getElem?_eq_some_iff.1 (h5 p hp).1).1
    refine ⟨(hk.block _ hlt (h5 p hp).2).trans (h5 p hp).1, fun q => ?_⟩
    rcases hf _ q with q | q
    · exact (h5 p hp).2 q
    · omega
theorem OneB.read (H : OneB w w1 d n c i b N X) (hi : i < n) (hc : c < 100000) :
    Calls Try.prog 20 #[.pointer (some ⟨d, 0, none⟩), .int .i64 (i : Int)] w1 fun e w' => e = .returned (.tuple #[.agg (bytesV N).toArray, .int .i64 0]) ∧ OneB w w' d n c i b N X := by
  have H' := H
  obtain ⟨S, F, h1, h2, h3, h4, h5, h6⟩ := H
  refine (cread h1 hi hc).mono ?_
  rintro e w' ⟨rfl, hB⟩
  rw [h3]
  exact ⟨rfl, H'.next hB⟩
theorem OneB.bad (H : OneB w w1 d n c i true N X) (hi : i < n) (s : List Int) :
    Calls Try.prog 17 #[.pointer (some ⟨d, 0, none⟩), .int .i64 (i : Int), secV s] w1 fun e w' => e = .returned (.int .i64 10) ∧ OneB w w' d n c i true N X := by
  have H' := H
  obtain ⟨S, F, h1, h2, h3, h4, h5, h6⟩ := H
  refine (cbad h1 hi h2 s).mono ?_
  rintro e w' ⟨rfl, hB⟩
  exact ⟨rfl, H'.next hB⟩
theorem OneB.heal (H : OneB w w1 d n c i b N X) (hi : i < n) :
    Calls Try.prog 23 #[.pointer (some ⟨d, 0, none⟩), .int .i64 (i : Int), .bool false] w1 fun e w' => e = .returned (.int .i64 0) ∧ OneB w w' d n c i false N X := by
  obtain ⟨S, F, h1, h2, h3, h4, h5, h6⟩ := H
  refine (cspoil h1 hi false).mono ?_
  rintro e w' ⟨rfl, hw⟩
  exact ⟨rfl, OneB.went h4 h5 h6 (by rw [upd_same]) (by rw [upd_same]; exact h3) hw⟩
theorem OneB.good (H : OneB w w1 d n c i false N X) (hi : i < n) (hc : c < 100000) {v : Int} (hv : 0 ≤ v ∧ v ≤ 255) :
    Calls Try.prog 17 #[.pointer (some ⟨d, 0, none⟩), .int .i64 (i : Int), secV (uniS v)] w1 fun e w' => e = .returned (.int .i64 0) ∧ OneB w w' d n (c + 1) i false (uniS v) X := by
  obtain ⟨S, F, h1, h2, h3, h4, h5, h6⟩ := H
  refine (cwrite h1 hi h2 (uniS_ok hv) hc).mono ?_
  rintro e w' ⟨rfl, hw⟩
  exact ⟨rfl, OneB.went h4 h5 h6 (by rw [upd_same]; exact h2) (by rw [upd_same]; simp [Bk.now]) hw⟩
theorem OwnB.spoil1 {r : Nat} (H : OwnB w w1 d r n c) (hi : i < n) :
    Calls Try.prog 23 #[.pointer (some ⟨d, 0, none⟩), .int .i64 (i : Int), .bool true] w1 fun e w' => ∃ N, e = .returned (.int .i64 0) ∧ N.length = 32 ∧ OneB w w' d n c i true N [] := by
  obtain ⟨S, F, h1, h2, h3, h4⟩ := H
  obtain ⟨F1, F2, q1, q2, q3, rfl⟩ := h1
  refine (cspoil q1 hi true).mono ?_
  rintro e w' ⟨rfl, hw⟩
  exact ⟨(S i).now, rfl, (q2.okS hi).2.1, OneB.went (fun b q => h3 b (.inl q)) (fun p hp => by cases hp) h4 (by rw [upd_same]) (by rw [upd_same]; rfl) hw⟩
theorem OwnB.spoil_out {r : Nat} (H : OwnB w w1 d r n c) {z : Int} (hi : ¬ (0 ≤ z ∧ z < n)) :
    Calls Try.prog 23 #[.pointer (some ⟨d, 0, none⟩), .int .i64 z, .bool true] w1 fun e w' => e = .returned (.int .i64 2) ∧ OwnB w w' d r n c := by
  have H' := H
  obtain ⟨S, F, h1, h2, h3, h4⟩ := H
  obtain ⟨F1, F2, q1, q2, q3, rfl⟩ := h1
  refine (cspoil_no q1 z hi true).mono ?_
  rintro e w' ⟨rfl, rfl⟩
  exact ⟨rfl, H'⟩
end
end Go.Proofs.Ytieeibdhaoaeaaa
namespace Go.Proofs.Ytieeibdhaoaeaaa.DiskBad
open Go.RowKit
set_option maxRecDepth 100000 in
set_option maxHeartbeats 4000000 in
theorem walk (m : Int) (A : Option Addr) (len cap : Nat) (L : List Dd) (x : Dd) (w : World) (hm : (Lit.int .u8 m).wf = true) (hL : L.length = len ∧ DeedsAt w A L ∧ ∀ x ∈ L, DdIn w x) (hx : DdIn w x) :
    Calls Try.prog 6 #[.int .u8 m, .slice A len cap, x.v] w fun e w' => e = .returned (.bool true) ∧ Below w.heap.size w w' := by
  obtain ⟨rfl, hA, hD⟩ := hL
  have hc := hx.c0
  clear hx
  obtain ⟨n, hn⟩ : ∃ n, n = (m % 8).toNat + 1 := ⟨_, rfl⟩
  obtain ⟨bx, hbx⟩ : ∃ bx, bx = w.heap.size := ⟨_, rfl⟩
  obtain ⟨w1, hw1⟩ : ∃ w1, w1 = w.alloc (.cells x.cs.toArray 41) := ⟨_, rfl⟩
  have Hw1 : Hid (w.alloc (.cells #[.int .i64 x.kind, .int .i64 x.i, .int .u8 x.c, .slice x.P x.pick.length x.pc, .bool x.bad] 41) = w1) := by rw [hw1]; rfl
  have X1 : InBox w1 bx x := by rw [hw1, hbx]; exact inBox_new w x
  have hbl : bx < w1.heap.size := by rw [hw1, hbx]; simp
  have B0 : Hid (Below w.heap.size w w1) := by rw [hw1]; exact below_alloc1 w _
  have Hbx := Lib.hid hbx
  have HX0 : Hid (∀ W, Below w1.heap.size w1 W → W.cell? ⟨bx, 1, none⟩ = some (.int .i64 x.i) ∧ W.cell? ⟨bx, 2, none⟩ = some (.int .u8 x.c)) := fun W hB => ⟨(X1.same (hB.block bx hbl)).1, (X1.same (hB.block bx hbl)).2.1⟩
  have PL : Hid (Calls Try.prog 12 #[.int .u8 m, .slice A L.length cap] w1 (Played w1 n)) := by
    rw [hn]; exact play_any w1 m (bounds_u8 hm) A cap L (hA.to B0.out) (fun y hy => (hD y hy).to B0.out)
  have LV : Hid (∀ w2 d r, OwnB w1 w2 d r n 60 → Calls Try.prog 13 #[] w2 fun e w' => e = .returned (.bool true) ∧ OwnB w1 w' d r n 60) := fun w1 d r h => h.live
  have SM : Hid (∀ w2 d r, OwnB w1 w2 d r n 60 → Calls Try.prog 14 #[.pointer (some ⟨d, 0, none⟩), .pointer (some ⟨r, 0, none⟩)] w2 fun e w' => e = .returned (.bool true) ∧ OwnB w1 w' d r n 60) := fun w1 d r h => h.same (by decide)
  have SX : Hid (∀ W, Calls Try.prog 18 #[.int .u8 x.c] W fun e w' => e = .returned (secV (uniS x.c)) ∧ Below W.heap.size W w') := fun W => sector_any x.c W
  unfold Dd.v
  clear hw1 hbl hbx X1 hA hD hm hn
  go_enter Try.func6, Try.ntmps6
  go_wp2_with fail
  rw [Hw1.out, ← Hbx.out]
  refine PL.out.mono ?_
  rintro e w2 ⟨d, r, rfl, h⟩
  have H1 := Lib.hid h
  clear h
  go_wp2_with fail
  refine (LV.out _ _ _ H1.out).mono ?_
  rintro e w3 ⟨rfl, h⟩
  have H2 := Lib.hid h
  clear h
  obtain ⟨x1, x2⟩ := HX0.out _ H2.out.below
  go_wp2_with fail
  clear x1 x2
  by_cases hi : 0 ≤ x.i ∧ x.i < n
  · obtain ⟨i, hie⟩ : ∃ i : Nat, x.i = (i : Int) := ⟨x.i.toNat, by omega⟩
    have hi' : i < n := by omega
    have HX := HX0
    rw [hie] at HX ⊢
    refine (H2.out.spoil1 hi').mono ?_
    rintro e u3 ⟨N, rfl, hN, h⟩
    have H3 := Lib.hid h
    have D3 := Lib.hid (OneB.below h)
    have RD0 : Hid (∀ W c b M X, c < 200 → OneB w1 W d n c i b M X → Calls Try.prog 20 #[.pointer (some ⟨d, 0, none⟩), .int .i64 (i : Nat)] W fun e w' => e = .returned (.tuple #[.agg (bytesV M).toArray, .int .i64 0]) ∧ OneB w1 w' d n c i b M X) := fun W c b M X hc H => H.read hi' (by omega)
    have WB : Hid (∀ W X, OneB w1 W d n 60 i true N X → Calls Try.prog 17 #[.pointer (some ⟨d, 0, none⟩), .int .i64 (i : Nat), secV (uniS x.c)] W fun e w' => e = .returned (.int .i64 10) ∧ OneB w1 w' d n 60 i true N X) := fun W X H => H.bad hi' _
    have SP : Hid (∀ W X, OneB w1 W d n 60 i true N X → Calls Try.prog 23 #[.pointer (some ⟨d, 0, none⟩), .int .i64 (i : Nat), .bool false] W fun e w' => e = .returned (.int .i64 0) ∧ OneB w1 w' d n 60 i false N X) := fun W X H => H.heal hi'
    have WG : Hid (∀ W X, OneB w1 W d n 60 i false N X → Calls Try.prog 17 #[.pointer (some ⟨d, 0, none⟩), .int .i64 (i : Nat), secV (uniS x.c)] W fun e w' => e = .returned (.int .i64 0) ∧ OneB w1 w' d n 61 i false (uniS x.c) X) := fun W X H => H.good hi' (by decide) hc
    have hN1 : Hid ((Try.prog.info? 36).map (·.size) = some (bytesV N).toArray.size) := by unfold Hid; rw [List.size_toArray, length_bytesV, hN]; exact size36
    have hN2 : Hid (32 = (bytesV N).toArray.size) := by unfold Hid; rw [List.size_toArray, length_bytesV, hN]
    have hN3 : Hid ((bytesV N).toArray.all (·.oneCell') = true) := all_oneCell_toArray (bytesV_one _)
    have hu : (uniS x.c).length = 32 := (uniS_ok hc).1
    have hU1 : Hid ((Try.prog.info? 36).map (·.size) = some (bytesV (uniS x.c)).toArray.size) := by unfold Hid; rw [List.size_toArray, length_bytesV, hu]; exact size36
    have hU2 : Hid (32 = (bytesV (uniS x.c)).toArray.size) := by unfold Hid; rw [List.size_toArray, length_bytesV, hu]
    have hU3 : Hid ((bytesV (uniS x.c)).toArray.all (·.oneCell') = true) := all_oneCell_toArray (bytesV_one _)
    have EQ1 : Hid (∀ (W : World) (o : Oper) (ev : Operand → Value), o.op = .binOp .eql 36 (.tmp 88) (.tmp 89) 36 → ev (.tmp 88) = .agg (bytesV N).toArray → ev (.tmp 89) = .agg (bytesV N).toArray → (execOp ev o).run Try.prog W = .ok (.value (.bool true)) W) := fun W o ev ho h1 h2 => by
      have := exec_eq (w := W) 36 36 _ _ ho Try.underlying36 N N h1 h2 hN hN (by kernel_rfl)
      rw [this]; simp
    have EQ2 : Hid (∀ (W : World) (o : Oper) (ev : Operand → Value), o.op = .binOp .eql 36 (.tmp 101) (.tmp 104) 36 → ev (.tmp 101) = .agg (bytesV (uniS x.c)).toArray → ev (.tmp 104) = .agg (bytesV (uniS x.c)).toArray → (execOp ev o).run Try.prog W = .ok (.value (.bool true)) W) := fun W o ev ho h1 h2 => by
      have := exec_eq (w := W) 36 36 _ _ ho Try.underlying36 (uniS x.c) (uniS x.c) h1 h2 hu hu (by kernel_rfl)
      rw [this]; simp
    have RDN : Hid (∀ W b X, OneB w1 W d n 60 i b N X → Calls Try.prog 20 #[.pointer (some ⟨d, 0, none⟩), .int .i64 (i : Nat)] W fun e w' => e = .returned (.tuple #[.agg (bytesV N).toArray, .int .i64 0]) ∧ OneB w1 w' d n 60 i b N X) := fun W b X H => RD0.out W 60 b N X (by decide) H
    have RDU : Hid (∀ W X, OneB w1 W d n 61 i false (uniS x.c) X → Calls Try.prog 20 #[.pointer (some ⟨d, 0, none⟩), .int .i64 (i : Nat)] W fun e w' => e = .returned (.tuple #[.agg (bytesV (uniS x.c)).toArray, .int .i64 0]) ∧ OneB w1 w' d n 61 i false (uniS x.c) X) := fun W X H => RD0.out W 61 false _ X (by decide) H
    obtain ⟨N1, hN1e⟩ : ∃ U, U = (bytesV N).toArray := ⟨_, rfl⟩
    obtain ⟨U, hUe⟩ : ∃ U, U = (bytesV (uniS x.c)).toArray := ⟨_, rfl⟩
    unfold secV at SX WB WG
    rw [← hN1e] at hN1 hN2 hN3 EQ1 RDN
    rw [← hUe] at hU1 hU2 hU3 EQ2 SX WB WG RDU
    clear h hN hc hu hN1e hUe RD0 LV SM PL
    obtain ⟨x1, x2⟩ := HX.out _ D3.out
    go_wp2_with fail
    refine (RDN.out _ _ _ H3.out).mono ?_
    rintro e t4 ⟨rfl, h⟩
    have R4 := Lib.hid h
    clear h
    go_wp2_with (refine wpList_store_row rfl 36 (.tmp 11) (.tmp 51) rfl t4.heap.size N1 rfl rfl 36 _ (heap_alloc_new t4 _) hN1.out hN2.out hN3.out ?_
                 generalize hW : World.setRow (t4.alloc (Obj.cells _ 36)) _ N1 = u4
                 have hB : Below t4.heap.size t4 u4 := by rw [← hW]; exact below_setRow (below_alloc1 t4 _) (Nat.le_refl _) _
                 have ho : u4.heap[t4.heap.size]? = some (.cells N1 36 (0, 0)) := by rw [← hW]; exact setRow_heap _ _ _ _ _ _ (heap_alloc_new t4 _)
                 have H4 := Lib.hid (OneB.add R4.out hB ho)
                 have D4 := Lib.hid (OneB.below H4.out)
                 obtain ⟨x1, x2⟩ := HX.out _ D4.out
                 clear hW hB ho)
    clear x1 x2
    have X4d : Hid (u4.drew.cell? ⟨bx, 1, none⟩ = some (.int .i64 (i : Int)) ∧ u4.drew.cell? ⟨bx, 2, none⟩ = some (.int .u8 x.c)) := HX.out _ ((D4.out).trans (((Below.refl u4.heap.size u4).drew).mono D4.out.size))
    refine wp_region_held_drew (S := (fun W => W.cell? ⟨bx, 1, none⟩ = some (.int .i64 (i : Int)) ∧ W.cell? ⟨bx, 2, none⟩ = some (.int .u8 x.c))) (by kernel_rfl) (X4d.out) (fun hHeld => ?_)
    refine takeH (i := 0) (some 53) (v := ?_) rfl rfl (by kernel_rfl) (by kernel_rfl) (by kernel_rfl) (fun _ _ _ h => h) (by rfl) ?_ (by assumption) ?_
    rotate_left
    · (intro w hSw; (try dsimp only at hSw); obtain ⟨hS1, hS2⟩ := hSw; go_simp; try with_reducible rfl)
    simp only [Act.put, List.setIfInBounds_toArray, List.set_cons_zero, List.set_cons_succ]
    refine takeH (i := 1) (some 54) (v := ?_) rfl rfl (by kernel_rfl) (by kernel_rfl) (by kernel_rfl) (fun _ _ _ h => h) (by rfl) ?_ (by assumption) ?_
    rotate_left
    · (intro w hSw; (try dsimp only at hSw); obtain ⟨hS1, hS2⟩ := hSw; go_simp; try with_reducible rfl)
    simp only [Act.put, List.setIfInBounds_toArray, List.set_cons_zero, List.set_cons_succ]
    refine takeH (i := 2) (some 55) (v := ?_) rfl rfl (by kernel_rfl) (by kernel_rfl) (by kernel_rfl) (fun _ _ _ h => h) (by rfl) ?_ (by assumption) ?_
    rotate_left
    · (intro w hSw; (try dsimp only at hSw); obtain ⟨hS1, hS2⟩ := hSw; go_simp; try with_reducible rfl)
    simp only [Act.put, List.setIfInBounds_toArray, List.set_cons_zero, List.set_cons_succ]
    refine takeH (i := 3) (some 56) (v := ?_) rfl rfl (by kernel_rfl) (by kernel_rfl) (by kernel_rfl) (fun _ _ _ h => h) (by rfl) ?_ (by assumption) ?_
    rotate_left
    · (intro w hSw; (try dsimp only at hSw); obtain ⟨hS1, hS2⟩ := hSw; go_simp; try with_reducible rfl)
    simp only [Act.put, List.setIfInBounds_toArray, List.set_cons_zero, List.set_cons_succ]
    refine takeH (i := 4) (some 57) (v := ?_) rfl rfl (by kernel_rfl) (by kernel_rfl) (by kernel_rfl) (fun _ _ _ h => h) (by rfl) ?_ (by assumption) ?_
    rotate_left
    · (intro w hSw; (try dsimp only at hSw); obtain ⟨hS1, hS2⟩ := hSw; go_simp; try with_reducible rfl)
    simp only [Act.put, List.setIfInBounds_toArray, List.set_cons_zero, List.set_cons_succ]
    refine wpAnyH_ready (rs := [5]) (by kernel_rfl) (by simp) ?_
    refine AllReadyH.cons rfl (fun K hK => ?_) AllReadyH.nil
    go_simp
    refine (SX.out _).mono ?_
    rintro e s5 ⟨rfl, hB⟩
    have B5 : Hid (Below u4.heap.size u4 s5) := ((Below.refl u4.heap.size u4).drew).trans hB
    have S5 := Lib.hid (OneB.next H4.out B5.out)
    have E5 := Lib.hid (D4.out.trans (B5.out.mono D4.out.size))
    have Y5 := Lib.hid (HX.out _ E5.out)
    clear hB
    refine hK _ _ (Y5.out) (fun hHeld => ?_)
    clear hK K
    try simp only [Act.put, List.setIfInBounds_toArray, List.set_cons_zero, List.set_cons_succ]
    refine wpAnyH_ready (rs := [6]) (by kernel_rfl) (by simp) ?_
    refine AllReadyH.cons rfl (fun K hK => ?_) AllReadyH.nil
    go_simp
    refine (WB.out _ _ S5.out).mono ?_
    rintro e u5 ⟨rfl, h⟩
    have H5 := Lib.hid h
    have D5 := Lib.hid (OneB.below h)
    have Z5 := Lib.hid (HX.out _ D5.out)
    clear h
    refine hK _ _ (Z5.out) (fun hHeld => ?_)
    clear hK K
    try simp only [Act.put, List.setIfInBounds_toArray, List.set_cons_zero, List.set_cons_succ]
    refine takeH (i := 7) (some 13) (v := ?_) rfl rfl (by kernel_rfl) (by kernel_rfl) (by kernel_rfl) (fun _ _ _ h => h) (by rfl) ?_ (by assumption) ?_
    rotate_left
    · (intro w hSw; (try dsimp only at hSw); obtain ⟨hS1, hS2⟩ := hSw; go_simp; try with_reducible rfl)
    simp only [Act.put, List.setIfInBounds_toArray, List.set_cons_zero, List.set_cons_succ]
    refine wpAnyH_done (by kernel_rfl) ?_ _
    obtain ⟨x1, x2⟩ := HX.out _ D5.out
    go_wp2_with fail
    clear x1 x2
    refine (RDN.out _ _ _ H5.out).mono ?_
    rintro e t6 ⟨rfl, h⟩
    have R6 := Lib.hid h
    clear h
    go_wp2_with (refine wpList_store_row rfl 36 (.tmp 14) (.tmp 65) rfl t6.heap.size N1 rfl rfl 36 _ (heap_alloc_new t6 _) hN1.out hN2.out hN3.out ?_
                 generalize hW : World.setRow (t6.alloc (Obj.cells _ 36)) _ N1 = u6
                 have hB : Below t6.heap.size t6 u6 := by rw [← hW]; exact below_setRow (below_alloc1 t6 _) (Nat.le_refl _) _
                 have ho : u6.heap[t6.heap.size]? = some (.cells N1 36 (0, 0)) := by rw [← hW]; exact setRow_heap _ _ _ _ _ _ (heap_alloc_new t6 _)
                 have H6 := Lib.hid (OneB.add R6.out hB ho)
                 have D6 := Lib.hid (OneB.below H6.out)
                 obtain ⟨x1, x2⟩ := HX.out _ D6.out
                 clear hW hB ho)
    clear x1 x2
    refine (SP.out _ _ H6.out).mono ?_
    rintro e u7 ⟨rfl, h⟩
    have H7 := Lib.hid h
    have D7 := Lib.hid (OneB.below h)
    clear h
    go_wp2_with fail
    have X7d : Hid (u7.drew.cell? ⟨bx, 1, none⟩ = some (.int .i64 (i : Int)) ∧ u7.drew.cell? ⟨bx, 2, none⟩ = some (.int .u8 x.c)) := HX.out _ ((D7.out).trans (((Below.refl u7.heap.size u7).drew).mono D7.out.size))
    refine wp_region_held_drew (S := (fun W => W.cell? ⟨bx, 1, none⟩ = some (.int .i64 (i : Int)) ∧ W.cell? ⟨bx, 2, none⟩ = some (.int .u8 x.c))) (by kernel_rfl) (X7d.out) (fun hHeld => ?_)
    refine takeH (i := 0) (some 71) (v := ?_) rfl rfl (by kernel_rfl) (by kernel_rfl) (by kernel_rfl) (fun _ _ _ h => h) (by rfl) ?_ (by assumption) ?_
    rotate_left
    · (intro w hSw; (try dsimp only at hSw); obtain ⟨hS1, hS2⟩ := hSw; go_simp; try with_reducible rfl)
    simp only [Act.put, List.setIfInBounds_toArray, List.set_cons_zero, List.set_cons_succ]
    refine takeH (i := 1) (some 72) (v := ?_) rfl rfl (by kernel_rfl) (by kernel_rfl) (by kernel_rfl) (fun _ _ _ h => h) (by rfl) ?_ (by assumption) ?_
    rotate_left
    · (intro w hSw; (try dsimp only at hSw); obtain ⟨hS1, hS2⟩ := hSw; go_simp; try with_reducible rfl)
    simp only [Act.put, List.setIfInBounds_toArray, List.set_cons_zero, List.set_cons_succ]
    refine takeH (i := 2) (some 73) (v := ?_) rfl rfl (by kernel_rfl) (by kernel_rfl) (by kernel_rfl) (fun _ _ _ h => h) (by rfl) ?_ (by assumption) ?_
    rotate_left
    · (intro w hSw; (try dsimp only at hSw); obtain ⟨hS1, hS2⟩ := hSw; go_simp; try with_reducible rfl)
    simp only [Act.put, List.setIfInBounds_toArray, List.set_cons_zero, List.set_cons_succ]
    refine takeH (i := 3) (some 74) (v := ?_) rfl rfl (by kernel_rfl) (by kernel_rfl) (by kernel_rfl) (fun _ _ _ h => h) (by rfl) ?_ (by assumption) ?_
    rotate_left
    · (intro w hSw; (try dsimp only at hSw); obtain ⟨hS1, hS2⟩ := hSw; go_simp; try with_reducible rfl)
    simp only [Act.put, List.setIfInBounds_toArray, List.set_cons_zero, List.set_cons_succ]
    refine takeH (i := 4) (some 75) (v := ?_) rfl rfl (by kernel_rfl) (by kernel_rfl) (by kernel_rfl) (fun _ _ _ h => h) (by rfl) ?_ (by assumption) ?_
    rotate_left
    · (intro w hSw; (try dsimp only at hSw); obtain ⟨hS1, hS2⟩ := hSw; go_simp; try with_reducible rfl)
    simp only [Act.put, List.setIfInBounds_toArray, List.set_cons_zero, List.set_cons_succ]
    refine wpAnyH_ready (rs := [5]) (by kernel_rfl) (by simp) ?_
    refine AllReadyH.cons rfl (fun K hK => ?_) AllReadyH.nil
    go_simp
    refine (SX.out _).mono ?_
    rintro e s8 ⟨rfl, hB⟩
    have B8 : Hid (Below u7.heap.size u7 s8) := ((Below.refl u7.heap.size u7).drew).trans hB
    have S8 := Lib.hid (OneB.next H7.out B8.out)
    have E8 := Lib.hid (D7.out.trans (B8.out.mono D7.out.size))
    have Y8 := Lib.hid (HX.out _ E8.out)
    clear hB
    refine hK _ _ (Y8.out) (fun hHeld => ?_)
    clear hK K
    try simp only [Act.put, List.setIfInBounds_toArray, List.set_cons_zero, List.set_cons_succ]
    refine wpAnyH_ready (rs := [6]) (by kernel_rfl) (by simp) ?_
    refine AllReadyH.cons rfl (fun K hK => ?_) AllReadyH.nil
    go_simp
    refine (WG.out _ _ S8.out).mono ?_
    rintro e u8 ⟨rfl, h⟩
    have H8 := Lib.hid h
    have D8 := Lib.hid (OneB.below h)
    have Z8 := Lib.hid (HX.out _ D8.out)
    clear h
    refine hK _ _ (Z8.out) (fun hHeld => ?_)
    clear hK K
    try simp only [Act.put, List.setIfInBounds_toArray, List.set_cons_zero, List.set_cons_succ]
    refine takeH (i := 7) (some 17) (v := ?_) rfl rfl (by kernel_rfl) (by kernel_rfl) (by kernel_rfl) (fun _ _ _ h => h) (by rfl) ?_ (by assumption) ?_
    rotate_left
    · (intro w hSw; (try dsimp only at hSw); obtain ⟨hS1, hS2⟩ := hSw; go_simp; try with_reducible rfl)
    simp only [Act.put, List.setIfInBounds_toArray, List.set_cons_zero, List.set_cons_succ]
    refine wpAnyH_done (by kernel_rfl) ?_ _
    obtain ⟨x1, x2⟩ := HX.out _ D8.out
    go_wp2_with fail
    clear x1 x2
    refine (RDU.out _ _ H8.out).mono ?_
    rintro e t9 ⟨rfl, h⟩
    have R9 := Lib.hid h
    clear h
    go_wp2_with (refine wpList_store_row rfl 36 (.tmp 18) (.tmp 83) rfl t9.heap.size U rfl rfl 36 _ (heap_alloc_new t9 _) hU1.out hU2.out hU3.out ?_
                 generalize hW : World.setRow (t9.alloc (Obj.cells _ 36)) _ U = u9
                 have hB : Below t9.heap.size t9 u9 := by rw [← hW]; exact below_setRow (below_alloc1 t9 _) (Nat.le_refl _) _
                 have ho : u9.heap[t9.heap.size]? = some (.cells U 36 (0, 0)) := by rw [← hW]; exact setRow_heap _ _ _ _ _ _ (heap_alloc_new t9 _)
                 have H9 := Lib.hid (OneB.add R9.out hB ho)
                 have D9 := Lib.hid (OneB.below H9.out)
                 obtain ⟨x1, x2⟩ := HX.out _ D9.out
                 clear hW hB ho)
    clear x1 x2
    have XF : Hid (∀ W, Below u9.heap.size u9 W → W.cell? ⟨bx, 2, none⟩ = some (.int .u8 x.c) ∧ W.heap[t4.heap.size]? = some (.cells N1 36 (0, 0)) ∧ W.heap[t6.heap.size]? = some (.cells N1 36 (0, 0)) ∧ W.heap[t9.heap.size]? = some (.cells U 36 (0, 0))) := fun W hB => by
      have h2 := OneB.next H9.out hB
      exact ⟨(HX.out _ h2.below).2, h2.side (p := (t4.heap.size, .cells N1 36 (0, 0))) (by simp), h2.side (p := (t6.heap.size, .cells N1 36 (0, 0))) (by simp), h2.side (p := (t9.heap.size, .cells U 36 (0, 0))) (by simp)⟩
    refine wp_region_held_drew (S := (fun W => W.cell? ⟨bx, 2, none⟩ = some (.int .u8 x.c) ∧ W.heap[t4.heap.size]? = some (.cells N1 36 (0, 0)) ∧ W.heap[t6.heap.size]? = some (.cells N1 36 (0, 0)) ∧ W.heap[t9.heap.size]? = some (.cells U 36 (0, 0)))) (by kernel_rfl) (XF.out _ (Below.refl u9.heap.size u9).drew) (fun hHeld => ?_)
    refine takeH (i := 0) (some 85) (v := ?_) rfl rfl (by kernel_rfl) (by kernel_rfl) (by kernel_rfl) (fun _ _ _ h => h) (by rfl) ?_ (by assumption) ?_
    rotate_left
    · (intro w hSw; (try dsimp only at hSw); obtain ⟨hS1, hS2, hS3, hS4⟩ := hSw; go_simp; try with_reducible rfl)
    simp only [Act.put, List.setIfInBounds_toArray, List.set_cons_zero, List.set_cons_succ]
    refine takeH (i := 1) (some 86) (v := ?_) rfl rfl (by kernel_rfl) (by kernel_rfl) (by kernel_rfl) (fun _ _ _ h => h) (by rfl) ?_ (by assumption) ?_
    rotate_left
    · (intro w hSw; (try dsimp only at hSw); obtain ⟨hS1, hS2, hS3, hS4⟩ := hSw; go_simp; try with_reducible rfl)
    simp only [Act.put, List.setIfInBounds_toArray, List.set_cons_zero, List.set_cons_succ]
    refine takeH (i := 2) (some 87) (v := ?_) rfl rfl (by kernel_rfl) (by kernel_rfl) (by kernel_rfl) (fun _ _ _ h => h) (by rfl) ?_ (by assumption) ?_
    rotate_left
    · (intro w hSw; (try dsimp only at hSw); obtain ⟨hS1, hS2, hS3, hS4⟩ := hSw; go_simp; try with_reducible rfl)
    simp only [Act.put, List.setIfInBounds_toArray, List.set_cons_zero, List.set_cons_succ]
    refine takeH (i := 3) (some 88) (v := ?_) rfl rfl (by kernel_rfl) (by kernel_rfl) (by kernel_rfl) (fun _ _ _ h => h) (by rfl) ?_ (by assumption) ?_
    rotate_left
    · (intro w hSw; (try dsimp only at hSw); obtain ⟨hS1, hS2, hS3, hS4⟩ := hSw; (refine exec_row 36 (.tmp 14) ?_ _ ?_ 36 N1 (0, 0) _ hS3 Try.underlying36 rfl hN1.out) <;> rfl)
    simp only [Act.put, List.setIfInBounds_toArray, List.set_cons_zero, List.set_cons_succ]
    refine takeH (i := 4) (some 89) (v := ?_) rfl rfl (by kernel_rfl) (by kernel_rfl) (by kernel_rfl) (fun _ _ _ h => h) (by rfl) ?_ (by assumption) ?_
    rotate_left
    · (intro w hSw; (try dsimp only at hSw); obtain ⟨hS1, hS2, hS3, hS4⟩ := hSw; (refine exec_row 36 (.tmp 11) ?_ _ ?_ 36 N1 (0, 0) _ hS2 Try.underlying36 rfl hN1.out) <;> rfl)
    simp only [Act.put, List.setIfInBounds_toArray, List.set_cons_zero, List.set_cons_succ]
    refine takeH (i := 5) (some 90) (v := ?_) rfl rfl (by kernel_rfl) (by kernel_rfl) (by kernel_rfl) (fun _ _ _ h => h) (by rfl) ?_ (by assumption) ?_
    rotate_left
    · (intro w hSw; (try dsimp only at hSw); obtain ⟨hS1, hS2, hS3, hS4⟩ := hSw; (refine EQ1.out _ _ _ ?_ ?_ ?_) <;> rfl)
    simp only [Act.put, List.setIfInBounds_toArray, List.set_cons_zero, List.set_cons_succ]
    refine takeH (i := 6) (some 91) (v := ?_) rfl rfl (by kernel_rfl) (by kernel_rfl) (by kernel_rfl) (fun _ _ _ h => h) (by rfl) ?_ (by assumption) ?_
    rotate_left
    · (intro w hSw; (try dsimp only at hSw); obtain ⟨hS1, hS2, hS3, hS4⟩ := hSw; go_simp; try with_reducible rfl)
    simp only [Act.put, List.setIfInBounds_toArray, List.set_cons_zero, List.set_cons_succ]
    refine takeH (i := 7) (some 92) (v := ?_) rfl rfl (by kernel_rfl) (by kernel_rfl) (by kernel_rfl) (fun _ _ _ h => h) (by rfl) ?_ (by assumption) ?_
    rotate_left
    · (intro w hSw; (try dsimp only at hSw); obtain ⟨hS1, hS2, hS3, hS4⟩ := hSw; go_simp; try with_reducible rfl)
    simp only [Act.put, List.setIfInBounds_toArray, List.set_cons_zero, List.set_cons_succ]
    refine takeH (i := 8) (some 93) (v := ?_) rfl rfl (by kernel_rfl) (by kernel_rfl) (by kernel_rfl) (fun _ _ _ h => h) (by rfl) ?_ (by assumption) ?_
    rotate_left
    · (intro w hSw; (try dsimp only at hSw); obtain ⟨hS1, hS2, hS3, hS4⟩ := hSw; go_simp; try with_reducible rfl)
    simp only [Act.put, List.setIfInBounds_toArray, List.set_cons_zero, List.set_cons_succ]
    refine takeH (i := 9) (some 94) (v := ?_) rfl rfl (by kernel_rfl) (by kernel_rfl) (by kernel_rfl) (fun _ _ _ h => h) (by rfl) ?_ (by assumption) ?_
    rotate_left
    · (intro w hSw; (try dsimp only at hSw); obtain ⟨hS1, hS2, hS3, hS4⟩ := hSw; go_simp; try with_reducible rfl)
    simp only [Act.put, List.setIfInBounds_toArray, List.set_cons_zero, List.set_cons_succ]
    refine takeH (i := 10) (some 95) (v := ?_) rfl rfl (by kernel_rfl) (by kernel_rfl) (by kernel_rfl) (fun _ _ _ h => h) (by rfl) ?_ (by assumption) ?_
    rotate_left
    · (intro w hSw; (try dsimp only at hSw); obtain ⟨hS1, hS2, hS3, hS4⟩ := hSw; go_simp; try with_reducible rfl)
    simp only [Act.put, List.setIfInBounds_toArray, List.set_cons_zero, List.set_cons_succ]
    refine takeH (i := 11) (some 96) (v := ?_) rfl rfl (by kernel_rfl) (by kernel_rfl) (by kernel_rfl) (fun _ _ _ h => h) (by rfl) ?_ (by assumption) ?_
    rotate_left
    · (intro w hSw; (try dsimp only at hSw); obtain ⟨hS1, hS2, hS3, hS4⟩ := hSw; go_simp; try with_reducible rfl)
    simp only [Act.put, List.setIfInBounds_toArray, List.set_cons_zero, List.set_cons_succ]
    refine takeH (i := 12) (some 97) (v := ?_) rfl rfl (by kernel_rfl) (by kernel_rfl) (by kernel_rfl) (fun _ _ _ h => h) (by rfl) ?_ (by assumption) ?_
    rotate_left
    · (intro w hSw; (try dsimp only at hSw); obtain ⟨hS1, hS2, hS3, hS4⟩ := hSw; go_simp; try with_reducible rfl)
    simp only [Act.put, List.setIfInBounds_toArray, List.set_cons_zero, List.set_cons_succ]
    refine takeH (i := 13) (some 98) (v := ?_) rfl rfl (by kernel_rfl) (by kernel_rfl) (by kernel_rfl) (fun _ _ _ h => h) (by rfl) ?_ (by assumption) ?_
    rotate_left
    · (intro w hSw; (try dsimp only at hSw); obtain ⟨hS1, hS2, hS3, hS4⟩ := hSw; go_simp; try with_reducible rfl)
    simp only [Act.put, List.setIfInBounds_toArray, List.set_cons_zero, List.set_cons_succ]
    refine takeH (i := 14) (some 99) (v := ?_) rfl rfl (by kernel_rfl) (by kernel_rfl) (by kernel_rfl) (fun _ _ _ h => h) (by rfl) ?_ (by assumption) ?_
    rotate_left
    · (intro w hSw; (try dsimp only at hSw); obtain ⟨hS1, hS2, hS3, hS4⟩ := hSw; go_simp; try with_reducible rfl)
    simp only [Act.put, List.setIfInBounds_toArray, List.set_cons_zero, List.set_cons_succ]
    refine takeH (i := 15) (some 100) (v := ?_) rfl rfl (by kernel_rfl) (by kernel_rfl) (by kernel_rfl) (fun _ _ _ h => h) (by rfl) ?_ (by assumption) ?_
    rotate_left
    · (intro w hSw; (try dsimp only at hSw); obtain ⟨hS1, hS2, hS3, hS4⟩ := hSw; go_simp; try with_reducible rfl)
    simp only [Act.put, List.setIfInBounds_toArray, List.set_cons_zero, List.set_cons_succ]
    refine takeH (i := 16) (some 101) (v := ?_) rfl rfl (by kernel_rfl) (by kernel_rfl) (by kernel_rfl) (fun _ _ _ h => h) (by rfl) ?_ (by assumption) ?_
    rotate_left
    · (intro w hSw; (try dsimp only at hSw); obtain ⟨hS1, hS2, hS3, hS4⟩ := hSw; (refine exec_row 36 (.tmp 18) ?_ _ ?_ 36 U (0, 0) _ hS4 Try.underlying36 rfl hU1.out) <;> rfl)
    simp only [Act.put, List.setIfInBounds_toArray, List.set_cons_zero, List.set_cons_succ]
    refine takeH (i := 17) (some 102) (v := ?_) rfl rfl (by kernel_rfl) (by kernel_rfl) (by kernel_rfl) (fun _ _ _ h => h) (by rfl) ?_ (by assumption) ?_
    rotate_left
    · (intro w hSw; (try dsimp only at hSw); obtain ⟨hS1, hS2, hS3, hS4⟩ := hSw; go_simp; try with_reducible rfl)
    simp only [Act.put, List.setIfInBounds_toArray, List.set_cons_zero, List.set_cons_succ]
    refine takeH (i := 18) (some 103) (v := ?_) rfl rfl (by kernel_rfl) (by kernel_rfl) (by kernel_rfl) (fun _ _ _ h => h) (by rfl) ?_ (by assumption) ?_
    rotate_left
    · (intro w hSw; (try dsimp only at hSw); obtain ⟨hS1, hS2, hS3, hS4⟩ := hSw; go_simp; try with_reducible rfl)
    simp only [Act.put, List.setIfInBounds_toArray, List.set_cons_zero, List.set_cons_succ]
    refine wpAnyH_ready (rs := [19]) (by kernel_rfl) (by simp) ?_
    refine AllReadyH.cons rfl (fun K hK => ?_) AllReadyH.nil
    go_simp
    refine (SX.out _).mono ?_
    rintro e u10 ⟨rfl, hB⟩
    have B10 : Hid (Below u9.heap.size u9 u10) := ((Below.refl u9.heap.size u9).drew).trans hB
    have X10 := Lib.hid (XF.out _ B10.out)
    clear hB
    refine hK _ _ (X10.out) (fun hHeld => ?_)
    clear hK K
    try simp only [Act.put, List.setIfInBounds_toArray, List.set_cons_zero, List.set_cons_succ]
    refine takeH (i := 20) (some 105) (v := ?_) rfl rfl (by kernel_rfl) (by kernel_rfl) (by kernel_rfl) (fun _ _ _ h => h) (by rfl) ?_ (by assumption) ?_
    rotate_left
    · (intro w hSw; (try dsimp only at hSw); obtain ⟨hS1, hS2, hS3, hS4⟩ := hSw; (refine EQ2.out _ _ _ ?_ ?_ ?_) <;> rfl)
    simp only [Act.put, List.setIfInBounds_toArray, List.set_cons_zero, List.set_cons_succ]
    refine takeH (i := 21) (some 106) (v := ?_) rfl rfl (by kernel_rfl) (by kernel_rfl) (by kernel_rfl) (fun _ _ _ h => h) (by rfl) ?_ (by assumption) ?_
    rotate_left
    · (intro w hSw; (try dsimp only at hSw); obtain ⟨hS1, hS2, hS3, hS4⟩ := hSw; go_simp; try with_reducible rfl)
    simp only [Act.put, List.setIfInBounds_toArray, List.set_cons_zero, List.set_cons_succ]
    refine takeH (i := 22) (some 6) (v := ?_) rfl rfl (by kernel_rfl) (by kernel_rfl) (by kernel_rfl) (fun _ _ _ h => h) (by rfl) ?_ (by assumption) ?_
    rotate_left
    · (intro w hSw; (try dsimp only at hSw); obtain ⟨hS1, hS2, hS3, hS4⟩ := hSw; go_simp; try with_reducible rfl)
    simp only [Act.put, List.setIfInBounds_toArray, List.set_cons_zero, List.set_cons_succ]
    refine wpAnyH_done (by kernel_rfl) ?_ _
    go_wp2
    go_ret
    exact ⟨rfl, B0.out.trans ((D9.out.trans (B10.out.mono D9.out.size)).mono B0.out.size)⟩
  · refine (H2.out.spoil_out hi).mono ?_
    rintro e u3 ⟨rfl, h⟩
    have H3 := Lib.hid h
    clear h
    go_wp2_with fail
    refine (SM.out _ _ _ H3.out).mono ?_
    rintro e w4 ⟨rfl, h⟩
    have H4 := Lib.hid h
    clear h
    go_wp2
    go_ret
    exact ⟨rfl, B0.out.trans (H4.out.below.mono B0.out.size)⟩
end Go.Proofs.Ytieeibdhaoaeaaa.DiskBad
