/- The contract of 'Join', where it joins. -/
import Derived.Test.YtibkipdadpidnaaPM
namespace Go.Proofs.Ytibkipdadpidnaa.Pat
set_option linter.unusedVariables false
set_option linter.unusedSimpArgs false
set_option maxRecDepth 100000
open Go.RowKit

def zeros : List Int := List.replicate 32 0
theorem zeros_all : AllB zeros := by intro x hx; rw [zeros, List.mem_replicate] at hx; rw [hx.2]; decide
theorem zeros_len : zeros.length = 32 := by simp [zeros]
def Pt.e (p : Pt) : Int := p.o + p.s.size
/-- the patch that does what both do -/
def joinP (p q : Pt) : Pt := cutP p.b (put (put zeros p) q) (min p.o q.o).toNat (max p.e q.e).toNat

def St4 (w : World) (p q : Pt) (g : Nat) (m : List Int) (W : World) : Prop := St3 w p q W ∧ w.heap.size + 1 + 1 < g ∧ BlkIs W g 5 (bytesV m)
theorem St4.next {w W W' : World} {p q : Pt} {g : Nat} {m : List Int} (h : St4 w p q g m W) (hB : Below W.heap.size W W') : St4 w p q g m W' := ⟨h.1.next hB, h.2.1, h.2.2.below hB h.2.2.lt⟩
theorem St4.drew {w W : World} {p q : Pt} {g : Nat} {m : List Int} (h : St4 w p q g m W) : St4 w p q g m W.drew := ⟨h.1.drew, h.2⟩
theorem St4.wrote {w W W' : World} {p q : Pt} {g : Nat} {m m' : List Int} (h : St4 w p q g m W) (hb : BlkIs W' g 5 (bytesV m')) (hg : W.grownBy W' (some g)) : St4 w p q g m' W' := by
  have hk : ∀ {k : Nat} {r : Pt}, Boxed W k r → k < g → Boxed W' k r := fun {k r} h1 h2 => by
    unfold Boxed BlkIs at *
    rw [hg.block k (by rcases Nat.lt_or_ge k W.heap.size with h3 | h3; exact h3; rw [Array.getElem?_eq_none h3] at h1; cases h1) (by intro e; injection e with e; omega)]
    exact h1
  exact ⟨⟨h.1.1.grown hg h.1.1.size (fun j e => by injection e with e; have := h.2.1; omega), hk h.1.2.1 (by have := h.2.1; omega), hk h.1.2.2.1 (by have := h.2.1; omega), hk h.1.2.2.2 h.2.1⟩, h.2.1, hb⟩

set_option maxRecDepth 100000 in
set_option linter.unusedSimpArgs false in
set_option maxHeartbeats 2000000 in
theorem join_yes (p q : Pt) (w : World) (hp : p.ok) (hq : q.ok) (hn : p.apart q = false) :
    Calls Try.prog 54 #[p.v, q.v] w fun e w' => e = .returned (.tuple #[(joinP p q).v, .bool true]) ∧ Below w.heap.size w w' := by
  have R := Lib.hid (fun w => ofOne_any p q w hp hq)
  have HS := Lib.hid (St3.start w p q).drew
  have HC : Hid (∀ W, St3 w p q W → Cells2 w p q W) := fun W h => h.two.cells
  have HN := Lib.hid (fun W W' => @St3.next w W W' p q)
  have hb : p.both q = true := by
    cases h : p.both q with
    | true => rfl
    | false => simp [Pt.apart, h] at hn
  have hn' : ¬ q.o + q.s.size < p.o ∧ ¬ p.o + p.s.size < q.o := by simpa [Pt.apart, hb] using hn
  obtain ⟨hp, hq, -⟩ := Pt.both_out hb
  obtain ⟨p1, p2, p3, p4, p5, p6⟩ := Pt.right_out hp
  obtain ⟨q1, q2, q3, q4, q5, q6⟩ := Pt.right_out hq
  have hps : p.s.size ≤ 1000 := by omega
  have hqs : q.s.size ≤ 1000 := by omega
  have E1 := Lib.hid (fun W => end_any p W p3 p4 hps)
  have E2 := Lib.hid (fun W => end_any q W q3 q4 hqs)
  rw [hb] at R
  have hmk : ∀ W, (Instr.makeSlice 22 (.int .i64 32) (.int .i64 32)).run Try.prog W = .ok (.slice (some ⟨W.heap.size, 0, none⟩) 32 32) (W.alloc (.cells (madeCells #[Value.int .u8 0] 32) 5)) := fun W => run_make_row' (P := Try.prog) 22 5 (.int .u8 0) 1 Try.underlying22 info5 rfl .i64 .i64 32 (by omega) (by omega) W
  rw [made_bytes] at hmk
  have H4 : Hid (∀ W, St3 w p q W → St4 w p q W.heap.size zeros (W.alloc (.cells (bytesV zeros).toArray 5))) := fun W h => ⟨h.next (below_alloc1 _ _), BlkIs.lt h.2.2.2, heap_alloc_new W _⟩
  have HN4 := Lib.hid (fun g W W' => @St4.next w W W' p q g (put (put zeros p) q))
  have HW1 : Hid (∀ g W, St4 w p q g zeros W → Calls Try.prog 76 #[.slice (some ⟨g, 0, none⟩) 32 32, p.v] W fun e w' => e = .returned (.tuple #[]) ∧ St4 w p q g (put zeros p) w') := fun g W h =>
    (write_any g 32 zeros p W h.2.2 zeros_len hp ⟨by omega, by omega⟩).mono fun e w' x => ⟨x.1, h.wrote x.2.1 x.2.2⟩
  have HW2 : Hid (∀ g W, St4 w p q g (put zeros p) W → Calls Try.prog 76 #[.slice (some ⟨g, 0, none⟩) 32 32, q.v] W fun e w' => e = .returned (.tuple #[]) ∧ St4 w p q g (put (put zeros p) q) w') := fun g W h =>
    (write_any g 32 (put zeros p) q W h.2.2 (length_put hp zeros_len) hq ⟨by omega, by omega⟩).mono fun e w' x => ⟨x.1, h.wrote x.2.1 x.2.2⟩
  have CU : Hid (∀ {g} W, St4 w p q g (put (put zeros p) q) W → Calls Try.prog 72 #[.int .i64 p.b, .slice (some ⟨g, 0, none⟩) 32 32, .int .i64 (if q.o < p.o then q.o else p.o), .int .i64 (if p.o + p.s.size < q.o + q.s.size then q.o + q.s.size else p.o + p.s.size)] W fun e w' => e = .returned (joinP p q).v ∧ Below W.heap.size W w') := by
    intro g W h
    have hlen := length_put hq (length_put hp zeros_len)
    have hz := put_all (put_all zeros_all p) q
    have := cut_any p.b (some ⟨g, 0, none⟩) 32 (put (put zeros p) q) (min p.o q.o).toNat (max p.e q.e).toNat W (BlkIs.bts h.2.2 hz h.2.2.lt) (by simp only [Pt.e]; omega) (by rw [hlen]; simp only [Pt.e]; omega) (by omega)
    rw [hlen, show ((min p.o q.o).toNat : Int) = (if q.o < p.o then q.o else p.o) by omega, show ((max p.e q.e).toNat : Int) = (if p.o + p.s.size < q.o + q.s.size then q.o + q.s.size else p.o + p.s.size) by simp only [Pt.e]; omega] at this
    exact this
  have HL : Hid (∀ {g} W, St4 w p q g (put (put zeros p) q) W → Cells2 w p q (W.setRow (w.heap.size + 1 + 1) (joinP p q).cs.toArray)) := by
    intro g W h
    exact St2.cells ⟨below_setRow h.1.1 (by omega) _, BlkIs.other h.1.2.1 (by omega) _, BlkIs.other h.1.2.2.1 (by omega) _⟩
  have hmin : ∀ x y : Int, (if y < x then y else x) = min x y := fun x y => by omega
  clear hb hp hq p1 p2 p5 q1 q2 q5 hn
  obtain ⟨L0, hL0⟩ : ∃ L0, L0 = (bytesV zeros).toArray := ⟨_, rfl⟩
  have hL0' : (bytesV (List.replicate 32 0)).toArray = L0 := hL0.symm
  rw [hL0'] at hmk
  rw [← hL0] at H4
  clear hL0 hL0' hmin
  obtain ⟨b, o, s⟩ := p
  obtain ⟨b', o', s'⟩ := q
  unfold Pt.v at *
  unfold Cells2 at HC HL
  simp only [Pt.cs] at HS
  simp only at *
  have X := Lib.hid (HC.out _ HS.out)
  obtain ⟨n1, n2⟩ := hn'
  have hd1 : decide (o' + (s'.size : Int) < o) = false := by simpa using n1
  have hd2 : decide (o + (s.size : Int) < o') = false := by simpa using n2
  go_enter Try.func54, Try.ntmps54
  go_wp2_with fail
  refine wp_region_held_drew (S := (fun W =>
      W.cell? ⟨w.heap.size, 0, none⟩ = some (.int .i64 b) ∧ W.cell? ⟨w.heap.size, 1, none⟩ = some (.int .i64 o) ∧ W.cell? ⟨w.heap.size, 2, none⟩ = some (.string s) ∧
      W.cell? ⟨w.heap.size + 1, 0, none⟩ = some (.int .i64 b') ∧ W.cell? ⟨w.heap.size + 1, 1, none⟩ = some (.int .i64 o') ∧ W.cell? ⟨w.heap.size + 1, 2, none⟩ = some (.string s'))) (by kernel_rfl) (X.out) (fun hHeld => ?_)
  refine takeH (i := 0) (some 7) (v := ?_) rfl rfl (by kernel_rfl) (by kernel_rfl) (by kernel_rfl) (fun _ _ _ h => h) (by rfl) ?_ (by assumption) ?_
  rotate_left
  · (intro w hSw; (try dsimp only at hSw); go_simp; try with_reducible rfl)
  simp only [Act.put, List.setIfInBounds_toArray, List.set_cons_zero, List.set_cons_succ]
  refine takeH (i := 1) (some 8) (v := ?_) rfl rfl (by kernel_rfl) (by kernel_rfl) (by kernel_rfl) (fun _ _ _ h => h) (by rfl) ?_ (by assumption) ?_
  rotate_left
  · (intro w hSw; (try dsimp only at hSw); go_simp; try with_reducible rfl)
  simp only [Act.put, List.setIfInBounds_toArray, List.set_cons_zero, List.set_cons_succ]
  refine wpAnyH_ready (rs := [2]) (by kernel_rfl) (by simp) ?_
  refine AllReadyH.cons rfl (fun K hK => ?_) AllReadyH.nil
  go_simp
  ((with_reducible refine (R.out _).mono ?_); rintro e w3 ⟨rfl, hB3⟩; replace HS := Lib.hid (HN.out _ _ HS.out hB3); replace X := Lib.hid (HC.out _ HS.out))
  refine hK _ _ (X.out) (fun hHeld => ?_)
  clear hK K
  try simp only [Act.put, List.setIfInBounds_toArray, List.set_cons_zero, List.set_cons_succ]
  refine takeH (i := 3) (some 10) (v := ?_) rfl rfl (by kernel_rfl) (by kernel_rfl) (by kernel_rfl) (fun _ _ _ h => h) (by rfl) ?_ (by assumption) ?_
  rotate_left
  · (intro w hSw; (try dsimp only at hSw); go_simp; try with_reducible rfl)
  simp only [Act.put, List.setIfInBounds_toArray, List.set_cons_zero, List.set_cons_succ]
  refine takeH (i := 4) (some 11) (v := ?_) rfl rfl (by kernel_rfl) (by kernel_rfl) (by kernel_rfl) (fun _ _ _ h => h) (by rfl) ?_ (by assumption) ?_
  rotate_left
  · (intro w hSw; (try dsimp only at hSw); go_simp; try with_reducible rfl)
  simp only [Act.put, List.setIfInBounds_toArray, List.set_cons_zero, List.set_cons_succ]
  refine takeH (i := 5) (some 12) (v := ?_) rfl rfl (by kernel_rfl) (by kernel_rfl) (by kernel_rfl) (fun _ _ _ h => h) (by rfl) ?_ (by assumption) ?_
  rotate_left
  · (intro w hSw; (try dsimp only at hSw); go_simp; try with_reducible rfl)
  simp only [Act.put, List.setIfInBounds_toArray, List.set_cons_zero, List.set_cons_succ]
  refine takeH (i := 6) (some 13) (v := ?_) rfl rfl (by kernel_rfl) (by kernel_rfl) (by kernel_rfl) (fun _ _ _ h => h) (by rfl) ?_ (by assumption) ?_
  rotate_left
  · (intro w hSw; (try dsimp only at hSw); go_simp; try with_reducible rfl)
  simp only [Act.put, List.setIfInBounds_toArray, List.set_cons_zero, List.set_cons_succ]
  refine takeH (i := 7) (some 14) (v := ?_) rfl rfl (by kernel_rfl) (by kernel_rfl) (by kernel_rfl) (fun _ _ _ h => h) (by rfl) ?_ (by assumption) ?_
  rotate_left
  · (intro w hSw; (try dsimp only at hSw); go_simp; try with_reducible rfl)
  simp only [Act.put, List.setIfInBounds_toArray, List.set_cons_zero, List.set_cons_succ]
  refine wpAnyH_ready (rs := [8]) (by kernel_rfl) (by simp) ?_
  refine AllReadyH.cons rfl (fun K hK => ?_) AllReadyH.nil
  go_simp
  ((with_reducible refine (E2.out _).mono ?_); rintro e w3 ⟨rfl, hB3⟩; replace HS := Lib.hid (HN.out _ _ HS.out hB3); replace X := Lib.hid (HC.out _ HS.out))
  refine hK _ _ (X.out) (fun hHeld => ?_)
  clear hK K
  try simp only [Act.put, List.setIfInBounds_toArray, List.set_cons_zero, List.set_cons_succ]
  refine takeH (i := 9) (some 16) (v := ?_) rfl rfl (by kernel_rfl) (by kernel_rfl) (by kernel_rfl) (fun _ _ _ h => h) (by rfl) ?_ (by assumption) ?_
  rotate_left
  · (intro w hSw; (try dsimp only at hSw); go_simp; try with_reducible rfl)
  simp only [Act.put, List.setIfInBounds_toArray, List.set_cons_zero, List.set_cons_succ]
  refine takeH (i := 10) (some 17) (v := ?_) rfl rfl (by kernel_rfl) (by kernel_rfl) (by kernel_rfl) (fun _ _ _ h => h) (by rfl) ?_ (by assumption) ?_
  rotate_left
  · (intro w hSw; (try dsimp only at hSw); go_simp; try with_reducible rfl)
  simp only [Act.put, List.setIfInBounds_toArray, List.set_cons_zero, List.set_cons_succ]
  refine takeH (i := 11) (some 18) (v := ?_) rfl rfl (by kernel_rfl) (by kernel_rfl) (by kernel_rfl) (fun _ _ _ h => h) (by rfl) ?_ (by assumption) ?_
  rotate_left
  · (intro w hSw; (try dsimp only at hSw); go_simp; try with_reducible rfl)
  simp only [Act.put, List.setIfInBounds_toArray, List.set_cons_zero, List.set_cons_succ]
  refine takeH (i := 12) (some 19) (v := ?_) rfl rfl (by kernel_rfl) (by kernel_rfl) (by kernel_rfl) (fun _ _ _ h => h) (by rfl) ?_ (by assumption) ?_
  rotate_left
  · (intro w hSw; (try dsimp only at hSw); go_simp; try with_reducible rfl)
  simp only [Act.put, List.setIfInBounds_toArray, List.set_cons_zero, List.set_cons_succ]
  refine takeH (i := 13) (some 20) (v := ?_) rfl rfl (by kernel_rfl) (by kernel_rfl) (by kernel_rfl) (fun _ _ _ h => h) (by rfl) ?_ (by assumption) ?_
  rotate_left
  · (intro w hSw; (try dsimp only at hSw); go_simp; try with_reducible rfl)
  simp only [Act.put, List.setIfInBounds_toArray, List.set_cons_zero, List.set_cons_succ]
  refine takeH (i := 14) (some 21) (v := ?_) rfl rfl (by kernel_rfl) (by kernel_rfl) (by kernel_rfl) (fun _ _ _ h => h) (by rfl) ?_ (by assumption) ?_
  rotate_left
  · (intro w hSw; (try dsimp only at hSw); go_simp; try with_reducible rfl)
  simp only [Act.put, List.setIfInBounds_toArray, List.set_cons_zero, List.set_cons_succ]
  refine wpAnyH_ready (rs := [15]) (by kernel_rfl) (by simp) ?_
  refine AllReadyH.cons rfl (fun K hK => ?_) AllReadyH.nil
  go_simp
  ((with_reducible refine (E1.out _).mono ?_); rintro e w3 ⟨rfl, hB3⟩; replace HS := Lib.hid (HN.out _ _ HS.out hB3); replace X := Lib.hid (HC.out _ HS.out))
  refine hK _ _ (X.out) (fun hHeld => ?_)
  clear hK K
  try simp only [Act.put, List.setIfInBounds_toArray, List.set_cons_zero, List.set_cons_succ]
  refine takeH (i := 16) (some 23) (v := ?_) rfl rfl (by kernel_rfl) (by kernel_rfl) (by kernel_rfl) (fun _ _ _ h => h) (by rfl) ?_ (by assumption) ?_
  rotate_left
  · (intro w hSw; (try dsimp only at hSw); go_simp; try with_reducible rfl)
  simp only [Act.put, List.setIfInBounds_toArray, List.set_cons_zero, List.set_cons_succ]
  refine takeH (i := 17) (some 24) (v := ?_) rfl rfl (by kernel_rfl) (by kernel_rfl) (by kernel_rfl) (fun _ _ _ h => h) (by rfl) ?_ (by assumption) ?_
  rotate_left
  · (intro w hSw; (try dsimp only at hSw); go_simp; try with_reducible rfl)
  simp only [Act.put, List.setIfInBounds_toArray, List.set_cons_zero, List.set_cons_succ]
  refine wpAnyH_done (by kernel_rfl) ?_ _
  clear X
  obtain ⟨z0, z1, z2, z3, z4, z5⟩ := HC.out _ (H4.out _ HS.out).1
  go_wp2_with fail
  clear z0 z1 z2 z3 z4 z5
  refine (HW1.out _ _ (H4.out _ HS.out)).mono ?_
  rintro e w5 ⟨rfl, h5⟩
  have y5 := HC.out _ h5.1
  obtain ⟨a0, a1, a2, a3, a4, a5⟩ := y5
  have H5 := Lib.hid h5
  clear h5
  go_wp2_with fail
  refine (HW2.out _ _ H5.out).mono ?_
  rintro e w6 ⟨rfl, h6⟩
  have X := Lib.hid (HC.out _ h6.drew.1)
  clear HS
  have HS := Lib.hid h6.drew
  clear h6 a0 a1 a2 a3 a4 a5
  go_wp2_with fail
  refine wp_region_held_drew (S := (fun W =>
      W.cell? ⟨w.heap.size, 0, none⟩ = some (.int .i64 b) ∧ W.cell? ⟨w.heap.size, 1, none⟩ = some (.int .i64 o) ∧ W.cell? ⟨w.heap.size, 2, none⟩ = some (.string s) ∧
      W.cell? ⟨w.heap.size + 1, 0, none⟩ = some (.int .i64 b') ∧ W.cell? ⟨w.heap.size + 1, 1, none⟩ = some (.int .i64 o') ∧ W.cell? ⟨w.heap.size + 1, 2, none⟩ = some (.string s'))) (by kernel_rfl) (X.out) (fun hHeld => ?_)
  refine takeH (i := 0) (some 33) (v := ?_) rfl rfl (by kernel_rfl) (by kernel_rfl) (by kernel_rfl) (fun _ _ _ h => h) (by rfl) ?_ (by assumption) ?_
  rotate_left
  · (intro w hSw; (try dsimp only at hSw); go_simp; try with_reducible rfl)
  simp only [Act.put, List.setIfInBounds_toArray, List.set_cons_zero, List.set_cons_succ]
  refine takeH (i := 1) (some 34) (v := ?_) rfl rfl (by kernel_rfl) (by kernel_rfl) (by kernel_rfl) (fun _ _ _ h => h) (by rfl) ?_ (by assumption) ?_
  rotate_left
  · (intro w hSw; (try dsimp only at hSw); go_simp; try with_reducible rfl)
  simp only [Act.put, List.setIfInBounds_toArray, List.set_cons_zero, List.set_cons_succ]
  refine takeH (i := 2) (some 35) (v := ?_) rfl rfl (by kernel_rfl) (by kernel_rfl) (by kernel_rfl) (fun _ _ _ h => h) (by rfl) ?_ (by assumption) ?_
  rotate_left
  · (intro w hSw; (try dsimp only at hSw); go_simp; try with_reducible rfl)
  simp only [Act.put, List.setIfInBounds_toArray, List.set_cons_zero, List.set_cons_succ]
  refine takeH (i := 3) (some 36) (v := ?_) rfl rfl (by kernel_rfl) (by kernel_rfl) (by kernel_rfl) (fun _ _ _ h => h) (by rfl) ?_ (by assumption) ?_
  rotate_left
  · (intro w hSw; (try dsimp only at hSw); go_simp; try with_reducible rfl)
  simp only [Act.put, List.setIfInBounds_toArray, List.set_cons_zero, List.set_cons_succ]
  refine takeH (i := 4) (some 37) (v := ?_) rfl rfl (by kernel_rfl) (by kernel_rfl) (by kernel_rfl) (fun _ _ _ h => h) (by rfl) ?_ (by assumption) ?_
  rotate_left
  · (intro w hSw; (try dsimp only at hSw); go_simp; try with_reducible rfl)
  simp only [Act.put, List.setIfInBounds_toArray, List.set_cons_zero, List.set_cons_succ]
  refine takeH (i := 5) (some 38) (v := ?_) rfl rfl (by kernel_rfl) (by kernel_rfl) (by kernel_rfl) (fun _ _ _ h => h) (by rfl) ?_ (by assumption) ?_
  rotate_left
  · (intro w hSw; (try dsimp only at hSw); go_simp; try with_reducible rfl)
  simp only [Act.put, List.setIfInBounds_toArray, List.set_cons_zero, List.set_cons_succ]
  refine takeH (i := 6) (some 39) (v := ?_) rfl rfl (by kernel_rfl) (by kernel_rfl) (by kernel_rfl) (fun _ _ _ h => h) (by rfl) ?_ (by assumption) ?_
  rotate_left
  · (intro w hSw; (try dsimp only at hSw); go_simp; try with_reducible rfl)
  simp only [Act.put, List.setIfInBounds_toArray, List.set_cons_zero, List.set_cons_succ]
  refine takeH (i := 7) (some 40) (v := ?_) rfl rfl (by kernel_rfl) (by kernel_rfl) (by kernel_rfl) (fun _ _ _ h => h) (by rfl) ?_ (by assumption) ?_
  rotate_left
  · (intro w hSw; (try dsimp only at hSw); go_simp; try with_reducible rfl)
  simp only [Act.put, List.setIfInBounds_toArray, List.set_cons_zero, List.set_cons_succ]
  refine takeH (i := 8) (some 41) (v := ?_) rfl rfl (by kernel_rfl) (by kernel_rfl) (by kernel_rfl) (fun _ _ _ h => h) (by rfl) ?_ (by assumption) ?_
  rotate_left
  · (intro w hSw; (try dsimp only at hSw); go_simp; try with_reducible rfl)
  simp only [Act.put, List.setIfInBounds_toArray, List.set_cons_zero, List.set_cons_succ]
  refine takeH (i := 10) (some 43) (v := ?_) rfl rfl (by kernel_rfl) (by kernel_rfl) (by kernel_rfl) (fun _ _ _ h => h) (by rfl) ?_ (by assumption) ?_
  rotate_left
  · (intro w hSw; (try dsimp only at hSw); go_simp; try with_reducible rfl)
  simp only [Act.put, List.setIfInBounds_toArray, List.set_cons_zero, List.set_cons_succ]
  refine wpAnyH_ready (rs := [9]) (by kernel_rfl) (by simp) ?_
  refine AllReadyH.cons rfl (fun K hK => ?_) AllReadyH.nil
  go_simp
  ((with_reducible refine (E1.out _).mono ?_); rintro e w3 ⟨rfl, hB3⟩; replace HS := Lib.hid (HN4.out _ _ _ HS.out hB3); replace X := Lib.hid (HC.out _ HS.out.1))
  refine hK _ _ (X.out) (fun hHeld => ?_)
  clear hK K
  try simp only [Act.put, List.setIfInBounds_toArray, List.set_cons_zero, List.set_cons_succ]
  refine wpAnyH_ready (rs := [11]) (by kernel_rfl) (by simp) ?_
  refine AllReadyH.cons rfl (fun K hK => ?_) AllReadyH.nil
  go_simp
  ((with_reducible refine (E2.out _).mono ?_); rintro e w3 ⟨rfl, hB3⟩; replace HS := Lib.hid (HN4.out _ _ _ HS.out hB3); replace X := Lib.hid (HC.out _ HS.out.1))
  refine hK _ _ (X.out) (fun hHeld => ?_)
  clear hK K
  try simp only [Act.put, List.setIfInBounds_toArray, List.set_cons_zero, List.set_cons_succ]
  refine takeH (i := 12) (some 45) (v := ?_) rfl rfl (by kernel_rfl) (by kernel_rfl) (by kernel_rfl) (fun _ _ _ h => h) (by rfl) ?_ (by assumption) ?_
  rotate_left
  · (intro w hSw; (try dsimp only at hSw); go_simp; try with_reducible rfl)
  simp only [Act.put, List.setIfInBounds_toArray, List.set_cons_zero, List.set_cons_succ]
  refine wpAnyH_ready (rs := [13]) (by kernel_rfl) (by simp) ?_
  refine AllReadyH.cons rfl (fun K hK => ?_) AllReadyH.nil
  go_simp
  (refine (CU.out _ HS.out).mono ?_; rintro e w3 ⟨rfl, hB3⟩; replace HS := Lib.hid (HN4.out _ _ _ HS.out hB3); replace X := Lib.hid (HC.out _ HS.out.1))
  refine hK _ _ (X.out) (fun hHeld => ?_)
  clear hK K
  try simp only [Act.put, List.setIfInBounds_toArray, List.set_cons_zero, List.set_cons_succ]
  refine wpAnyH_ready (rs := [14]) (by kernel_rfl) (by simp) ?_
  refine AllReadyH.cons rfl (fun K hK => ?_) AllReadyH.nil
  refine step_store_row rfl 38 (.tmp 4) (.tmp 46) rfl (w.heap.size + 1 + 1) (joinP ⟨b, o, s⟩ ⟨b', o', s'⟩).cs.toArray rfl rfl 38 zeroP.cs.toArray HS.out.1.2.2.2 info38 rfl (Pt.cs_one _) ?_
  refine hK _ _ (HL.out _ HS.out) (fun hHeld => ?_)
  clear hK K
  try simp only [Act.put, List.setIfInBounds_toArray, List.set_cons_zero, List.set_cons_succ]
  refine takeH (i := 15) (some 5) (v := ?_) rfl rfl (by kernel_rfl) (by kernel_rfl) (by kernel_rfl) (fun _ _ _ h => h) (by rfl) ?_ (by assumption) ?_
  rotate_left
  · (intro w hSw; (try dsimp only at hSw); go_simp; try with_reducible rfl)
  simp only [Act.put, List.setIfInBounds_toArray, List.set_cons_zero, List.set_cons_succ]
  refine wpAnyH_done (by kernel_rfl) ?_ _
  go_wp2
  all_goals
    have hh := setRow_heap _ (w.heap.size + 1 + 1) zeroP.cs.toArray (joinP ⟨b, o, s⟩ ⟨b', o', s'⟩).cs.toArray 38 (0, 0) HS.out.1.2.2.2
    refine bodyPost_ret (v := .tuple #[(joinP ⟨b, o, s⟩ ⟨b', o', s'⟩).v, .bool true]) ?_ rfl ⟨rfl, below_setRow HS.out.1.1 (by omega) _⟩
    exact results_cell_row_tmp rfl _ _ (w.heap.size + 1 + 1) 38 (joinP ⟨b, o, s⟩ ⟨b', o', s'⟩).cs.toArray (0, 0) _ rfl hh Try.underlying38 rfl info38 _ rfl
end Go.Proofs.Ytibkipdadpidnaa.Pat
