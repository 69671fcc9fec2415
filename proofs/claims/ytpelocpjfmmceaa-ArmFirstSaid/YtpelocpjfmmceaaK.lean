/- The program's arm: those on one side, the nearest one, the first that waited too long, the choice of each policy. -/
import Derived.Test.YtpelocpjfmmceaaJ
set_option linter.unusedVariables false
set_option linter.unusedSimpArgs false
namespace Go.Proofs.Ytpelocpjfmmceaa
open Go.RowKit

theorem RowI.low {w : World} {B B' : Nat} {A : Option Addr} {c : Nat} {l : List Int} (h : RowI w B' A c l) (hB : B ≤ B') : RowI w B A c l := by
  refine ⟨h.1, ?_⟩
  rcases h.2 with q | ⟨g, cap, cur, q, hb, rest⟩
  · exact .inl q
  · exact .inr ⟨g, cap, cur, q, Nat.le_trans hB hb, rest⟩
section
variable (B g : Nat) (A : Option Addr) (c : Nat) (x : Ar) (w : World)

theorem up_is (hC : PAt B w g A c x) (r : Int) : Calls Try.prog 81 #[.pointer (some ⟨g, 0, none⟩), .int .i64 r] w fun e w' => e = .returned (.bool (decide ((x.s : Int) ≤ r))) ∧ w = w' := by
  obtain ⟨_, _, c2, _, _, _⟩ := pcells hC
  clear hC
  generalize (x.s : Int) = q at *
  go_enter Try.func81, Try.ntmps81
  go_wp2
  go_ret
  exact ⟨rfl, rfl⟩
theorem up_side1 (hC : PAt B w g A c x) (cb : Nat) (hbox : w.cell? ⟨cb, 0, none⟩ = some (.func (.func 81) #[.pointer (some ⟨g, 0, none⟩)] #[])) (r : Int) :
    Calls Try.prog 92 #[.int .i64 r, .pointer (some ⟨cb, 0, none⟩)] w fun e w' => e = .returned (.bool (!decide ((x.s : Int) ≤ r))) ∧ Below w.heap.size w w' := by
  have HK := Lib.hid (up_is B g A c x w hC r)
  generalize decide ((x.s : Int) ≤ r) = q at *
  clear hC
  go_enter Try.func92, Try.ntmps92
  go_wp2_with (refine HK.out.mono ?_; rintro e w' ⟨rfl, rfl⟩)
  go_ret
  exact ⟨rfl, Below.refl _ _⟩
def upSays (x : Ar) (w : World) (e : Ending) (w' : World) : Prop := ∃ A' c', e = .returned (.slice A' (upL x.s (blk x.l)).length c') ∧ RowI w' w.heap.size A' c' (upL x.s (blk x.l)) ∧ Below w.heap.size w w'
set_option maxRecDepth 100000 in
set_option maxHeartbeats 1000000 in
theorem up_side (hC : PAt B w g A c x) (hl : x.l.length ≤ 1000) :
    Calls Try.prog 80 #[.pointer (some ⟨g, 0, none⟩), .func (.func 81) #[.pointer (some ⟨g, 0, none⟩)] #[]] w (upSays x w) := by
  have hg := hC.glt
  obtain ⟨W, hW⟩ : ∃ W, W = w.alloc (.cells #[.func (.func 81) #[.pointer (some ⟨g, 0, none⟩)] #[]] 101) := ⟨_, rfl⟩
  have hB1 : Below w.heap.size w W := by rw [hW]; exact (Below.refl _ _).alloc (Nat.le_refl _) _
  have hsz : W.heap.size = w.heap.size + 1 := by rw [hW]; simp
  have hbox : W.cell? ⟨w.heap.size, 0, none⟩ = some (.func (.func 81) #[.pointer (some ⟨g, 0, none⟩)] #[]) := by
    rw [hW]; exact cell_of_row _ w.heap.size 0 _ _ (0, 0) (heap_alloc_new w _)
  have HBk := Lib.hid (blocks_any B g A c x W (hC.fresh hB1) hl)
  have HDl : Hid (∀ W1 A1 c1, Below W.heap.size W W1 → RowI W1 W.heap.size A1 c1 (blk x.l) → Calls Try.prog 91 #[.slice A1 x.l.length c1, .func (.func 92) #[] #[.pointer (some ⟨w.heap.size, 0, none⟩)]] W1 fun e w' =>
      upSays x w e w') := fun W1 A1 c1 h1 hr => by
    have hk1 : Below w.heap.size w W1 := hB1.trans (h1.mono (by omega))
    have := delete_side W.heap.size A1 c1 (blk x.l) w.heap.size (fun r => !decide ((x.s : Int) ≤ r)) W1 hr (by rw [length_blk]; exact hl) (fun r W2 h2 => by
      have hlow : ∀ k, k < W.heap.size → ¬ own A1 = some k := fun k hk q => by have := (hr.lt k q).1; omega
      refine up_side1 B g A c x W2 ((hC.fresh hk1).keepOf h2 (fun k q => hlow k (by have := hC.lt k q; omega))) w.heap.size ?_ r
      rw [h2.cell (a := ⟨w.heap.size, 0, none⟩) (by have := h1.size; show w.heap.size < _; omega) (hlow _ (by show w.heap.size < _; omega)), h1.cell (p := ⟨w.heap.size, 0, none⟩) (by show w.heap.size < _; omega), hbox])
    rw [length_blk] at this
    refine this.mono ?_
    rintro e w' ⟨rfl, hr2, hk2⟩
    have e2 : (blk x.l).filter (fun r => !(!decide ((x.s : Int) ≤ r))) = upL x.s (blk x.l) := by
      unfold upL; simp
    rw [e2] at hr2 ⊢
    refine ⟨A1, c1, rfl, hr2.low (by omega), hk1.trans ?_⟩
    exact hk2.below (fun b q => by have := (hr.lt b q).1; omega) hk1.size
  rw [hW] at HBk HDl
  clear hC hB1 hsz hbox hW
  go_enter Try.func80, Try.ntmps80
  go_wp2_with (first
    | (go_at_call 41; refine HBk.out.mono ?_; rintro e w1 ⟨A1, c1, rfl, hr1, hb1⟩; have HR1 := Lib.hid hr1; have HB1 := Lib.hid hb1; clear hr1 hb1)
    | (go_at_call 91; (with_reducible refine (HDl.out _ _ _ HB1.out HR1.out).mono ?_); rintro e w2 ⟨A2, c2, rfl, hr2, hb2⟩; have HR2 := Lib.hid hr2; have HB2 := Lib.hid hb2; clear hr2 hb2))
  go_ret
  exact ⟨A2, c2, rfl, HR2.out, HB2.out⟩

theorem down_is (hC : PAt B w g A c x) (r : Int) : Calls Try.prog 89 #[.pointer (some ⟨g, 0, none⟩), .int .i64 r] w fun e w' => e = .returned (.bool (decide (r ≤ (x.s : Int)))) ∧ w = w' := by
  obtain ⟨_, _, c2, _, _, _⟩ := pcells hC
  clear hC
  generalize (x.s : Int) = q at *
  go_enter Try.func89, Try.ntmps89
  go_wp2
  go_ret
  exact ⟨rfl, rfl⟩
theorem down_side1 (hC : PAt B w g A c x) (cb : Nat) (hbox : w.cell? ⟨cb, 0, none⟩ = some (.func (.func 89) #[.pointer (some ⟨g, 0, none⟩)] #[])) (r : Int) :
    Calls Try.prog 92 #[.int .i64 r, .pointer (some ⟨cb, 0, none⟩)] w fun e w' => e = .returned (.bool (!decide (r ≤ (x.s : Int)))) ∧ Below w.heap.size w w' := by
  have HK := Lib.hid (down_is B g A c x w hC r)
  generalize decide (r ≤ (x.s : Int)) = q at *
  clear hC
  go_enter Try.func92, Try.ntmps92
  go_wp2_with (refine HK.out.mono ?_; rintro e w' ⟨rfl, rfl⟩)
  go_ret
  exact ⟨rfl, Below.refl _ _⟩
def downSays (x : Ar) (w : World) (e : Ending) (w' : World) : Prop := ∃ A' c', e = .returned (.slice A' (downL x.s (blk x.l)).length c') ∧ RowI w' w.heap.size A' c' (downL x.s (blk x.l)) ∧ Below w.heap.size w w'
set_option maxRecDepth 100000 in
set_option maxHeartbeats 1000000 in
theorem down_side (hC : PAt B w g A c x) (hl : x.l.length ≤ 1000) :
    Calls Try.prog 80 #[.pointer (some ⟨g, 0, none⟩), .func (.func 89) #[.pointer (some ⟨g, 0, none⟩)] #[]] w (downSays x w) := by
  have hg := hC.glt
  obtain ⟨W, hW⟩ : ∃ W, W = w.alloc (.cells #[.func (.func 89) #[.pointer (some ⟨g, 0, none⟩)] #[]] 101) := ⟨_, rfl⟩
  have hB1 : Below w.heap.size w W := by rw [hW]; exact (Below.refl _ _).alloc (Nat.le_refl _) _
  have hsz : W.heap.size = w.heap.size + 1 := by rw [hW]; simp
  have hbox : W.cell? ⟨w.heap.size, 0, none⟩ = some (.func (.func 89) #[.pointer (some ⟨g, 0, none⟩)] #[]) := by
    rw [hW]; exact cell_of_row _ w.heap.size 0 _ _ (0, 0) (heap_alloc_new w _)
  have HBk := Lib.hid (blocks_any B g A c x W (hC.fresh hB1) hl)
  have HDl : Hid (∀ W1 A1 c1, Below W.heap.size W W1 → RowI W1 W.heap.size A1 c1 (blk x.l) → Calls Try.prog 91 #[.slice A1 x.l.length c1, .func (.func 92) #[] #[.pointer (some ⟨w.heap.size, 0, none⟩)]] W1 fun e w' =>
      downSays x w e w') := fun W1 A1 c1 h1 hr => by
    have hk1 : Below w.heap.size w W1 := hB1.trans (h1.mono (by omega))
    have := delete_side W.heap.size A1 c1 (blk x.l) w.heap.size (fun r => !decide (r ≤ (x.s : Int))) W1 hr (by rw [length_blk]; exact hl) (fun r W2 h2 => by
      have hlow : ∀ k, k < W.heap.size → ¬ own A1 = some k := fun k hk q => by have := (hr.lt k q).1; omega
      refine down_side1 B g A c x W2 ((hC.fresh hk1).keepOf h2 (fun k q => hlow k (by have := hC.lt k q; omega))) w.heap.size ?_ r
      rw [h2.cell (a := ⟨w.heap.size, 0, none⟩) (by have := h1.size; show w.heap.size < _; omega) (hlow _ (by show w.heap.size < _; omega)), h1.cell (p := ⟨w.heap.size, 0, none⟩) (by show w.heap.size < _; omega), hbox])
    rw [length_blk] at this
    refine this.mono ?_
    rintro e w' ⟨rfl, hr2, hk2⟩
    have e2 : (blk x.l).filter (fun r => !(!decide (r ≤ (x.s : Int)))) = downL x.s (blk x.l) := by
      unfold downL; simp
    rw [e2] at hr2 ⊢
    refine ⟨A1, c1, rfl, hr2.low (by omega), hk1.trans ?_⟩
    exact hk2.below (fun b q => by have := (hr.lt b q).1; omega) hk1.size
  rw [hW] at HBk HDl
  clear hC hB1 hsz hbox hW
  go_enter Try.func80, Try.ntmps80
  go_wp2_with (first
    | (go_at_call 41; refine HBk.out.mono ?_; rintro e w1 ⟨A1, c1, rfl, hr1, hb1⟩; have HR1 := Lib.hid hr1; have HB1 := Lib.hid hb1; clear hr1 hb1)
    | (go_at_call 91; (with_reducible refine (HDl.out _ _ _ HB1.out HR1.out).mono ?_); rintro e w2 ⟨A2, c2, rfl, hr2, hb2⟩; have HR2 := Lib.hid hr2; have HB2 := Lib.hid hb2; clear hr2 hb2))
  go_ret
  exact ⟨A2, c2, rfl, HR2.out, HB2.out⟩

theorem up_mem {s : Nat} {l : List Int} {b : Int} (h : b ∈ upL s l) : b ∈ l ∧ (s : Int) ≤ b := by
  unfold upL at h; rw [List.mem_filter] at h; exact ⟨h.1, by simpa using h.2⟩
theorem down_mem {s : Nat} {l : List Int} {b : Int} (h : b ∈ downL s l) : b ∈ l ∧ b ≤ (s : Int) := by
  unfold downL at h; rw [List.mem_filter] at h; exact ⟨h.1, by simpa using h.2⟩
theorem up_len (s : Nat) (l : List Int) : (upL s l).length ≤ l.length := List.length_filter_le _ _
theorem down_len (s : Nat) (l : List Int) : (downL s l).length ≤ l.length := List.length_filter_le _ _
set_option maxRecDepth 100000 in
set_option maxHeartbeats 1000000 in
theorem onward_any (hC : PAt B w g A c x) (hl : x.l.length ≤ 1000) :
    Calls Try.prog 79 #[.pointer (some ⟨g, 0, none⟩)] w fun e w' => e = .returned (.tuple #[.int .i64 (if x.u = true then bestL lessB (upL x.s (blk x.l)) else bestL greatB (downL x.s (blk x.l))), .bool (if x.u = true then !(upL x.s (blk x.l)).isEmpty else !(downL x.s (blk x.l)).isEmpty)]) ∧ Below w.heap.size w w' := by
  obtain ⟨_, _, _, _, c4, _⟩ := pcells hC
  have HU := Lib.hid (up_side B g A c x w hC hl)
  have HD := Lib.hid (down_side B g A c x w hC hl)
  have HL : Hid (∀ W A1 c1, RowI W w.heap.size A1 c1 (upL x.s (blk x.l)) → Calls Try.prog 75 #[.slice A1 (upL x.s (blk x.l)).length c1, .func (.func 82) #[] #[]] W fun e w' => e = .returned (.tuple #[.int .i64 (bestL lessB (upL x.s (blk x.l))), .bool (!(upL x.s (blk x.l)).isEmpty)]) ∧ Below W.heap.size W w') := fun W A1 c1 hr =>
    best_less A1 c1 _ lessB W (by have := up_len x.s (blk x.l); rw [length_blk] at this; omega) hr.ints (fun p q W2 _ _ _ => less_any p q W2)
  have HG : Hid (∀ W A1 c1, RowI W w.heap.size A1 c1 (downL x.s (blk x.l)) → Calls Try.prog 75 #[.slice A1 (downL x.s (blk x.l)).length c1, .func (.func 90) #[] #[]] W fun e w' => e = .returned (.tuple #[.int .i64 (bestL greatB (downL x.s (blk x.l))), .bool (!(downL x.s (blk x.l)).isEmpty)]) ∧ Below W.heap.size W w') := fun W A1 c1 hr =>
    best_greater A1 c1 _ greatB W (by have := down_len x.s (blk x.l); rw [length_blk] at this; omega) hr.ints (fun p q W2 _ _ _ => greater_any p q W2)
  unfold upSays at HU
  unfold downSays at HD
  generalize upL x.s (blk x.l) = lu at *
  generalize downL x.s (blk x.l) = ld at *
  clear hC hl
  cases hu : x.u with
  | true =>
    rw [hu] at c4
    simp only [if_true]
    generalize (!lu.isEmpty) = q at *
    generalize bestL lessB lu = m at *
    clear hu HD HG
    go_enter Try.func79, Try.ntmps79
    go_wp2_with (first
      | (go_at_call 80; refine HU.out.mono ?_; rintro e w1 ⟨A1, c1, rfl, hr1, hb1⟩; have HR1 := Lib.hid hr1; have HB1 := Lib.hid hb1; clear hr1 hb1)
      | (go_at_call 75; (with_reducible refine (HL.out _ _ _ HR1.out).mono ?_); rintro e w2 ⟨rfl, hb2⟩; have HB2 := Lib.hid hb2; clear hb2))
    go_ret2
    exact ⟨rfl, HB1.out.trans (HB2.out.mono HB1.out.size)⟩
  | false =>
    rw [hu] at c4
    simp only [Bool.false_eq_true, if_false]
    generalize (!ld.isEmpty) = q at *
    generalize bestL greatB ld = m at *
    clear hu HU HL
    go_enter Try.func79, Try.ntmps79
    go_wp2_with (first
      | (go_at_call 80; refine HD.out.mono ?_; rintro e w1 ⟨A1, c1, rfl, hr1, hb1⟩; have HR1 := Lib.hid hr1; have HB1 := Lib.hid hb1; clear hr1 hb1)
      | (go_at_call 75; (with_reducible refine (HG.out _ _ _ HR1.out).mono ?_); rintro e w2 ⟨rfl, hb2⟩; have HB2 := Lib.hid hb2; clear hb2))
    go_ret2
    exact ⟨rfl, HB1.out.trans (HB2.out.mono HB1.out.size)⟩
set_option maxRecDepth 100000 in
set_option maxHeartbeats 1000000 in
theorem cyclic_any (hC : PAt B w g A c x) (hl : x.l.length ≤ 1000) :
    Calls Try.prog 61 #[.pointer (some ⟨g, 0, none⟩)] w fun e w' => e = .returned (.int .i64 (cycL x.s (blk x.l))) ∧ Below w.heap.size w w' := by
  have HU := Lib.hid (up_side B g A c x w hC hl)
  have HBk : Hid (∀ W, Below w.heap.size w W → Calls Try.prog 41 #[.pointer (some ⟨g, 0, none⟩)] W fun e w' => ∃ A' c', e = .returned (.slice A' x.l.length c') ∧ RowI w' w.heap.size A' c' (blk x.l) ∧ Below w.heap.size w w') := fun W hW =>
    (blocks_any B g A c x W (hC.fresh hW) hl).mono fun e w' ⟨A1, c1, h1, h2, h3⟩ => ⟨A1, c1, h1, h2.low hW.size, hW.trans (h3.mono hW.size)⟩
  have HL : Hid (∀ W A1 c1, RowI W w.heap.size A1 c1 (upL x.s (blk x.l)) → Calls Try.prog 75 #[.slice A1 (upL x.s (blk x.l)).length c1, .func (.func 82) #[] #[]] W fun e w' => e = .returned (.tuple #[.int .i64 (bestL lessB (upL x.s (blk x.l))), .bool (!(upL x.s (blk x.l)).isEmpty)]) ∧ Below W.heap.size W w') := fun W A1 c1 hr =>
    best_less A1 c1 _ lessB W (by have := up_len x.s (blk x.l); rw [length_blk] at this; omega) hr.ints (fun p q W2 _ _ _ => less_any p q W2)
  have HM : Hid (∀ W A1 c1, RowI W w.heap.size A1 c1 (blk x.l) → Calls Try.prog 75 #[.slice A1 x.l.length c1, .func (.func 82) #[] #[]] W fun e w' => e = .returned (.tuple #[.int .i64 (bestL lessB (blk x.l)), .bool (!(blk x.l).isEmpty)]) ∧ Below W.heap.size W w') := fun W A1 c1 hr => by
    have := best_less A1 c1 (blk x.l) lessB W (by rw [length_blk]; exact hl) hr.ints (fun p q W2 _ _ _ => less_any p q W2)
    rwa [length_blk] at this
  unfold upSays at HU
  unfold cycL
  generalize x.l.length = n at *
  generalize hlu : upL x.s (blk x.l) = lu at *
  clear hlu
  generalize blk x.l = bl at *
  generalize bestL lessB bl = m2 at *
  generalize (!bl.isEmpty) = q2 at *
  generalize bestL lessB lu = m at *
  clear hC hl
  cases hq : lu.isEmpty with
  | true =>
    rw [hq] at HL
    simp only [if_true, Bool.not_true] at HL ⊢
    clear hq
    go_enter Try.func61, Try.ntmps61
    go_wp2_with (first
      | (go_at_call 80; refine HU.out.mono ?_; rintro e w1 ⟨A1, c1, rfl, hr1, hb1⟩; have HR1 := Lib.hid hr1; have HB1 := Lib.hid hb1; clear hr1 hb1)
      | (go_at_call 75; (with_reducible refine (HL.out _ _ _ HR1.out).mono ?_); rintro e w2 ⟨rfl, hb2⟩; have HB2 := Lib.hid (HB1.out.trans (hb2.mono HB1.out.size)); clear hb2)
      | (go_at_call 41; (with_reducible refine (HBk.out _ HB2.out).mono ?_); rintro e w3 ⟨A3, c3, rfl, hr3, hb3⟩; have HR3 := Lib.hid hr3; have HB3 := Lib.hid hb3; clear hr3 hb3)
      | (go_at_call 75; (with_reducible refine (HM.out _ _ _ HR3.out).mono ?_); rintro e w4 ⟨rfl, hb4⟩; have HB4 := Lib.hid (HB3.out.trans (hb4.mono HB3.out.size)); clear hb4))
    go_ret
    exact ⟨rfl, HB4.out⟩
  | false =>
    rw [hq] at HL
    simp only [Bool.false_eq_true, if_false, Bool.not_false] at HL ⊢
    clear hq
    go_enter Try.func61, Try.ntmps61
    go_wp2_with (first
      | (go_at_call 80; refine HU.out.mono ?_; rintro e w1 ⟨A1, c1, rfl, hr1, hb1⟩; have HR1 := Lib.hid hr1; have HB1 := Lib.hid hb1; clear hr1 hb1)
      | (go_at_call 75; (with_reducible refine (HL.out _ _ _ HR1.out).mono ?_); rintro e w2 ⟨rfl, hb2⟩; have HB2 := Lib.hid (HB1.out.trans (hb2.mono HB1.out.size)); clear hb2))
    go_ret
    exact ⟨rfl, HB2.out⟩
set_option maxRecDepth 100000 in
set_option maxHeartbeats 1000000 in
theorem near_any (hC : PAt B w g A c x) (hl : x.l.length ≤ 1000) (hs : x.s < 1024) (hn : 1 ≤ x.n) (hn64 : x.n ≤ 64) (hr : ∀ b ∈ blk x.l, 0 ≤ b ∧ b < 1024) :
    Calls Try.prog 59 #[.pointer (some ⟨g, 0, none⟩)] w fun e w' => e = .returned (.int .i64 (bestL (nearB x.s x.n) (blk x.l))) ∧ Below w.heap.size w w' := by
  obtain ⟨W, hW⟩ : ∃ W, W = w.alloc (.cells #[.pointer (some ⟨g, 0, none⟩)] 24) := ⟨_, rfl⟩
  have hB1 : Below w.heap.size w W := by rw [hW]; exact (Below.refl _ _).alloc (Nat.le_refl _) _
  have hsz : W.heap.size = w.heap.size + 1 := by rw [hW]; simp
  have hbox : W.cell? ⟨w.heap.size, 0, none⟩ = some (.pointer (some ⟨g, 0, none⟩)) := by
    rw [hW]; exact cell_of_row _ w.heap.size 0 _ _ (0, 0) (heap_alloc_new w _)
  have HBk := Lib.hid (blocks_any B g A c x W (hC.fresh hB1) hl)
  have HM : Hid (∀ W1 A1 c1, Below W.heap.size W W1 → RowI W1 W.heap.size A1 c1 (blk x.l) → Calls Try.prog 75 #[.slice A1 x.l.length c1, .func (.func 76) #[] #[.pointer (some ⟨w.heap.size, 0, none⟩)]] W1 fun e w' => e = .returned (.tuple #[.int .i64 (bestL (nearB x.s x.n) (blk x.l)), .bool (!(blk x.l).isEmpty)]) ∧ Below W1.heap.size W1 w') := fun W1 A1 c1 h1 hr1 => by
    have := best_near A1 c1 (blk x.l) w.heap.size (nearB x.s x.n) W1 (by rw [length_blk]; exact hl) hr1.ints (fun p q W2 hp hq h2 => by
      have hk : Below w.heap.size w W2 := hB1.trans ((h1.trans (h2.mono h1.size)).mono (by omega))
      have := h1.size
      have := h2.size
      refine near1_any B g A c x w.heap.size W2 (hC.fresh hk) hs hn hn64 ?_ p q (hr p hp).1 (hr p hp).2 (hr q hq).1 (hr q hq).2
      rw [h2.cell (p := ⟨w.heap.size, 0, none⟩) (by show w.heap.size < _; omega), h1.cell (p := ⟨w.heap.size, 0, none⟩) (by show w.heap.size < _; omega), hbox])
    rwa [length_blk] at this
  have HB1 := Lib.hid hB1
  rw [hW] at HBk HM HB1
  generalize bestL (nearB x.s x.n) (blk x.l) = m at *
  generalize (!(blk x.l).isEmpty) = q at *
  generalize x.l.length = n at *
  have hc2 : Hid (∀ W1, Below (w.alloc (.cells #[.pointer (some ⟨g, 0, none⟩)] 24)).heap.size (w.alloc (.cells #[.pointer (some ⟨g, 0, none⟩)] 24)) W1 → W1.cell? ⟨w.heap.size, 0, none⟩ = some (.pointer (some ⟨g, 0, none⟩))) := fun W1 h1 => by
    rw [h1.cell (p := ⟨w.heap.size, 0, none⟩) (by simp), ← hW, hbox]
  clear hC hB1 hsz hbox hW hs hn hn64 hr hl
  go_enter Try.func59, Try.ntmps59
  go_wp2_with (first
    | (go_at_call 41; refine HBk.out.mono ?_; rintro e w1 ⟨A1, c1, rfl, hr1, hb1⟩; have HR1 := Lib.hid hr1; have HBa := Lib.hid hb1; have hcx := hc2.out _ hb1; clear hr1 hb1)
    | (go_at_call 75; (with_reducible refine (HM.out _ _ _ HBa.out HR1.out).mono ?_); rintro e w2 ⟨rfl, hb2⟩; have HB2 := Lib.hid hb2; clear hb2))
  go_ret
  exact ⟨rfl, (HB1.out.trans (HBa.out.mono HB1.out.size)).trans (HB2.out.mono (HB1.out.trans (HBa.out.mono HB1.out.size)).size)⟩
theorem fifo_any (hC : PAt B w g A c x) (h0 : 0 < x.l.length) :
    Calls Try.prog 62 #[.pointer (some ⟨g, 0, none⟩)] w fun e w' => e = .returned (.int .i64 (inn (blk x.l) 0)) ∧ Below w.heap.size w w' := by
  obtain ⟨_, _, _, _, _, hs⟩ := pcells hC
  obtain ⟨ab, rfl, h3, h4, hb, _, c0, c1, _⟩ := hC.row.at_ h0
  rw [blk_at h0]
  generalize (rn x.l 0).b = rb at *
  generalize x.l.length = n at *
  unfold maxLen at h4
  have h0i : (0 : Int) < (n : Int) := by omega
  rw [Nat.zero_mul] at c0
  clear hC
  go_enter Try.func62, Try.ntmps62
  go_wp2
  go_ret
  exact ⟨rfl, Below.refl _ _⟩
end
end Go.Proofs.Ytpelocpjfmmceaa
