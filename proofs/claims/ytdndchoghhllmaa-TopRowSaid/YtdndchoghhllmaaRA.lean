/- The document's Make. -/
import Derived.Test.YtdndchoghhllmaaW
import Derived.Test.YtdndchoghhllmaaK
set_option linter.unusedVariables false
set_option linter.unusedSimpArgs false
namespace Go.Proofs.Ytdndchoghhllmaa
open Go.RowKit
def zeroG : Value := .agg #[.int .i64 0, .int .u8 0, .slice none 0 0, .slice none 0 0]
theorem infoG : (Try.prog.info? 77).map (fun i => (i.zero, i.size, i.bytes)) = some (some zeroG, 4, 64) := by kernel_rfl
theorem ownBase {w : World} {B B' : Nat} {e : TypeId} {size n : Nat} {v : Value} {xs : List Value} (h : w.ownsRow B e size v n xs) (hB : B' ≤ B) : w.ownsRow B' e size v n xs := by
  refine ⟨h.1, ?_⟩
  rcases h.2 with h0 | ⟨g, cap, cur, rfl, hb, rest⟩
  · exact .inl h0
  · exact .inr ⟨g, cap, cur, rfl, Nat.le_trans hB hb, rest⟩
/-- the cells of a whole row of groups as a source -/
theorem row_srcG {B : Nat} {w : World} {A : Option Addr} {n c : Nat} {xs : List Value} (h : w.ownsRow B 77 4 (.slice A n c) n xs) : (∀ ad, A = some ad → ∀ j u, xs[j]? = some u → w.cell? (ad.add j) = some u) ∧ (A = none → n = 0) := by
  rcases h.2 with ⟨q, h0⟩ | ⟨k, cap, cur, q, _⟩
  · obtain ⟨rfl, _, _⟩ := Value.slice.inj q
    exact ⟨fun ad e => (by cases e), fun _ => h0⟩
  · obtain ⟨rfl, _, _⟩ := Value.slice.inj q
    refine ⟨fun ad e j u hu => ?_, fun e => by cases e⟩
    cases e
    have hlt := (List.getElem?_eq_some_iff.1 hu).1
    rw [h.1] at hlt
    rw [Addr.add_lit, Nat.zero_add, h.cellAt j hlt]
    exact hu
/-- a new row laid into the document's groups -/
theorem new_row {B : Nat} {w w4 : World} {r : Nat} {A A5 : Option Addr} {c c4 n : Nat} {L L2 : List Gr} {k : Int} (h : RefAt B w r A c L k) (hb : Below w.heap.size w w4) (hr : w4.ownsRow w.heap.size 77 4 (.slice A5 n c4) n (flatG L2)) (hn : L2.length = n)
    (hN : ∀ q ∈ L2, RowI w B q.pa q.pc q.g.p ∧ RowI w B q.aa q.ac q.g.a) (hB : B ≤ w.heap.size) :
    RefAt B (w4.setCell ⟨r, 0, none⟩ (.slice A5 n c4)) r A5 c4 L2 k ∧ Kept w (w4.setCell ⟨r, 0, none⟩ (.slice A5 n c4)) (OfR r A) ∧ (∀ b, own A5 = some b → own A = some b ∨ w.heap.size ≤ b) := by
  subst hn
  have h4 := h.fresh hb
  have hk := Kept.set w4 r 0 (.slice A5 L2.length c4)
  have hlo : ∀ b, own A5 = some b → w.heap.size ≤ b := fun b e => (World.ownsRow.lt hr b (by rw [own_eq]; exact e)).1
  have hro : ∀ b, (Value.slice A5 L2.length c4).ownBlock = some b → ¬ b = r := fun b e q => by
    rw [own_eq] at e
    have := hlo b e
    have := h.glt
    omega
  refine ⟨⟨?_, ownBase (hk.row hr hro) hB, h.lo, fun q hq => ?_⟩, (Kept.fresh (S := OfR r A) hb).trans hk (fun b e => .inl (.inl e)), fun b e => .inr (hlo b e)⟩
  · rw [heap_setCell_same w4 r 0 _ 75 (.slice A5 L2.length c4) h4.head]
    rfl
  · have h1 : ∀ x, x = r → ¬ IntB w4 x := fun x e => by rw [e]; exact h4.notInt r (.inl rfl)
    obtain ⟨a1, a2⟩ := hN q hq
    exact ⟨(a1.fresh hb).keep hk (fun x e s => h1 x s ((a1.fresh hb).isInt x e)), (a2.fresh hb).keep hk (fun x e s => h1 x s ((a2.fresh hb).isInt x e))⟩
section
variable (B r : Nat) (A : Option Addr) (c : Nat) (L : List Gr) (k : Int) (w : World)
set_option maxRecDepth 100000 in
set_option maxHeartbeats 4000000 in
theorem rmake_any (hC : RefAt B w r A c L k) (hl : L.length ≤ 1000) (hk0 : 0 ≤ k) (hk1 : k < 100000000) (hB : B ≤ w.heap.size) :
    Calls Try.prog 43 #[.pointer (some ⟨r, 0, none⟩)] w fun e w' => e = .returned (if Gs.makeE ⟨gs L, k⟩ = 0 then .tuple #[.int .i64 k, .int .i64 0] else .tuple #[.int .i64 0, .int .i64 11]) ∧ RWent B w r A (if Gs.makeE ⟨gs L, k⟩ = 0 then Gs.make ⟨gs L, k⟩ else ⟨gs L, k⟩) w' := by
  obtain ⟨c0, c1⟩ := hC.hcells
  have hr := hC.glt
  by_cases h8 : 8 ≤ L.length
  · have H0 : Hid (Gs.makeE ⟨gs L, k⟩ = 11) := by unfold Hid Gs.makeE; rw [length_gs, if_pos h8]
    have HS := Lib.hid (RWent.same hC (Below.refl _ _))
    rw [H0.out, if_neg (by decide), if_neg (by decide)]
    have h8i : ((8 : Int) ≤ (L.length : Int)) := by omega
    clear hC h8
    go_enter Try.func43, Try.ntmps43
    go_wp2
    go_ret2
    exact ⟨rfl, HS.out⟩
  · have H0 : Hid (Gs.makeE ⟨gs L, k⟩ = 0) := by unfold Hid Gs.makeE; rw [length_gs, if_neg h8]
    rw [H0.out, if_pos rfl, if_pos rfl]
    have h8i : ¬ ((8 : Int) ≤ (L.length : Int)) := by omega
    obtain ⟨i0, hi0, hz0, hz1, hz2⟩ := info_parts infoG
    have B0 : Hid (Below w.heap.size w w.drew) := (Below.refl _ _).drew
    have HKeep : Hid (∀ V, Below w.heap.size w V → V.cell? ⟨r, 0, none⟩ = some (.slice A L.length c) ∧ V.cell? ⟨r, 1, none⟩ = some (.int .i64 k)) := fun V hV => (hC.fresh hV).hcells
    have Hsrc : Hid (∀ V, Below w.heap.size w V → ∀ ad, A = some ad → ∀ j u, (flatG L)[j]? = some u → V.cell? (ad.add j) = some u) := fun V hV => (row_srcG (hC.fresh hV).row).1
    have Hnil : Hid (A = none → L.length = 0) := (row_srcG hC.row).2
    have Hfl := Lib.hid (length_flatG L)
    have Hone := Lib.hid (flatG_one L)
    have HNew : Hid (∀ V, Below w.heap.size w V → Below w.heap.size w (V.alloc (.cells #[] 77)) ∧ (V.alloc (.cells #[] 77)).ownsRow w.heap.size 77 4 (.slice (some ⟨V.heap.size, 0, none⟩) 0 0) 0 [] ∧ V.heap.size < (V.alloc (.cells #[] 77)).heap.size) := fun V hV =>
      ⟨hV.alloc hV.size _, World.ownsRow_made V #[] 0 hV.size (by simp) (by simp), by simp⟩
    have HOne : Hid (∀ V, Below w.heap.size w V → Below w.heap.size w (V.alloc (.cells #[.int .i64 k, .int .u8 1, .slice none 0 0, .slice none 0 0] 77)) ∧ (V.alloc (.cells #[.int .i64 k, .int .u8 1, .slice none 0 0, .slice none 0 0] 77)).heap[V.heap.size]? = some (.cells #[.int .i64 k, .int .u8 1, .slice none 0 0, .slice none 0 0] 77 (0, 0)) ∧ V.heap.size < (V.alloc (.cells #[.int .i64 k, .int .u8 1, .slice none 0 0, .slice none 0 0] 77)).heap.size) := fun V hV =>
      ⟨hV.alloc hV.size _, heap_alloc_new V _, by simp⟩
    have HBs : Hid (∀ (V : World) b, V.heap[b]? = some (.cells #[.int .i64 k, .int .u8 1, .slice none 0 0, .slice none 0 0] 77 (0, 0)) → ∀ ad, some (⟨b, 0, none⟩ : Addr) = some ad → ∀ j u, [Value.int .i64 k, .int .u8 1, .slice none 0 0, .slice none 0 0][j]? = some u → V.cell? (ad.add j) = some u) := fun V b h ad e j u hu => by cases e; exact World.news_of_block h j u hu
    have HoneB : Hid (∀ u ∈ [Value.int .i64 k, .int .u8 1, .slice none 0 0, .slice none 0 0], u.oneCell' = true) := by intro u hu; simp at hu; rcases hu with rfl | rfl | rfl <;> rfl
    have HGr : Hid (∀ V V' A1 n c1 (row : Option Nat), Below w.heap.size w V → (∀ b, row = some b → w.heap.size ≤ b) → V.grownBy V' row → V'.ownsRow w.heap.size 77 4 (.slice A1 n c1) n (([] : List Value) ++ flatG L) → Below w.heap.size w V' ∧ V'.ownsRow w.heap.size 77 4 (.slice A1 n c1) n (flatG L)) := fun V V' A1 n c1 row hV hrow hg ho => ⟨hV.grown hg hV.size hrow, ho⟩
    have HFin : Hid (∀ V V' A2 c2 (row : Option Nat), Below w.heap.size w V → (∀ b, row = some b → w.heap.size ≤ b) → V.grownBy V' row → V'.ownsRow w.heap.size 77 4 (.slice A2 (L.length + 1) c2) (L.length + 1) (flatG L ++ [.int .i64 k, .int .u8 1, .slice none 0 0, .slice none 0 0]) →
        Below w.heap.size w V' ∧ V'.cell? ⟨r, 0, none⟩ = some (.slice A L.length c) ∧ V'.frozen? ⟨r, 0, none⟩ = false ∧ r < V'.heap.size ∧ (V'.setCell ⟨r, 0, none⟩ (.slice A2 (L.length + 1) c2)).cell? ⟨r, 1, none⟩ = some (.int .i64 k) ∧ (V'.setCell ⟨r, 0, none⟩ (.slice A2 (L.length + 1) c2)).frozen? ⟨r, 1, none⟩ = false ∧ r < (V'.setCell ⟨r, 0, none⟩ (.slice A2 (L.length + 1) c2)).heap.size ∧ ((V'.setCell ⟨r, 0, none⟩ (.slice A2 (L.length + 1) c2)).setCell ⟨r, 1, none⟩ (.int .i64 (k + 1))).cell? ⟨r, 1, none⟩ = some (.int .i64 (k + 1)) ∧ RWent B w r A (Gs.make ⟨gs L, k⟩) ((V'.setCell ⟨r, 0, none⟩ (.slice A2 (L.length + 1) c2)).setCell ⟨r, 1, none⟩ (.int .i64 (k + 1)))) := fun V V' A2 c2 row hV hrow hg ho => by
      have hb := hV.grown hg hV.size hrow
      have h4 := hC.fresh hb
      obtain ⟨z1, z2, z3⟩ := new_row (L2 := L ++ [⟨⟨k, 1, [], []⟩, none, 0, none, 0⟩]) hC hb (by rw [flatG_append]; exact ho) (by simp) (fun q hq => by
        rcases List.mem_append.1 hq with e | e
        · exact hC.nums q e
        · rw [List.mem_singleton] at e
          rw [e]
          exact ⟨World.ownsRow_nil _ _ _ _, World.ownsRow_nil _ _ _ _⟩) hB
      refine ⟨hb, h4.hcells.1, h4.free 0, h4.glt, z1.hcells.2, z1.free 1, z1.glt, World.cell?_setCell_same _ ⟨r, 1, none⟩ _ z1.hcells.2, ?_⟩
      have hk := Kept.set (V'.setCell ⟨r, 0, none⟩ (.slice A2 (L.length + 1) c2)) r 1 (.int .i64 (k + 1))
      have h1 : ∀ x, x = r → ¬ IntB (V'.setCell ⟨r, 0, none⟩ (.slice A2 (L.length + 1) c2)) x := fun x e => by rw [e]; exact z1.notInt r (.inl rfl)
      refine ⟨A2, c2, _, ⟨?_, z1.row |> fun q => hk.row q (fun b e s => z1.apart (by rw [← s]; rw [own_eq] at e; exact e)), z1.lo, fun q hq => ?_⟩, by simp [gs, Gs.make], z2.trans hk (fun b e => .inl (.inl e)), z3⟩
      · have := heap_setCell_same (V'.setCell ⟨r, 0, none⟩ (.slice A2 (L.length + 1) c2)) r 1 _ 75 (.int .i64 (k + 1)) z1.head
        rw [this]
        rfl
      · obtain ⟨a1, a2⟩ := z1.nums q hq
        exact ⟨a1.keep hk (fun x e s => h1 x s (a1.isInt x e)), a2.keep hk (fun x e s => h1 x s (a2.isInt x e))⟩
    have hwk : IntKind.i64.wrap (k + 1) = k + 1 := IntWalk.i64_in _ (by omega)
    have X := Lib.hid (HKeep.out _ B0.out)
    clear hC
    generalize flatG L = fl at *
    go_enter Try.func43, Try.ntmps43
    go_wp2_with fail
    refine beginZ (fun V => V.cell? ⟨r, 0, none⟩ = some (.slice A L.length c) ∧ V.cell? ⟨r, 1, none⟩ = some (.int .i64 k)) 16 (by kernel_rfl) (X.out) (fun hHeld => ?_)
    generalize w.drew = w0 at *
    refine takeZ 0 [15, 14, 0] (some 14) (v := ?_) rfl rfl (by kernel_rfl) (by kernel_rfl) (by kernel_rfl) (by kernel_rfl) (by kernel_rfl) (fun _ _ _ h => h) (by rfl) ?_ (by assumption) ?_
    rotate_left
    · (intro w hSw; (try dsimp only at hSw); go_simp; try with_reducible rfl)
    simp only [Act.put, List.setIfInBounds_toArray, List.set_cons_zero, List.set_cons_succ]
    refine takeZ 2 [13, 6, 5, 4, 3, 2] (some 16) (v := ?_) rfl rfl (by kernel_rfl) (by kernel_rfl) (by kernel_rfl) (by kernel_rfl) (by kernel_rfl) (fun _ _ _ h => h) (by rfl) ?_ (by assumption) ?_
    rotate_left
    · (intro w hSw; (try dsimp only at hSw); go_simp; try with_reducible rfl)
    simp only [Act.put, List.setIfInBounds_toArray, List.set_cons_zero, List.set_cons_succ]
    refine takeZ 3 [13, 6, 5, 4, 3] (some 17) (v := ?_) rfl rfl (by kernel_rfl) (by kernel_rfl) (by kernel_rfl) (by kernel_rfl) (by kernel_rfl) (fun _ _ _ h => h) (by rfl) ?_ (by assumption) ?_
    rotate_left
    · (intro w hSw; (try dsimp only at hSw); go_simp; try with_reducible rfl)
    simp only [Act.put, List.setIfInBounds_toArray, List.set_cons_zero, List.set_cons_succ]
    refine takeZ 4 [13, 6, 5, 4] (some 18) (v := ?_) rfl rfl (by kernel_rfl) (by kernel_rfl) (by kernel_rfl) (by kernel_rfl) (by kernel_rfl) (fun _ _ _ h => h) (by rfl) ?_ (by assumption) ?_
    rotate_left
    · (intro w hSw; (try dsimp only at hSw); go_simp; try with_reducible rfl)
    simp only [Act.put, List.setIfInBounds_toArray, List.set_cons_zero, List.set_cons_succ]
    refine takeZ 5 [13, 6, 5] (some 19) (v := ?_) rfl rfl (by kernel_rfl) (by kernel_rfl) (by kernel_rfl) (by kernel_rfl) (by kernel_rfl) (fun _ _ _ h => h) (by rfl) ?_ (by assumption) ?_
    rotate_left
    · (intro w hSw; (try dsimp only at hSw); go_simp; try with_reducible rfl)
    simp only [Act.put, List.setIfInBounds_toArray, List.set_cons_zero, List.set_cons_succ]
    refine takeZ 7 [13, 12, 11, 10, 9, 8, 7] (some 21) (v := ?_) rfl rfl (by kernel_rfl) (by kernel_rfl) (by kernel_rfl) (by kernel_rfl) (by kernel_rfl) (fun _ _ _ h => h) (by rfl) ?_ (by assumption) ?_
    rotate_left
    · (intro w hSw; (try dsimp only at hSw); go_simp; try with_reducible rfl)
    simp only [Act.put, List.setIfInBounds_toArray, List.set_cons_zero, List.set_cons_succ]
    refine takeZ 8 [13, 12, 11, 10, 9, 8] (some 22) (v := ?_) rfl rfl (by kernel_rfl) (by kernel_rfl) (by kernel_rfl) (by kernel_rfl) (by kernel_rfl) (fun _ _ _ h => h) (by rfl) ?_ (by assumption) ?_
    rotate_left
    · (intro w hSw; (try dsimp only at hSw); go_simp; try with_reducible rfl)
    simp only [Act.put, List.setIfInBounds_toArray, List.set_cons_zero, List.set_cons_succ]
    refine takeZ 9 [13, 12, 11, 10, 9] (some 23) (v := ?_) rfl rfl (by kernel_rfl) (by kernel_rfl) (by kernel_rfl) (by kernel_rfl) (by kernel_rfl) (fun _ _ _ h => h) (by rfl) ?_ (by assumption) ?_
    rotate_left
    · (intro w hSw; (try dsimp only at hSw); go_simp; try with_reducible rfl)
    simp only [Act.put, List.setIfInBounds_toArray, List.set_cons_zero, List.set_cons_succ]
    refine takeZ 10 [13, 12, 11, 10] (some 24) (v := ?_) rfl rfl (by kernel_rfl) (by kernel_rfl) (by kernel_rfl) (by kernel_rfl) (by kernel_rfl) (fun _ _ _ h => h) (by rfl) ?_ (by assumption) ?_
    rotate_left
    · (intro w hSw; (try dsimp only at hSw); go_simp; try with_reducible rfl)
    simp only [Act.put, List.setIfInBounds_toArray, List.set_cons_zero, List.set_cons_succ]
    refine takeZ 11 [13, 12, 11] (some 25) (v := ?_) rfl rfl (by kernel_rfl) (by kernel_rfl) (by kernel_rfl) (by kernel_rfl) (by kernel_rfl) (fun _ _ _ h => h) (by rfl) ?_ (by assumption) ?_
    rotate_left
    · (intro w hSw; (try dsimp only at hSw); go_simp; try with_reducible rfl)
    simp only [Act.put, List.setIfInBounds_toArray, List.set_cons_zero, List.set_cons_succ]
    refine readyZ (rs := [1, 12]) (by kernel_rfl) (by simp) ?_
    refine AllZ.cons rfl (fun K hK => ?_) (AllZ.cons rfl (fun K hK => ?_) AllZ.nil)
    · go_simp
      obtain ⟨hb1, ho1, hl1⟩ := HNew.out w0 B0.out
      generalize hW1 : w0.alloc (.cells #[] 77) = W1 at *
      clear hW1
      have HB1 := Lib.hid hb1
      have HO1 := Lib.hid ho1
      have HL1 := Lib.hid hl1
      clear hb1 ho1 hl1
      refine hK _ _ (fun _ => HKeep.out _ HB1.out) (fun hHeld => ?_)
      clear hK K
      try simp only [Act.put, List.setIfInBounds_toArray, List.set_cons_zero, List.set_cons_succ]
      replace hHeld := hHeld (by decide)
      refine readyZ (rs := [6, 12]) (by kernel_rfl) (by simp) ?_
      refine AllZ.cons rfl (fun K hK => ?_) (AllZ.cons rfl (fun K hK => ?_) AllZ.nil)
      · refine step_append_src rfl (.tmp 15) (.tmp 19) 73 rfl w.heap.size 77 i0 zeroG 4 64 Try.underlying73 hi0 hz0 hz1 hz2 rfl (by decide) (.slice (some ⟨w0.heap.size, 0, none⟩) 0 0) 0 [] rfl HO1.out A L.length c fl rfl Hfl.out (Hsrc.out _ HB1.out) Hnil.out Hone.out (by unfold maxLen; omega) (by omega) HB1.out.size L.length (by omega) ?_
        intro A3 c3 w3 ho3 hg3 hor3
        obtain ⟨hb3, ho3b⟩ := HGr.out _ _ _ _ _ _ HB1.out (fun b e => (HO1.out.lt b e).1) hg3 ho3
        have HB3 := Lib.hid hb3
        have HO3 := Lib.hid ho3b
        clear ho3 hg3 hor3 hb3 ho3b
        refine hK _ _ (fun _ => HKeep.out _ HB3.out) (fun hHeld => ?_)
        clear hK K
        try simp only [Act.put, List.setIfInBounds_toArray, List.set_cons_zero, List.set_cons_succ]
        replace hHeld := hHeld (by decide)
        refine readyZ (rs := [12]) (by kernel_rfl) (by simp) ?_
        refine AllZ.cons rfl (fun K hK => ?_) AllZ.nil
        go_simp
        obtain ⟨hb5, ht5, hl5⟩ := HOne.out w3 HB3.out
        have HB5 := Lib.hid hb5
        have HT5 := Lib.hid ht5
        have HO5 := Lib.hid (HO3.out.alloc (.cells #[.int .i64 k, .int .u8 1, .slice none 0 0, .slice none 0 0] 77))
        clear hb5 ht5 hl5
        refine hK _ _ (fun _ => HKeep.out _ HB5.out) (fun hHeld => ?_)
        clear hK K
        try simp only [Act.put, List.setIfInBounds_toArray, List.set_cons_zero, List.set_cons_succ]
        replace hHeld := hHeld (by decide)
        refine readyZ (rs := [13]) (by kernel_rfl) (by simp) ?_
        refine AllZ.cons rfl (fun K hK => ?_) AllZ.nil
        refine step_append_src rfl (.tmp 20) (.tmp 26) 73 rfl w.heap.size 77 i0 zeroG 4 64 Try.underlying73 hi0 hz0 hz1 hz2 rfl (by decide) (.slice A3 L.length c3) L.length fl rfl HO5.out (some ⟨w3.heap.size, 0, none⟩) 1 1 [.int .i64 k, .int .u8 1, .slice none 0 0, .slice none 0 0] rfl rfl (HBs.out _ _ HT5.out) (fun e => by cases e) HoneB.out (by unfold maxLen; omega) (by omega) HB5.out.size (L.length + 1) rfl ?_
        intro A4 c4 w4 ho4 hg4 hor4
        have HO4 := Lib.hid ho4
        have HG4 := Lib.hid hg4
        clear ho4 hg4 hor4
        refine hK _ _ (fun _ => HKeep.out _ (HB5.out.grown HG4.out HB5.out.size (fun b e => (HO5.out.lt b e).1))) (fun hHeld => ?_)
        clear hK K
        try simp only [Act.put, List.setIfInBounds_toArray, List.set_cons_zero, List.set_cons_succ]
        replace hHeld := hHeld (by decide)
        refine takeZ 14 [15, 14] (some 28) (v := ?_) rfl rfl (by kernel_rfl) (by kernel_rfl) (by kernel_rfl) (by kernel_rfl) (by kernel_rfl) (fun _ _ _ h => h) (by rfl) ?_ (by assumption) ?_
        rotate_left
        · (intro w hSw; (try dsimp only at hSw); go_simp; try with_reducible rfl)
        simp only [Act.put, List.setIfInBounds_toArray, List.set_cons_zero, List.set_cons_succ]
        refine takeZ 15 [15] (some 29) (v := ?_) rfl rfl (by kernel_rfl) (by kernel_rfl) (by kernel_rfl) (by kernel_rfl) (by kernel_rfl) (fun _ _ _ h => h) (by rfl) ?_ (by assumption) ?_
        rotate_left
        · (intro w hSw; (try dsimp only at hSw); go_simp; try with_reducible rfl)
        simp only [Act.put, List.setIfInBounds_toArray, List.set_cons_zero, List.set_cons_succ]
        refine readyZ (rs := [16]) (by kernel_rfl) (by simp) ?_
        refine AllZ.cons rfl (fun K hK => ?_) AllZ.nil
        have HZ := Lib.hid (HFin.out (w3.alloc (.cells #[.int .i64 k, .int .u8 1, .slice none 0 0, .slice none 0 0] 77)) w4 A4 c4 (Value.slice A3 L.length c3).ownBlock HB5.out (fun b e => (World.ownsRow.lt HO5.out b e).1) HG4.out HO4.out)
        have d0 := HZ.out.2.1
        have f0 := HZ.out.2.2.1
        have l0 := HZ.out.2.2.2.1
        go_simp
        refine hK _ _ (fun e => absurd rfl e) (fun hHeld => ?_)
        clear hK K
        try simp only [Act.put, List.setIfInBounds_toArray, List.set_cons_zero, List.set_cons_succ]
        refine doneZ (by kernel_rfl) ?_ _
        have d1 := HZ.out.2.2.2.2.1
        have f1 := HZ.out.2.2.2.2.2.1
        have l1 := HZ.out.2.2.2.2.2.2.1
        have d2 := HZ.out.2.2.2.2.2.2.2.1
        have HE := Lib.hid HZ.out.2.2.2.2.2.2.2.2
        clear HZ d0 f0 l0
        generalize w4.setCell ⟨r, 0, none⟩ (.slice A4 (L.length + 1) c4) = W at *
        go_wp2
        go_ret2
        exact ⟨rfl, HE.out⟩
      · go_simp
        obtain ⟨hb2, ht2, hl2⟩ := HOne.out W1 HB1.out
        have HB2 := Lib.hid hb2
        have HT2 := Lib.hid ht2
        have HO2 := Lib.hid (HO1.out.alloc (.cells #[.int .i64 k, .int .u8 1, .slice none 0 0, .slice none 0 0] 77))
        have HL2 := Lib.hid hl2
        have HN2 := Lib.hid (Nat.ne_of_gt HL1.out)
        clear hb2 ht2 hl2
        refine hK _ _ (fun _ => HKeep.out _ HB2.out) (fun hHeld => ?_)
        clear hK K
        try simp only [Act.put, List.setIfInBounds_toArray, List.set_cons_zero, List.set_cons_succ]
        replace hHeld := hHeld (by decide)
        refine readyZ (rs := [6]) (by kernel_rfl) (by simp) ?_
        refine AllZ.cons rfl (fun K hK => ?_) AllZ.nil
        refine step_append_src rfl (.tmp 15) (.tmp 19) 73 rfl w.heap.size 77 i0 zeroG 4 64 Try.underlying73 hi0 hz0 hz1 hz2 rfl (by decide) (.slice (some ⟨w0.heap.size, 0, none⟩) 0 0) 0 [] rfl HO2.out A L.length c fl rfl Hfl.out (Hsrc.out _ HB2.out) Hnil.out Hone.out (by unfold maxLen; omega) (by omega) HB2.out.size L.length (by omega) ?_
        intro A3 c3 w3 ho3 hg3 hor3
        obtain ⟨hb3, ho3b⟩ := HGr.out _ _ _ _ _ _ HB2.out (fun b e => (HO2.out.lt b e).1) hg3 ho3
        have HB3 := Lib.hid hb3
        have HO3 := Lib.hid ho3b
        have HT3 := Lib.hid ((hg3.block _ HL2.out (fun e => HN2.out (Option.some.inj e))).trans HT2.out)
        clear ho3 hg3 hor3 hb3 ho3b
        refine hK _ _ (fun _ => HKeep.out _ HB3.out) (fun hHeld => ?_)
        clear hK K
        try simp only [Act.put, List.setIfInBounds_toArray, List.set_cons_zero, List.set_cons_succ]
        replace hHeld := hHeld (by decide)
        refine readyZ (rs := [13]) (by kernel_rfl) (by simp) ?_
        refine AllZ.cons rfl (fun K hK => ?_) AllZ.nil
        refine step_append_src rfl (.tmp 20) (.tmp 26) 73 rfl w.heap.size 77 i0 zeroG 4 64 Try.underlying73 hi0 hz0 hz1 hz2 rfl (by decide) (.slice A3 L.length c3) L.length fl rfl HO3.out (some ⟨W1.heap.size, 0, none⟩) 1 1 [.int .i64 k, .int .u8 1, .slice none 0 0, .slice none 0 0] rfl rfl (HBs.out _ _ HT3.out) (fun e => by cases e) HoneB.out (by unfold maxLen; omega) (by omega) HB3.out.size (L.length + 1) rfl ?_
        intro A4 c4 w4 ho4 hg4 hor4
        have HO4 := Lib.hid ho4
        have HG4 := Lib.hid hg4
        clear ho4 hg4 hor4
        refine hK _ _ (fun _ => HKeep.out _ (HB3.out.grown HG4.out HB3.out.size (fun b e => (HO3.out.lt b e).1))) (fun hHeld => ?_)
        clear hK K
        try simp only [Act.put, List.setIfInBounds_toArray, List.set_cons_zero, List.set_cons_succ]
        replace hHeld := hHeld (by decide)
        refine takeZ 14 [15, 14] (some 28) (v := ?_) rfl rfl (by kernel_rfl) (by kernel_rfl) (by kernel_rfl) (by kernel_rfl) (by kernel_rfl) (fun _ _ _ h => h) (by rfl) ?_ (by assumption) ?_
        rotate_left
        · (intro w hSw; (try dsimp only at hSw); go_simp; try with_reducible rfl)
        simp only [Act.put, List.setIfInBounds_toArray, List.set_cons_zero, List.set_cons_succ]
        refine takeZ 15 [15] (some 29) (v := ?_) rfl rfl (by kernel_rfl) (by kernel_rfl) (by kernel_rfl) (by kernel_rfl) (by kernel_rfl) (fun _ _ _ h => h) (by rfl) ?_ (by assumption) ?_
        rotate_left
        · (intro w hSw; (try dsimp only at hSw); go_simp; try with_reducible rfl)
        simp only [Act.put, List.setIfInBounds_toArray, List.set_cons_zero, List.set_cons_succ]
        refine readyZ (rs := [16]) (by kernel_rfl) (by simp) ?_
        refine AllZ.cons rfl (fun K hK => ?_) AllZ.nil
        have HZ := Lib.hid (HFin.out w3 w4 A4 c4 (Value.slice A3 L.length c3).ownBlock HB3.out (fun b e => (World.ownsRow.lt HO3.out b e).1) HG4.out HO4.out)
        have d0 := HZ.out.2.1
        have f0 := HZ.out.2.2.1
        have l0 := HZ.out.2.2.2.1
        go_simp
        refine hK _ _ (fun e => absurd rfl e) (fun hHeld => ?_)
        clear hK K
        try simp only [Act.put, List.setIfInBounds_toArray, List.set_cons_zero, List.set_cons_succ]
        refine doneZ (by kernel_rfl) ?_ _
        have d1 := HZ.out.2.2.2.2.1
        have f1 := HZ.out.2.2.2.2.2.1
        have l1 := HZ.out.2.2.2.2.2.2.1
        have d2 := HZ.out.2.2.2.2.2.2.2.1
        have HE := Lib.hid HZ.out.2.2.2.2.2.2.2.2
        clear HZ d0 f0 l0
        generalize w4.setCell ⟨r, 0, none⟩ (.slice A4 (L.length + 1) c4) = W at *
        go_wp2
        go_ret2
        exact ⟨rfl, HE.out⟩
    · go_simp
      obtain ⟨hb1, ht1, hl1⟩ := HOne.out w0 B0.out
      generalize hW1 : w0.alloc (.cells #[.int .i64 k, .int .u8 1, .slice none 0 0, .slice none 0 0] 77) = W1 at *
      clear hW1
      have HB1 := Lib.hid hb1
      have HT1 := Lib.hid ht1
      have HL1 := Lib.hid hl1
      clear hb1 ht1 hl1
      refine hK _ _ (fun _ => HKeep.out _ HB1.out) (fun hHeld => ?_)
      clear hK K
      try simp only [Act.put, List.setIfInBounds_toArray, List.set_cons_zero, List.set_cons_succ]
      replace hHeld := hHeld (by decide)
      refine readyZ (rs := [1]) (by kernel_rfl) (by simp) ?_
      refine AllZ.cons rfl (fun K hK => ?_) AllZ.nil
      go_simp
      obtain ⟨hb2, ho2, hl2⟩ := HNew.out W1 HB1.out
      have HB2 := Lib.hid hb2
      have HO2 := Lib.hid ho2
      have HT2 := Lib.hid ((heap_alloc_old W1 (.cells #[] 77) HL1.out).trans HT1.out)
      have HL2 := Lib.hid (Nat.lt_trans HL1.out hl2)
      have HN2 := Lib.hid (Nat.ne_of_lt HL1.out)
      clear hb2 ho2 hl2
      refine hK _ _ (fun _ => HKeep.out _ HB2.out) (fun hHeld => ?_)
      clear hK K
      try simp only [Act.put, List.setIfInBounds_toArray, List.set_cons_zero, List.set_cons_succ]
      replace hHeld := hHeld (by decide)
      refine readyZ (rs := [6]) (by kernel_rfl) (by simp) ?_
      refine AllZ.cons rfl (fun K hK => ?_) AllZ.nil
      refine step_append_src rfl (.tmp 15) (.tmp 19) 73 rfl w.heap.size 77 i0 zeroG 4 64 Try.underlying73 hi0 hz0 hz1 hz2 rfl (by decide) (.slice (some ⟨W1.heap.size, 0, none⟩) 0 0) 0 [] rfl HO2.out A L.length c fl rfl Hfl.out (Hsrc.out _ HB2.out) Hnil.out Hone.out (by unfold maxLen; omega) (by omega) HB2.out.size L.length (by omega) ?_
      intro A3 c3 w3 ho3 hg3 hor3
      obtain ⟨hb3, ho3b⟩ := HGr.out _ _ _ _ _ _ HB2.out (fun b e => (HO2.out.lt b e).1) hg3 ho3
      have HB3 := Lib.hid hb3
      have HO3 := Lib.hid ho3b
      have HT3 := Lib.hid ((hg3.block _ HL2.out (fun e => HN2.out (Option.some.inj e))).trans HT2.out)
      clear ho3 hg3 hor3 hb3 ho3b
      refine hK _ _ (fun _ => HKeep.out _ HB3.out) (fun hHeld => ?_)
      clear hK K
      try simp only [Act.put, List.setIfInBounds_toArray, List.set_cons_zero, List.set_cons_succ]
      replace hHeld := hHeld (by decide)
      refine readyZ (rs := [13]) (by kernel_rfl) (by simp) ?_
      refine AllZ.cons rfl (fun K hK => ?_) AllZ.nil
      refine step_append_src rfl (.tmp 20) (.tmp 26) 73 rfl w.heap.size 77 i0 zeroG 4 64 Try.underlying73 hi0 hz0 hz1 hz2 rfl (by decide) (.slice A3 L.length c3) L.length fl rfl HO3.out (some ⟨w0.heap.size, 0, none⟩) 1 1 [.int .i64 k, .int .u8 1, .slice none 0 0, .slice none 0 0] rfl rfl (HBs.out _ _ HT3.out) (fun e => by cases e) HoneB.out (by unfold maxLen; omega) (by omega) HB3.out.size (L.length + 1) rfl ?_
      intro A4 c4 w4 ho4 hg4 hor4
      have HO4 := Lib.hid ho4
      have HG4 := Lib.hid hg4
      clear ho4 hg4 hor4
      refine hK _ _ (fun _ => HKeep.out _ (HB3.out.grown HG4.out HB3.out.size (fun b e => (HO3.out.lt b e).1))) (fun hHeld => ?_)
      clear hK K
      try simp only [Act.put, List.setIfInBounds_toArray, List.set_cons_zero, List.set_cons_succ]
      replace hHeld := hHeld (by decide)
      refine takeZ 14 [15, 14] (some 28) (v := ?_) rfl rfl (by kernel_rfl) (by kernel_rfl) (by kernel_rfl) (by kernel_rfl) (by kernel_rfl) (fun _ _ _ h => h) (by rfl) ?_ (by assumption) ?_
      rotate_left
      · (intro w hSw; (try dsimp only at hSw); go_simp; try with_reducible rfl)
      simp only [Act.put, List.setIfInBounds_toArray, List.set_cons_zero, List.set_cons_succ]
      refine takeZ 15 [15] (some 29) (v := ?_) rfl rfl (by kernel_rfl) (by kernel_rfl) (by kernel_rfl) (by kernel_rfl) (by kernel_rfl) (fun _ _ _ h => h) (by rfl) ?_ (by assumption) ?_
      rotate_left
      · (intro w hSw; (try dsimp only at hSw); go_simp; try with_reducible rfl)
      simp only [Act.put, List.setIfInBounds_toArray, List.set_cons_zero, List.set_cons_succ]
      refine readyZ (rs := [16]) (by kernel_rfl) (by simp) ?_
      refine AllZ.cons rfl (fun K hK => ?_) AllZ.nil
      have HZ := Lib.hid (HFin.out w3 w4 A4 c4 (Value.slice A3 L.length c3).ownBlock HB3.out (fun b e => (World.ownsRow.lt HO3.out b e).1) HG4.out HO4.out)
      have d0 := HZ.out.2.1
      have f0 := HZ.out.2.2.1
      have l0 := HZ.out.2.2.2.1
      go_simp
      refine hK _ _ (fun e => absurd rfl e) (fun hHeld => ?_)
      clear hK K
      try simp only [Act.put, List.setIfInBounds_toArray, List.set_cons_zero, List.set_cons_succ]
      refine doneZ (by kernel_rfl) ?_ _
      have d1 := HZ.out.2.2.2.2.1
      have f1 := HZ.out.2.2.2.2.2.1
      have l1 := HZ.out.2.2.2.2.2.2.1
      have d2 := HZ.out.2.2.2.2.2.2.2.1
      have HE := Lib.hid HZ.out.2.2.2.2.2.2.2.2
      clear HZ d0 f0 l0
      generalize w4.setCell ⟨r, 0, none⟩ (.slice A4 (L.length + 1) c4) = W at *
      go_wp2
      go_ret2
      exact ⟨rfl, HE.out⟩
end
end Go.Proofs.Ytdndchoghhllmaa
