/- The document's Fork. -/
import Derived.Test.YtibkipdadpidnaaK
set_option linter.unusedVariables false
set_option linter.unusedSimpArgs false
namespace Go.Proofs.Ytibkipdadpidnaa
open Go.RowKit
open Pat (Pt AllB undoP nth)
section
variable (B r : Nat) (bA A : Option Addr) (bc c : Nat) (s : Sk) (w : World)
set_option maxRecDepth 100000 in
set_option maxHeartbeats 4000000 in
theorem rfork_any (hC : RefAt B w r bA bc A c s) (hl : s.l.length ≤ 900) : Calls Try.prog 29 #[.pointer (some ⟨r, 0, none⟩)] w fun e w' => ∃ r', e = .returned (.pointer (some ⟨r', 0, none⟩)) ∧ Rf w.heap.size w' r' s ∧ Below w.heap.size w w' := by
  have HC := Lib.hid hC
  obtain ⟨f, l, k⟩ := s
  simp only at hl
  obtain ⟨i0, hi0, hz0, hz1, hz2⟩ := info_parts infoO
  obtain ⟨j0, hj0, hy0, hy1, hy2⟩ := info_parts Pat.info5
  have B0 : Hid (Below w.heap.size w w.drew) := (Below.refl _ _).drew
  have HKeep : Hid (∀ V, Below w.heap.size w V → V.cell? ⟨r, 0, none⟩ = some (.slice bA 32 bc) ∧ V.cell? ⟨r, 1, none⟩ = some (.slice A l.length c) ∧ V.cell? ⟨r, 2, none⟩ = some (.int .i64 k)) := fun V hV => (HC.out.fresh hV).hcells
  have Hso : Hid (∀ V, Below w.heap.size w V → ∀ ad, A = some ad → ∀ j u, (flatO l)[j]? = some u → V.cell? (ad.add j) = some u) := fun V hV => (row_src (HC.out.fresh hV).row).1
  have Hno : Hid (A = none → l.length = 0) := (row_src HC.out.row).2
  have Hsb : Hid (∀ V, Below w.heap.size w V → ∀ ad, bA = some ad → ∀ j u, (Pat.bytesV f)[j]? = some u → V.cell? (ad.add j) = some u) := fun V hV => (row_src (HC.out.fresh hV).base).1
  have Hnb : Hid (bA = none → 32 = 0) := (row_src HC.out.base).2
  have Hfl := Lib.hid (length_flatO l)
  have Hfb : Hid ((Pat.bytesV f).length = 32 * 1) := HC.out.base.1
  have Hone := Lib.hid (flatO_one l)
  have Honb := Lib.hid (Pat.bytesV_one f)
  have HAl := Lib.hid HC.out.all
  have HNB : Hid (∀ V, Below w.heap.size w V → Below w.heap.size w (V.alloc (.cells #[] 5)) ∧ (V.alloc (.cells #[] 5)).ownsRow w.heap.size 5 1 (.slice (some ⟨V.heap.size, 0, none⟩) 0 0) 0 []) := fun V hV =>
    ⟨hV.alloc hV.size _, World.ownsRow_made V #[] 0 hV.size (by simp) (by simp)⟩
  have HNO : Hid (∀ V, Below w.heap.size w V → Below w.heap.size w (V.alloc (.cells #[] 97)) ∧ (V.alloc (.cells #[] 97)).ownsRow w.heap.size 97 4 (.slice (some ⟨V.heap.size, 0, none⟩) 0 0) 0 []) := fun V hV =>
    ⟨hV.alloc hV.size _, World.ownsRow_made V #[] 0 hV.size (by simp) (by simp)⟩
  have HGB : Hid (∀ V V' A1 n c1 (row : Option Nat), Below w.heap.size w V → (∀ b, row = some b → w.heap.size ≤ b) → V.grownBy V' row → V'.ownsRow w.heap.size 5 1 (.slice A1 n c1) n (([] : List Value) ++ Pat.bytesV f) → Below w.heap.size w V' ∧ V'.ownsRow w.heap.size 5 1 (.slice A1 n c1) n (Pat.bytesV f)) := fun V V' A1 n c1 row hV hrow hg ho => ⟨hV.grown hg hV.size hrow, ho⟩
  have HGO : Hid (∀ V V' A1 n c1 (row : Option Nat), Below w.heap.size w V → (∀ b, row = some b → w.heap.size ≤ b) → V.grownBy V' row → V'.ownsRow w.heap.size 97 4 (.slice A1 n c1) n (([] : List Value) ++ flatO l) → Below w.heap.size w V' ∧ V'.ownsRow w.heap.size 97 4 (.slice A1 n c1) n (flatO l)) := fun V V' A1 n c1 row hV hrow hg ho => ⟨hV.grown hg hV.size hrow, ho⟩
  have HTy : Hid (∀ (V V' : World) A1 A2 n1 c1 n2 c2 m1 m2 (t1 t2 : TypeId) (x1 x2 : List Value), V.ownsRow w.heap.size t1 m1 (.slice A1 n1 c1) n1 x1 → V.ownsRow w.heap.size t2 m2 (.slice A2 n2 c2) n2 x2 → t1 ≠ t2 → V.grownBy V' (Value.slice A2 n2 c2).ownBlock → V'.ownsRow w.heap.size t1 m1 (.slice A1 n1 c1) n1 x1) := fun V V' A1 A2 n1 c1 n2 c2 m1 m2 t1 t2 x1 x2 h1 h2 ht hg => by
    refine (Kept.grown (S := fun k => (Value.slice A2 n2 c2).ownBlock = some k) hg (fun k e => .inl e)).row h1 (fun k e e2 => ?_)
    rcases h1.2 with ⟨z, _⟩ | ⟨k1, cap, cur, z, _, hk, _⟩
    · obtain ⟨rfl, _⟩ := Value.slice.inj z; cases e
    rcases h2.2 with ⟨z', _⟩ | ⟨k2, cap', cur', z', _, hk', _⟩
    · obtain ⟨rfl, _⟩ := Value.slice.inj z'; cases e2
    obtain ⟨rfl, _⟩ := Value.slice.inj z
    obtain ⟨rfl, _⟩ := Value.slice.inj z'
    obtain rfl : k1 = k := by simpa [Value.ownBlock] using e
    obtain rfl : k2 = k1 := by simpa [Value.ownBlock] using e2
    have := hk.symm.trans hk'
    simp only [Option.some.injEq, Obj.cells.injEq] at this
    exact ht this.2.1
  have HFin : Hid (∀ V A1 c1 A2 c2, Below w.heap.size w V → V.ownsRow w.heap.size 5 1 (.slice A1 32 c1) 32 (Pat.bytesV f) → V.ownsRow w.heap.size 97 4 (.slice A2 l.length c2) l.length (flatO l) →
      Rf w.heap.size (V.alloc (.cells #[.slice A1 32 c1, .slice A2 l.length c2, .int .i64 k] 95)) V.heap.size ⟨f, l, k⟩ ∧ Below w.heap.size w (V.alloc (.cells #[.slice A1 32 c1, .slice A2 l.length c2, .int .i64 k] 95))) := fun V A1 c1 A2 c2 hV h1 h2 =>
    ⟨⟨A1, c1, A2, c2, heap_alloc_new V _, Pat.base_le (World.ownsRow.alloc h1 _) (Nat.zero_le _), Pat.base_le (World.ownsRow.alloc h2 _) (Nat.zero_le _), hV.size, HAl.out⟩, hV.alloc hV.size _⟩
  have X := Lib.hid (HKeep.out _ B0.out)
  have hr := hC.glt
  clear hC HC
  generalize hfl : flatO l = fl at *
  generalize hfb : Pat.bytesV f = fb at *
  clear hfl hfb
  go_enter Try.func29, Try.ntmps29
  go_wp2_with fail
  refine beginZ (fun V => V.cell? ⟨r, 0, none⟩ = some (.slice bA 32 bc) ∧ V.cell? ⟨r, 1, none⟩ = some (.slice A l.length c) ∧ V.cell? ⟨r, 2, none⟩ = some (.int .i64 k)) 18 (by kernel_rfl) (X.out) (fun hHeld => ?_)
  generalize w.drew = w0 at *
  refine takeZ 1 [17, 16, 5, 4, 3, 2, 1] (some 6) (v := ?_) rfl rfl (by kernel_rfl) (by kernel_rfl) (by kernel_rfl) (by kernel_rfl) (by kernel_rfl) (fun _ _ _ h => h) (by rfl) ?_ (by assumption) ?_
  rotate_left
  · (intro w hSw; (try dsimp only at hSw); go_simp; try with_reducible rfl)
  simp only [Act.put, List.setIfInBounds_toArray, List.set_cons_zero, List.set_cons_succ]
  refine takeZ 2 [17, 16, 5, 4, 3, 2] (some 7) (v := ?_) rfl rfl (by kernel_rfl) (by kernel_rfl) (by kernel_rfl) (by kernel_rfl) (by kernel_rfl) (fun _ _ _ h => h) (by rfl) ?_ (by assumption) ?_
  rotate_left
  · (intro w hSw; (try dsimp only at hSw); go_simp; try with_reducible rfl)
  simp only [Act.put, List.setIfInBounds_toArray, List.set_cons_zero, List.set_cons_succ]
  refine takeZ 3 [17, 16, 5, 4, 3] (some 8) (v := ?_) rfl rfl (by kernel_rfl) (by kernel_rfl) (by kernel_rfl) (by kernel_rfl) (by kernel_rfl) (fun _ _ _ h => h) (by rfl) ?_ (by assumption) ?_
  rotate_left
  · (intro w hSw; (try dsimp only at hSw); go_simp; try with_reducible rfl)
  simp only [Act.put, List.setIfInBounds_toArray, List.set_cons_zero, List.set_cons_succ]
  refine takeZ 4 [17, 16, 5, 4] (some 9) (v := ?_) rfl rfl (by kernel_rfl) (by kernel_rfl) (by kernel_rfl) (by kernel_rfl) (by kernel_rfl) (fun _ _ _ h => h) (by rfl) ?_ (by assumption) ?_
  rotate_left
  · (intro w hSw; (try dsimp only at hSw); go_simp; try with_reducible rfl)
  simp only [Act.put, List.setIfInBounds_toArray, List.set_cons_zero, List.set_cons_succ]
  refine takeZ 7 [17, 16, 11, 10, 9, 8, 7] (some 12) (v := ?_) rfl rfl (by kernel_rfl) (by kernel_rfl) (by kernel_rfl) (by kernel_rfl) (by kernel_rfl) (fun _ _ _ h => h) (by rfl) ?_ (by assumption) ?_
  rotate_left
  · (intro w hSw; (try dsimp only at hSw); go_simp; try with_reducible rfl)
  simp only [Act.put, List.setIfInBounds_toArray, List.set_cons_zero, List.set_cons_succ]
  refine takeZ 8 [17, 16, 11, 10, 9, 8] (some 13) (v := ?_) rfl rfl (by kernel_rfl) (by kernel_rfl) (by kernel_rfl) (by kernel_rfl) (by kernel_rfl) (fun _ _ _ h => h) (by rfl) ?_ (by assumption) ?_
  rotate_left
  · (intro w hSw; (try dsimp only at hSw); go_simp; try with_reducible rfl)
  simp only [Act.put, List.setIfInBounds_toArray, List.set_cons_zero, List.set_cons_succ]
  refine takeZ 9 [17, 16, 11, 10, 9] (some 14) (v := ?_) rfl rfl (by kernel_rfl) (by kernel_rfl) (by kernel_rfl) (by kernel_rfl) (by kernel_rfl) (fun _ _ _ h => h) (by rfl) ?_ (by assumption) ?_
  rotate_left
  · (intro w hSw; (try dsimp only at hSw); go_simp; try with_reducible rfl)
  simp only [Act.put, List.setIfInBounds_toArray, List.set_cons_zero, List.set_cons_succ]
  refine takeZ 10 [17, 16, 11, 10] (some 15) (v := ?_) rfl rfl (by kernel_rfl) (by kernel_rfl) (by kernel_rfl) (by kernel_rfl) (by kernel_rfl) (fun _ _ _ h => h) (by rfl) ?_ (by assumption) ?_
  rotate_left
  · (intro w hSw; (try dsimp only at hSw); go_simp; try with_reducible rfl)
  simp only [Act.put, List.setIfInBounds_toArray, List.set_cons_zero, List.set_cons_succ]
  refine takeZ 12 [17, 16, 15, 14, 13, 12] (some 17) (v := ?_) rfl rfl (by kernel_rfl) (by kernel_rfl) (by kernel_rfl) (by kernel_rfl) (by kernel_rfl) (fun _ _ _ h => h) (by rfl) ?_ (by assumption) ?_
  rotate_left
  · (intro w hSw; (try dsimp only at hSw); go_simp; try with_reducible rfl)
  simp only [Act.put, List.setIfInBounds_toArray, List.set_cons_zero, List.set_cons_succ]
  refine takeZ 13 [17, 16, 15, 14, 13] (some 18) (v := ?_) rfl rfl (by kernel_rfl) (by kernel_rfl) (by kernel_rfl) (by kernel_rfl) (by kernel_rfl) (fun _ _ _ h => h) (by rfl) ?_ (by assumption) ?_
  rotate_left
  · (intro w hSw; (try dsimp only at hSw); go_simp; try with_reducible rfl)
  simp only [Act.put, List.setIfInBounds_toArray, List.set_cons_zero, List.set_cons_succ]
  refine takeZ 14 [17, 16, 15, 14] (some 19) (v := ?_) rfl rfl (by kernel_rfl) (by kernel_rfl) (by kernel_rfl) (by kernel_rfl) (by kernel_rfl) (fun _ _ _ h => h) (by rfl) ?_ (by assumption) ?_
  rotate_left
  · (intro w hSw; (try dsimp only at hSw); go_simp; try with_reducible rfl)
  simp only [Act.put, List.setIfInBounds_toArray, List.set_cons_zero, List.set_cons_succ]
  refine takeZ 15 [17, 16, 15] (some 20) (v := ?_) rfl rfl (by kernel_rfl) (by kernel_rfl) (by kernel_rfl) (by kernel_rfl) (by kernel_rfl) (fun _ _ _ h => h) (by rfl) ?_ (by assumption) ?_
  rotate_left
  · (intro w hSw; (try dsimp only at hSw); go_simp; try with_reducible rfl)
  simp only [Act.put, List.setIfInBounds_toArray, List.set_cons_zero, List.set_cons_succ]
  refine readyZ (rs := [0, 6]) (by kernel_rfl) (by simp) ?_
  refine AllZ.cons rfl (fun K hK => ?_) (AllZ.cons rfl (fun K hK => ?_) AllZ.nil)
  · go_simp
    obtain ⟨hb1, ho1⟩ := HNB.out w0 B0.out
    have HB1 := Lib.hid hb1
    have HO1 := Lib.hid ho1
    clear hb1 ho1
    refine hK _ _ (fun _ => HKeep.out _ HB1.out) (fun hHeld => ?_)
    clear hK K
    try simp only [Act.put, List.setIfInBounds_toArray, List.set_cons_zero, List.set_cons_succ]
    replace hHeld := hHeld (by decide)
    refine readyZ (rs := [5, 6]) (by kernel_rfl) (by simp) ?_
    refine AllZ.cons rfl (fun K hK => ?_) (AllZ.cons rfl (fun K hK => ?_) AllZ.nil)
    · refine step_append_src rfl (.tmp 5) (.tmp 9) 22 rfl w.heap.size 5 j0 (.int .u8 0) 1 1 Try.underlying22 hj0 hy0 hy1 hy2 rfl (by decide) (.slice (some ⟨w0.heap.size, 0, none⟩) 0 0) 0 [] rfl HO1.out bA 32 bc fb rfl Hfb.out (Hsb.out _ HB1.out) Hnb.out Honb.out (by unfold maxLen; omega) (by omega) HB1.out.size 32 (by omega) ?_
      intro A3 c3 w3 ho3 hg3 hor3
      obtain ⟨hb3, ho3b⟩ := HGB.out _ _ _ _ _ _ HB1.out (fun b e => (HO1.out.lt b e).1) hg3 ho3
      have HB3 := Lib.hid hb3
      have HO3 := Lib.hid ho3b
      clear ho3 hg3 hor3 hb3 ho3b
      refine hK _ _ (fun _ => HKeep.out _ HB3.out) (fun hHeld => ?_)
      clear hK K
      try simp only [Act.put, List.setIfInBounds_toArray, List.set_cons_zero, List.set_cons_succ]
      replace hHeld := hHeld (by decide)
      refine readyZ (rs := [6]) (by kernel_rfl) (by simp) ?_
      refine AllZ.cons rfl (fun K hK => ?_) AllZ.nil
      go_simp
      obtain ⟨hb4, ho4⟩ := HNO.out w3 HB3.out
      have HB4 := Lib.hid hb4
      have HO4 := Lib.hid ho4
      have HP4 := Lib.hid (World.ownsRow.alloc HO3.out (.cells #[] 97))
      clear hb4 ho4
      refine hK _ _ (fun _ => HKeep.out _ HB4.out) (fun hHeld => ?_)
      clear hK K
      try simp only [Act.put, List.setIfInBounds_toArray, List.set_cons_zero, List.set_cons_succ]
      replace hHeld := hHeld (by decide)
      refine readyZ (rs := [11]) (by kernel_rfl) (by simp) ?_
      refine AllZ.cons rfl (fun K hK => ?_) AllZ.nil
      refine step_append_src rfl (.tmp 11) (.tmp 15) 93 rfl w.heap.size 97 i0 zeroO 4 40 Try.underlying93 hi0 hz0 hz1 hz2 rfl (by decide) (.slice (some ⟨w3.heap.size, 0, none⟩) 0 0) 0 [] rfl HO4.out A l.length c fl rfl Hfl.out (Hso.out _ HB4.out) Hno.out Hone.out (by unfold maxLen; omega) (by omega) HB4.out.size l.length (by omega) ?_
      intro A5 c5 w5 ho5 hg5 hor5
      obtain ⟨hb5, ho5b⟩ := HGO.out _ _ _ _ _ _ HB4.out (fun b e => (HO4.out.lt b e).1) hg5 ho5
      have HB5 := Lib.hid hb5
      have HO5 := Lib.hid ho5b
      have HQ5 := Lib.hid (HTy.out _ _ _ _ _ _ _ _ _ _ _ _ _ _ HP4.out HO4.out (by decide) hg5)
      clear ho5 hg5 hor5 hb5 ho5b
      refine hK _ _ (fun _ => HKeep.out _ HB5.out) (fun hHeld => ?_)
      clear hK K
      try simp only [Act.put, List.setIfInBounds_toArray, List.set_cons_zero, List.set_cons_succ]
      replace hHeld := hHeld (by decide)
      refine takeZ 16 [17, 16] (some 21) (v := ?_) rfl rfl (by kernel_rfl) (by kernel_rfl) (by kernel_rfl) (by kernel_rfl) (by kernel_rfl) (fun _ _ _ h => h) (by rfl) ?_ (by assumption) ?_
      rotate_left
      · (intro w hSw; (try dsimp only at hSw); go_simp; try with_reducible rfl)
      simp only [Act.put, List.setIfInBounds_toArray, List.set_cons_zero, List.set_cons_succ]
      refine readyZ (rs := [17]) (by kernel_rfl) (by simp) ?_
      refine AllZ.cons rfl (fun K hK => ?_) AllZ.nil
      go_simp
      have HE := Lib.hid (HFin.out w5 A3 c3 A5 c5 HB5.out HQ5.out HO5.out)
      refine hK _ _ (fun _ => HKeep.out _ HE.out.2) (fun hHeld => ?_)
      clear hK K
      try simp only [Act.put, List.setIfInBounds_toArray, List.set_cons_zero, List.set_cons_succ]
      replace hHeld := hHeld (by decide)
      refine readyZ (rs := [18]) (by kernel_rfl) (by simp) ?_
      refine AllZ.cons rfl (fun K hK => ?_) AllZ.nil
      go_simp
      refine hK _ _ (fun e => absurd rfl e) (fun hHeld => ?_)
      clear hK K
      try simp only [Act.put, List.setIfInBounds_toArray, List.set_cons_zero, List.set_cons_succ]
      refine doneZ (by kernel_rfl) ?_ _
      go_wp2
      go_ret
      exact ⟨w5.heap.size, rfl, HE.out.1, HE.out.2⟩
    · go_simp
      obtain ⟨hb2, ho2⟩ := HNO.out (w0.alloc (.cells #[] 5)) HB1.out
      rw [World.size_alloc] at ho2
      have HB2 := Lib.hid hb2
      have HO2 := Lib.hid ho2
      have HP2 := Lib.hid (World.ownsRow.alloc HO1.out (.cells #[] 97))
      clear hb2 ho2
      refine hK _ _ (fun _ => HKeep.out _ HB2.out) (fun hHeld => ?_)
      clear hK K
      try simp only [Act.put, List.setIfInBounds_toArray, List.set_cons_zero, List.set_cons_succ]
      replace hHeld := hHeld (by decide)
      refine readyZ (rs := [5]) (by kernel_rfl) (by simp) ?_
      refine AllZ.cons rfl (fun K hK => ?_) AllZ.nil
      refine step_append_src rfl (.tmp 5) (.tmp 9) 22 rfl w.heap.size 5 j0 (.int .u8 0) 1 1 Try.underlying22 hj0 hy0 hy1 hy2 rfl (by decide) (.slice (some ⟨w0.heap.size, 0, none⟩) 0 0) 0 [] rfl HP2.out bA 32 bc fb rfl Hfb.out (Hsb.out _ HB2.out) Hnb.out Honb.out (by unfold maxLen; omega) (by omega) HB2.out.size 32 (by omega) ?_
      intro A3 c3 w3 ho3 hg3 hor3
      obtain ⟨hb3, ho3b⟩ := HGB.out _ _ _ _ _ _ HB2.out (fun b e => (HP2.out.lt b e).1) hg3 ho3
      have HB3 := Lib.hid hb3
      have HO3 := Lib.hid ho3b
      have HP3 := Lib.hid (HTy.out _ _ _ _ _ _ _ _ _ _ _ _ _ _ HO2.out HP2.out (by decide) hg3)
      clear ho3 hg3 hor3 hb3 ho3b
      refine hK _ _ (fun _ => HKeep.out _ HB3.out) (fun hHeld => ?_)
      clear hK K
      try simp only [Act.put, List.setIfInBounds_toArray, List.set_cons_zero, List.set_cons_succ]
      replace hHeld := hHeld (by decide)
      refine readyZ (rs := [11]) (by kernel_rfl) (by simp) ?_
      refine AllZ.cons rfl (fun K hK => ?_) AllZ.nil
      refine step_append_src rfl (.tmp 11) (.tmp 15) 93 rfl w.heap.size 97 i0 zeroO 4 40 Try.underlying93 hi0 hz0 hz1 hz2 rfl (by decide) (.slice (some ⟨(w0.heap.size + 1), 0, none⟩) 0 0) 0 [] rfl HP3.out A l.length c fl rfl Hfl.out (Hso.out _ HB3.out) Hno.out Hone.out (by unfold maxLen; omega) (by omega) HB3.out.size l.length (by omega) ?_
      intro A5 c5 w5 ho5 hg5 hor5
      obtain ⟨hb5, ho5b⟩ := HGO.out _ _ _ _ _ _ HB3.out (fun b e => (HP3.out.lt b e).1) hg5 ho5
      have HB5 := Lib.hid hb5
      have HO5 := Lib.hid ho5b
      have HQ5 := Lib.hid (HTy.out _ _ _ _ _ _ _ _ _ _ _ _ _ _ HO3.out HP3.out (by decide) hg5)
      clear ho5 hg5 hor5 hb5 ho5b
      refine hK _ _ (fun _ => HKeep.out _ HB5.out) (fun hHeld => ?_)
      clear hK K
      try simp only [Act.put, List.setIfInBounds_toArray, List.set_cons_zero, List.set_cons_succ]
      replace hHeld := hHeld (by decide)
      refine takeZ 16 [17, 16] (some 21) (v := ?_) rfl rfl (by kernel_rfl) (by kernel_rfl) (by kernel_rfl) (by kernel_rfl) (by kernel_rfl) (fun _ _ _ h => h) (by rfl) ?_ (by assumption) ?_
      rotate_left
      · (intro w hSw; (try dsimp only at hSw); go_simp; try with_reducible rfl)
      simp only [Act.put, List.setIfInBounds_toArray, List.set_cons_zero, List.set_cons_succ]
      refine readyZ (rs := [17]) (by kernel_rfl) (by simp) ?_
      refine AllZ.cons rfl (fun K hK => ?_) AllZ.nil
      go_simp
      have HE := Lib.hid (HFin.out w5 A3 c3 A5 c5 HB5.out HQ5.out HO5.out)
      refine hK _ _ (fun _ => HKeep.out _ HE.out.2) (fun hHeld => ?_)
      clear hK K
      try simp only [Act.put, List.setIfInBounds_toArray, List.set_cons_zero, List.set_cons_succ]
      replace hHeld := hHeld (by decide)
      refine readyZ (rs := [18]) (by kernel_rfl) (by simp) ?_
      refine AllZ.cons rfl (fun K hK => ?_) AllZ.nil
      go_simp
      refine hK _ _ (fun e => absurd rfl e) (fun hHeld => ?_)
      clear hK K
      try simp only [Act.put, List.setIfInBounds_toArray, List.set_cons_zero, List.set_cons_succ]
      refine doneZ (by kernel_rfl) ?_ _
      go_wp2
      go_ret
      exact ⟨w5.heap.size, rfl, HE.out.1, HE.out.2⟩
  · go_simp
    obtain ⟨hb1, ho1⟩ := HNO.out w0 B0.out
    have HB1 := Lib.hid hb1
    have HO1 := Lib.hid ho1
    clear hb1 ho1
    refine hK _ _ (fun _ => HKeep.out _ HB1.out) (fun hHeld => ?_)
    clear hK K
    try simp only [Act.put, List.setIfInBounds_toArray, List.set_cons_zero, List.set_cons_succ]
    replace hHeld := hHeld (by decide)
    refine readyZ (rs := [0]) (by kernel_rfl) (by simp) ?_
    refine AllZ.cons rfl (fun K hK => ?_) AllZ.nil
    go_simp
    obtain ⟨hb2, ho2⟩ := HNB.out (w0.alloc (.cells #[] 97)) HB1.out
    rw [World.size_alloc] at ho2
    have HB2 := Lib.hid hb2
    have HO2 := Lib.hid ho2
    have HP2 := Lib.hid (World.ownsRow.alloc HO1.out (.cells #[] 5))
    clear hb2 ho2
    refine hK _ _ (fun _ => HKeep.out _ HB2.out) (fun hHeld => ?_)
    clear hK K
    try simp only [Act.put, List.setIfInBounds_toArray, List.set_cons_zero, List.set_cons_succ]
    replace hHeld := hHeld (by decide)
    refine readyZ (rs := [5]) (by kernel_rfl) (by simp) ?_
    refine AllZ.cons rfl (fun K hK => ?_) AllZ.nil
    refine step_append_src rfl (.tmp 5) (.tmp 9) 22 rfl w.heap.size 5 j0 (.int .u8 0) 1 1 Try.underlying22 hj0 hy0 hy1 hy2 rfl (by decide) (.slice (some ⟨(w0.heap.size + 1), 0, none⟩) 0 0) 0 [] rfl HO2.out bA 32 bc fb rfl Hfb.out (Hsb.out _ HB2.out) Hnb.out Honb.out (by unfold maxLen; omega) (by omega) HB2.out.size 32 (by omega) ?_
    intro A3 c3 w3 ho3 hg3 hor3
    obtain ⟨hb3, ho3b⟩ := HGB.out _ _ _ _ _ _ HB2.out (fun b e => (HO2.out.lt b e).1) hg3 ho3
    have HB3 := Lib.hid hb3
    have HO3 := Lib.hid ho3b
    have HP3 := Lib.hid (HTy.out _ _ _ _ _ _ _ _ _ _ _ _ _ _ HP2.out HO2.out (by decide) hg3)
    clear ho3 hg3 hor3 hb3 ho3b
    refine hK _ _ (fun _ => HKeep.out _ HB3.out) (fun hHeld => ?_)
    clear hK K
    try simp only [Act.put, List.setIfInBounds_toArray, List.set_cons_zero, List.set_cons_succ]
    replace hHeld := hHeld (by decide)
    refine readyZ (rs := [11]) (by kernel_rfl) (by simp) ?_
    refine AllZ.cons rfl (fun K hK => ?_) AllZ.nil
    refine step_append_src rfl (.tmp 11) (.tmp 15) 93 rfl w.heap.size 97 i0 zeroO 4 40 Try.underlying93 hi0 hz0 hz1 hz2 rfl (by decide) (.slice (some ⟨w0.heap.size, 0, none⟩) 0 0) 0 [] rfl HP3.out A l.length c fl rfl Hfl.out (Hso.out _ HB3.out) Hno.out Hone.out (by unfold maxLen; omega) (by omega) HB3.out.size l.length (by omega) ?_
    intro A5 c5 w5 ho5 hg5 hor5
    obtain ⟨hb5, ho5b⟩ := HGO.out _ _ _ _ _ _ HB3.out (fun b e => (HP3.out.lt b e).1) hg5 ho5
    have HB5 := Lib.hid hb5
    have HO5 := Lib.hid ho5b
    have HQ5 := Lib.hid (HTy.out _ _ _ _ _ _ _ _ _ _ _ _ _ _ HO3.out HP3.out (by decide) hg5)
    clear ho5 hg5 hor5 hb5 ho5b
    refine hK _ _ (fun _ => HKeep.out _ HB5.out) (fun hHeld => ?_)
    clear hK K
    try simp only [Act.put, List.setIfInBounds_toArray, List.set_cons_zero, List.set_cons_succ]
    replace hHeld := hHeld (by decide)
    refine takeZ 16 [17, 16] (some 21) (v := ?_) rfl rfl (by kernel_rfl) (by kernel_rfl) (by kernel_rfl) (by kernel_rfl) (by kernel_rfl) (fun _ _ _ h => h) (by rfl) ?_ (by assumption) ?_
    rotate_left
    · (intro w hSw; (try dsimp only at hSw); go_simp; try with_reducible rfl)
    simp only [Act.put, List.setIfInBounds_toArray, List.set_cons_zero, List.set_cons_succ]
    refine readyZ (rs := [17]) (by kernel_rfl) (by simp) ?_
    refine AllZ.cons rfl (fun K hK => ?_) AllZ.nil
    go_simp
    have HE := Lib.hid (HFin.out w5 A3 c3 A5 c5 HB5.out HQ5.out HO5.out)
    refine hK _ _ (fun _ => HKeep.out _ HE.out.2) (fun hHeld => ?_)
    clear hK K
    try simp only [Act.put, List.setIfInBounds_toArray, List.set_cons_zero, List.set_cons_succ]
    replace hHeld := hHeld (by decide)
    refine readyZ (rs := [18]) (by kernel_rfl) (by simp) ?_
    refine AllZ.cons rfl (fun K hK => ?_) AllZ.nil
    go_simp
    refine hK _ _ (fun e => absurd rfl e) (fun hHeld => ?_)
    clear hK K
    try simp only [Act.put, List.setIfInBounds_toArray, List.set_cons_zero, List.set_cons_succ]
    refine doneZ (by kernel_rfl) ?_ _
    go_wp2
    go_ret
    exact ⟨w5.heap.size, rfl, HE.out.1, HE.out.2⟩
end
end Go.Proofs.Ytibkipdadpidnaa
