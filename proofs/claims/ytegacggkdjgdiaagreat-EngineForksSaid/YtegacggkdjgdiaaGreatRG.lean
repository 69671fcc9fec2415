/- The document's engine: Fork. -/
import Derived.Test.YtegacggkdjgdiaaGreatQU
import Derived.Test.YtegacggkdjgdiaaGreatRC
set_option linter.unusedVariables false
set_option linter.unusedSimpArgs false
namespace Go.Proofs.YtegacggkdjgdiaaGreat
open Go.RowKit

theorem rowT_src {w : World} {B : Nat} {A : Option Addr} {c : Nat} {l : List Tr} (h : RowT w B A c l) : (∀ ad, A = some ad → ∀ j u, (flatT l)[j]? = some u → w.cell? (ad.add j) = some u) ∧ (A = none → l.length = 0) := by
  rcases h.row.2 with ⟨q, h0⟩ | ⟨k, cap, cur, q, _⟩
  · obtain ⟨rfl, _, _⟩ := Value.slice.inj q
    exact ⟨fun ad e => (by cases e), fun _ => h0⟩
  · obtain ⟨rfl, _, _⟩ := Value.slice.inj q
    refine ⟨fun ad e j u hu => ?_, fun e => by cases e⟩
    cases e
    have hlt := (List.getElem?_eq_some_iff.1 hu).1
    rw [length_flatT] at hlt
    rw [Addr.add_lit, Nat.zero_add, h.row.cellAt j hlt]
    exact hu
theorem row_type {w : World} {B : Nat} {e : TypeId} {size : Nat} {v : Value} {n : Nat} {xs : List Value} (h : w.ownsRow B e size v n xs) {b : Nat} (hb : v.ownBlock = some b) : ∃ cs, w.heap[b]? = some (.cells cs e (0, 0)) := by
  rcases h.2 with ⟨rfl, _⟩ | ⟨g, cap, cur, rfl, _, hg, _⟩
  · simp [Value.ownBlock] at hb
  · simp [Value.ownBlock] at hb
    subst hb; exact ⟨cur, hg⟩
theorem row_below {w w' : World} {B : Nat} {e : TypeId} {size : Nat} {v : Value} {n : Nat} {xs : List Value} (h : w.ownsRow B e size v n xs) (hb : Below w.heap.size w w') : w'.ownsRow B e size v n xs :=
  (Kept.fresh (S := fun _ => False) hb).row h (fun _ _ q => q)
theorem row_grow {w w' : World} {B B2 : Nat} {e e2 : TypeId} {size size2 : Nat} {v v2 : Value} {n n2 : Nat} {xs xs2 : List Value} (h : w.ownsRow B e size v n xs) (h2 : w.ownsRow B2 e2 size2 v2 n2 xs2) (he : e ≠ e2) (hg : w.grownBy w' v2.ownBlock) : w'.ownsRow B e size v n xs :=
  h.kept hg (by
    rcases hv : v.ownBlock with _ | b
    · exact .inl rfl
    · refine .inr fun q => he ?_
      obtain ⟨c1, e1⟩ := row_type h hv
      obtain ⟨c2, e2⟩ := row_type h2 q.symm
      rw [e1] at e2
      simp only [Option.some.injEq, Obj.cells.injEq] at e2
      exact e2.2.1)
/-- a disk of the document's that was made since -/
def DiskUp (w v : World) (d n : Nat) (S : Nat → Bk) (cc : Nat) : Prop := ∃ F, Ref v d n S cc F ∧ ∀ b, F b → w.heap.size ≤ b
theorem DiskUp.below {w v v' : World} {d n : Nat} {S : Nat → Bk} {cc : Nat} (h : DiskUp w v d n S cc) (hb : Below v.heap.size v v') : DiskUp w v' d n S cc := by
  obtain ⟨F, h1, h2⟩ := h
  exact ⟨F, h1.fresh hb, h2⟩
theorem DiskUp.grow {w v v' : World} {d n : Nat} {S : Nat → Bk} {cc : Nat} (h : DiskUp w v d n S cc) {B2 : Nat} {e2 : TypeId} {size2 : Nat} {v2 : Value} {n2 : Nat} {xs2 : List Value} (hr : v.ownsRow B2 e2 size2 v2 n2 xs2) (h1 : e2 ≠ 105) (h2 : e2 ≠ 119) (h3 : e2 ≠ 69) (hg : v.grownBy v' v2.ownBlock) : DiskUp w v' d n S cc := by
  obtain ⟨F, hF, hf⟩ := h
  have hk : Kept v v' (fun b => v2.ownBlock = some b) := Kept.grown hg (fun k e => .inl e)
  refine ⟨F, hF.keep hk (fun b q q2 => ?_), hf⟩
  obtain ⟨cs, e⟩ := row_type hr q2
  exact hF.not_type e h1 h2 h3 q
/-- what comes of it -/
theorem QAt.forked {w W : World} {g d n cc c c2 : Nat} {S : Nat → Bk} {k : Int} {l : List Vr} {t : List Tr} {A A2 : Option Addr} {Fd : Nat → Prop} (h : QAt w g d n S cc k l t A c A2 c2 Fd) (hB : Below w.heap.size w W) {g2 : Nat} (hd : DiskUp w W g2 n S cc)
    {B1 B2 : Option Addr} {d1 d2 : Nat} (h1 : W.ownsRow w.heap.size 114 5 (.slice B1 l.length d1) l.length (flatV l)) (h2 : W.ownsRow w.heap.size 142 2 (.slice B2 t.length d2) t.length (flatT t)) :
    ∃ g' F', Ending.returned (.pointer (some ⟨W.heap.size, 0, none⟩)) = .returned (.pointer (some ⟨g', 0, none⟩)) ∧ Qe (W.alloc (.cells #[.pointer (some ⟨g2, 0, none⟩), .slice B1 l.length d1, .slice B2 t.length d2, .int .i64 k] 99)) g' n S cc k l t F' ∧ (∀ b, F' b → w.heap.size ≤ b) ∧ Below w.heap.size w (W.alloc (.cells #[.pointer (some ⟨g2, 0, none⟩), .slice B1 l.length d1, .slice B2 t.length d2, .int .i64 k] 99)) := by
  obtain ⟨F2, hr, hf⟩ := hd
  have hB4 : Below W.heap.size W (W.alloc (.cells #[.pointer (some ⟨g2, 0, none⟩), .slice B1 l.length d1, .slice B2 t.length d2, .int .i64 k] 99)) := (Below.refl _ _).alloc (Nat.le_refl _) _
  have hB5 := hB.trans (hB4.mono hB.size)
  have hw := h.fresh hB5
  refine ⟨W.heap.size, footQ W.heap.size B1 B2 F2, rfl, ⟨g2, B1, d1, B2, d2, F2, ⟨⟨heap_alloc_new W _⟩, hr.fresh hB4, ⟨row_zero (row_below h1 hB4), hw.row.ah⟩, ⟨row_zero (row_below h2 hB4), hw.tow.ah⟩⟩, rfl⟩, ?_, hB5⟩
  rintro b (q | q | q | q)
  · have := hB.size; omega
  · exact (h1.lt b (by cases B1 with | none => simp [own] at q | some a => simpa [own, Value.ownBlock] using q)).1
  · exact (h2.lt b (by cases B2 with | none => simp [own] at q | some a => simpa [own, Value.ownBlock] using q)).1
  · exact hf b q
set_option maxRecDepth 100000 in
set_option maxHeartbeats 8000000 in
theorem qfork {w : World} {g n cc : Nat} {S : Nat → Bk} {k : Int} {l : List Vr} {t : List Tr} {F : Nat → Prop} (h : Qe w g n S cc k l t F) (hc : cc < 100000) (hl : l.length ≤ 1000) (ht : t.length ≤ 1000) :
    Calls Tryz.prog 22 #[.pointer (some ⟨g, 0, none⟩)] w fun e w' => ∃ g' F', e = .returned (.pointer (some ⟨g', 0, none⟩)) ∧ Qe w' g' n S cc k l t F' ∧ (∀ b, F' b → w.heap.size ≤ b) ∧ Below w.heap.size w w' := by
  obtain ⟨d, A, c, A2, c2, Fd, h, rfl⟩ := h
  obtain ⟨i0, hi0, hz0, hy0, hx0⟩ := info_parts infoV
  obtain ⟨i1, hi1, hz1, hy1, hx1⟩ := info_parts infoT
  have HQ := Lib.hid h
  have HR := Lib.hid (fun W (hB : Below w.heap.size w W) => rfork (h.fresh hB).disk hc)
  have HX : Hid (∀ W, Below w.heap.size w W → W.cell? ⟨g, 0, none⟩ = some (.pointer (some ⟨d, 0, none⟩)) ∧ W.cell? ⟨g, 1, none⟩ = some (.slice A l.length c) ∧ W.cell? ⟨g, 2, none⟩ = some (.slice A2 t.length c2) ∧ W.cell? ⟨g, 3, none⟩ = some (.int .i64 k)) := fun W hW => ⟨(HQ.out.fresh hW).head.c0, (HQ.out.fresh hW).head.c1, (HQ.out.fresh hW).head.c2, (HQ.out.fresh hW).head.c3⟩
  have HS1 : Hid (∀ W, Below w.heap.size w W → (∀ ad, A = some ad → ∀ j u, (flatV l)[j]? = some u → W.cell? (ad.add j) = some u) ∧ (A = none → l.length = 0)) := fun W hW => rowV_src (HQ.out.fresh hW).row
  have HS2 : Hid (∀ W, Below w.heap.size w W → (∀ ad, A2 = some ad → ∀ j u, (flatT t)[j]? = some u → W.cell? (ad.add j) = some u) ∧ (A2 = none → t.length = 0)) := fun W hW => rowT_src (HQ.out.fresh hW).tow
  have X0 := Lib.hid (HX.out _ ((Below.refl _ _).drew))
  have h0 := HQ.out.head.head
  have h0l := HQ.out.head.lt
  clear h h0
  go_enter Tryz.func22, Tryz.ntmps22
  go_wp2
  refine wp_region_held_drew (S := (fun W => W.cell? ⟨g, 0, none⟩ = some (.pointer (some ⟨d, 0, none⟩)) ∧ W.cell? ⟨g, 1, none⟩ = some (.slice A l.length c) ∧ W.cell? ⟨g, 2, none⟩ = some (.slice A2 t.length c2) ∧ W.cell? ⟨g, 3, none⟩ = some (.int .i64 k))) (by kernel_rfl) (X0.out) (fun hHeld => ?_)
  refine takeH (i := 0) (some 5) (v := ?_) rfl rfl (by kernel_rfl) (by kernel_rfl) (by kernel_rfl) (fun _ _ _ h => h) (by rfl) ?_ (by assumption) ?_
  rotate_left
  · (intro w hSw; (try dsimp only at hSw); go_simp; try with_reducible rfl)
  simp only [Act.put, List.setIfInBounds_toArray, List.set_cons_zero, List.set_cons_succ]
  refine takeH (i := 1) (some 6) (v := ?_) rfl rfl (by kernel_rfl) (by kernel_rfl) (by kernel_rfl) (fun _ _ _ h => h) (by rfl) ?_ (by assumption) ?_
  rotate_left
  · (intro w hSw; (try dsimp only at hSw); go_simp; try with_reducible rfl)
  simp only [Act.put, List.setIfInBounds_toArray, List.set_cons_zero, List.set_cons_succ]
  refine takeH (i := 2) (some 7) (v := ?_) rfl rfl (by kernel_rfl) (by kernel_rfl) (by kernel_rfl) (fun _ _ _ h => h) (by rfl) ?_ (by assumption) ?_
  rotate_left
  · (intro w hSw; (try dsimp only at hSw); go_simp; try with_reducible rfl)
  simp only [Act.put, List.setIfInBounds_toArray, List.set_cons_zero, List.set_cons_succ]
  refine takeH (i := 3) (some 8) (v := ?_) rfl rfl (by kernel_rfl) (by kernel_rfl) (by kernel_rfl) (fun _ _ _ h => h) (by rfl) ?_ (by assumption) ?_
  rotate_left
  · (intro w hSw; (try dsimp only at hSw); go_simp; try with_reducible rfl)
  simp only [Act.put, List.setIfInBounds_toArray, List.set_cons_zero, List.set_cons_succ]
  refine takeH (i := 6) (some 11) (v := ?_) rfl rfl (by kernel_rfl) (by kernel_rfl) (by kernel_rfl) (fun _ _ _ h => h) (by rfl) ?_ (by assumption) ?_
  rotate_left
  · (intro w hSw; (try dsimp only at hSw); go_simp; try with_reducible rfl)
  simp only [Act.put, List.setIfInBounds_toArray, List.set_cons_zero, List.set_cons_succ]
  refine takeH (i := 7) (some 12) (v := ?_) rfl rfl (by kernel_rfl) (by kernel_rfl) (by kernel_rfl) (fun _ _ _ h => h) (by rfl) ?_ (by assumption) ?_
  rotate_left
  · (intro w hSw; (try dsimp only at hSw); go_simp; try with_reducible rfl)
  simp only [Act.put, List.setIfInBounds_toArray, List.set_cons_zero, List.set_cons_succ]
  refine takeH (i := 8) (some 13) (v := ?_) rfl rfl (by kernel_rfl) (by kernel_rfl) (by kernel_rfl) (fun _ _ _ h => h) (by rfl) ?_ (by assumption) ?_
  rotate_left
  · (intro w hSw; (try dsimp only at hSw); go_simp; try with_reducible rfl)
  simp only [Act.put, List.setIfInBounds_toArray, List.set_cons_zero, List.set_cons_succ]
  refine takeH (i := 9) (some 14) (v := ?_) rfl rfl (by kernel_rfl) (by kernel_rfl) (by kernel_rfl) (fun _ _ _ h => h) (by rfl) ?_ (by assumption) ?_
  rotate_left
  · (intro w hSw; (try dsimp only at hSw); go_simp; try with_reducible rfl)
  simp only [Act.put, List.setIfInBounds_toArray, List.set_cons_zero, List.set_cons_succ]
  refine takeH (i := 12) (some 17) (v := ?_) rfl rfl (by kernel_rfl) (by kernel_rfl) (by kernel_rfl) (fun _ _ _ h => h) (by rfl) ?_ (by assumption) ?_
  rotate_left
  · (intro w hSw; (try dsimp only at hSw); go_simp; try with_reducible rfl)
  simp only [Act.put, List.setIfInBounds_toArray, List.set_cons_zero, List.set_cons_succ]
  refine takeH (i := 13) (some 18) (v := ?_) rfl rfl (by kernel_rfl) (by kernel_rfl) (by kernel_rfl) (fun _ _ _ h => h) (by rfl) ?_ (by assumption) ?_
  rotate_left
  · (intro w hSw; (try dsimp only at hSw); go_simp; try with_reducible rfl)
  simp only [Act.put, List.setIfInBounds_toArray, List.set_cons_zero, List.set_cons_succ]
  refine takeH (i := 14) (some 19) (v := ?_) rfl rfl (by kernel_rfl) (by kernel_rfl) (by kernel_rfl) (fun _ _ _ h => h) (by rfl) ?_ (by assumption) ?_
  rotate_left
  · (intro w hSw; (try dsimp only at hSw); go_simp; try with_reducible rfl)
  simp only [Act.put, List.setIfInBounds_toArray, List.set_cons_zero, List.set_cons_succ]
  refine takeH (i := 15) (some 20) (v := ?_) rfl rfl (by kernel_rfl) (by kernel_rfl) (by kernel_rfl) (fun _ _ _ h => h) (by rfl) ?_ (by assumption) ?_
  rotate_left
  · (intro w hSw; (try dsimp only at hSw); go_simp; try with_reducible rfl)
  simp only [Act.put, List.setIfInBounds_toArray, List.set_cons_zero, List.set_cons_succ]
  refine takeH (i := 17) (some 22) (v := ?_) rfl rfl (by kernel_rfl) (by kernel_rfl) (by kernel_rfl) (fun _ _ _ h => h) (by rfl) ?_ (by assumption) ?_
  rotate_left
  · (intro w hSw; (try dsimp only at hSw); go_simp; try with_reducible rfl)
  simp only [Act.put, List.setIfInBounds_toArray, List.set_cons_zero, List.set_cons_succ]
  refine takeH (i := 18) (some 23) (v := ?_) rfl rfl (by kernel_rfl) (by kernel_rfl) (by kernel_rfl) (fun _ _ _ h => h) (by rfl) ?_ (by assumption) ?_
  rotate_left
  · (intro w hSw; (try dsimp only at hSw); go_simp; try with_reducible rfl)
  simp only [Act.put, List.setIfInBounds_toArray, List.set_cons_zero, List.set_cons_succ]
  refine takeH (i := 19) (some 24) (v := ?_) rfl rfl (by kernel_rfl) (by kernel_rfl) (by kernel_rfl) (fun _ _ _ h => h) (by rfl) ?_ (by assumption) ?_
  rotate_left
  · (intro w hSw; (try dsimp only at hSw); go_simp; try with_reducible rfl)
  simp only [Act.put, List.setIfInBounds_toArray, List.set_cons_zero, List.set_cons_succ]
  refine takeH (i := 20) (some 25) (v := ?_) rfl rfl (by kernel_rfl) (by kernel_rfl) (by kernel_rfl) (fun _ _ _ h => h) (by rfl) ?_ (by assumption) ?_
  rotate_left
  · (intro w hSw; (try dsimp only at hSw); go_simp; try with_reducible rfl)
  simp only [Act.put, List.setIfInBounds_toArray, List.set_cons_zero, List.set_cons_succ]
  obtain ⟨v0, hv0⟩ : ∃ x, x = w.drew := ⟨_, rfl⟩
  have Bv0 : Hid (Below w.heap.size w v0) := by rw [hv0]; exact (Below.refl _ _).drew
  rw [← hv0] at hHeld ⊢
  clear hv0
  refine wpAnyH_ready (rs := [4, 5, 11]) (by kernel_rfl) (by simp) ?_
  refine (AllReadyH.cons rfl (fun K hK => ?_) (AllReadyH.cons rfl (fun K hK => ?_) (AllReadyH.cons rfl (fun K hK => ?_) AllReadyH.nil)))
  · skip
    go_simp
    refine (HR.out _ Bv0.out).mono ?_
    rintro e v0c ⟨g2, F2, rfl, hd2, hf2, hb2⟩
    have Bv0c : Hid (Below w.heap.size w v0c) := Bv0.out.trans (hb2.mono Bv0.out.size)
    have PD : Hid (DiskUp w v0c g2 n S cc) := ⟨F2, hd2, fun b q => Nat.le_trans Bv0.out.size (hf2 b q)⟩
    clear hd2 hf2 hb2
    refine hK _ _ (HX.out _ Bv0c.out) (fun hHeld => ?_)
    clear hK K
    try simp only [Act.put, List.setIfInBounds_toArray, List.set_cons_zero, List.set_cons_succ]
    try simp only [List.getElem_toArray, List.getElem_cons_zero, List.getElem_cons_succ, Act.put, List.setIfInBounds_toArray, List.set_cons_zero, List.set_cons_succ]
    refine wpAnyH_ready (rs := [5, 11]) (by kernel_rfl) (by simp) ?_
    refine (AllReadyH.cons rfl (fun K hK => ?_) (AllReadyH.cons rfl (fun K hK => ?_) AllReadyH.nil))
    · skip
      go_simp
      obtain ⟨e1, he⟩ : ∃ x, x = v0c.heap.size := ⟨_, rfl⟩
      obtain ⟨v0ce, hX⟩ : ∃ x, x = v0c.alloc (.cells #[] 114) := ⟨_, rfl⟩
      have hb2 : Below v0c.heap.size v0c v0ce := by rw [hX]; exact (Below.refl _ _).alloc (Nat.le_refl _) _
      have Bv0ce : Hid (Below w.heap.size w v0ce) := Bv0c.out.trans (hb2.mono Bv0c.out.size)
      have P1 : Hid (v0ce.ownsRow w.heap.size 114 5 (.slice (some ⟨e1, 0, none⟩) 0 0) 0 []) := by rw [hX, he]; exact World.ownsRow_made _ #[] 0 Bv0c.out.size (by simp) (by simp)
      replace PD : Hid (DiskUp w v0ce g2 n S cc) := PD.out.below (hb2)
      rw [← he, ← hX]
      clear hX he hb2
      refine hK _ _ (HX.out _ Bv0ce.out) (fun hHeld => ?_)
      clear hK K
      try simp only [Act.put, List.setIfInBounds_toArray, List.set_cons_zero, List.set_cons_succ]
      try simp only [List.getElem_toArray, List.getElem_cons_zero, List.getElem_cons_succ, Act.put, List.setIfInBounds_toArray, List.set_cons_zero, List.set_cons_succ]
      refine wpAnyH_ready (rs := [10, 11]) (by kernel_rfl) (by simp) ?_
      refine (AllReadyH.cons rfl (fun K hK => ?_) (AllReadyH.cons rfl (fun K hK => ?_) AllReadyH.nil))
      · skip
        refine step_append_src rfl (.tmp 10) (.tmp 14) 96 rfl w.heap.size 114 i0 _ 5 64 Tryz.underlying96 hi0 hz0 hy0 hx0 rfl (by decide) (.slice (some ⟨e1, 0, none⟩) 0 0) 0 [] rfl P1.out A l.length c (flatV l) rfl (length_flatV l) (HS1.out _ Bv0ce.out).1 (HS1.out _ Bv0ce.out).2 (flatV_cells l) (by unfold maxLen; omega) (by omega) Bv0ce.out.size l.length (by omega) ?_
        intro B1 d1 v0cea ho hg hor
        have Bv0cea : Hid (Below w.heap.size w v0cea) := Bv0ce.out.grown hg Bv0ce.out.size (fun j e => (P1.out.lt j e).1)
        replace PD : Hid (DiskUp w v0cea g2 n S cc) := PD.out.grow P1.out (by decide) (by decide) (by decide) hg
        have ho' : Hid (v0cea.ownsRow w.heap.size 114 5 (.slice B1 l.length d1) l.length (flatV l)) := by rw [List.nil_append] at ho; exact ho
        clear P1
        have P1 := ho'
        clear ho ho' hg hor
        refine hK _ _ (HX.out _ Bv0cea.out) (fun hHeld => ?_)
        clear hK K
        try simp only [Act.put, List.setIfInBounds_toArray, List.set_cons_zero, List.set_cons_succ]
        try simp only [List.getElem_toArray, List.getElem_cons_zero, List.getElem_cons_succ, Act.put, List.setIfInBounds_toArray, List.set_cons_zero, List.set_cons_succ]
        refine wpAnyH_ready (rs := [11]) (by kernel_rfl) (by simp) ?_
        refine (AllReadyH.cons rfl (fun K hK => ?_) AllReadyH.nil)
        go_simp
        obtain ⟨e2, he⟩ : ∃ x, x = v0cea.heap.size := ⟨_, rfl⟩
        obtain ⟨v0ceaf, hX⟩ : ∃ x, x = v0cea.alloc (.cells #[] 142) := ⟨_, rfl⟩
        have hb2 : Below v0cea.heap.size v0cea v0ceaf := by rw [hX]; exact (Below.refl _ _).alloc (Nat.le_refl _) _
        have Bv0ceaf : Hid (Below w.heap.size w v0ceaf) := Bv0cea.out.trans (hb2.mono Bv0cea.out.size)
        have P2 : Hid (v0ceaf.ownsRow w.heap.size 142 2 (.slice (some ⟨e2, 0, none⟩) 0 0) 0 []) := by rw [hX, he]; exact World.ownsRow_made _ #[] 0 Bv0cea.out.size (by simp) (by simp)
        replace P1 : Hid (v0ceaf.ownsRow w.heap.size 114 5 (.slice B1 l.length d1) l.length (flatV l)) := row_below P1.out (hb2)
        replace PD : Hid (DiskUp w v0ceaf g2 n S cc) := PD.out.below (hb2)
        rw [← he, ← hX]
        clear hX he hb2
        refine hK _ _ (HX.out _ Bv0ceaf.out) (fun hHeld => ?_)
        clear hK K
        try simp only [Act.put, List.setIfInBounds_toArray, List.set_cons_zero, List.set_cons_succ]
        try simp only [List.getElem_toArray, List.getElem_cons_zero, List.getElem_cons_succ, Act.put, List.setIfInBounds_toArray, List.set_cons_zero, List.set_cons_succ]
        refine wpAnyH_ready (rs := [16]) (by kernel_rfl) (by simp) ?_
        refine (AllReadyH.cons rfl (fun K hK => ?_) AllReadyH.nil)
        refine step_append_src rfl (.tmp 16) (.tmp 20) 97 rfl w.heap.size 142 i1 _ 2 32 Tryz.underlying97 hi1 hz1 hy1 hx1 rfl (by decide) (.slice (some ⟨e2, 0, none⟩) 0 0) 0 [] rfl P2.out A2 t.length c2 (flatT t) rfl (length_flatT t) (HS2.out _ Bv0ceaf.out).1 (HS2.out _ Bv0ceaf.out).2 (flatT_cells t) (by unfold maxLen; omega) (by omega) Bv0ceaf.out.size t.length (by omega) ?_
        intro B2 d2 v0ceafb ho hg hor
        have Bv0ceafb : Hid (Below w.heap.size w v0ceafb) := Bv0ceaf.out.grown hg Bv0ceaf.out.size (fun j e => (P2.out.lt j e).1)
        replace P1 : Hid (v0ceafb.ownsRow w.heap.size 114 5 (.slice B1 l.length d1) l.length (flatV l)) := row_grow P1.out P2.out (by decide) hg
        replace PD : Hid (DiskUp w v0ceafb g2 n S cc) := PD.out.grow P2.out (by decide) (by decide) (by decide) hg
        have ho' : Hid (v0ceafb.ownsRow w.heap.size 142 2 (.slice B2 t.length d2) t.length (flatT t)) := by rw [List.nil_append] at ho; exact ho
        clear P2
        have P2 := ho'
        clear ho ho' hg hor
        refine hK _ _ (HX.out _ Bv0ceafb.out) (fun hHeld => ?_)
        clear hK K
        try simp only [Act.put, List.setIfInBounds_toArray, List.set_cons_zero, List.set_cons_succ]
        try simp only [List.getElem_toArray, List.getElem_cons_zero, List.getElem_cons_succ, Act.put, List.setIfInBounds_toArray, List.set_cons_zero, List.set_cons_succ]
        refine takeH (i := 21) (some 26) (v := ?_) rfl rfl (by kernel_rfl) (by kernel_rfl) (by kernel_rfl) (fun _ _ _ h => h) (by rfl) ?_ (by assumption) ?_
        rotate_left
        · (intro w hSw; (try dsimp only at hSw); go_simp; try with_reducible rfl)
        simp only [Act.put, List.setIfInBounds_toArray, List.set_cons_zero, List.set_cons_succ]
        refine wpAnyH_ready (rs := [22]) (by kernel_rfl) (by simp) ?_
        refine AllReadyH.cons rfl (fun K hK => ?_) AllReadyH.nil
        go_simp
        refine hK _ _ (HX.out _ (Bv0ceafb.out.alloc Bv0ceafb.out.size _)) (fun hHeld => ?_)
        clear hK K
        try simp only [Act.put, List.setIfInBounds_toArray, List.set_cons_zero, List.set_cons_succ]
        try simp only [List.getElem_toArray, List.getElem_cons_zero, List.getElem_cons_succ, Act.put, List.setIfInBounds_toArray, List.set_cons_zero, List.set_cons_succ]
        refine takeH (i := 23) (some 2) (v := ?_) rfl rfl (by kernel_rfl) (by kernel_rfl) (by kernel_rfl) (fun _ _ _ h => h) (by rfl) ?_ (by assumption) ?_
        rotate_left
        · (intro w hSw; (try dsimp only at hSw); go_simp; try with_reducible rfl)
        simp only [Act.put, List.setIfInBounds_toArray, List.set_cons_zero, List.set_cons_succ]
        refine wpAnyH_done (by kernel_rfl) ?_ _
        go_wp2
        go_ret
        exact HQ.out.forked Bv0ceafb.out PD.out P1.out P2.out
      · skip
        go_simp
        obtain ⟨e2, he⟩ : ∃ x, x = v0ce.heap.size := ⟨_, rfl⟩
        obtain ⟨v0cef, hX⟩ : ∃ x, x = v0ce.alloc (.cells #[] 142) := ⟨_, rfl⟩
        have hb2 : Below v0ce.heap.size v0ce v0cef := by rw [hX]; exact (Below.refl _ _).alloc (Nat.le_refl _) _
        have Bv0cef : Hid (Below w.heap.size w v0cef) := Bv0ce.out.trans (hb2.mono Bv0ce.out.size)
        have P2 : Hid (v0cef.ownsRow w.heap.size 142 2 (.slice (some ⟨e2, 0, none⟩) 0 0) 0 []) := by rw [hX, he]; exact World.ownsRow_made _ #[] 0 Bv0ce.out.size (by simp) (by simp)
        replace P1 : Hid (v0cef.ownsRow w.heap.size 114 5 (.slice (some ⟨e1, 0, none⟩) 0 0) 0 []) := row_below P1.out (hb2)
        replace PD : Hid (DiskUp w v0cef g2 n S cc) := PD.out.below (hb2)
        rw [← he, ← hX]
        clear hX he hb2
        refine hK _ _ (HX.out _ Bv0cef.out) (fun hHeld => ?_)
        clear hK K
        try simp only [Act.put, List.setIfInBounds_toArray, List.set_cons_zero, List.set_cons_succ]
        try simp only [List.getElem_toArray, List.getElem_cons_zero, List.getElem_cons_succ, Act.put, List.setIfInBounds_toArray, List.set_cons_zero, List.set_cons_succ]
        refine wpAnyH_ready (rs := [10]) (by kernel_rfl) (by simp) ?_
        refine (AllReadyH.cons rfl (fun K hK => ?_) AllReadyH.nil)
        refine step_append_src rfl (.tmp 10) (.tmp 14) 96 rfl w.heap.size 114 i0 _ 5 64 Tryz.underlying96 hi0 hz0 hy0 hx0 rfl (by decide) (.slice (some ⟨e1, 0, none⟩) 0 0) 0 [] rfl P1.out A l.length c (flatV l) rfl (length_flatV l) (HS1.out _ Bv0cef.out).1 (HS1.out _ Bv0cef.out).2 (flatV_cells l) (by unfold maxLen; omega) (by omega) Bv0cef.out.size l.length (by omega) ?_
        intro B1 d1 v0cefa ho hg hor
        have Bv0cefa : Hid (Below w.heap.size w v0cefa) := Bv0cef.out.grown hg Bv0cef.out.size (fun j e => (P1.out.lt j e).1)
        replace P2 : Hid (v0cefa.ownsRow w.heap.size 142 2 (.slice (some ⟨e2, 0, none⟩) 0 0) 0 []) := row_grow P2.out P1.out (by decide) hg
        replace PD : Hid (DiskUp w v0cefa g2 n S cc) := PD.out.grow P1.out (by decide) (by decide) (by decide) hg
        have ho' : Hid (v0cefa.ownsRow w.heap.size 114 5 (.slice B1 l.length d1) l.length (flatV l)) := by rw [List.nil_append] at ho; exact ho
        clear P1
        have P1 := ho'
        clear ho ho' hg hor
        refine hK _ _ (HX.out _ Bv0cefa.out) (fun hHeld => ?_)
        clear hK K
        try simp only [Act.put, List.setIfInBounds_toArray, List.set_cons_zero, List.set_cons_succ]
        try simp only [List.getElem_toArray, List.getElem_cons_zero, List.getElem_cons_succ, Act.put, List.setIfInBounds_toArray, List.set_cons_zero, List.set_cons_succ]
        refine wpAnyH_ready (rs := [16]) (by kernel_rfl) (by simp) ?_
        refine (AllReadyH.cons rfl (fun K hK => ?_) AllReadyH.nil)
        refine step_append_src rfl (.tmp 16) (.tmp 20) 97 rfl w.heap.size 142 i1 _ 2 32 Tryz.underlying97 hi1 hz1 hy1 hx1 rfl (by decide) (.slice (some ⟨e2, 0, none⟩) 0 0) 0 [] rfl P2.out A2 t.length c2 (flatT t) rfl (length_flatT t) (HS2.out _ Bv0cefa.out).1 (HS2.out _ Bv0cefa.out).2 (flatT_cells t) (by unfold maxLen; omega) (by omega) Bv0cefa.out.size t.length (by omega) ?_
        intro B2 d2 v0cefab ho hg hor
        have Bv0cefab : Hid (Below w.heap.size w v0cefab) := Bv0cefa.out.grown hg Bv0cefa.out.size (fun j e => (P2.out.lt j e).1)
        replace P1 : Hid (v0cefab.ownsRow w.heap.size 114 5 (.slice B1 l.length d1) l.length (flatV l)) := row_grow P1.out P2.out (by decide) hg
        replace PD : Hid (DiskUp w v0cefab g2 n S cc) := PD.out.grow P2.out (by decide) (by decide) (by decide) hg
        have ho' : Hid (v0cefab.ownsRow w.heap.size 142 2 (.slice B2 t.length d2) t.length (flatT t)) := by rw [List.nil_append] at ho; exact ho
        clear P2
        have P2 := ho'
        clear ho ho' hg hor
        refine hK _ _ (HX.out _ Bv0cefab.out) (fun hHeld => ?_)
        clear hK K
        try simp only [Act.put, List.setIfInBounds_toArray, List.set_cons_zero, List.set_cons_succ]
        try simp only [List.getElem_toArray, List.getElem_cons_zero, List.getElem_cons_succ, Act.put, List.setIfInBounds_toArray, List.set_cons_zero, List.set_cons_succ]
        refine takeH (i := 21) (some 26) (v := ?_) rfl rfl (by kernel_rfl) (by kernel_rfl) (by kernel_rfl) (fun _ _ _ h => h) (by rfl) ?_ (by assumption) ?_
        rotate_left
        · (intro w hSw; (try dsimp only at hSw); go_simp; try with_reducible rfl)
        simp only [Act.put, List.setIfInBounds_toArray, List.set_cons_zero, List.set_cons_succ]
        refine wpAnyH_ready (rs := [22]) (by kernel_rfl) (by simp) ?_
        refine AllReadyH.cons rfl (fun K hK => ?_) AllReadyH.nil
        go_simp
        refine hK _ _ (HX.out _ (Bv0cefab.out.alloc Bv0cefab.out.size _)) (fun hHeld => ?_)
        clear hK K
        try simp only [Act.put, List.setIfInBounds_toArray, List.set_cons_zero, List.set_cons_succ]
        try simp only [List.getElem_toArray, List.getElem_cons_zero, List.getElem_cons_succ, Act.put, List.setIfInBounds_toArray, List.set_cons_zero, List.set_cons_succ]
        refine takeH (i := 23) (some 2) (v := ?_) rfl rfl (by kernel_rfl) (by kernel_rfl) (by kernel_rfl) (fun _ _ _ h => h) (by rfl) ?_ (by assumption) ?_
        rotate_left
        · (intro w hSw; (try dsimp only at hSw); go_simp; try with_reducible rfl)
        simp only [Act.put, List.setIfInBounds_toArray, List.set_cons_zero, List.set_cons_succ]
        refine wpAnyH_done (by kernel_rfl) ?_ _
        go_wp2
        go_ret
        exact HQ.out.forked Bv0cefab.out PD.out P1.out P2.out
    · skip
      go_simp
      obtain ⟨e2, he⟩ : ∃ x, x = v0c.heap.size := ⟨_, rfl⟩
      obtain ⟨v0cf, hX⟩ : ∃ x, x = v0c.alloc (.cells #[] 142) := ⟨_, rfl⟩
      have hb2 : Below v0c.heap.size v0c v0cf := by rw [hX]; exact (Below.refl _ _).alloc (Nat.le_refl _) _
      have Bv0cf : Hid (Below w.heap.size w v0cf) := Bv0c.out.trans (hb2.mono Bv0c.out.size)
      have P2 : Hid (v0cf.ownsRow w.heap.size 142 2 (.slice (some ⟨e2, 0, none⟩) 0 0) 0 []) := by rw [hX, he]; exact World.ownsRow_made _ #[] 0 Bv0c.out.size (by simp) (by simp)
      replace PD : Hid (DiskUp w v0cf g2 n S cc) := PD.out.below (hb2)
      rw [← he, ← hX]
      clear hX he hb2
      refine hK _ _ (HX.out _ Bv0cf.out) (fun hHeld => ?_)
      clear hK K
      try simp only [Act.put, List.setIfInBounds_toArray, List.set_cons_zero, List.set_cons_succ]
      try simp only [List.getElem_toArray, List.getElem_cons_zero, List.getElem_cons_succ, Act.put, List.setIfInBounds_toArray, List.set_cons_zero, List.set_cons_succ]
      refine wpAnyH_ready (rs := [5]) (by kernel_rfl) (by simp) ?_
      refine (AllReadyH.cons rfl (fun K hK => ?_) AllReadyH.nil)
      go_simp
      obtain ⟨e1, he⟩ : ∃ x, x = v0cf.heap.size := ⟨_, rfl⟩
      obtain ⟨v0cfe, hX⟩ : ∃ x, x = v0cf.alloc (.cells #[] 114) := ⟨_, rfl⟩
      have hb2 : Below v0cf.heap.size v0cf v0cfe := by rw [hX]; exact (Below.refl _ _).alloc (Nat.le_refl _) _
      have Bv0cfe : Hid (Below w.heap.size w v0cfe) := Bv0cf.out.trans (hb2.mono Bv0cf.out.size)
      have P1 : Hid (v0cfe.ownsRow w.heap.size 114 5 (.slice (some ⟨e1, 0, none⟩) 0 0) 0 []) := by rw [hX, he]; exact World.ownsRow_made _ #[] 0 Bv0cf.out.size (by simp) (by simp)
      replace P2 : Hid (v0cfe.ownsRow w.heap.size 142 2 (.slice (some ⟨e2, 0, none⟩) 0 0) 0 []) := row_below P2.out (hb2)
      replace PD : Hid (DiskUp w v0cfe g2 n S cc) := PD.out.below (hb2)
      rw [← he, ← hX]
      clear hX he hb2
      refine hK _ _ (HX.out _ Bv0cfe.out) (fun hHeld => ?_)
      clear hK K
      try simp only [Act.put, List.setIfInBounds_toArray, List.set_cons_zero, List.set_cons_succ]
      try simp only [List.getElem_toArray, List.getElem_cons_zero, List.getElem_cons_succ, Act.put, List.setIfInBounds_toArray, List.set_cons_zero, List.set_cons_succ]
      refine wpAnyH_ready (rs := [10]) (by kernel_rfl) (by simp) ?_
      refine (AllReadyH.cons rfl (fun K hK => ?_) AllReadyH.nil)
      refine step_append_src rfl (.tmp 10) (.tmp 14) 96 rfl w.heap.size 114 i0 _ 5 64 Tryz.underlying96 hi0 hz0 hy0 hx0 rfl (by decide) (.slice (some ⟨e1, 0, none⟩) 0 0) 0 [] rfl P1.out A l.length c (flatV l) rfl (length_flatV l) (HS1.out _ Bv0cfe.out).1 (HS1.out _ Bv0cfe.out).2 (flatV_cells l) (by unfold maxLen; omega) (by omega) Bv0cfe.out.size l.length (by omega) ?_
      intro B1 d1 v0cfea ho hg hor
      have Bv0cfea : Hid (Below w.heap.size w v0cfea) := Bv0cfe.out.grown hg Bv0cfe.out.size (fun j e => (P1.out.lt j e).1)
      replace P2 : Hid (v0cfea.ownsRow w.heap.size 142 2 (.slice (some ⟨e2, 0, none⟩) 0 0) 0 []) := row_grow P2.out P1.out (by decide) hg
      replace PD : Hid (DiskUp w v0cfea g2 n S cc) := PD.out.grow P1.out (by decide) (by decide) (by decide) hg
      have ho' : Hid (v0cfea.ownsRow w.heap.size 114 5 (.slice B1 l.length d1) l.length (flatV l)) := by rw [List.nil_append] at ho; exact ho
      clear P1
      have P1 := ho'
      clear ho ho' hg hor
      refine hK _ _ (HX.out _ Bv0cfea.out) (fun hHeld => ?_)
      clear hK K
      try simp only [Act.put, List.setIfInBounds_toArray, List.set_cons_zero, List.set_cons_succ]
      try simp only [List.getElem_toArray, List.getElem_cons_zero, List.getElem_cons_succ, Act.put, List.setIfInBounds_toArray, List.set_cons_zero, List.set_cons_succ]
      refine wpAnyH_ready (rs := [16]) (by kernel_rfl) (by simp) ?_
      refine (AllReadyH.cons rfl (fun K hK => ?_) AllReadyH.nil)
      refine step_append_src rfl (.tmp 16) (.tmp 20) 97 rfl w.heap.size 142 i1 _ 2 32 Tryz.underlying97 hi1 hz1 hy1 hx1 rfl (by decide) (.slice (some ⟨e2, 0, none⟩) 0 0) 0 [] rfl P2.out A2 t.length c2 (flatT t) rfl (length_flatT t) (HS2.out _ Bv0cfea.out).1 (HS2.out _ Bv0cfea.out).2 (flatT_cells t) (by unfold maxLen; omega) (by omega) Bv0cfea.out.size t.length (by omega) ?_
      intro B2 d2 v0cfeab ho hg hor
      have Bv0cfeab : Hid (Below w.heap.size w v0cfeab) := Bv0cfea.out.grown hg Bv0cfea.out.size (fun j e => (P2.out.lt j e).1)
      replace P1 : Hid (v0cfeab.ownsRow w.heap.size 114 5 (.slice B1 l.length d1) l.length (flatV l)) := row_grow P1.out P2.out (by decide) hg
      replace PD : Hid (DiskUp w v0cfeab g2 n S cc) := PD.out.grow P2.out (by decide) (by decide) (by decide) hg
      have ho' : Hid (v0cfeab.ownsRow w.heap.size 142 2 (.slice B2 t.length d2) t.length (flatT t)) := by rw [List.nil_append] at ho; exact ho
      clear P2
      have P2 := ho'
      clear ho ho' hg hor
      refine hK _ _ (HX.out _ Bv0cfeab.out) (fun hHeld => ?_)
      clear hK K
      try simp only [Act.put, List.setIfInBounds_toArray, List.set_cons_zero, List.set_cons_succ]
      try simp only [List.getElem_toArray, List.getElem_cons_zero, List.getElem_cons_succ, Act.put, List.setIfInBounds_toArray, List.set_cons_zero, List.set_cons_succ]
      refine takeH (i := 21) (some 26) (v := ?_) rfl rfl (by kernel_rfl) (by kernel_rfl) (by kernel_rfl) (fun _ _ _ h => h) (by rfl) ?_ (by assumption) ?_
      rotate_left
      · (intro w hSw; (try dsimp only at hSw); go_simp; try with_reducible rfl)
      simp only [Act.put, List.setIfInBounds_toArray, List.set_cons_zero, List.set_cons_succ]
      refine wpAnyH_ready (rs := [22]) (by kernel_rfl) (by simp) ?_
      refine AllReadyH.cons rfl (fun K hK => ?_) AllReadyH.nil
      go_simp
      refine hK _ _ (HX.out _ (Bv0cfeab.out.alloc Bv0cfeab.out.size _)) (fun hHeld => ?_)
      clear hK K
      try simp only [Act.put, List.setIfInBounds_toArray, List.set_cons_zero, List.set_cons_succ]
      try simp only [List.getElem_toArray, List.getElem_cons_zero, List.getElem_cons_succ, Act.put, List.setIfInBounds_toArray, List.set_cons_zero, List.set_cons_succ]
      refine takeH (i := 23) (some 2) (v := ?_) rfl rfl (by kernel_rfl) (by kernel_rfl) (by kernel_rfl) (fun _ _ _ h => h) (by rfl) ?_ (by assumption) ?_
      rotate_left
      · (intro w hSw; (try dsimp only at hSw); go_simp; try with_reducible rfl)
      simp only [Act.put, List.setIfInBounds_toArray, List.set_cons_zero, List.set_cons_succ]
      refine wpAnyH_done (by kernel_rfl) ?_ _
      go_wp2
      go_ret
      exact HQ.out.forked Bv0cfeab.out PD.out P1.out P2.out
  · skip
    go_simp
    obtain ⟨e1, he⟩ : ∃ x, x = v0.heap.size := ⟨_, rfl⟩
    obtain ⟨v0e, hX⟩ : ∃ x, x = v0.alloc (.cells #[] 114) := ⟨_, rfl⟩
    have hb2 : Below v0.heap.size v0 v0e := by rw [hX]; exact (Below.refl _ _).alloc (Nat.le_refl _) _
    have Bv0e : Hid (Below w.heap.size w v0e) := Bv0.out.trans (hb2.mono Bv0.out.size)
    have P1 : Hid (v0e.ownsRow w.heap.size 114 5 (.slice (some ⟨e1, 0, none⟩) 0 0) 0 []) := by rw [hX, he]; exact World.ownsRow_made _ #[] 0 Bv0.out.size (by simp) (by simp)
    rw [← he, ← hX]
    clear hX he hb2
    refine hK _ _ (HX.out _ Bv0e.out) (fun hHeld => ?_)
    clear hK K
    try simp only [Act.put, List.setIfInBounds_toArray, List.set_cons_zero, List.set_cons_succ]
    try simp only [List.getElem_toArray, List.getElem_cons_zero, List.getElem_cons_succ, Act.put, List.setIfInBounds_toArray, List.set_cons_zero, List.set_cons_succ]
    refine wpAnyH_ready (rs := [4, 11]) (by kernel_rfl) (by simp) ?_
    refine (AllReadyH.cons rfl (fun K hK => ?_) (AllReadyH.cons rfl (fun K hK => ?_) AllReadyH.nil))
    · skip
      go_simp
      refine (HR.out _ Bv0e.out).mono ?_
      rintro e v0ec ⟨g2, F2, rfl, hd2, hf2, hb2⟩
      have Bv0ec : Hid (Below w.heap.size w v0ec) := Bv0e.out.trans (hb2.mono Bv0e.out.size)
      have PD : Hid (DiskUp w v0ec g2 n S cc) := ⟨F2, hd2, fun b q => Nat.le_trans Bv0e.out.size (hf2 b q)⟩
      replace P1 : Hid (v0ec.ownsRow w.heap.size 114 5 (.slice (some ⟨e1, 0, none⟩) 0 0) 0 []) := row_below P1.out (hb2)
      clear hd2 hf2 hb2
      refine hK _ _ (HX.out _ Bv0ec.out) (fun hHeld => ?_)
      clear hK K
      try simp only [Act.put, List.setIfInBounds_toArray, List.set_cons_zero, List.set_cons_succ]
      try simp only [List.getElem_toArray, List.getElem_cons_zero, List.getElem_cons_succ, Act.put, List.setIfInBounds_toArray, List.set_cons_zero, List.set_cons_succ]
      refine wpAnyH_ready (rs := [10, 11]) (by kernel_rfl) (by simp) ?_
      refine (AllReadyH.cons rfl (fun K hK => ?_) (AllReadyH.cons rfl (fun K hK => ?_) AllReadyH.nil))
      · skip
        refine step_append_src rfl (.tmp 10) (.tmp 14) 96 rfl w.heap.size 114 i0 _ 5 64 Tryz.underlying96 hi0 hz0 hy0 hx0 rfl (by decide) (.slice (some ⟨e1, 0, none⟩) 0 0) 0 [] rfl P1.out A l.length c (flatV l) rfl (length_flatV l) (HS1.out _ Bv0ec.out).1 (HS1.out _ Bv0ec.out).2 (flatV_cells l) (by unfold maxLen; omega) (by omega) Bv0ec.out.size l.length (by omega) ?_
        intro B1 d1 v0eca ho hg hor
        have Bv0eca : Hid (Below w.heap.size w v0eca) := Bv0ec.out.grown hg Bv0ec.out.size (fun j e => (P1.out.lt j e).1)
        replace PD : Hid (DiskUp w v0eca g2 n S cc) := PD.out.grow P1.out (by decide) (by decide) (by decide) hg
        have ho' : Hid (v0eca.ownsRow w.heap.size 114 5 (.slice B1 l.length d1) l.length (flatV l)) := by rw [List.nil_append] at ho; exact ho
        clear P1
        have P1 := ho'
        clear ho ho' hg hor
        refine hK _ _ (HX.out _ Bv0eca.out) (fun hHeld => ?_)
        clear hK K
        try simp only [Act.put, List.setIfInBounds_toArray, List.set_cons_zero, List.set_cons_succ]
        try simp only [List.getElem_toArray, List.getElem_cons_zero, List.getElem_cons_succ, Act.put, List.setIfInBounds_toArray, List.set_cons_zero, List.set_cons_succ]
        refine wpAnyH_ready (rs := [11]) (by kernel_rfl) (by simp) ?_
        refine (AllReadyH.cons rfl (fun K hK => ?_) AllReadyH.nil)
        go_simp
        obtain ⟨e2, he⟩ : ∃ x, x = v0eca.heap.size := ⟨_, rfl⟩
        obtain ⟨v0ecaf, hX⟩ : ∃ x, x = v0eca.alloc (.cells #[] 142) := ⟨_, rfl⟩
        have hb2 : Below v0eca.heap.size v0eca v0ecaf := by rw [hX]; exact (Below.refl _ _).alloc (Nat.le_refl _) _
        have Bv0ecaf : Hid (Below w.heap.size w v0ecaf) := Bv0eca.out.trans (hb2.mono Bv0eca.out.size)
        have P2 : Hid (v0ecaf.ownsRow w.heap.size 142 2 (.slice (some ⟨e2, 0, none⟩) 0 0) 0 []) := by rw [hX, he]; exact World.ownsRow_made _ #[] 0 Bv0eca.out.size (by simp) (by simp)
        replace P1 : Hid (v0ecaf.ownsRow w.heap.size 114 5 (.slice B1 l.length d1) l.length (flatV l)) := row_below P1.out (hb2)
        replace PD : Hid (DiskUp w v0ecaf g2 n S cc) := PD.out.below (hb2)
        rw [← he, ← hX]
        clear hX he hb2
        refine hK _ _ (HX.out _ Bv0ecaf.out) (fun hHeld => ?_)
        clear hK K
        try simp only [Act.put, List.setIfInBounds_toArray, List.set_cons_zero, List.set_cons_succ]
        try simp only [List.getElem_toArray, List.getElem_cons_zero, List.getElem_cons_succ, Act.put, List.setIfInBounds_toArray, List.set_cons_zero, List.set_cons_succ]
        refine wpAnyH_ready (rs := [16]) (by kernel_rfl) (by simp) ?_
        refine (AllReadyH.cons rfl (fun K hK => ?_) AllReadyH.nil)
        refine step_append_src rfl (.tmp 16) (.tmp 20) 97 rfl w.heap.size 142 i1 _ 2 32 Tryz.underlying97 hi1 hz1 hy1 hx1 rfl (by decide) (.slice (some ⟨e2, 0, none⟩) 0 0) 0 [] rfl P2.out A2 t.length c2 (flatT t) rfl (length_flatT t) (HS2.out _ Bv0ecaf.out).1 (HS2.out _ Bv0ecaf.out).2 (flatT_cells t) (by unfold maxLen; omega) (by omega) Bv0ecaf.out.size t.length (by omega) ?_
        intro B2 d2 v0ecafb ho hg hor
        have Bv0ecafb : Hid (Below w.heap.size w v0ecafb) := Bv0ecaf.out.grown hg Bv0ecaf.out.size (fun j e => (P2.out.lt j e).1)
        replace P1 : Hid (v0ecafb.ownsRow w.heap.size 114 5 (.slice B1 l.length d1) l.length (flatV l)) := row_grow P1.out P2.out (by decide) hg
        replace PD : Hid (DiskUp w v0ecafb g2 n S cc) := PD.out.grow P2.out (by decide) (by decide) (by decide) hg
        have ho' : Hid (v0ecafb.ownsRow w.heap.size 142 2 (.slice B2 t.length d2) t.length (flatT t)) := by rw [List.nil_append] at ho; exact ho
        clear P2
        have P2 := ho'
        clear ho ho' hg hor
        refine hK _ _ (HX.out _ Bv0ecafb.out) (fun hHeld => ?_)
        clear hK K
        try simp only [Act.put, List.setIfInBounds_toArray, List.set_cons_zero, List.set_cons_succ]
        try simp only [List.getElem_toArray, List.getElem_cons_zero, List.getElem_cons_succ, Act.put, List.setIfInBounds_toArray, List.set_cons_zero, List.set_cons_succ]
        refine takeH (i := 21) (some 26) (v := ?_) rfl rfl (by kernel_rfl) (by kernel_rfl) (by kernel_rfl) (fun _ _ _ h => h) (by rfl) ?_ (by assumption) ?_
        rotate_left
        · (intro w hSw; (try dsimp only at hSw); go_simp; try with_reducible rfl)
        simp only [Act.put, List.setIfInBounds_toArray, List.set_cons_zero, List.set_cons_succ]
        refine wpAnyH_ready (rs := [22]) (by kernel_rfl) (by simp) ?_
        refine AllReadyH.cons rfl (fun K hK => ?_) AllReadyH.nil
        go_simp
        refine hK _ _ (HX.out _ (Bv0ecafb.out.alloc Bv0ecafb.out.size _)) (fun hHeld => ?_)
        clear hK K
        try simp only [Act.put, List.setIfInBounds_toArray, List.set_cons_zero, List.set_cons_succ]
        try simp only [List.getElem_toArray, List.getElem_cons_zero, List.getElem_cons_succ, Act.put, List.setIfInBounds_toArray, List.set_cons_zero, List.set_cons_succ]
        refine takeH (i := 23) (some 2) (v := ?_) rfl rfl (by kernel_rfl) (by kernel_rfl) (by kernel_rfl) (fun _ _ _ h => h) (by rfl) ?_ (by assumption) ?_
        rotate_left
        · (intro w hSw; (try dsimp only at hSw); go_simp; try with_reducible rfl)
        simp only [Act.put, List.setIfInBounds_toArray, List.set_cons_zero, List.set_cons_succ]
        refine wpAnyH_done (by kernel_rfl) ?_ _
        go_wp2
        go_ret
        exact HQ.out.forked Bv0ecafb.out PD.out P1.out P2.out
      · skip
        go_simp
        obtain ⟨e2, he⟩ : ∃ x, x = v0ec.heap.size := ⟨_, rfl⟩
        obtain ⟨v0ecf, hX⟩ : ∃ x, x = v0ec.alloc (.cells #[] 142) := ⟨_, rfl⟩
        have hb2 : Below v0ec.heap.size v0ec v0ecf := by rw [hX]; exact (Below.refl _ _).alloc (Nat.le_refl _) _
        have Bv0ecf : Hid (Below w.heap.size w v0ecf) := Bv0ec.out.trans (hb2.mono Bv0ec.out.size)
        have P2 : Hid (v0ecf.ownsRow w.heap.size 142 2 (.slice (some ⟨e2, 0, none⟩) 0 0) 0 []) := by rw [hX, he]; exact World.ownsRow_made _ #[] 0 Bv0ec.out.size (by simp) (by simp)
        replace P1 : Hid (v0ecf.ownsRow w.heap.size 114 5 (.slice (some ⟨e1, 0, none⟩) 0 0) 0 []) := row_below P1.out (hb2)
        replace PD : Hid (DiskUp w v0ecf g2 n S cc) := PD.out.below (hb2)
        rw [← he, ← hX]
        clear hX he hb2
        refine hK _ _ (HX.out _ Bv0ecf.out) (fun hHeld => ?_)
        clear hK K
        try simp only [Act.put, List.setIfInBounds_toArray, List.set_cons_zero, List.set_cons_succ]
        try simp only [List.getElem_toArray, List.getElem_cons_zero, List.getElem_cons_succ, Act.put, List.setIfInBounds_toArray, List.set_cons_zero, List.set_cons_succ]
        refine wpAnyH_ready (rs := [10]) (by kernel_rfl) (by simp) ?_
        refine (AllReadyH.cons rfl (fun K hK => ?_) AllReadyH.nil)
        refine step_append_src rfl (.tmp 10) (.tmp 14) 96 rfl w.heap.size 114 i0 _ 5 64 Tryz.underlying96 hi0 hz0 hy0 hx0 rfl (by decide) (.slice (some ⟨e1, 0, none⟩) 0 0) 0 [] rfl P1.out A l.length c (flatV l) rfl (length_flatV l) (HS1.out _ Bv0ecf.out).1 (HS1.out _ Bv0ecf.out).2 (flatV_cells l) (by unfold maxLen; omega) (by omega) Bv0ecf.out.size l.length (by omega) ?_
        intro B1 d1 v0ecfa ho hg hor
        have Bv0ecfa : Hid (Below w.heap.size w v0ecfa) := Bv0ecf.out.grown hg Bv0ecf.out.size (fun j e => (P1.out.lt j e).1)
        replace P2 : Hid (v0ecfa.ownsRow w.heap.size 142 2 (.slice (some ⟨e2, 0, none⟩) 0 0) 0 []) := row_grow P2.out P1.out (by decide) hg
        replace PD : Hid (DiskUp w v0ecfa g2 n S cc) := PD.out.grow P1.out (by decide) (by decide) (by decide) hg
        have ho' : Hid (v0ecfa.ownsRow w.heap.size 114 5 (.slice B1 l.length d1) l.length (flatV l)) := by rw [List.nil_append] at ho; exact ho
        clear P1
        have P1 := ho'
        clear ho ho' hg hor
        refine hK _ _ (HX.out _ Bv0ecfa.out) (fun hHeld => ?_)
        clear hK K
        try simp only [Act.put, List.setIfInBounds_toArray, List.set_cons_zero, List.set_cons_succ]
        try simp only [List.getElem_toArray, List.getElem_cons_zero, List.getElem_cons_succ, Act.put, List.setIfInBounds_toArray, List.set_cons_zero, List.set_cons_succ]
        refine wpAnyH_ready (rs := [16]) (by kernel_rfl) (by simp) ?_
        refine (AllReadyH.cons rfl (fun K hK => ?_) AllReadyH.nil)
        refine step_append_src rfl (.tmp 16) (.tmp 20) 97 rfl w.heap.size 142 i1 _ 2 32 Tryz.underlying97 hi1 hz1 hy1 hx1 rfl (by decide) (.slice (some ⟨e2, 0, none⟩) 0 0) 0 [] rfl P2.out A2 t.length c2 (flatT t) rfl (length_flatT t) (HS2.out _ Bv0ecfa.out).1 (HS2.out _ Bv0ecfa.out).2 (flatT_cells t) (by unfold maxLen; omega) (by omega) Bv0ecfa.out.size t.length (by omega) ?_
        intro B2 d2 v0ecfab ho hg hor
        have Bv0ecfab : Hid (Below w.heap.size w v0ecfab) := Bv0ecfa.out.grown hg Bv0ecfa.out.size (fun j e => (P2.out.lt j e).1)
        replace P1 : Hid (v0ecfab.ownsRow w.heap.size 114 5 (.slice B1 l.length d1) l.length (flatV l)) := row_grow P1.out P2.out (by decide) hg
        replace PD : Hid (DiskUp w v0ecfab g2 n S cc) := PD.out.grow P2.out (by decide) (by decide) (by decide) hg
        have ho' : Hid (v0ecfab.ownsRow w.heap.size 142 2 (.slice B2 t.length d2) t.length (flatT t)) := by rw [List.nil_append] at ho; exact ho
        clear P2
        have P2 := ho'
        clear ho ho' hg hor
        refine hK _ _ (HX.out _ Bv0ecfab.out) (fun hHeld => ?_)
        clear hK K
        try simp only [Act.put, List.setIfInBounds_toArray, List.set_cons_zero, List.set_cons_succ]
        try simp only [List.getElem_toArray, List.getElem_cons_zero, List.getElem_cons_succ, Act.put, List.setIfInBounds_toArray, List.set_cons_zero, List.set_cons_succ]
        refine takeH (i := 21) (some 26) (v := ?_) rfl rfl (by kernel_rfl) (by kernel_rfl) (by kernel_rfl) (fun _ _ _ h => h) (by rfl) ?_ (by assumption) ?_
        rotate_left
        · (intro w hSw; (try dsimp only at hSw); go_simp; try with_reducible rfl)
        simp only [Act.put, List.setIfInBounds_toArray, List.set_cons_zero, List.set_cons_succ]
        refine wpAnyH_ready (rs := [22]) (by kernel_rfl) (by simp) ?_
        refine AllReadyH.cons rfl (fun K hK => ?_) AllReadyH.nil
        go_simp
        refine hK _ _ (HX.out _ (Bv0ecfab.out.alloc Bv0ecfab.out.size _)) (fun hHeld => ?_)
        clear hK K
        try simp only [Act.put, List.setIfInBounds_toArray, List.set_cons_zero, List.set_cons_succ]
        try simp only [List.getElem_toArray, List.getElem_cons_zero, List.getElem_cons_succ, Act.put, List.setIfInBounds_toArray, List.set_cons_zero, List.set_cons_succ]
        refine takeH (i := 23) (some 2) (v := ?_) rfl rfl (by kernel_rfl) (by kernel_rfl) (by kernel_rfl) (fun _ _ _ h => h) (by rfl) ?_ (by assumption) ?_
        rotate_left
        · (intro w hSw; (try dsimp only at hSw); go_simp; try with_reducible rfl)
        simp only [Act.put, List.setIfInBounds_toArray, List.set_cons_zero, List.set_cons_succ]
        refine wpAnyH_done (by kernel_rfl) ?_ _
        go_wp2
        go_ret
        exact HQ.out.forked Bv0ecfab.out PD.out P1.out P2.out
    · skip
      go_simp
      obtain ⟨e2, he⟩ : ∃ x, x = v0e.heap.size := ⟨_, rfl⟩
      obtain ⟨v0ef, hX⟩ : ∃ x, x = v0e.alloc (.cells #[] 142) := ⟨_, rfl⟩
      have hb2 : Below v0e.heap.size v0e v0ef := by rw [hX]; exact (Below.refl _ _).alloc (Nat.le_refl _) _
      have Bv0ef : Hid (Below w.heap.size w v0ef) := Bv0e.out.trans (hb2.mono Bv0e.out.size)
      have P2 : Hid (v0ef.ownsRow w.heap.size 142 2 (.slice (some ⟨e2, 0, none⟩) 0 0) 0 []) := by rw [hX, he]; exact World.ownsRow_made _ #[] 0 Bv0e.out.size (by simp) (by simp)
      replace P1 : Hid (v0ef.ownsRow w.heap.size 114 5 (.slice (some ⟨e1, 0, none⟩) 0 0) 0 []) := row_below P1.out (hb2)
      rw [← he, ← hX]
      clear hX he hb2
      refine hK _ _ (HX.out _ Bv0ef.out) (fun hHeld => ?_)
      clear hK K
      try simp only [Act.put, List.setIfInBounds_toArray, List.set_cons_zero, List.set_cons_succ]
      try simp only [List.getElem_toArray, List.getElem_cons_zero, List.getElem_cons_succ, Act.put, List.setIfInBounds_toArray, List.set_cons_zero, List.set_cons_succ]
      refine wpAnyH_ready (rs := [4]) (by kernel_rfl) (by simp) ?_
      refine (AllReadyH.cons rfl (fun K hK => ?_) AllReadyH.nil)
      go_simp
      refine (HR.out _ Bv0ef.out).mono ?_
      rintro e v0efc ⟨g2, F2, rfl, hd2, hf2, hb2⟩
      have Bv0efc : Hid (Below w.heap.size w v0efc) := Bv0ef.out.trans (hb2.mono Bv0ef.out.size)
      have PD : Hid (DiskUp w v0efc g2 n S cc) := ⟨F2, hd2, fun b q => Nat.le_trans Bv0ef.out.size (hf2 b q)⟩
      replace P1 : Hid (v0efc.ownsRow w.heap.size 114 5 (.slice (some ⟨e1, 0, none⟩) 0 0) 0 []) := row_below P1.out (hb2)
      replace P2 : Hid (v0efc.ownsRow w.heap.size 142 2 (.slice (some ⟨e2, 0, none⟩) 0 0) 0 []) := row_below P2.out (hb2)
      clear hd2 hf2 hb2
      refine hK _ _ (HX.out _ Bv0efc.out) (fun hHeld => ?_)
      clear hK K
      try simp only [Act.put, List.setIfInBounds_toArray, List.set_cons_zero, List.set_cons_succ]
      try simp only [List.getElem_toArray, List.getElem_cons_zero, List.getElem_cons_succ, Act.put, List.setIfInBounds_toArray, List.set_cons_zero, List.set_cons_succ]
      refine wpAnyH_ready (rs := [10]) (by kernel_rfl) (by simp) ?_
      refine (AllReadyH.cons rfl (fun K hK => ?_) AllReadyH.nil)
      refine step_append_src rfl (.tmp 10) (.tmp 14) 96 rfl w.heap.size 114 i0 _ 5 64 Tryz.underlying96 hi0 hz0 hy0 hx0 rfl (by decide) (.slice (some ⟨e1, 0, none⟩) 0 0) 0 [] rfl P1.out A l.length c (flatV l) rfl (length_flatV l) (HS1.out _ Bv0efc.out).1 (HS1.out _ Bv0efc.out).2 (flatV_cells l) (by unfold maxLen; omega) (by omega) Bv0efc.out.size l.length (by omega) ?_
      intro B1 d1 v0efca ho hg hor
      have Bv0efca : Hid (Below w.heap.size w v0efca) := Bv0efc.out.grown hg Bv0efc.out.size (fun j e => (P1.out.lt j e).1)
      replace P2 : Hid (v0efca.ownsRow w.heap.size 142 2 (.slice (some ⟨e2, 0, none⟩) 0 0) 0 []) := row_grow P2.out P1.out (by decide) hg
      replace PD : Hid (DiskUp w v0efca g2 n S cc) := PD.out.grow P1.out (by decide) (by decide) (by decide) hg
      have ho' : Hid (v0efca.ownsRow w.heap.size 114 5 (.slice B1 l.length d1) l.length (flatV l)) := by rw [List.nil_append] at ho; exact ho
      clear P1
      have P1 := ho'
      clear ho ho' hg hor
      refine hK _ _ (HX.out _ Bv0efca.out) (fun hHeld => ?_)
      clear hK K
      try simp only [Act.put, List.setIfInBounds_toArray, List.set_cons_zero, List.set_cons_succ]
      try simp only [List.getElem_toArray, List.getElem_cons_zero, List.getElem_cons_succ, Act.put, List.setIfInBounds_toArray, List.set_cons_zero, List.set_cons_succ]
      refine wpAnyH_ready (rs := [16]) (by kernel_rfl) (by simp) ?_
      refine (AllReadyH.cons rfl (fun K hK => ?_) AllReadyH.nil)
      refine step_append_src rfl (.tmp 16) (.tmp 20) 97 rfl w.heap.size 142 i1 _ 2 32 Tryz.underlying97 hi1 hz1 hy1 hx1 rfl (by decide) (.slice (some ⟨e2, 0, none⟩) 0 0) 0 [] rfl P2.out A2 t.length c2 (flatT t) rfl (length_flatT t) (HS2.out _ Bv0efca.out).1 (HS2.out _ Bv0efca.out).2 (flatT_cells t) (by unfold maxLen; omega) (by omega) Bv0efca.out.size t.length (by omega) ?_
      intro B2 d2 v0efcab ho hg hor
      have Bv0efcab : Hid (Below w.heap.size w v0efcab) := Bv0efca.out.grown hg Bv0efca.out.size (fun j e => (P2.out.lt j e).1)
      replace P1 : Hid (v0efcab.ownsRow w.heap.size 114 5 (.slice B1 l.length d1) l.length (flatV l)) := row_grow P1.out P2.out (by decide) hg
      replace PD : Hid (DiskUp w v0efcab g2 n S cc) := PD.out.grow P2.out (by decide) (by decide) (by decide) hg
      have ho' : Hid (v0efcab.ownsRow w.heap.size 142 2 (.slice B2 t.length d2) t.length (flatT t)) := by rw [List.nil_append] at ho; exact ho
      clear P2
      have P2 := ho'
      clear ho ho' hg hor
      refine hK _ _ (HX.out _ Bv0efcab.out) (fun hHeld => ?_)
      clear hK K
      try simp only [Act.put, List.setIfInBounds_toArray, List.set_cons_zero, List.set_cons_succ]
      try simp only [List.getElem_toArray, List.getElem_cons_zero, List.getElem_cons_succ, Act.put, List.setIfInBounds_toArray, List.set_cons_zero, List.set_cons_succ]
      refine takeH (i := 21) (some 26) (v := ?_) rfl rfl (by kernel_rfl) (by kernel_rfl) (by kernel_rfl) (fun _ _ _ h => h) (by rfl) ?_ (by assumption) ?_
      rotate_left
      · (intro w hSw; (try dsimp only at hSw); go_simp; try with_reducible rfl)
      simp only [Act.put, List.setIfInBounds_toArray, List.set_cons_zero, List.set_cons_succ]
      refine wpAnyH_ready (rs := [22]) (by kernel_rfl) (by simp) ?_
      refine AllReadyH.cons rfl (fun K hK => ?_) AllReadyH.nil
      go_simp
      refine hK _ _ (HX.out _ (Bv0efcab.out.alloc Bv0efcab.out.size _)) (fun hHeld => ?_)
      clear hK K
      try simp only [Act.put, List.setIfInBounds_toArray, List.set_cons_zero, List.set_cons_succ]
      try simp only [List.getElem_toArray, List.getElem_cons_zero, List.getElem_cons_succ, Act.put, List.setIfInBounds_toArray, List.set_cons_zero, List.set_cons_succ]
      refine takeH (i := 23) (some 2) (v := ?_) rfl rfl (by kernel_rfl) (by kernel_rfl) (by kernel_rfl) (fun _ _ _ h => h) (by rfl) ?_ (by assumption) ?_
      rotate_left
      · (intro w hSw; (try dsimp only at hSw); go_simp; try with_reducible rfl)
      simp only [Act.put, List.setIfInBounds_toArray, List.set_cons_zero, List.set_cons_succ]
      refine wpAnyH_done (by kernel_rfl) ?_ _
      go_wp2
      go_ret
      exact HQ.out.forked Bv0efcab.out PD.out P1.out P2.out
  · skip
    go_simp
    obtain ⟨e2, he⟩ : ∃ x, x = v0.heap.size := ⟨_, rfl⟩
    obtain ⟨v0f, hX⟩ : ∃ x, x = v0.alloc (.cells #[] 142) := ⟨_, rfl⟩
    have hb2 : Below v0.heap.size v0 v0f := by rw [hX]; exact (Below.refl _ _).alloc (Nat.le_refl _) _
    have Bv0f : Hid (Below w.heap.size w v0f) := Bv0.out.trans (hb2.mono Bv0.out.size)
    have P2 : Hid (v0f.ownsRow w.heap.size 142 2 (.slice (some ⟨e2, 0, none⟩) 0 0) 0 []) := by rw [hX, he]; exact World.ownsRow_made _ #[] 0 Bv0.out.size (by simp) (by simp)
    rw [← he, ← hX]
    clear hX he hb2
    refine hK _ _ (HX.out _ Bv0f.out) (fun hHeld => ?_)
    clear hK K
    try simp only [Act.put, List.setIfInBounds_toArray, List.set_cons_zero, List.set_cons_succ]
    try simp only [List.getElem_toArray, List.getElem_cons_zero, List.getElem_cons_succ, Act.put, List.setIfInBounds_toArray, List.set_cons_zero, List.set_cons_succ]
    refine wpAnyH_ready (rs := [4, 5]) (by kernel_rfl) (by simp) ?_
    refine (AllReadyH.cons rfl (fun K hK => ?_) (AllReadyH.cons rfl (fun K hK => ?_) AllReadyH.nil))
    · skip
      go_simp
      refine (HR.out _ Bv0f.out).mono ?_
      rintro e v0fc ⟨g2, F2, rfl, hd2, hf2, hb2⟩
      have Bv0fc : Hid (Below w.heap.size w v0fc) := Bv0f.out.trans (hb2.mono Bv0f.out.size)
      have PD : Hid (DiskUp w v0fc g2 n S cc) := ⟨F2, hd2, fun b q => Nat.le_trans Bv0f.out.size (hf2 b q)⟩
      replace P2 : Hid (v0fc.ownsRow w.heap.size 142 2 (.slice (some ⟨e2, 0, none⟩) 0 0) 0 []) := row_below P2.out (hb2)
      clear hd2 hf2 hb2
      refine hK _ _ (HX.out _ Bv0fc.out) (fun hHeld => ?_)
      clear hK K
      try simp only [Act.put, List.setIfInBounds_toArray, List.set_cons_zero, List.set_cons_succ]
      try simp only [List.getElem_toArray, List.getElem_cons_zero, List.getElem_cons_succ, Act.put, List.setIfInBounds_toArray, List.set_cons_zero, List.set_cons_succ]
      refine wpAnyH_ready (rs := [5]) (by kernel_rfl) (by simp) ?_
      refine (AllReadyH.cons rfl (fun K hK => ?_) AllReadyH.nil)
      go_simp
      obtain ⟨e1, he⟩ : ∃ x, x = v0fc.heap.size := ⟨_, rfl⟩
      obtain ⟨v0fce, hX⟩ : ∃ x, x = v0fc.alloc (.cells #[] 114) := ⟨_, rfl⟩
      have hb2 : Below v0fc.heap.size v0fc v0fce := by rw [hX]; exact (Below.refl _ _).alloc (Nat.le_refl _) _
      have Bv0fce : Hid (Below w.heap.size w v0fce) := Bv0fc.out.trans (hb2.mono Bv0fc.out.size)
      have P1 : Hid (v0fce.ownsRow w.heap.size 114 5 (.slice (some ⟨e1, 0, none⟩) 0 0) 0 []) := by rw [hX, he]; exact World.ownsRow_made _ #[] 0 Bv0fc.out.size (by simp) (by simp)
      replace P2 : Hid (v0fce.ownsRow w.heap.size 142 2 (.slice (some ⟨e2, 0, none⟩) 0 0) 0 []) := row_below P2.out (hb2)
      replace PD : Hid (DiskUp w v0fce g2 n S cc) := PD.out.below (hb2)
      rw [← he, ← hX]
      clear hX he hb2
      refine hK _ _ (HX.out _ Bv0fce.out) (fun hHeld => ?_)
      clear hK K
      try simp only [Act.put, List.setIfInBounds_toArray, List.set_cons_zero, List.set_cons_succ]
      try simp only [List.getElem_toArray, List.getElem_cons_zero, List.getElem_cons_succ, Act.put, List.setIfInBounds_toArray, List.set_cons_zero, List.set_cons_succ]
      refine wpAnyH_ready (rs := [10]) (by kernel_rfl) (by simp) ?_
      refine (AllReadyH.cons rfl (fun K hK => ?_) AllReadyH.nil)
      refine step_append_src rfl (.tmp 10) (.tmp 14) 96 rfl w.heap.size 114 i0 _ 5 64 Tryz.underlying96 hi0 hz0 hy0 hx0 rfl (by decide) (.slice (some ⟨e1, 0, none⟩) 0 0) 0 [] rfl P1.out A l.length c (flatV l) rfl (length_flatV l) (HS1.out _ Bv0fce.out).1 (HS1.out _ Bv0fce.out).2 (flatV_cells l) (by unfold maxLen; omega) (by omega) Bv0fce.out.size l.length (by omega) ?_
      intro B1 d1 v0fcea ho hg hor
      have Bv0fcea : Hid (Below w.heap.size w v0fcea) := Bv0fce.out.grown hg Bv0fce.out.size (fun j e => (P1.out.lt j e).1)
      replace P2 : Hid (v0fcea.ownsRow w.heap.size 142 2 (.slice (some ⟨e2, 0, none⟩) 0 0) 0 []) := row_grow P2.out P1.out (by decide) hg
      replace PD : Hid (DiskUp w v0fcea g2 n S cc) := PD.out.grow P1.out (by decide) (by decide) (by decide) hg
      have ho' : Hid (v0fcea.ownsRow w.heap.size 114 5 (.slice B1 l.length d1) l.length (flatV l)) := by rw [List.nil_append] at ho; exact ho
      clear P1
      have P1 := ho'
      clear ho ho' hg hor
      refine hK _ _ (HX.out _ Bv0fcea.out) (fun hHeld => ?_)
      clear hK K
      try simp only [Act.put, List.setIfInBounds_toArray, List.set_cons_zero, List.set_cons_succ]
      try simp only [List.getElem_toArray, List.getElem_cons_zero, List.getElem_cons_succ, Act.put, List.setIfInBounds_toArray, List.set_cons_zero, List.set_cons_succ]
      refine wpAnyH_ready (rs := [16]) (by kernel_rfl) (by simp) ?_
      refine (AllReadyH.cons rfl (fun K hK => ?_) AllReadyH.nil)
      refine step_append_src rfl (.tmp 16) (.tmp 20) 97 rfl w.heap.size 142 i1 _ 2 32 Tryz.underlying97 hi1 hz1 hy1 hx1 rfl (by decide) (.slice (some ⟨e2, 0, none⟩) 0 0) 0 [] rfl P2.out A2 t.length c2 (flatT t) rfl (length_flatT t) (HS2.out _ Bv0fcea.out).1 (HS2.out _ Bv0fcea.out).2 (flatT_cells t) (by unfold maxLen; omega) (by omega) Bv0fcea.out.size t.length (by omega) ?_
      intro B2 d2 v0fceab ho hg hor
      have Bv0fceab : Hid (Below w.heap.size w v0fceab) := Bv0fcea.out.grown hg Bv0fcea.out.size (fun j e => (P2.out.lt j e).1)
      replace P1 : Hid (v0fceab.ownsRow w.heap.size 114 5 (.slice B1 l.length d1) l.length (flatV l)) := row_grow P1.out P2.out (by decide) hg
      replace PD : Hid (DiskUp w v0fceab g2 n S cc) := PD.out.grow P2.out (by decide) (by decide) (by decide) hg
      have ho' : Hid (v0fceab.ownsRow w.heap.size 142 2 (.slice B2 t.length d2) t.length (flatT t)) := by rw [List.nil_append] at ho; exact ho
      clear P2
      have P2 := ho'
      clear ho ho' hg hor
      refine hK _ _ (HX.out _ Bv0fceab.out) (fun hHeld => ?_)
      clear hK K
      try simp only [Act.put, List.setIfInBounds_toArray, List.set_cons_zero, List.set_cons_succ]
      try simp only [List.getElem_toArray, List.getElem_cons_zero, List.getElem_cons_succ, Act.put, List.setIfInBounds_toArray, List.set_cons_zero, List.set_cons_succ]
      refine takeH (i := 21) (some 26) (v := ?_) rfl rfl (by kernel_rfl) (by kernel_rfl) (by kernel_rfl) (fun _ _ _ h => h) (by rfl) ?_ (by assumption) ?_
      rotate_left
      · (intro w hSw; (try dsimp only at hSw); go_simp; try with_reducible rfl)
      simp only [Act.put, List.setIfInBounds_toArray, List.set_cons_zero, List.set_cons_succ]
      refine wpAnyH_ready (rs := [22]) (by kernel_rfl) (by simp) ?_
      refine AllReadyH.cons rfl (fun K hK => ?_) AllReadyH.nil
      go_simp
      refine hK _ _ (HX.out _ (Bv0fceab.out.alloc Bv0fceab.out.size _)) (fun hHeld => ?_)
      clear hK K
      try simp only [Act.put, List.setIfInBounds_toArray, List.set_cons_zero, List.set_cons_succ]
      try simp only [List.getElem_toArray, List.getElem_cons_zero, List.getElem_cons_succ, Act.put, List.setIfInBounds_toArray, List.set_cons_zero, List.set_cons_succ]
      refine takeH (i := 23) (some 2) (v := ?_) rfl rfl (by kernel_rfl) (by kernel_rfl) (by kernel_rfl) (fun _ _ _ h => h) (by rfl) ?_ (by assumption) ?_
      rotate_left
      · (intro w hSw; (try dsimp only at hSw); go_simp; try with_reducible rfl)
      simp only [Act.put, List.setIfInBounds_toArray, List.set_cons_zero, List.set_cons_succ]
      refine wpAnyH_done (by kernel_rfl) ?_ _
      go_wp2
      go_ret
      exact HQ.out.forked Bv0fceab.out PD.out P1.out P2.out
    · skip
      go_simp
      obtain ⟨e1, he⟩ : ∃ x, x = v0f.heap.size := ⟨_, rfl⟩
      obtain ⟨v0fe, hX⟩ : ∃ x, x = v0f.alloc (.cells #[] 114) := ⟨_, rfl⟩
      have hb2 : Below v0f.heap.size v0f v0fe := by rw [hX]; exact (Below.refl _ _).alloc (Nat.le_refl _) _
      have Bv0fe : Hid (Below w.heap.size w v0fe) := Bv0f.out.trans (hb2.mono Bv0f.out.size)
      have P1 : Hid (v0fe.ownsRow w.heap.size 114 5 (.slice (some ⟨e1, 0, none⟩) 0 0) 0 []) := by rw [hX, he]; exact World.ownsRow_made _ #[] 0 Bv0f.out.size (by simp) (by simp)
      replace P2 : Hid (v0fe.ownsRow w.heap.size 142 2 (.slice (some ⟨e2, 0, none⟩) 0 0) 0 []) := row_below P2.out (hb2)
      rw [← he, ← hX]
      clear hX he hb2
      refine hK _ _ (HX.out _ Bv0fe.out) (fun hHeld => ?_)
      clear hK K
      try simp only [Act.put, List.setIfInBounds_toArray, List.set_cons_zero, List.set_cons_succ]
      try simp only [List.getElem_toArray, List.getElem_cons_zero, List.getElem_cons_succ, Act.put, List.setIfInBounds_toArray, List.set_cons_zero, List.set_cons_succ]
      refine wpAnyH_ready (rs := [4]) (by kernel_rfl) (by simp) ?_
      refine (AllReadyH.cons rfl (fun K hK => ?_) AllReadyH.nil)
      go_simp
      refine (HR.out _ Bv0fe.out).mono ?_
      rintro e v0fec ⟨g2, F2, rfl, hd2, hf2, hb2⟩
      have Bv0fec : Hid (Below w.heap.size w v0fec) := Bv0fe.out.trans (hb2.mono Bv0fe.out.size)
      have PD : Hid (DiskUp w v0fec g2 n S cc) := ⟨F2, hd2, fun b q => Nat.le_trans Bv0fe.out.size (hf2 b q)⟩
      replace P1 : Hid (v0fec.ownsRow w.heap.size 114 5 (.slice (some ⟨e1, 0, none⟩) 0 0) 0 []) := row_below P1.out (hb2)
      replace P2 : Hid (v0fec.ownsRow w.heap.size 142 2 (.slice (some ⟨e2, 0, none⟩) 0 0) 0 []) := row_below P2.out (hb2)
      clear hd2 hf2 hb2
      refine hK _ _ (HX.out _ Bv0fec.out) (fun hHeld => ?_)
      clear hK K
      try simp only [Act.put, List.setIfInBounds_toArray, List.set_cons_zero, List.set_cons_succ]
      try simp only [List.getElem_toArray, List.getElem_cons_zero, List.getElem_cons_succ, Act.put, List.setIfInBounds_toArray, List.set_cons_zero, List.set_cons_succ]
      refine wpAnyH_ready (rs := [10]) (by kernel_rfl) (by simp) ?_
      refine (AllReadyH.cons rfl (fun K hK => ?_) AllReadyH.nil)
      refine step_append_src rfl (.tmp 10) (.tmp 14) 96 rfl w.heap.size 114 i0 _ 5 64 Tryz.underlying96 hi0 hz0 hy0 hx0 rfl (by decide) (.slice (some ⟨e1, 0, none⟩) 0 0) 0 [] rfl P1.out A l.length c (flatV l) rfl (length_flatV l) (HS1.out _ Bv0fec.out).1 (HS1.out _ Bv0fec.out).2 (flatV_cells l) (by unfold maxLen; omega) (by omega) Bv0fec.out.size l.length (by omega) ?_
      intro B1 d1 v0feca ho hg hor
      have Bv0feca : Hid (Below w.heap.size w v0feca) := Bv0fec.out.grown hg Bv0fec.out.size (fun j e => (P1.out.lt j e).1)
      replace P2 : Hid (v0feca.ownsRow w.heap.size 142 2 (.slice (some ⟨e2, 0, none⟩) 0 0) 0 []) := row_grow P2.out P1.out (by decide) hg
      replace PD : Hid (DiskUp w v0feca g2 n S cc) := PD.out.grow P1.out (by decide) (by decide) (by decide) hg
      have ho' : Hid (v0feca.ownsRow w.heap.size 114 5 (.slice B1 l.length d1) l.length (flatV l)) := by rw [List.nil_append] at ho; exact ho
      clear P1
      have P1 := ho'
      clear ho ho' hg hor
      refine hK _ _ (HX.out _ Bv0feca.out) (fun hHeld => ?_)
      clear hK K
      try simp only [Act.put, List.setIfInBounds_toArray, List.set_cons_zero, List.set_cons_succ]
      try simp only [List.getElem_toArray, List.getElem_cons_zero, List.getElem_cons_succ, Act.put, List.setIfInBounds_toArray, List.set_cons_zero, List.set_cons_succ]
      refine wpAnyH_ready (rs := [16]) (by kernel_rfl) (by simp) ?_
      refine (AllReadyH.cons rfl (fun K hK => ?_) AllReadyH.nil)
      refine step_append_src rfl (.tmp 16) (.tmp 20) 97 rfl w.heap.size 142 i1 _ 2 32 Tryz.underlying97 hi1 hz1 hy1 hx1 rfl (by decide) (.slice (some ⟨e2, 0, none⟩) 0 0) 0 [] rfl P2.out A2 t.length c2 (flatT t) rfl (length_flatT t) (HS2.out _ Bv0feca.out).1 (HS2.out _ Bv0feca.out).2 (flatT_cells t) (by unfold maxLen; omega) (by omega) Bv0feca.out.size t.length (by omega) ?_
      intro B2 d2 v0fecab ho hg hor
      have Bv0fecab : Hid (Below w.heap.size w v0fecab) := Bv0feca.out.grown hg Bv0feca.out.size (fun j e => (P2.out.lt j e).1)
      replace P1 : Hid (v0fecab.ownsRow w.heap.size 114 5 (.slice B1 l.length d1) l.length (flatV l)) := row_grow P1.out P2.out (by decide) hg
      replace PD : Hid (DiskUp w v0fecab g2 n S cc) := PD.out.grow P2.out (by decide) (by decide) (by decide) hg
      have ho' : Hid (v0fecab.ownsRow w.heap.size 142 2 (.slice B2 t.length d2) t.length (flatT t)) := by rw [List.nil_append] at ho; exact ho
      clear P2
      have P2 := ho'
      clear ho ho' hg hor
      refine hK _ _ (HX.out _ Bv0fecab.out) (fun hHeld => ?_)
      clear hK K
      try simp only [Act.put, List.setIfInBounds_toArray, List.set_cons_zero, List.set_cons_succ]
      try simp only [List.getElem_toArray, List.getElem_cons_zero, List.getElem_cons_succ, Act.put, List.setIfInBounds_toArray, List.set_cons_zero, List.set_cons_succ]
      refine takeH (i := 21) (some 26) (v := ?_) rfl rfl (by kernel_rfl) (by kernel_rfl) (by kernel_rfl) (fun _ _ _ h => h) (by rfl) ?_ (by assumption) ?_
      rotate_left
      · (intro w hSw; (try dsimp only at hSw); go_simp; try with_reducible rfl)
      simp only [Act.put, List.setIfInBounds_toArray, List.set_cons_zero, List.set_cons_succ]
      refine wpAnyH_ready (rs := [22]) (by kernel_rfl) (by simp) ?_
      refine AllReadyH.cons rfl (fun K hK => ?_) AllReadyH.nil
      go_simp
      refine hK _ _ (HX.out _ (Bv0fecab.out.alloc Bv0fecab.out.size _)) (fun hHeld => ?_)
      clear hK K
      try simp only [Act.put, List.setIfInBounds_toArray, List.set_cons_zero, List.set_cons_succ]
      try simp only [List.getElem_toArray, List.getElem_cons_zero, List.getElem_cons_succ, Act.put, List.setIfInBounds_toArray, List.set_cons_zero, List.set_cons_succ]
      refine takeH (i := 23) (some 2) (v := ?_) rfl rfl (by kernel_rfl) (by kernel_rfl) (by kernel_rfl) (fun _ _ _ h => h) (by rfl) ?_ (by assumption) ?_
      rotate_left
      · (intro w hSw; (try dsimp only at hSw); go_simp; try with_reducible rfl)
      simp only [Act.put, List.setIfInBounds_toArray, List.set_cons_zero, List.set_cons_succ]
      refine wpAnyH_done (by kernel_rfl) ?_ _
      go_wp2
      go_ret
      exact HQ.out.forked Bv0fecab.out PD.out P1.out P2.out
end Go.Proofs.YtegacggkdjgdiaaGreat
