/- The contract of 'Fork' of the program's disk. -/
import Derived.Test.YtieeibdhaoaeaaaKM
set_option linter.unusedVariables false
set_option linter.unusedSimpArgs false
namespace Go.Proofs.Ytieeibdhaoaeaaa
open Go.RowKit

section
variable {w w' : World} {g n c mb k : Nat} {S : Nat → Bk} {L : List Int} {B : List Bool} {D : DataW Value} {V : Nat → List Run} {A : Nat → Option Addr} {C : Nat → Nat}
/-- a block of which nothing waited gets rows -/
theorem CodeAt.ins (h : CodeAt w g n S c L B mb k D V A C) {i : Nat} (hi : i < n) {k' c' : Nat} {D' : DataW Value} {a' : Option Addr} {v' : List Run}
    (hk : Kept w w' (fun b => b = mb)) (hm : w'.ownsMap Try.prog 3 RV mb k' D') (hk' : k' ≤ c)
    (hD1 : ∀ z, D'.atKey (.int .i64 (i : Int)) z = .held (.slice a' v'.length c'))
    (hD2 : ∀ l, l ≠ .int .i64 (i : Int) → Maps.has D' l = Maps.has D l ∧ ∀ z, D'.atKey l z = D.atKey l z)
    (hrow : w'.ownsRow 0 83 33 (.slice a' v'.length c') v'.length (rowsV v')) (ha : ∀ b, own a' = some b → w.heap.size ≤ b) (hv : v' ≠ []) (hok : OkV v') (hfew : (unrun v').length ≤ c) :
    CodeAt w' g n (upd S i ⟨(S i).s, unrun v', (S i).b⟩) c L B mb k' D' (fun j => if j = i then v' else V j) (fun j => if j = i then a' else A j) (fun j => if j = i then c' else C j) ∧
      ∀ b, foot g n mb (fun j => if j = i then a' else A j) b → foot g n mb A b ∨ w.heap.size ≤ b := by
  have hapart : ∀ j, j < n → ∀ b, own (A j) = some b → own a' ≠ some b := by
    intro j hj b hb e
    have h1 := ha b e
    have h2 := ((h.row j hj).lt b (by rw [own_eq]; exact hb)).2
    omega
  refine ⟨⟨h.diskw hk h.gm, hm, hk', ?_, ?_, ?_, ?_, ?_, ?_, ?_, ?_, ?_, ?_⟩, ?_⟩
  · intro x hx
    by_cases e : (Lit.int .i64 x) = .int .i64 (i : Int)
    · injection e with _ e
      exact ⟨i, e, hi⟩
    · rw [(hD2 _ e).1] at hx
      exact h.keys x hx
  · intro j hj hne z
    by_cases e : j = i
    · subst e; simpa using hD1 z
    · simp only [if_neg e] at hne ⊢
      rw [(hD2 _ (key_ne e)).2]
      exact h.here j hj hne z
  · intro j hj he
    by_cases e : j = i
    · subst e; simp only [if_true] at he; exact absurd he hv
    · simp only [if_neg e] at he ⊢
      rw [(hD2 _ (key_ne e)).1]
      exact h.gone j hj he
  · intro j hj
    by_cases e : j = i
    · subst e; simpa using hrow
    · simp only [if_neg e]
      refine hk.row (h.row j hj) fun b hb q => ?_
      rw [own_eq] at hb
      exact h.row_m hj hb q
  · intro j hj
    by_cases e : j = i
    · subst e; simpa using hok
    · simpa only [if_neg e] using h.ok j hj
  · intro j hj
    by_cases e : j = i
    · subst e; rw [upd_same]; exact h.sec j hj
    · rw [upd_other _ _ e]; exact h.sec j hj
  · intro j hj
    by_cases e : j = i
    · subst e; rw [upd_same]; exact h.bad j hj
    · rw [upd_other _ _ e]; exact h.bad j hj
  · intro j hj
    by_cases e : j = i
    · subst e; rw [upd_same]; simp
    · rw [upd_other _ _ e]; simpa only [if_neg e] using h.ver j hj
  · intro j hj
    by_cases e : j = i
    · subst e; rw [upd_same]; exact hfew
    · rw [upd_other _ _ e]; exact h.few j hj
  · intro x y hx hy hxy b hb
    by_cases e1 : x = i
    · subst e1
      have e2 : ¬ y = x := fun q => hxy q.symm
      simp only [if_true, if_neg e2] at hb ⊢
      exact fun q => hapart y hy b q hb
    · by_cases e2 : y = i
      · subst e2
        simp only [if_true, if_neg e1] at hb ⊢
        exact hapart x hx b hb
      · simp only [if_neg e1, if_neg e2] at hb ⊢
        exact h.apart x y hx hy hxy b hb
  · rintro b (q | q | ⟨j, hj, q⟩)
    · exact .inl (.inl q)
    · exact .inl (.inr (.inl q))
    · by_cases e : j = i
      · subst e; simp only [if_true] at q; exact .inr (ha b q)
      · simp only [if_neg e] at q
        exact .inl (.inr (.inr ⟨j, hj, q⟩))
end
/-- the blocks of a copy under way: what is left has no versions yet -/
def halfS (S : Nat → Bk) (left : Lit → Bool) : Nat → Bk := fun j => ⟨(S j).s, if left (.int .i64 (j : Int)) = true then [] else (S j).v, (S j).b⟩
/-- a copy under way -/
def FkS (w wr : World) (h n c : Nat) (S : Nat → Bk) (L : List Int) (B : List Bool) (mb mb2 k r : Nat) (D : DataW Value) (cnt : Nat) (left : Lit → Bool) : Prop :=
  ∃ k2 D2 V2 A2 C2, wr.ranges Try.prog 3 RV mb r k D left cnt ∧ CodeAt wr h n (halfS S left) c L B mb2 k2 D2 V2 A2 C2 ∧ Below w.heap.size w wr ∧ (∀ b, foot h n mb2 A2 b → w.heap.size ≤ b) ∧ k2 + cnt ≤ Maps.size D ∧ ∀ i, left (.int .i64 i) = true → Maps.has D (.int .i64 i) = true
theorem halfS_next (S : Nat → Bk) (left : Lit → Bool) (j : Nat) : halfS S (fun z => left z && !z.sameKey (.int .i64 (j : Int))) = upd (halfS S left) j ⟨(halfS S left j).s, (S j).v, (halfS S left j).b⟩ := by
  funext i
  by_cases e : i = j
  · subst e
    rw [upd_same]
    simp [halfS, Lit.sameKey]
  · rw [upd_other _ _ e]
    have : (Lit.int .i64 (i : Int)).sameKey (.int .i64 (j : Int)) = false := Maps.sameKey_ne (by intro h; injection h with _ h; omega)
    simp [halfS, this]
theorem below_grown {B : Nat} {w w' : World} (h : Below w.heap.size w w') : w.grownBy w' none := ⟨h.os, h.tape, h.output, h.size, fun k hk _ => h.block k hk⟩
set_option maxRecDepth 100000 in
set_option linter.unusedSimpArgs false in
set_option maxHeartbeats 1000000 in
theorem cfork {w : World} {g n c : Nat} {S : Nat → Bk} {F : Nat → Prop} (h : Code w g n S c F) (hc : c < 100000) :
    Calls Try.prog 22 #[.pointer (some ⟨g, 0, none⟩)] w fun e w' => ∃ h F', e = .returned (.pointer (some ⟨h, 0, none⟩)) ∧ Code w' h n S c F' ∧ (∀ b, F' b → w.heap.size ≤ b) ∧ Below w.heap.size w w' := by
  obtain ⟨L, B, mb, k, D, V, A, C, hA, rfl⟩ := h
  have hcm := hA.disk.cmap
  have hgl := hA.glt
  have hml := hA.map.lt
  have hll := length_heldL n L B hA.disk.lenL hA.disk.lenB
  have HA := Lib.hid hA
  have hR : Hid (w.rangeAt g 0 (heldL n L B)) := fun j u hj => by
    rw [Nat.zero_add, hA.disk.blk.cell, diskL, List.getElem?_append_left (List.getElem?_eq_some_iff.1 hj).1]
    exact hj
  have hsz77 : Hid ((Try.prog.info? 77).map (·.size) = some (heldL n L B).length) := by unfold Hid; rw [hll]; exact size77
  have b2 := Lib.hid (built80 (heldL n L B).toArray (by simpa using hll) (some w.heap.size))
  rw [push_disk] at b2
  have hmm := @run_makeMap Try.prog
  obtain ⟨w2, hw2⟩ : ∃ w2, w2 = (w.alloc (.map #[] 0)).alloc (.cells (diskL n L B w.heap.size).toArray 80) := ⟨_, rfl⟩
  have B2 : Hid (Below w.heap.size w w2) := by rw [hw2]; exact below_alloc2 w _ _
  have s2 : Hid (w2.heap.size = w.heap.size + 2) := by unfold Hid; rw [hw2, size_alloc1, size_alloc1]
  have C2 : Hid (CodeAt w2 (w.heap.size + 1) n (halfS S (Maps.has D)) c L B w.heap.size 0 (.map []) (fun _ => []) (fun _ => none) (fun _ => 0)) := by
    refine ⟨⟨?_, HA.out.disk.lo, HA.out.disk.hi, HA.out.disk.lenL, HA.out.disk.lenB, HA.out.disk.allL⟩, ?_, Nat.zero_le _, ?_, ?_, ?_, ?_, ?_, ?_, ?_, ?_, ?_, ?_⟩
    · have := heap_alloc_new (w.alloc (.map #[] 0)) (.cells (diskL n L B w.heap.size).toArray 80)
      unfold BlkIs
      rw [hw2]
      simpa using this
    · rw [hw2]; exact (World.ownsMap_made w Try.prog 3 RV).alloc _
    · intro i hi; cases hi
    · intro j _ hne; exact absurd rfl hne
    · intro j _ _; exact ⟨rfl, rfl, rfl⟩
    · intro j _; exact World.ownsRow_nil _ _ _ _
    · intro j _ x hx; cases hx
    · intro j hj; exact HA.out.sec j hj
    · intro j hj; exact HA.out.bad j hj
    · intro j hj
      show ([] : List (List Int)) = _
      unfold halfS
      rw [HA.out.has_eq hj, ← HA.out.ver j hj]
      cases V j <;> simp [unrun]
    · intro j hj
      have := HA.out.few j hj
      show (halfS S (Maps.has D) j).v.length ≤ c
      unfold halfS
      by_cases e : Maps.has D (.int .i64 (j : Int)) = true
      · simp [e]
      · simpa [e] using this
    · intro i j _ _ _ b hb; cases hb
  have hfoot2 : Hid (∀ b, foot (w.heap.size + 1) n w.heap.size (fun _ => none) b → w.heap.size ≤ b) := by
    rintro b (q | q | ⟨j, _, q⟩)
    · omega
    · omega
    · cases q
  have M2 : Hid (w2.ownsMap Try.prog 3 RV mb k D) := (Kept.fresh (S := fun _ => False) B2.out).map HA.out.map (fun x => x)
  have cm2 : Hid (w2.cell? ⟨g, 3169, none⟩ = some (.map (some mb))) := (World.cell?_of_block (B2.out.block g hgl)).trans hcm
  obtain ⟨H0, hH0⟩ : ∃ H0, H0 = heldL n L B := ⟨_, rfl⟩
  rw [← hH0] at hR hsz77 b2
  obtain ⟨D0, hD0⟩ : ∃ D0, D0 = (diskL n L B w.heap.size).toArray := ⟨_, rfl⟩
  rw [← hD0] at b2 hw2
  have Hw2 := Lib.hid hw2
  clear hH0 hD0 hA hll hw2
  go_enter Try.func22, Try.ntmps22
  go_wp2_with (first
    | (refine wpList_load_mid rfl 77 (.tmp 10) rfl g 0 rfl H0 _ hR.out Try.underlying77 rfl hsz77.out ?_)
    | (refine wpList_build_eq rfl 80 [(0, .tmp 11), (1, .tmp 12)] rfl [(0, .agg H0.toArray), (1, .map (some w.heap.size))] rfl D0 b2.out ?_)
    | (at_range
       rw [← Hw2.out]
       have cm3 := cm2.out
       refine wpList_range_own _ rfl _ 78 rfl 3 81 law3 Try.underlying78 _ mb k D rfl M2.out ?_; intro w0 hrg0 hg0 hs0))
  go_frame
  have HS : Hid (FkS w w0 (w.heap.size + 1) n c S L B mb w.heap.size k w2.heap.size D (Maps.size D) (Maps.has D)) :=
    ⟨0, .map [], fun _ => [], fun _ => none, fun _ => 0, hrg0, (C2.out.keep (G := fun _ => False) (Kept.grown hg0 (fun _ e => by cases e)) (fun _ _ x => x)), ⟨hg0.os.trans B2.out.os, hg0.tape.trans B2.out.tape, hg0.output.trans B2.out.output, Nat.le_trans B2.out.size hg0.size, fun b hb => (hg0.block b (by have := s2.out; omega) (by simp)).trans (B2.out.block b hb)⟩, hfoot2.out, by omega, fun i hi => hi⟩
  have hml' := Lib.hid hml
  have hgl' := Lib.hid hgl
  clear hrg0 hg0 hs0 hcm hgl hml cm3
  go_loopw [4, 5] (fun _ _ wr => ∃ (left : Lit → Bool) (cnt : Nat), FkS w wr (w.heap.size + 1) n c S L B mb w.heap.size k w2.heap.size D cnt left) (fun _ _ wr => wr.rangeLeft mb w2.heap.size)
  case atStart => exact ⟨_, _, HS.out⟩
  case round =>
    obtain ⟨left, cnt, hF⟩ := hrel
    have HF := Lib.hid hF
    obtain ⟨k2, D2, V2, A2, C2', hrg, hA2, hB, hft, hcnt, hlh⟩ := hF
    rename World => wr
    have AX : Hid (∀ (x : Int) (v : Value), left (.int .i64 x) = true → (∀ zd, D.atKey (.int .i64 x) zd = .held v) → ∃ j gv q cap, x = ((j : Nat) : Int) ∧ v = .slice (some ⟨gv, 0, none⟩) (q + 1) cap ∧
        (j < n ∧ A j = some ⟨gv, 0, none⟩ ∧ (V j).length = q + 1 ∧ C j = cap)) := by
      intro x v hl hv
      have hD := hlh x hl
      obtain ⟨j, rfl, hj⟩ := HA.out.keys x hD
      rw [HA.out.has_eq hj] at hD
      have he : V j ≠ [] := by intro e; rw [e] at hD; simp at hD
      obtain ⟨gv, q, hAj, hq, _⟩ := HA.out.now hj he
      have e := hv (.held (.bool false))
      rw [HA.out.here j hj he, hAj, hq] at e
      injection e with e
      exact ⟨j, gv, q, C j, rfl, e.symm, hj, hAj, hq, rfl⟩
    have Hr := Lib.hid hrg
    have HA2 := Lib.hid hA2
    have HB := Lib.hid hB
    have Hft := Lib.hid hft
    have Hcnt := Lib.hid hcnt
    have Hlh := Lib.hid hlh
    clear hrg hA2 hB hft hcnt hlh
    go_wp2_with (at_next; refine wpList_next_waits rfl _ rfl 3 law3 Try.underlying3 mb w2.heap.size k D left cnt rfl Hr.out _ AX.out ?_ ?_)
    · intro hl0
      go_wp2
      go_ret
      refine ⟨_, _, rfl, ⟨L, B, w.heap.size, k2, D2, V2, A2, C2', HA2.out.congr (fun j _ => ?_), rfl⟩, Hft.out, HB.out⟩
      unfold halfS
      rw [hl0]
      rfl
    · intro j gv q cap w1 cnt1 hj hAj hq hCj hlx hrg1 hlt hg1 hen
      have hVe : V j ≠ [] := by intro e; rw [e] at hq; cases hq
      have hwr : w.heap.size ≤ wr.heap.size := HB.out.size
      have hwr2 : w2.heap.size < wr.heap.size := Hr.out.lt
      have hj96 : j < 96 := by have := HA.out.n96; omega
      have Hkey := Lib.hid (key3 hj96)
      have hm2r : w.heap.size ≠ w2.heap.size := by have := s2.out; omega
      have hB1 : Below w.heap.size w w1 := ⟨hg1.os.trans HB.out.os, hg1.tape.trans HB.out.tape, hg1.output.trans HB.out.output, Nat.le_trans hwr hg1.size, fun b hb => (hg1.block b (by omega) (by have := s2.out; simp; omega)).trans (HB.out.block b hb)⟩
      have hA1 : CodeAt w1 (w.heap.size + 1) n (halfS S left) c L B w.heap.size k2 D2 V2 A2 C2' := HA2.out.keep (G := fun b => b = w2.heap.size) (Kept.grown hg1 (fun b e => by cases e; exact .inl rfl)) (fun b hb e => by
        subst e
        rcases hb with e | e | ⟨i, hi, e⟩
        · have := s2.out; omega
        · exact hm2r e.symm
        · obtain ⟨cs, hcs⟩ := HA2.out.row_typed hi e
          obtain ⟨_, _, _, _, _, _, _, _, _, hit, _⟩ := Hr.out
          rw [hcs] at hit
          simp at hit)
      have B1 := Lib.hid hB1
      have HA1 := Lib.hid hA1
      have Hrg1 := Lib.hid hrg1
      have hV2 : V2 j = [] := (unrun_nil (hA1.ok j hj)).1 (by rw [hA1.ver j hj]; unfold halfS; simp [hlx])
      have hrowj := (Kept.fresh (S := fun _ => False) hB1).row (HA.out.row j hj) (fun _ _ x => x)
      have hlen := HA.out.len_le hj
      have CLN : Hid (∀ W, Below w1.heap.size w1 W → Calls Try.prog 42 #[.slice (some ⟨gv, 0, none⟩) (q + 1) cap] W fun e w' => ∃ gb cap5, e = .returned (.slice (some ⟨gb, 0, none⟩) (q + 1) cap5) ∧ w'.ownsRow 0 83 33 (.slice (some ⟨gb, 0, none⟩) (q + 1) cap5) (q + 1) (rowsV (V j)) ∧ W.heap.size ≤ gb ∧ Below W.heap.size W w') := fun W hW => by
        have := clone_any W (A j) (C j) (V j) ((Kept.fresh (S := fun _ => False) hW).row hrowj (fun _ _ x => x)) hVe (HA.out.ok j hj) (by omega)
        rw [hAj, hCj, hq] at this
        exact this
      have c1 : w1.cell? ⟨w.heap.size + 1, 3169, none⟩ = some (.map (some w.heap.size)) := hA1.disk.cmap
      have B1d : Hid (Below w1.heap.size w1 w1.drew) := (Below.refl _ _).drew
      have hsz := HA.out.map.size_le
      have hkc := HA.out.kc
      have CLO : Hid (∀ w5 gb cap5, Below w1.drew.heap.size w1.drew w5 → w5.ownsRow 0 83 33 (.slice (some ⟨gb, 0, none⟩) (q + 1) cap5) (q + 1) (rowsV (V j)) → w1.drew.heap.size ≤ gb →
          w5.cell? ⟨w.heap.size + 1, 3169, none⟩ = some (.map (some w.heap.size)) ∧ w5.ownsMap Try.prog 3 RV w.heap.size k2 D2 ∧
          ∀ w6, w6.ownsMap Try.prog 3 RV w.heap.size (k2 + 1) (D2.put (.int .i64 (j : Int)) (.held (.slice (some ⟨gb, 0, none⟩) (q + 1) cap5))) → w5.grownBy w6 (some w.heap.size) → w6.cell? ⟨w.heap.size + 1, 3169, none⟩ = some (.map (some w.heap.size)) ∧
            w6.ranges Try.prog 3 RV mb w2.heap.size k D (fun z => left z && !z.sameKey (.int .i64 (j : Int))) cnt1 ∧ FkS w w6 (w.heap.size + 1) n c S L B mb w.heap.size k w2.heap.size D cnt1 (fun z => left z && !z.sameKey (.int .i64 (j : Int)))) := by
        intro w5 gb cap5 hB5' hr5 hgb5
        have hB5 : Below w1.heap.size w1 w5 := B1d.out.trans hB5'
        have hA5 := HA1.out.fresh hB5
        refine ⟨hA5.disk.cmap, hA5.map, fun w6 hm6 hg6 => ?_⟩
        have hgbw : w1.heap.size ≤ gb := hgb5
        have hr5' : w5.ownsRow 0 83 33 (.slice (some ⟨gb, 0, none⟩) (V j).length cap5) (V j).length (rowsV (V j)) := by rw [hq]; exact hr5
        have hgbl := (hr5.lt gb rfl).2
        have hr6 := hr5'.kept hg6 (.inr (by have := hB1.size; have := hA1.map.lt; simp [Value.ownBlock]; omega))
        have hkey : WideAt.IsKeyLit (.int .i64 (j : Int)) := trivial
        -- the copy lies behind the world ahead of the call
        have hA1' : CodeAt w1 (w.heap.size + 1) n (halfS S left) c L B w.heap.size k2 D2 V2 A2 C2' := HA1.out
        have hk16 : Kept w1 w6 (fun b => b = w.heap.size) := (Kept.fresh hB5).trans (Kept.grown (S := fun b => b = w.heap.size) hg6 (fun b e => by cases e; exact .inl rfl)) (fun _ h => .inl h)
        have hins := hA1'.ins hj (w' := w6) (k' := k2 + 1) (c' := cap5) (a' := some ⟨gb, 0, none⟩) (v' := V j) hk16 hm6 (by have := Hcnt.out; omega)
          (fun z => by rw [hq]; exact Maps.atKey_put_same hA5.map.isMap hkey _ z) (fun l hl => ⟨Maps.has_put_other hl _, fun z => Maps.atKey_put_other hl _ z⟩) hr6 (fun b e => by simp [own] at e; omega) hVe (HA.out.ok j hj) (by rw [HA.out.ver j hj]; exact HA.out.few j hj)
        rw [HA.out.ver j hj, ← halfS_next S left j] at hins
        have hrg6 : w6.ranges Try.prog 3 RV mb w2.heap.size k D (fun z => left z && !z.sameKey (.int .i64 (j : Int))) cnt1 :=
          (Hrg1.out.kept (below_grown (B := 0) hB5) (by simp) (by simp)).kept hg6 (by have := hml'.out; simp; omega) (by simpa using Ne.symm hm2r)
        refine ⟨(by rw [hk16.cell (a := ⟨w.heap.size + 1, 3169, none⟩) (by have := hA1'.glt; exact this) (by show ¬ (w.heap.size + 1 = w.heap.size); omega)]; exact hA1'.disk.cmap), hrg6, _, _, _, _, _, hrg6, hins.1, ?_, ?_, ?_, ?_⟩
        · exact hB1.trans (hk16.below (fun b e => by omega) hB1.size)
        · intro b hb
          rcases hins.2 b hb with q | q
          · exact Hft.out b q
          · have := hB1.size; omega
        · have := Hcnt.out; omega
        · intro i hi
          simp only [Bool.and_eq_true] at hi
          exact Hlh.out i hi.1
      have hk2m : k2 < maxLen := by have := Hcnt.out; unfold maxLen; omega
      have Hk2 := Lib.hid hk2m
      have X7 : Hid (w1.drew.cell? ⟨w.heap.size + 1, 3169, none⟩ = some (.map (some w.heap.size))) := c1
      have Hlt := Lib.hid hlt
      clear hrg1 hlt hg1 hVe hAj hq hCj hB1 hA1 hV2 hrowj hlen hsz hkc hk2m c1 hwr hwr2
      go_wp2_with fail
      refine wp_region_held_drew (S := (fun W => W.cell? ⟨w.heap.size + 1, 3169, none⟩ = some (.map (some w.heap.size)))) (by kernel_rfl) (X7.out) (fun hHeld => ?_)
      refine takeH (i := 0) (some 25) (v := ?_) rfl rfl (by kernel_rfl) (by kernel_rfl) (by kernel_rfl) (fun _ _ _ h => h) (by rfl) ?_ (by assumption) ?_
      rotate_left
      · (intro w hSw; (try dsimp only at hSw); go_simp; try with_reducible rfl)
      simp only [Act.put, List.setIfInBounds_toArray, List.set_cons_zero, List.set_cons_succ]
      refine takeH (i := 1) (some 26) (v := ?_) rfl rfl (by kernel_rfl) (by kernel_rfl) (by kernel_rfl) (fun _ _ _ h => h) (by rfl) ?_ (by assumption) ?_
      rotate_left
      · (intro w hSw; (try dsimp only at hSw); go_simp; try with_reducible rfl)
      simp only [Act.put, List.setIfInBounds_toArray, List.set_cons_zero, List.set_cons_succ]
      refine takeH (i := 2) (some 27) (v := ?_) rfl rfl (by kernel_rfl) (by kernel_rfl) (by kernel_rfl) (fun _ _ _ h => h) (by rfl) ?_ (by assumption) ?_
      rotate_left
      · (intro w hSw; (try dsimp only at hSw); go_simp; try with_reducible rfl)
      simp only [Act.put, List.setIfInBounds_toArray, List.set_cons_zero, List.set_cons_succ]
      refine takeH (i := 3) (some 28) (v := ?_) rfl rfl (by kernel_rfl) (by kernel_rfl) (by kernel_rfl) (fun _ _ _ h => h) (by rfl) ?_ (by assumption) ?_
      rotate_left
      · (intro w hSw; (try dsimp only at hSw); go_simp; try with_reducible rfl)
      simp only [Act.put, List.setIfInBounds_toArray, List.set_cons_zero, List.set_cons_succ]
      refine takeH (i := 4) (some 29) (v := ?_) rfl rfl (by kernel_rfl) (by kernel_rfl) (by kernel_rfl) (fun _ _ _ h => h) (by rfl) ?_ (by assumption) ?_
      rotate_left
      · (intro w hSw; (try dsimp only at hSw); go_simp; try with_reducible rfl)
      simp only [Act.put, List.setIfInBounds_toArray, List.set_cons_zero, List.set_cons_succ]
      refine takeH (i := 5) (some 30) (v := ?_) rfl rfl (by kernel_rfl) (by kernel_rfl) (by kernel_rfl) (fun _ _ _ h => h) (by rfl) ?_ (by assumption) ?_
      rotate_left
      · (intro w hSw; (try dsimp only at hSw); go_simp; try with_reducible rfl)
      simp only [Act.put, List.setIfInBounds_toArray, List.set_cons_zero, List.set_cons_succ]
      refine wpAnyH_ready (rs := [6]) (by kernel_rfl) (by simp) ?_
      refine AllReadyH.cons rfl (fun K hK => ?_) AllReadyH.nil
      go_simp
      refine (CLN.out _ B1d.out).mono ?_
      rintro e w5 ⟨gb, cap5, rfl, hr5, hgb5, hB5⟩
      have Z := Lib.hid (CLO.out w5 gb cap5 hB5 hr5 hgb5)
      clear hr5 hgb5 hB5
      refine hK _ _ (Z.out.1) (fun hHeld => ?_)
      clear hK K
      try simp only [Act.put, List.setIfInBounds_toArray, List.set_cons_zero, List.set_cons_succ]
      refine wpAnyH_ready (rs := [7]) (by kernel_rfl) (by simp) ?_
      refine AllReadyH.cons rfl (fun K hK => ?_) AllReadyH.nil
      refine step_of rfl (wp_update_held (.tmp 28) (.tmp 29) (.tmp 31) 78 rfl 3 81 law3 Try.underlying78 w.heap.size k2 D2 rfl Z.out.2.1 Hk2.out _ _ _ rfl rfl Hkey.out ?_)
      intro w6 hm6 hg6
      have U := Lib.hid (Z.out.2.2 w6 hm6 hg6)
      clear hm6 hg6
      refine hK _ _ (U.out.1) (fun hHeld => ?_)
      clear hK K
      try simp only [Act.put, List.setIfInBounds_toArray, List.set_cons_zero, List.set_cons_succ]
      refine wpAnyH_done (by kernel_rfl) ?_ _
      have hr6 := Lib.hid U.out.2.1
      have hf6 := Lib.hid U.out.2.2
      go_wp2_with fail
      go_roundw
      case rel => exact ⟨_, cnt1, hf6.out⟩
      case measure => have := Hlt.out; rw [hr6.out.left_eq, Hr.out.left_eq]; omega
end Go.Proofs.Ytieeibdhaoaeaaa
