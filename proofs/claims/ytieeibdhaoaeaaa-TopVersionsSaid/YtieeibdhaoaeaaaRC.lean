/- A block of the document's disk turned; Read, Spoil. -/
import Derived.Test.YtieeibdhaoaeaaaRB
set_option linter.unusedVariables false
set_option linter.unusedSimpArgs false
namespace Go.Proofs.Ytieeibdhaoaeaaa
open Go.RowKit

theorem splice_take {α : Type} (L cs : List α) {k o : Nat} (h : o + cs.length ≤ k) (hk : k ≤ L.length) : (splice L o cs).take k = splice (L.take k) o cs := by
  have h1 := splice_mid [] (L.take k) (L.drop k) cs o (by rw [List.length_take, Nat.min_eq_left hk]; exact h)
  simp only [List.nil_append, List.length_nil, Nat.zero_add, List.take_append_drop] at h1
  have h2 : (splice (L.take k) o cs).length = k := by rw [length_splice _ _ _ (by rw [List.length_take, Nat.min_eq_left hk]; exact h), List.length_take, Nat.min_eq_left hk]
  rw [h1, List.take_append_of_le_length (by omega), List.take_of_length_le (by omega)]
section
variable {w w1 : World} {g n c gb cp : Nat} {S : Nat → Bk} {A : Nat → Option Addr} {C : Nat → Nat} {F : Nat → Prop}
/-- a cell of the i-th block stored: the versions' slice -/
theorem RefAt.turn (h : RefAt w g n S c gb cp A C) {i : Nat} (hi : i < n) {a' : Option Addr} {c' c2 : Nat} {v' : List (List Int)} (hv : w.ownsRow 0 53 32 (.slice a' v'.length c') v'.length (secsV v')) (hvo : ∀ x ∈ v', OkS x)
    (hc : v'.length ≤ c2) (hcc : c ≤ c2) (ha : ∀ j, j < n → j ≠ i → ∀ b, own (A j) = some b → own a' ≠ some b) :
    RefAt (w.setCell ⟨gb, i * 34 + 32, none⟩ (.slice a' v'.length c')) g n (upd S i ⟨(S i).s, v', (S i).b⟩) c2 gb cp (fun k => if k = i then a' else A k) (fun k => if k = i then c' else C k) := by
  have hg := setCell_grown w ⟨gb, i * 34 + 32, none⟩ (.slice a' v'.length c')
  have hk : Kept w (w.setCell ⟨gb, i * 34 + 32, none⟩ (.slice a' v'.length c')) (fun b => b = gb) := Kept.grown hg (fun b e => by cases e; exact .inl rfl)
  have hset := h.set_ hi (j := 32) (by omega) (.slice a' v'.length c') ⟨(S i).s, v', (S i).b⟩ a' c' (by
    unfold blkV
    rw [List.set_append_right _ _ (by rw [length_bytesV, (h.ok i hi).1.1]; omega), length_bytesV, (h.ok i hi).1.1]; rfl)
  refine ⟨hk.blk h.hd h.gne, ?_, ?_, ?_, h.n1, h.n96, ?_, ?_⟩
  · rw [← hset]; exact (h.row.stored _ _).1
  · intro j hj
    by_cases e : j = i
    · subst e
      rw [upd_same]
      simp only [if_true]
      refine hk.row hv fun b hb e => ?_
      subst e
      obtain ⟨cs, hcs⟩ := h.typed
      rw [own_eq] at hb
      rcases hv.2 with ⟨q, _⟩ | ⟨x, cap, cur, q, _, hx, _⟩
      · obtain ⟨q, _, _⟩ := Value.slice.inj q; rw [q] at hb; simp [own] at hb
      · obtain ⟨q, _, _⟩ := Value.slice.inj q
        rw [q] at hb
        simp [own] at hb
        subst hb
        rw [hcs] at hx; simp at hx
    · rw [upd_other _ _ e]
      simp only [if_neg e]
      exact hk.row (h.vers j hj) (fun b hb => by rw [own_eq] at hb; exact h.vb hj hb)
  · intro j hj
    by_cases e : j = i
    · subst e; rw [upd_same]; exact ⟨(h.ok j hj).1, hvo⟩
    · rw [upd_other _ _ e]; exact h.ok j hj
  · intro j hj
    by_cases e : j = i
    · subst e; rw [upd_same]; exact hc
    · rw [upd_other _ _ e]; exact Nat.le_trans (h.few j hj) hcc
  · intro x y hx hy hxy b hb
    by_cases e1 : x = i
    · subst e1
      have e2 : ¬ y = x := fun q => hxy q.symm
      simp only [if_true, if_neg e2] at hb ⊢
      exact fun q => ha y hy e2 b q hb
    · by_cases e2 : y = i
      · subst e2
        simp only [if_true, if_neg e1] at hb ⊢
        exact ha x hx e1 b hb
      · simp only [if_neg e1, if_neg e2] at hb ⊢
        exact h.apart x y hx hy hxy b hb
/-- the sector of the i-th block stored -/
theorem RefAt.sec_ (h : RefAt w g n S c gb cp A C) {i : Nat} (hi : i < n) {s : List Int} (hs : OkS s) {w' : World} {cur : Array Value} (hcur : w.heap[gb]? = some (.cells cur 93 (0, 0))) (e : w' = w.setRow gb (splice cur.toList (i * 34) (bytesV s)).toArray) :
    RefAt w' g n (upd S i ⟨s, (S i).v, (S i).b⟩) c gb cp A C := by
  have hk : Kept w w' (fun b => b = gb) := by
    rw [e]
    exact Kept.grown (row := some gb) ⟨rfl, rfl, rfl, by simp [World.setRow], fun a _ hne => setRow_other w _ a _ (by intro e; subst e; exact hne rfl)⟩ (fun b e => by cases e; exact .inl rfl)
  have hsp := h.splice_ hi hs.1
  refine ⟨hk.blk h.hd h.gne, ?_, ?_, ?_, h.n1, h.n96, ?_, h.apart⟩
  · rcases h.row.2 with ⟨q, _⟩ | ⟨x, cap, cur', q, hb, hx, h1, h2, h3, h4⟩
    · cases q
    · obtain ⟨q, _, qc⟩ := Value.slice.inj q
      cases q
      rw [hcur] at hx
      simp at hx
      subst hx
      have hl : (bytesV s).length = 32 := by rw [length_bytesV, hs.1]
      have hls : (splice cur.toList (i * 34) (bytesV s)).length = cur.size := by rw [length_splice _ _ _ (by rw [hl]; simp; omega)]; simp
      refine ⟨by rw [← hsp, length_splice _ _ _ (by rw [hl, h.row.1]; omega)]; exact h.row.1, .inr ⟨gb, cp, (splice cur.toList (i * 34) (bytesV s)).toArray, rfl, hb, by rw [e]; exact setRow_heap _ _ _ _ _ _ hcur, by rw [qc]; exact h1, by rw [qc]; exact h2, by rw [List.size_toArray, hls, qc]; exact h3, ?_⟩⟩
      rw [← hsp, ← h4]
      exact splice_take _ _ (by rw [hl]; omega) (by simp; omega)
  · intro j hj
    have := hk.row (h.vers j hj) (fun b hb => by rw [own_eq] at hb; exact h.vb hj hb)
    by_cases e : j = i
    · subst e; rw [upd_same]; exact this
    · rw [upd_other _ _ e]; exact this
  · intro j hj
    by_cases e : j = i
    · subst e; rw [upd_same]; exact ⟨hs, (h.ok j hj).2⟩
    · rw [upd_other _ _ e]; exact h.ok j hj
  · intro j hj
    by_cases e : j = i
    · subst e; rw [upd_same]; exact h.few j hj
    · rw [upd_other _ _ e]; exact h.few j hj
theorem rspoil_no (h : Ref w g n S c F) (i : Int) (hi : ¬ (0 ≤ i ∧ i < n)) (b : Bool) : Calls Try.prog 46 #[.pointer (some ⟨g, 0, none⟩), .int .i64 i, .bool b] w fun e w' => e = .returned (.int .i64 2) ∧ w = w' := by
  obtain ⟨_, _, gb, cp, hc⟩ := h.size
  have M := Lib.hid (may_no i hc hi)
  clear h hi
  go_enter Try.func46, Try.ntmps46
  go_wp2_with fail
  refine M.out.mono ?_
  rintro e w' ⟨rfl, rfl⟩
  go_wp2
  go_ret
  exact ⟨rfl, rfl⟩
theorem spoil_ref (i : Nat) (b b0 : Bool) (hc : w.cell? ⟨g, 0, none⟩ = some (.slice (some ⟨gb, 0, none⟩) n cp)) (hi : i < n) (hb : w.cell? ⟨gb, i * 34 + 33, none⟩ = some (.bool b0)) (hf : w.frozen? ⟨gb, i * 34 + 33, none⟩ = false) :
    Calls Try.prog 46 #[.pointer (some ⟨g, 0, none⟩), .int .i64 (i : Int), .bool b] w fun e w' => e = .returned (.int .i64 0) ∧ w' = w.setCell ⟨gb, i * 34 + 33, none⟩ (.bool b) := by
  have M := Lib.hid (may_yes i hc hi)
  have hi' : (i : Int) < (n : Int) := by omega
  have hi0 : (0 : Int) ≤ (i : Int) := by omega
  clear hi
  go_enter Try.func46, Try.ntmps46
  go_wp2_with fail
  refine M.out.mono ?_
  rintro e w' ⟨rfl, rfl⟩
  go_wp2
  go_ret
  exact ⟨rfl, rfl⟩
theorem rspoil (h : Ref w g n S c F) {i : Nat} (hi : i < n) (b : Bool) :
    Calls Try.prog 46 #[.pointer (some ⟨g, 0, none⟩), .int .i64 (i : Int), .bool b] w fun e w' => e = .returned (.int .i64 0) ∧ Went w w' F (Ref w' g n (upd S i ⟨(S i).s, (S i).v, b⟩) c) := by
  obtain ⟨gb, cp, A, C, h, rfl⟩ := h
  refine (spoil_ref i b (S i).b h.c0 hi (h.cb hi) (h.frz _)).mono ?_
  rintro e w' ⟨rfl, rfl⟩
  have hk : Kept w (w.setCell ⟨gb, i * 34 + 33, none⟩ (.bool b)) (fun x => x = gb) := Kept.grown (setCell_grown w _ _) (fun b e => by cases e; exact .inl rfl)
  have hset := h.set_ hi (j := 33) (by omega) (.bool b) ⟨(S i).s, (S i).v, b⟩ (A i) (C i) (by
    unfold blkV
    rw [List.set_append_right _ _ (by rw [length_bytesV, (h.ok i hi).1.1]; omega), length_bytesV, (h.ok i hi).1.1]; rfl)
  have hA : (fun k => if k = i then A i else A k) = A := by funext k; by_cases e : k = i <;> simp [e]
  have hC : (fun k => if k = i then C i else C k) = C := by funext k; by_cases e : k = i <;> simp [e]
  rw [hA, hC] at hset
  refine ⟨rfl, _, ⟨gb, cp, A, C, ⟨hk.blk h.hd h.gne, by rw [← hset]; exact (h.row.stored _ _).1, ?_, ?_, h.n1, h.n96, ?_, h.apart⟩, rfl⟩, hk.more (fun x q => .inl (.inr (.inl q))), fun x q => .inl q⟩
  · intro j hj
    have := hk.row (h.vers j hj) (fun b hb => by rw [own_eq] at hb; exact h.vb hj hb)
    by_cases e : j = i
    · subst e; rw [upd_same]; exact this
    · rw [upd_other _ _ e]; exact this
  · intro j hj
    by_cases e : j = i
    · subst e; rw [upd_same]; exact h.ok j hj
    · rw [upd_other _ _ e]; exact h.ok j hj
  · intro j hj
    by_cases e : j = i
    · subst e; rw [upd_same]; exact h.few j hj
    · rw [upd_other _ _ e]; exact h.few j hj
set_option maxRecDepth 100000 in
set_option maxHeartbeats 1000000 in
theorem rread (h : Ref w g n S c F) {i : Nat} (hi : i < n) (hc : c < 100000) :
    Calls Try.prog 35 #[.pointer (some ⟨g, 0, none⟩), .int .i64 (i : Int)] w fun e w' => e = .returned (.tuple #[secV (S i).now, .int .i64 0]) ∧ Below w.heap.size w w' := by
  obtain ⟨gb, cp, A, C, h, rfl⟩ := h
  have hi' : (i : Int) < (n : Int) := by omega
  have hi0 : (0 : Int) ≤ (i : Int) := by omega
  have M : Hid (∀ W, W.cell? ⟨g, 0, none⟩ = some (.slice (some ⟨gb, 0, none⟩) n cp) → Calls Try.prog 51 #[.pointer (some ⟨g, 0, none⟩), .int .i64 (i : Int)] W fun e w' => e = .returned (.int .i64 0) ∧ W = w') := fun W hc => may_yes i hc hi
  have hnl : (S i).now.length = 32 := by
    unfold Bk.now
    cases e : (S i).v.getLast? with
    | none => exact (h.ok i hi).1.1
    | some x => exact ((h.ok i hi).2 x (List.mem_of_getLast? e)).1
  have hsz : Hid ((Try.prog.info? 53).map (·.size) = some (bytesV (S i).now).length) := by unfold Hid; rw [length_bytesV, hnl]; exact size53
  have hsz' : Hid ((Try.prog.info? 53).map (·.size) = some (bytesV (S i).now).toArray.size) := by unfold Hid; rw [List.size_toArray, length_bytesV, hnl]; exact size53
  have hone : Hid ((bytesV (S i).now).toArray.all (·.oneCell') = true) := all_oneCell_toArray (bytesV_one _)
  have hold : Hid ((bytesV (List.replicate 32 0)).toArray.size = (bytesV (S i).now).toArray.size) := by unfold Hid; rw [List.size_toArray, List.size_toArray, length_bytesV, length_bytesV, hnl]; rfl
  have hfew := h.few i hi
  unfold secV
  by_cases hv : (S i).v = []
  · have hn : (S i).now = (S i).s := by unfold Bk.now; rw [hv]; rfl
    have hvl : (S i).v.length = 0 := by rw [hv]; rfl
    have HB : Hid (∀ W, Below w.heap.size w W → W.cell? ⟨g, 0, none⟩ = some (.slice (some ⟨gb, 0, none⟩) n cp) ∧ W.rangeAt gb (i * 34) (bytesV (S i).now) ∧ W.cell? ⟨gb, i * 34 + 32, none⟩ = some (.slice (A i) 0 (C i))) := fun W hB =>
      ⟨(h.fresh hB).c0, by rw [hn]; exact (h.fresh hB).sector hi, by have := (h.fresh hB).cv hi; rw [hvl] at this; exact this⟩
    obtain ⟨R0, hR0⟩ : ∃ R0, R0 = bytesV (S i).now := ⟨_, rfl⟩
    rw [← hR0] at hsz hsz' hone hold HB ⊢
    obtain ⟨Z0, hZ0⟩ : ∃ Z0, Z0 = (bytesV (List.replicate 32 0)).toArray := ⟨_, rfl⟩
    have HZ := Lib.hid hZ0
    rw [← hZ0] at hold
    clear h hZ0 hR0 hnl hi hn hvl hv hfew
    go_enter Try.func35, Try.ntmps35
    go_wp2_with fail
    generalize hW : w.alloc (Obj.cells _ 53) = w1
    have b1 : Hid (w1.heap[w.heap.size]? = some (.cells Z0 53 (0, 0))) := by rw [← hW, HZ.out]; exact heap_alloc_new w _
    have B1 : Hid (Below w.heap.size w w1) := by rw [← hW]; exact below_alloc1 w _
    have hfin := Lib.hid (setRow_heap w1 w.heap.size Z0 R0.toArray 53 (0, 0) b1.out)
    have hbfin := Lib.hid (below_setRow B1.out (Nat.le_refl _) R0.toArray)
    clear hW
    obtain ⟨c1, r1, v1⟩ := HB.out w1 B1.out
    have R1 := Lib.hid r1
    clear r1
    refine (M.out w1 c1).mono ?_
    rintro e w' ⟨rfl, rfl⟩
    go_wp2_with (first
      | (refine wpList_load_mid rfl 53 (.tmp 44) rfl gb (i * 34) rfl R0 _ R1.out Try.underlying53 rfl hsz.out ?_)
      | (refine wpList_store_row rfl 53 (.tmp 4) (.tmp 45) rfl w.heap.size R0.toArray rfl rfl 53 Z0 b1.out hsz'.out hold.out hone.out ?_))
    refine bodyPost_ret (v := .tuple #[.agg R0.toArray, .int .i64 0]) ?_ rfl ⟨rfl, hbfin.out⟩
    exact results_cell_row_tmp rfl _ _ w.heap.size 53 R0.toArray (0, 0) _ rfl hfin.out Try.underlying53 rfl hsz'.out _ rfl
  · obtain ⟨q, hq⟩ : ∃ q, (S i).v.length = q + 1 := ⟨(S i).v.length - 1, by have := List.length_pos_iff.2 hv; omega⟩
    obtain ⟨vb, hA, hvl, hr⟩ := h.version hi (k := q) (by omega)
    have hn : (S i).now = (S i).v[q] := by
      have hlast : (S i).v.getLast? = some (S i).v[q] := by
        rw [List.getLast?_eq_getElem?]
        have e : (S i).v.length - 1 = q := by omega
        rw [e]
        exact List.getElem?_eq_getElem _
      unfold Bk.now
      rw [hlast]
      rfl
    rw [← hn] at hr
    have HB : Hid (∀ W, Below w.heap.size w W → W.cell? ⟨g, 0, none⟩ = some (.slice (some ⟨gb, 0, none⟩) n cp) ∧ W.rangeAt vb (q * 32) (bytesV (S i).now) ∧ W.cell? ⟨gb, i * 34 + 32, none⟩ = some (.slice (some ⟨vb, 0, none⟩) (q + 1) (C i))) := fun W hB =>
      ⟨(h.fresh hB).c0, fun j u hj => (World.cell?_of_block (hB.block vb hvl)).trans (hr j u hj), by have := (h.fresh hB).cv hi; rw [hq, hA] at this; exact this⟩
    have hq0 : (0 : Int) ≤ (q : Int) := by omega
    have hq3 : (0 : Int) < (q : Int) + 1 := by omega
    have hwq : IntKind.i64.wrap (q : Int) = (q : Int) := by simp [IntKind.wrap, IntKind.bits, IntKind.signed]; omega
    have hq2 : (q : Int) < (q : Int) + 1 := by omega
    obtain ⟨R0, hR0⟩ : ∃ R0, R0 = bytesV (S i).now := ⟨_, rfl⟩
    rw [← hR0] at hsz hsz' hone hold HB ⊢
    obtain ⟨Z0, hZ0⟩ : ∃ Z0, Z0 = (bytesV (List.replicate 32 0)).toArray := ⟨_, rfl⟩
    have HZ := Lib.hid hZ0
    rw [← hZ0] at hold
    clear h hZ0 hR0 hnl hi hn hvl hv hfew hr hA hq
    go_enter Try.func35, Try.ntmps35
    go_wp2_with fail
    generalize hW : w.alloc (Obj.cells _ 53) = w1
    have b1 : Hid (w1.heap[w.heap.size]? = some (.cells Z0 53 (0, 0))) := by rw [← hW, HZ.out]; exact heap_alloc_new w _
    have B1 : Hid (Below w.heap.size w w1) := by rw [← hW]; exact below_alloc1 w _
    have hfin := Lib.hid (setRow_heap w1 w.heap.size Z0 R0.toArray 53 (0, 0) b1.out)
    have hbfin := Lib.hid (below_setRow B1.out (Nat.le_refl _) R0.toArray)
    clear hW
    obtain ⟨c1, r1, v1⟩ := HB.out w1 B1.out
    have R1 := Lib.hid r1
    clear r1
    refine (M.out w1 c1).mono ?_
    rintro e w' ⟨rfl, rfl⟩
    go_wp2_with (first
      | (refine wpList_load_mid rfl 53 (.tmp 36) rfl vb (q * 32) rfl R0 _ R1.out Try.underlying53 rfl hsz.out ?_)
      | (refine wpList_store_row rfl 53 (.tmp 4) (.tmp 37) rfl w.heap.size R0.toArray rfl rfl 53 Z0 b1.out hsz'.out hold.out hone.out ?_))
    refine bodyPost_ret (v := .tuple #[.agg R0.toArray, .int .i64 0]) ?_ rfl ⟨rfl, hbfin.out⟩
    exact results_cell_row_tmp rfl _ _ w.heap.size 53 R0.toArray (0, 0) _ rfl hfin.out Try.underlying53 rfl hsz'.out _ rfl
end
end Go.Proofs.Ytieeibdhaoaeaaa
