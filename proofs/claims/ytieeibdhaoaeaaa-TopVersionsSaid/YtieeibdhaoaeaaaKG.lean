/- The contract of 'Versions'. -/
import Derived.Test.YtieeibdhaoaeaaaKF
set_option linter.unusedVariables false
set_option linter.unusedSimpArgs false
namespace Go.Proofs.Ytieeibdhaoaeaaa
open Go.RowKit

theorem take_next {V : List Run} {k : Nat} (h : k < V.length) : V.take (k + 1) = V.take k ++ [V[k]] := List.take_succ_eq_append_getElem h
theorem at_k {V : List Run} {k : Nat} (h : k < V.length) : V = V.take k ++ V[k] :: V.drop (k + 1) := by
  rw [← List.drop_eq_getElem_cons h, List.take_append_drop]
/-- the cells of the k-th row -/
theorem run_row {w : World} {A : Option Addr} {c : Nat} {V : List Run} (hrow : w.ownsRow 0 83 33 (.slice A V.length c) V.length (rowsV V)) (hok : OkV V) {k : Nat} (hk : k < V.length) :
    ∃ b, A = some ⟨b, 0, none⟩ ∧ b < w.heap.size ∧ w.rangeAt b (k * 33) (rowL V[k].1 V[k].2) := by
  obtain ⟨b, cap, e, _, hb⟩ := hrow.form (by omega)
  obtain ⟨rfl, _, rfl⟩ := Value.slice.inj e
  refine ⟨b, rfl, hb, fun j u hj => ?_⟩
  have hx := (hok V[k] (List.getElem_mem hk)).1
  have hj' : j < 33 := by
    rcases Nat.lt_or_ge j 33 with h1 | h1
    · exact h1
    · rw [List.getElem?_eq_none (by rw [length_rowL hx]; exact h1)] at hj; cases hj
  rw [hrow.cellAt _ (by omega)]
  have e := at_k hk
  have h1 := rowsV_at (V := V.take k) (W := V.drop (k + 1)) V[k] (by rw [← e]; exact hok) hj'
  rw [← e, List.length_take, Nat.min_eq_left (by omega)] at h1
  rw [h1, hj]
set_option maxRecDepth 100000 in
set_option maxHeartbeats 1000000 in
theorem versions_any (g : Nat) (n : Int) (L : List Int) (B : List Bool) (mb k : Nat) (i : Int) (D : DataW Value) (w : World) (h : DiskAt w g n L B mb) (hm : w.ownsMap Try.prog 3 RV mb k D) (hkey : keyOf Try.prog 3 (.int .i64 i) = some (.int .i64 i))
    (A : Option Addr) (c : Nat) (V : List Run) (hat : D.atKey (.int .i64 i) (.held (.slice none 0 0)) = .held (.slice A V.length c)) (hrow : w.ownsRow 0 83 33 (.slice A V.length c) V.length (rowsV V)) (hok : OkV V) (hq : (unrun V).length < 1000000000) :
    Calls Try.prog 21 #[.pointer (some ⟨g, 0, none⟩), .int .i64 i] w fun e w' => e = .returned (.int .i64 (unrun V).length) ∧ Below w.heap.size w w' := by
  have hgw : g < w.heap.size := h.blk.lt
  have hlen := length_unrun hok
  have hc := h.cmap
  have Hat := Lib.hid hat
  have Hk := Lib.hid hkey
  have Hm := Lib.hid hm
  have Hok := Lib.hid hok
  have Hrow := Lib.hid hrow
  have h33 : ∀ k (hk : k < V.length), (rowL V[k].1 V[k].2).length = 33 := fun k hk => length_rowL (hok V[k] (List.getElem_mem hk)).1 _
  have H33 := Lib.hid h33
  have i83 : (Try.prog.info? 83).map (·.size) = some 33 := by
    obtain ⟨i0, hi0, _, hz1, _⟩ := info_parts info83
    rw [hi0]; simp [hz1]
  have I83 := Lib.hid i83
  have HB : Hid (∀ W, Below w.heap.size w W → ∀ k (hk : k < V.length), ∃ b, A = some ⟨b, 0, none⟩ ∧ W.rangeAt b (k * 33) (rowL V[k].1 V[k].2)) := fun W hB k hk => by
    obtain ⟨b, e, hb, hr⟩ := run_row hrow hok hk
    exact ⟨b, e, fun j u hj => (World.cell?_of_block (hB.block b hb)).trans (hr j u hj)⟩
  have HS : Hid (∀ k (hk : k < V.length), (unrun (V.take (k + 1))).length = (unrun (V.take k)).length + V[k].2 ∧ (unrun (V.take (k + 1))).length < 1000000000) := fun k hk => by
    have e : (unrun (V.take (k + 1))).length = (unrun (V.take k)).length + V[k].2 := by rw [take_next hk, unrun_append, unrun_one, List.length_append, List.length_replicate]
    refine ⟨e, ?_⟩
    have h2 : unrun V = unrun (V.take (k + 1)) ++ unrun (V.drop (k + 1)) := by rw [← unrun_append, List.take_append_drop]
    rw [h2, List.length_append] at hq
    omega
  clear h hat hm hrow hok h33 i83 hkey
  go_enter Try.func21, Try.ntmps21
  go_wp2_with (refine wpList_lookup_held rfl (.tmp 13) (.tmp 14) 78 rfl 3 81 law3 Try.underlying78 (zero81 _) mb k D rfl Hm.out _ _ rfl Hk.out _ Hat.out ?_)
  go_loopw [5, 17] (fun m i wr => ∃ k : Nat, k ≤ V.length ∧ i = .int .i64 k ∧ m = .int .i64 (unrun (V.take k)).length ∧ Below w.heap.size w wr) (fun _ i _ => V.length - (intOf i).toNat)
  case atStart => exact ⟨0, Nat.zero_le _, rfl, rfl, Below.refl _ w⟩
  case round =>
    obtain ⟨q, hq, rfl, rfl, hB⟩ := hrel
    rename World => wr
    have B1 := Lib.hid hB
    clear hB
    by_cases hlt : q < V.length
    · have hlt' : (q : Int) < (V.length : Int) := by omega
      have hq0 : (0 : Int) ≤ (q : Int) := by omega
      have hwq : IntKind.i64.wrap ((q : Int) + 1) = (q : Int) + 1 := by simp [IntKind.wrap, IntKind.bits, IntKind.signed]; omega
      obtain ⟨b, hA, hr⟩ := HB.out wr B1.out q hlt
      obtain ⟨hs1, hs2⟩ := HS.out q hlt
      have HR := Lib.hid hr
      have hl := H33.out q hlt
      have hone : Hid ((rowL V[q].1 V[q].2).toArray.all (·.oneCell') = true) := all_oneCell_toArray (rowL_one _ _)
      have hsz : Hid ((Try.prog.info? 83).map (·.size) = some (rowL V[q].1 V[q].2).length) := by unfold Hid; rw [hl]; exact I83.out
      have hsz' : Hid ((Try.prog.info? 83).map (·.size) = some (rowL V[q].1 V[q].2).toArray.size) := by unfold Hid; rw [List.size_toArray, hl]; exact I83.out
      have h33 : Hid (33 = (rowL V[q].1 V[q].2).toArray.size) := by unfold Hid; rw [List.size_toArray, hl]
      have hcl : Hid ((rowL V[q].1 V[q].2)[32]? = some (.int .i64 V[q].2)) := by
        have h32 : V[q].1.length = 32 := by
          have := hl
          rw [rowL, List.length_append, length_bytesV] at this
          simpa using this
        unfold Hid rowL
        rw [List.getElem?_append_right (by rw [length_bytesV, h32]; omega), length_bytesV, h32]; rfl
      obtain ⟨R0, hR0⟩ : ∃ R0, R0 = rowL V[q].1 V[q].2 := ⟨_, rfl⟩
      rw [← hR0] at HR hone hsz hsz' h33 hcl
      obtain ⟨t, ht⟩ : ∃ t, t = V[q].2 := ⟨_, rfl⟩
      rw [← ht] at hcl hs1
      obtain ⟨u, hu⟩ : ∃ u, u = (unrun (V.take q)).length := ⟨_, rfl⟩
      rw [← hu] at hs1 ⊢
      have hut : IntKind.i64.wrap ((u : Int) + (t : Int)) = (u : Int) + (t : Int) := by simp [IntKind.wrap, IntKind.bits, IntKind.signed]; omega
      have Hs1 := Lib.hid hs1
      subst hA
      clear hr hs1 hs2 hl hR0 ht hu
      go_wp2_with (first
        | (refine wpList_load_mid rfl 83 (.tmp 19) rfl b (q * 33) rfl R0 _ HR.out Try.underlying83 rfl hsz.out ?_)
        | (refine wpList_store_row rfl 83 (.tmp 7) (.tmp 20) rfl wr.heap.size R0.toArray rfl rfl 83 _ (heap_alloc_new wr _) hsz'.out h33.out hone.out ?_
           generalize hW : World.setRow (wr.alloc (Obj.cells _ 83)) _ R0.toArray = w3
           have B3 : Hid (Below w.heap.size w w3) := by rw [← hW]; exact B1.out.trans ((below_setRow (below_alloc1 wr _) (Nat.le_refl _) _).mono B1.out.size)
           have c3 : w3.cell? ⟨wr.heap.size, 32, none⟩ = some (.int .i64 t) := by
             rw [← hW, cell_of_row _ wr.heap.size 32 R0.toArray 83 (0, 0) (setRow_heap _ _ _ _ _ _ (heap_alloc_new wr _))]
             simpa using hcl.out
           clear hW))
      go_roundw
      case rel => exact ⟨q + 1, by omega, rfl, by rw [Hs1.out]; simp, B3.out⟩
      case measure => simp [intOf]; omega
    · have hge : ¬ ((q : Int) < (V.length : Int)) := by omega
      obtain rfl : q = V.length := by omega
      have hnn : ¬ ((V.length : Int) < (V.length : Int)) := by omega
      clear hge
      go_wp2
      go_ret
      exact ⟨rfl, B1.out⟩
end Go.Proofs.Ytieeibdhaoaeaaa
