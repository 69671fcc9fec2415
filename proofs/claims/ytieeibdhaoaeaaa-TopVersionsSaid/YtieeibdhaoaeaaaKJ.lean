/- The contract of 'version'. -/
import Derived.Test.YtieeibdhaoaeaaaKI
set_option linter.unusedVariables false
set_option linter.unusedSimpArgs false
namespace Go.Proofs.Ytieeibdhaoaeaaa
open Go.RowKit

/-- the p-th of some, from 1 on -/
def pickAt (l : List (List Int)) (p : Int) : Option (List Int) := if 1 ≤ p then l[(p - 1).toNat]? else none
def pickV (o : Option (List Int)) : Value := .tuple #[secV (o.getD noSec), .bool o.isSome]
theorem pick_low {l : List (List Int)} {p : Int} (h : p < 1) : pickAt l p = none := by unfold pickAt; rw [if_neg (by omega)]
theorem pick_high {l : List (List Int)} {p : Int} (h : (l.length : Int) < p) : pickAt l p = none := by
  unfold pickAt
  split
  · rw [List.getElem?_eq_none (by omega)]
  · rfl
theorem pick_in {V : List Run} {k : Nat} (h : k < V.length) {p : Int} (h0 : ((unrun (V.take k)).length : Int) < p) (h1 : p - (unrun (V.take k)).length ≤ V[k].2) : pickAt (unrun V) p = some V[k].1 := by
  unfold pickAt
  rw [if_pos (by omega)]
  have e := at_k h
  have e2 : unrun V = unrun (V.take k) ++ (List.replicate V[k].2 V[k].1 ++ unrun (V.drop (k + 1))) := by
    rw [congrArg unrun e, unrun_append]
    simp only [unrun, List.flatMap_cons]
  rw [e2, List.getElem?_append_right (by omega), List.getElem?_append_left (by rw [List.length_replicate]; omega), List.getElem?_replicate, if_pos (by omega)]
set_option maxRecDepth 100000 in
set_option maxHeartbeats 2000000 in
theorem version_any (p : Int) (hp : -9223372036854775808 ≤ p ∧ p ≤ 9223372036854775807) (w : World) (A : Option Addr) (c : Nat) (V : List Run) (hrow : w.ownsRow 0 83 33 (.slice A V.length c) V.length (rowsV V)) (hok : OkV V) (hq : (unrun V).length < 1000000000) :
    Calls Try.prog 41 #[.slice A V.length c, .int .i64 p] w fun e w' => e = .returned (pickV (pickAt (unrun V) p)) ∧ Below w.heap.size w w' := by
  have hlen := length_unrun hok
  have hsz : Hid ((Try.prog.info? 36).map (·.size) = some (bytesV noSec).toArray.size) := by unfold Hid; rw [List.size_toArray, length_bytesV, noSec_len]; exact size36
  have hone : Hid ((bytesV noSec).toArray.all (·.oneCell') = true) := all_oneCell_toArray (bytesV_one _)
  have hbu := Lib.hid built36
  have h32Z : Hid (32 = (bytesV noSec).toArray.size) := by unfold Hid; rw [List.size_toArray, length_bytesV, noSec_len]
  have H33 : Hid (∀ k (hk : k < V.length), V[k].1.length = 32) := fun k hk => (hok V[k] (List.getElem_mem hk)).1
  have i83 : (Try.prog.info? 83).map (·.size) = some 33 := by
    obtain ⟨i0, hi0, _, hz1, _⟩ := info_parts info83
    rw [hi0]; simp [hz1]
  have I83 := Lib.hid i83
  have HB : Hid (∀ W, Below w.heap.size w W → ∀ k (hk : k < V.length), ∃ b, A = some ⟨b, 0, none⟩ ∧ W.rangeAt b (k * 33) (rowL V[k].1 V[k].2)) := fun W hB k hk => by
    obtain ⟨b, e, hb, hr⟩ := run_row hrow hok hk
    exact ⟨b, e, fun j u hj => (World.cell?_of_block (hB.block b hb)).trans (hr j u hj)⟩
  have HS : Hid (∀ k (hk : k < V.length), (unrun (V.take (k + 1))).length = (unrun (V.take k)).length + V[k].2 ∧ (unrun (V.take (k + 1))).length < 1000000000) := fun k hk => by
    have e : (unrun (V.take (k + 1))).length = (unrun (V.take k)).length + V[k].2 := by rw [take_next hk, unrun_append, unrun_one, List.length_append, List.length_replicate]
    refine ⟨e, ?_⟩
    have h2 : unrun V = unrun (V.take (k + 1)) ++ unrun (V.drop (k + 1)) := by rw [← unrun_append, List.take_append_drop]
    rw [h2, List.length_append] at hq
    omega
  have PLow : Hid (p < 1 → pickAt (unrun V) p = none) := fun h => pick_low h
  have PHigh : Hid (((unrun V).length : Int) < p → pickAt (unrun V) p = none) := fun h => pick_high h
  have PIn : Hid (∀ k (h : k < V.length), ((unrun (V.take k)).length : Int) < p → p - (unrun (V.take k)).length ≤ V[k].2 → pickAt (unrun V) p = some V[k].1) := fun k h h0 h1 => pick_in h h0 h1
  unfold pickV
  obtain ⟨o, ho⟩ : ∃ o, o = pickAt (unrun V) p := ⟨_, rfl⟩
  rw [← ho] at PLow PHigh PIn ⊢
  have HNo : Hid (o = none → secV (o.getD noSec) = .agg (bytesV noSec).toArray ∧ o.isSome = false) := by rintro rfl; exact ⟨rfl, rfl⟩
  obtain ⟨Z0, hZ0⟩ : ∃ Z0, Z0 = (bytesV noSec).toArray := ⟨_, rfl⟩
  have HZ := Lib.hid hZ0
  rw [← hZ0] at hsz hone hbu HNo h32Z
  have hp1 := hp.1
  have hp2 := hp.2
  clear hrow hok i83 ho hZ0 hp
  go_enter Try.func41, Try.ntmps41
  by_cases hlow : p < 1
  · go_wp2_with (first
      | (refine wpList_build_eq rfl 36 [] rfl [] rfl Z0 hbu.out ?_)
      | (refine wpList_store_row rfl 36 (.tmp 4) (.tmp 10) rfl w.heap.size Z0 rfl rfl 36 _ (heap_alloc_new w _) hsz.out h32Z.out hone.out ?_
         generalize hW : World.setRow (w.alloc (Obj.cells _ 36)) _ Z0 = w3
         have hbfin : Hid (Below w.heap.size w w3) := by rw [← hW]; exact below_setRow (below_alloc1 w _) (Nat.le_refl _) _
         have hfin : Hid (w3.heap[w.heap.size]? = some (.cells Z0 36 (0, 0))) := by rw [← hW]; exact setRow_heap _ _ _ _ _ _ (heap_alloc_new w _)
         clear hW))
    obtain ⟨e1, e2⟩ := HNo.out (PLow.out hlow)
    rw [e1, e2]
    refine bodyPost_ret (v := .tuple #[.agg Z0, .bool false]) ?_ rfl ⟨rfl, hbfin.out⟩
    exact results_cell_row_tmp rfl _ _ w.heap.size 36 Z0 (0, 0) _ rfl hfin.out Try.underlying36 rfl hsz.out _ rfl
  · go_wp2_with fail
    generalize hW : w.alloc (Obj.cells _ 36) = w1
    have b1 : Hid (w1.heap[w.heap.size]? = some (.cells Z0 36 (0, 0))) := by rw [← hW, HZ.out]; exact heap_alloc_new w _
    have B1 : Hid (Below w.heap.size w w1) := by rw [← hW]; exact below_alloc1 w _
    clear hW
    go_wp2_with fail
    go_loopw [1, 13] (fun m i wr => ∃ k : Nat, k ≤ V.length ∧ i = .int .i64 k ∧ m = .int .i64 (p - (unrun (V.take k)).length) ∧ ((unrun (V.take k)).length : Int) < p ∧ Below w.heap.size w wr ∧ wr.heap[w.heap.size]? = some (.cells Z0 36 (0, 0))) (fun _ i _ => V.length - (intOf i).toNat)
    case atStart => exact ⟨0, Nat.zero_le _, rfl, by simp [unrun], by simp [unrun]; omega, B1.out, b1.out⟩
    case round =>
      obtain ⟨q, hq, rfl, rfl, hgt, hB, hb⟩ := hrel
      rename World => wr
      have B2 := Lib.hid hB
      have b2 := Lib.hid hb
      clear hB hb
      by_cases hlt : q < V.length
      · have hlt' : (q : Int) < (V.length : Int) := by omega
        have hq0 : (0 : Int) ≤ (q : Int) := by omega
        have hwq : IntKind.i64.wrap ((q : Int) + 1) = (q : Int) + 1 := by simp [IntKind.wrap, IntKind.bits, IntKind.signed]; omega
        obtain ⟨b, hA, hr⟩ := HB.out wr B2.out q hlt
        obtain ⟨hs1, hs2⟩ := HS.out q hlt
        have PI := Lib.hid (PIn.out q hlt hgt)
        have HR := Lib.hid hr
        have h32 := H33.out q hlt
        have hl : (rowL V[q].1 V[q].2).length = 33 := length_rowL h32 _
        have honeR : Hid ((rowL V[q].1 V[q].2).toArray.all (·.oneCell') = true) := all_oneCell_toArray (rowL_one _ _)
        have hszR : Hid ((Try.prog.info? 83).map (·.size) = some (rowL V[q].1 V[q].2).length) := by unfold Hid; rw [hl]; exact I83.out
        have hszR' : Hid ((Try.prog.info? 83).map (·.size) = some (rowL V[q].1 V[q].2).toArray.size) := by unfold Hid; rw [List.size_toArray, hl]; exact I83.out
        have h33 : Hid (33 = (rowL V[q].1 V[q].2).toArray.size) := by unfold Hid; rw [List.size_toArray, hl]
        have hcl : Hid ((rowL V[q].1 V[q].2)[32]? = some (.int .i64 V[q].2)) := by
          unfold Hid rowL
          rw [List.getElem?_append_right (by rw [length_bytesV, h32]; omega), length_bytesV, h32]; rfl
        have hx : Hid (∀ j u, (bytesV V[q].1)[j]? = some u → (rowL V[q].1 V[q].2)[j]? = some u) := fun j u hj => by
          have hj' : j < 32 := by
            rcases Nat.lt_or_ge j 32 with h1 | h1
            · exact h1
            · rw [List.getElem?_eq_none (by rw [length_bytesV, h32]; exact h1)] at hj; cases hj
          rw [rowL, List.getElem?_append_left (by rw [length_bytesV, h32]; exact hj')]; exact hj
        have hszx : Hid ((Try.prog.info? 36).map (·.size) = some (bytesV V[q].1).length) := by unfold Hid; rw [length_bytesV, h32]; exact size36
        have hszx' : Hid ((Try.prog.info? 36).map (·.size) = some (bytesV V[q].1).toArray.size) := by unfold Hid; rw [List.size_toArray, length_bytesV, h32]; exact size36
        have honex : Hid ((bytesV V[q].1).toArray.all (·.oneCell') = true) := all_oneCell_toArray (bytesV_one _)
        have holdx : Hid (Z0.size = (bytesV V[q].1).toArray.size) := by unfold Hid; rw [HZ.out, List.size_toArray, List.size_toArray, length_bytesV, length_bytesV, h32, noSec_len]
        have HYes : Hid (o = some V[q].1 → secV (o.getD noSec) = .agg (bytesV V[q].1).toArray ∧ o.isSome = true) := by rintro rfl; exact ⟨rfl, rfl⟩
        obtain ⟨R0, hR0⟩ : ∃ R0, R0 = rowL V[q].1 V[q].2 := ⟨_, rfl⟩
        rw [← hR0] at HR honeR hszR hszR' h33 hcl hx
        obtain ⟨X0, hX0⟩ : ∃ X0, X0 = bytesV V[q].1 := ⟨_, rfl⟩
        rw [← hX0] at hx hszx hszx' honex holdx HYes
        obtain ⟨t, ht⟩ : ∃ t, t = V[q].2 := ⟨_, rfl⟩
        rw [← ht] at hcl hs1 PI
        obtain ⟨u, hu⟩ : ∃ u, u = (unrun (V.take q)).length := ⟨_, rfl⟩
        rw [← hu] at hs1 hgt PI ⊢
        have hut : IntKind.i64.wrap (p - (u : Int) - (t : Int)) = p - (u : Int) - (t : Int) := by simp [IntKind.wrap, IntKind.bits, IntKind.signed]; omega
        have Hs1 := Lib.hid hs1
        subst hA
        clear hr hs1 hs2 hl hR0 ht hu hX0 h32
        by_cases hle : p - (u : Int) ≤ (t : Int)
        · go_wp2_with (first
            | (refine wpList_load_mid rfl 83 (.tmp 15) rfl b (q * 33) rfl R0 _ HR.out Try.underlying83 rfl hszR.out ?_)
            | (refine wpList_store_row rfl 83 (.tmp 7) (.tmp 16) rfl wr.heap.size R0.toArray rfl rfl 83 _ (heap_alloc_new wr _) hszR'.out h33.out honeR.out ?_
               generalize hW : World.setRow (wr.alloc (Obj.cells _ 83)) _ R0.toArray = w3
               have B3' : Hid (Below wr.heap.size wr w3) := by rw [← hW]; exact below_setRow (below_alloc1 wr _) (Nat.le_refl _) _
               have hw3 : Hid (w.heap.size < wr.heap.size) := (Array.getElem?_eq_some_iff.1 b2.out).1
               have B3 : Hid (Below w.heap.size w w3) := B2.out.trans (B3'.out.mono B2.out.size)
               have b3 : Hid (w3.heap[w.heap.size]? = some (.cells Z0 36 (0, 0))) := (B3'.out.block _ hw3.out).trans b2.out
               have r3 : ∀ j, w3.cell? ⟨wr.heap.size, j, none⟩ = R0[j]? := fun j => by
                 rw [← hW, cell_of_row _ wr.heap.size j R0.toArray 83 (0, 0) (setRow_heap _ _ _ _ _ _ (heap_alloc_new wr _))]
                 simp
               have c3 : w3.cell? ⟨wr.heap.size, 32, none⟩ = some (.int .i64 t) := by rw [r3]; exact hcl.out
               have x3 : Hid (w3.rangeAt wr.heap.size 0 X0) := fun j u hj => by rw [Nat.zero_add, r3]; exact hx.out j u hj
               have hfin := Lib.hid (setRow_heap w3 w.heap.size Z0 X0.toArray 36 (0, 0) b3.out)
               have hbfin := Lib.hid (below_setRow B3.out (Nat.le_refl _) X0.toArray)
               clear hW r3)
            | (refine wpList_load_mid rfl 36 (.tmp 21) rfl wr.heap.size 0 rfl X0 _ x3.out Try.underlying36 rfl hszx.out ?_)
            | (refine wpList_store_row rfl 36 (.tmp 4) (.tmp 22) rfl w.heap.size X0.toArray rfl rfl 36 Z0 b3.out hszx'.out holdx.out honex.out ?_))
          obtain ⟨e1, e2⟩ := HYes.out (PI.out hle)
          rw [e1, e2]
          refine bodyPost_ret (v := .tuple #[.agg X0.toArray, .bool true]) ?_ rfl ⟨rfl, hbfin.out⟩
          exact results_cell_row_tmp rfl _ _ w.heap.size 36 X0.toArray (0, 0) _ rfl hfin.out Try.underlying36 rfl hszx'.out _ rfl
        · go_wp2_with (first
            | (refine wpList_load_mid rfl 83 (.tmp 15) rfl b (q * 33) rfl R0 _ HR.out Try.underlying83 rfl hszR.out ?_)
            | (refine wpList_store_row rfl 83 (.tmp 7) (.tmp 16) rfl wr.heap.size R0.toArray rfl rfl 83 _ (heap_alloc_new wr _) hszR'.out h33.out honeR.out ?_
               generalize hW : World.setRow (wr.alloc (Obj.cells _ 83)) _ R0.toArray = w3
               have B3' : Hid (Below wr.heap.size wr w3) := by rw [← hW]; exact below_setRow (below_alloc1 wr _) (Nat.le_refl _) _
               have hw3 : Hid (w.heap.size < wr.heap.size) := (Array.getElem?_eq_some_iff.1 b2.out).1
               have B3 : Hid (Below w.heap.size w w3) := B2.out.trans (B3'.out.mono B2.out.size)
               have b3 : Hid (w3.heap[w.heap.size]? = some (.cells Z0 36 (0, 0))) := (B3'.out.block _ hw3.out).trans b2.out
               have c3 : w3.cell? ⟨wr.heap.size, 32, none⟩ = some (.int .i64 t) := by
                 rw [← hW, cell_of_row _ wr.heap.size 32 R0.toArray 83 (0, 0) (setRow_heap _ _ _ _ _ _ (heap_alloc_new wr _))]
                 simpa using hcl.out
               clear hW))
          go_roundw
          case rel => exact ⟨q + 1, by omega, rfl, by rw [Hs1.out]; congr 1; omega, by rw [Hs1.out]; omega, B3.out, b3.out⟩
          case measure => simp [intOf]; omega
      · obtain rfl : q = V.length := by omega
        have hnn : ¬ ((V.length : Int) < (V.length : Int)) := by omega
        rw [List.take_length] at hgt
        have hfin := Lib.hid (setRow_heap wr w.heap.size Z0 Z0 36 (0, 0) b2.out)
        have hbfin := Lib.hid (below_setRow B2.out (Nat.le_refl _) Z0)
        have PH := Lib.hid (PHigh.out hgt)
        clear hgt
        go_wp2_with (first
          | (refine wpList_build_eq rfl 36 [] rfl [] rfl Z0 hbu.out ?_)
          | (refine wpList_store_row rfl 36 (.tmp 4) (.tmp 28) rfl w.heap.size Z0 rfl rfl 36 Z0 b2.out hsz.out rfl hone.out ?_))
        obtain ⟨e1, e2⟩ := HNo.out PH.out
        rw [e1, e2]
        refine bodyPost_ret (v := .tuple #[.agg Z0, .bool false]) ?_ rfl ⟨rfl, hbfin.out⟩
        exact results_cell_row_tmp rfl _ _ w.heap.size 36 Z0 (0, 0) _ rfl hfin.out Try.underlying36 rfl hsz.out _ rfl
end Go.Proofs.Ytieeibdhaoaeaaa
