/- same. -/
import Derived.Test.YtieeibdhaoaeaaaLD
set_option linter.unusedVariables false
set_option linter.unusedSimpArgs false
namespace Go.Proofs.Ytieeibdhaoaeaaa
open Go.RowKit

theorem load_row_on {P : Program} {ops : Array Oper} {rest : List Oper} {o : Oper} {a : Act} {w : World} {Q : Exit → Act → World → Prop} (hw : Region.wanted o (yielded ops a.tmps) = true) (ty : TypeId) (x : Operand) (ho : o.op = .load ty x)
    (g : Nat) (hx : a.eval x = .pointer (some ⟨g, 0, none⟩)) (t : TypeId) (cs : Array Value) (fr : Nat × Nat) (d : TypeDesc) (hg : w.heap[g]? = some (.cells cs t fr))
    (hu : P.underlying ty = some d) (hd : (match d with | .struct _ | .array _ _ => true | _ => false) = true) (hi : (P.info? ty).map (·.size) = some cs.size)
    (h : wpList P ops Q rest (a.put o.dst (.agg cs)) w) : wpList P ops Q (o :: rest) a w :=
  wpList_step fun K hK => by rw [if_pos hw]; exact wp_load_row ty x ho g hx t cs fr d hg hu hd hi (hK _ _ h)
def rdV (n : Nat) (S : Nat → Bk) (z : Int) : List Int := if 0 ≤ z ∧ z < n then (S z.toNat).now else noSec
def lsV (n : Nat) (S : Nat → Bk) (z : Int) : List Int := if 0 ≤ z ∧ z < n then (S z.toNat).s else noSec
def erV (n : Nat) (z : Int) : Int := if 0 ≤ z ∧ z < n then 0 else 2
section
variable {w : World} {d r n c : Nat} {S : Nat → Bk} {F : Nat → Prop}
theorem cread_all (h : Code w d n S c F) (hc : c < 100000) (z : Int) : Calls Try.prog 20 #[.pointer (some ⟨d, 0, none⟩), .int .i64 z] w fun e w' => e = .returned (.tuple #[secV (rdV n S z), .int .i64 (erV n z)]) ∧ Below w.heap.size w w' := by
  unfold rdV erV
  by_cases hi : 0 ≤ z ∧ z < n
  · obtain ⟨i, rfl⟩ : ∃ i : Nat, z = (i : Int) := ⟨z.toNat, by omega⟩
    rw [if_pos hi, if_pos hi, Int.toNat_natCast]
    exact cread h (by omega) hc
  · rw [if_neg hi, if_neg hi]; exact cread_no h z hi
theorem clast_all (h : Code w d n S c F) (z : Int) : Calls Try.prog 16 #[.pointer (some ⟨d, 0, none⟩), .int .i64 z] w fun e w' => e = .returned (.tuple #[secV (lsV n S z), .int .i64 (erV n z)]) ∧ Below w.heap.size w w' := by
  unfold lsV erV
  by_cases hi : 0 ≤ z ∧ z < n
  · obtain ⟨i, rfl⟩ : ∃ i : Nat, z = (i : Int) := ⟨z.toNat, by omega⟩
    rw [if_pos hi, if_pos hi, Int.toNat_natCast]
    exact clast h (by omega)
  · rw [if_neg hi, if_neg hi]; exact clast_no h z hi
theorem rread_all (h : Ref w r n S c F) (hc : c < 100000) (z : Int) : Calls Try.prog 35 #[.pointer (some ⟨r, 0, none⟩), .int .i64 z] w fun e w' => e = .returned (.tuple #[secV (rdV n S z), .int .i64 (erV n z)]) ∧ Below w.heap.size w w' := by
  unfold rdV erV
  by_cases hi : 0 ≤ z ∧ z < n
  · obtain ⟨i, rfl⟩ : ∃ i : Nat, z = (i : Int) := ⟨z.toNat, by omega⟩
    rw [if_pos hi, if_pos hi, Int.toNat_natCast]
    exact rread h (by omega) hc
  · rw [if_neg hi, if_neg hi]; exact rread_no h z hi
theorem rlast_all (h : Ref w r n S c F) (z : Int) : Calls Try.prog 36 #[.pointer (some ⟨r, 0, none⟩), .int .i64 z] w fun e w' => e = .returned (.tuple #[secV (lsV n S z), .int .i64 (erV n z)]) ∧ Below w.heap.size w w' := by
  unfold lsV erV
  by_cases hi : 0 ≤ z ∧ z < n
  · obtain ⟨i, rfl⟩ : ∃ i : Nat, z = (i : Int) := ⟨z.toNat, by omega⟩
    rw [if_pos hi, if_pos hi, Int.toNat_natCast]
    exact rlast h (by omega)
  · rw [if_neg hi, if_neg hi]; exact rlast_no h z hi
theorem Ref.okS (h : Ref w r n S c F) {i : Nat} (hi : i < n) : OkS (S i).s ∧ OkS (S i).now := by
  obtain ⟨gb, cp, A, C, h, rfl⟩ := h
  exact ⟨(h.ok i hi).1, okS_now h hi⟩
theorem rd_len (h : Ref w r n S c F) (z : Int) : (rdV n S z).length = 32 ∧ (lsV n S z).length = 32 := by
  unfold rdV lsV
  by_cases hi : 0 ≤ z ∧ z < n
  · rw [if_pos hi, if_pos hi]
    have := h.okS (i := z.toNat) (by omega)
    exact ⟨this.2.1, this.1.1⟩
  · rw [if_neg hi, if_neg hi]; exact ⟨noSec_len, noSec_len⟩
set_option maxRecDepth 100000 in
set_option linter.unusedSimpArgs false in
set_option maxHeartbeats 2000000 in
theorem same_any (h : Both w d r n S c F) (hc : c < 100000) : Calls Try.prog 14 #[.pointer (some ⟨d, 0, none⟩), .pointer (some ⟨r, 0, none⟩)] w fun e w' => e = .returned (.bool true) ∧ Below w.heap.size w w' := by
  have hn96 : n ≤ 96 := by obtain ⟨F1, F2, h1, _⟩ := h; exact h1.size.2.1
  have NX : Hid (∀ W W', Both W d r n S c F → Below W.heap.size W W' → Both W' d r n S c F) := fun W W' h hB => h.fresh hB
  have RD1 : Hid (∀ W z, Both W d r n S c F → Calls Try.prog 20 #[.pointer (some ⟨d, 0, none⟩), .int .i64 z] W fun e w' => e = .returned (.tuple #[.agg (bytesV (rdV n S z)).toArray, .int .i64 (erV n z)]) ∧ Below W.heap.size W w') := fun W z h => by
    obtain ⟨F1, F2, h1, h2, _⟩ := h; exact cread_all h1 hc z
  have RD2 : Hid (∀ W z, Both W d r n S c F → Calls Try.prog 35 #[.pointer (some ⟨r, 0, none⟩), .int .i64 z] W fun e w' => e = .returned (.tuple #[.agg (bytesV (rdV n S z)).toArray, .int .i64 (erV n z)]) ∧ Below W.heap.size W w') := fun W z h => by
    obtain ⟨F1, F2, h1, h2, _⟩ := h; exact rread_all h2 hc z
  have LS1 : Hid (∀ W z, Both W d r n S c F → Calls Try.prog 16 #[.pointer (some ⟨d, 0, none⟩), .int .i64 z] W fun e w' => e = .returned (.tuple #[.agg (bytesV (lsV n S z)).toArray, .int .i64 (erV n z)]) ∧ Below W.heap.size W w') := fun W z h => by
    obtain ⟨F1, F2, h1, h2, _⟩ := h; exact clast_all h1 z
  have LS2 : Hid (∀ W z, Both W d r n S c F → Calls Try.prog 36 #[.pointer (some ⟨r, 0, none⟩), .int .i64 z] W fun e w' => e = .returned (.tuple #[.agg (bytesV (lsV n S z)).toArray, .int .i64 (erV n z)]) ∧ Below W.heap.size W w') := fun W z h => by
    obtain ⟨F1, F2, h1, h2, _⟩ := h; exact rlast_all h2 z
  have VR1 : Hid (∀ W z, Both W d r n S c F → -1 ≤ z → z ≤ 1000 → Calls Try.prog 21 #[.pointer (some ⟨d, 0, none⟩), .int .i64 z] W fun e w' => e = .returned (.int .i64 (vers n S z)) ∧ Below W.heap.size W w') := fun W z h h0 h1' => by
    obtain ⟨F1, F2, h1, h2, _⟩ := h; exact cvers h1 z ⟨by omega, by omega⟩ hc
  have VR2 : Hid (∀ W z, Both W d r n S c F → Calls Try.prog 37 #[.pointer (some ⟨r, 0, none⟩), .int .i64 z] W fun e w' => e = .returned (.int .i64 (vers n S z)) ∧ W = w') := fun W z h => by
    obtain ⟨F1, F2, h1, h2, _⟩ := h; exact rvers h2 z
  have SZ1 : Hid (∀ W, Both W d r n S c F → Calls Try.prog 29 #[.pointer (some ⟨d, 0, none⟩)] W fun e w' => e = .returned (.int .i64 n) ∧ W = w') := fun W h => by
    obtain ⟨F1, F2, h1, h2, _⟩ := h; exact csize h1
  have SZ2 : Hid (∀ W, Both W d r n S c F → Calls Try.prog 34 #[.pointer (some ⟨r, 0, none⟩)] W fun e w' => e = .returned (.int .i64 n) ∧ W = w') := fun W h => by
    obtain ⟨F1, F2, h1, h2, _⟩ := h; exact rsize h2
  have HL : Hid (∀ z, (rdV n S z).length = 32 ∧ (lsV n S z).length = 32) := fun z => by obtain ⟨F1, F2, h1, h2, _⟩ := h; exact rd_len h2 z
  have H0 := Lib.hid h
  clear h
  go_enter Try.func14, Try.ntmps14
  go_wp2_with fail
  go_loopw [5] (fun i wr => ∃ z : Int, -1 ≤ z ∧ z ≤ n + 1 ∧ i = .int .i64 z ∧ Both wr d r n S c F ∧ Below w.heap.size w wr) (fun i _ => (n + 1 - intOf i).toNat)
  case atStart => exact ⟨-1, Int.le_refl _, by omega, rfl, H0.out, Below.refl _ w⟩
  case round =>
    obtain ⟨z, hz0, hz1, rfl, hBo, hBe⟩ := hrel
    rename World => w0
    have A0 := Lib.hid hBo
    have E0 := Lib.hid hBe
    clear hBo hBe
    by_cases hlt : z ≤ (n : Int)
    · have hwz : IntKind.i64.wrap (z + 1) = z + 1 := by simp [IntKind.wrap, IntKind.bits, IntKind.signed]; omega
      obtain ⟨l1, l2⟩ := HL.out z
      have hszU : Hid ((Try.prog.info? 36).map (·.size) = some (bytesV (rdV n S z)).toArray.size) := by unfold Hid; rw [List.size_toArray, length_bytesV, l1]; exact size36
      have hszU3 : Hid ((Try.prog.info? 53).map (·.size) = some (bytesV (rdV n S z)).toArray.size) := by unfold Hid; rw [List.size_toArray, length_bytesV, l1]; exact size53
      have h32U : Hid (32 = (bytesV (rdV n S z)).toArray.size) := by unfold Hid; rw [List.size_toArray, length_bytesV, l1]
      have honeU : Hid ((bytesV (rdV n S z)).toArray.all (·.oneCell') = true) := all_oneCell_toArray (bytesV_one _)
      have hszV : Hid ((Try.prog.info? 36).map (·.size) = some (bytesV (lsV n S z)).toArray.size) := by unfold Hid; rw [List.size_toArray, length_bytesV, l2]; exact size36
      have hszV3 : Hid ((Try.prog.info? 53).map (·.size) = some (bytesV (lsV n S z)).toArray.size) := by unfold Hid; rw [List.size_toArray, length_bytesV, l2]; exact size53
      have h32V : Hid (32 = (bytesV (lsV n S z)).toArray.size) := by unfold Hid; rw [List.size_toArray, length_bytesV, l2]
      have honeV : Hid ((bytesV (lsV n S z)).toArray.all (·.oneCell') = true) := all_oneCell_toArray (bytesV_one _)
      have EU : Hid (∀ W, (Op.equalIn 10000 35 (.agg (bytesV (rdV n S z)).toArray) (.agg (bytesV (rdV n S z)).toArray)).run Try.prog W = .ok true W) := fun W => by
        have := eqAny 35 Try.underlying35 _ _ l1 l1 W
        simpa using this
      have EV : Hid (∀ W, (Op.equalIn 10000 35 (.agg (bytesV (lsV n S z)).toArray) (.agg (bytesV (lsV n S z)).toArray)).run Try.prog W = .ok true W) := fun W => by
        have := eqAny 35 Try.underlying35 _ _ l2 l2 W
        simpa using this
      have R1 := Lib.hid (fun W h => RD1.out W z h)
      have R2 := Lib.hid (fun W h => RD2.out W z h)
      have Q1 := Lib.hid (fun W h => LS1.out W z h)
      have Q2 := Lib.hid (fun W h => LS2.out W z h)
      have V1 := Lib.hid (fun W h => VR1.out W z h hz0 (by omega))
      have V2 := Lib.hid (fun W h => VR2.out W z h)
      obtain ⟨U, hU⟩ : ∃ U, U = (bytesV (rdV n S z)).toArray := ⟨_, rfl⟩
      obtain ⟨V, hV⟩ : ∃ V, V = (bytesV (lsV n S z)).toArray := ⟨_, rfl⟩
      obtain ⟨er, her⟩ : ∃ e, e = erV n z := ⟨_, rfl⟩
      obtain ⟨vn, hvn⟩ : ∃ v, v = vers n S z := ⟨_, rfl⟩
      rw [← hU] at hszU hszU3 h32U honeU EU R1 R2
      rw [← hV] at hszV hszV3 h32V honeV EV Q1 Q2
      rw [← her] at R1 R2 Q1 Q2
      rw [← hvn] at V1 V2
      clear l1 l2 hU hV her hvn HL RD1 RD2 LS1 LS2 VR1 VR2
      go_wp2_with fail
      refine (SZ2.out _ A0.out).mono ?_
      rintro e w' ⟨rfl, rfl⟩
      go_wp2_with fail
      refine (R1.out _ A0.out).mono ?_
      rintro e w1 ⟨rfl, hB⟩
      have A1 := Lib.hid (NX.out _ _ A0.out hB)
      have E1 := Lib.hid (E0.out.trans (hB.mono E0.out.size))
      clear hB
      go_wp2_with (refine wpList_store_row rfl 36 (.tmp 6) (.tmp 24) rfl w1.heap.size U rfl rfl 36 _ (heap_alloc_new w1 _) hszU.out h32U.out honeU.out ?_
                   generalize hW : World.setRow (w1.alloc (Obj.cells _ 36)) _ U = w2
                   have b2 : Hid (w2.heap[w1.heap.size]? = some (.cells U 36 (0, 0))) := by rw [← hW]; exact setRow_heap _ _ _ _ _ _ (heap_alloc_new w1 _)
                   have hB2 : Below w1.heap.size w1 w2 := by rw [← hW]; exact below_setRow (below_alloc1 w1 _) (Nat.le_refl _) _
                   have A2 := Lib.hid (NX.out _ _ A1.out hB2)
                   have E2 := Lib.hid (E1.out.trans (hB2.mono E1.out.size))
                   clear hW hB2)
      refine (R2.out _ A2.out).mono ?_
      rintro e w3 ⟨rfl, hB⟩
      have b3 : Hid (w3.heap[w1.heap.size]? = some (.cells U 36 (0, 0))) := (hB.block _ (Array.getElem?_eq_some_iff.1 b2.out).1).trans b2.out
      have A3 := Lib.hid (NX.out _ _ A2.out hB)
      have E3 := Lib.hid (E2.out.trans (hB.mono E2.out.size))
      clear hB b2
      go_wp2_with (refine wpList_store_row rfl 53 (.tmp 8) (.tmp 30) rfl w3.heap.size U rfl rfl 53 _ (heap_alloc_new w3 _) hszU3.out h32U.out honeU.out ?_
                   generalize hW : World.setRow (w3.alloc (Obj.cells _ 53)) _ U = w4
                   have c4 : Hid (w4.heap[w3.heap.size]? = some (.cells U 53 (0, 0))) := by rw [← hW]; exact setRow_heap _ _ _ _ _ _ (heap_alloc_new w3 _)
                   have hB2 : Below w3.heap.size w3 w4 := by rw [← hW]; exact below_setRow (below_alloc1 w3 _) (Nat.le_refl _) _
                   have b4 : Hid (w4.heap[w1.heap.size]? = some (.cells U 36 (0, 0))) := (hB2.block _ (Array.getElem?_eq_some_iff.1 b3.out).1).trans b3.out
                   have A4 := Lib.hid (NX.out _ _ A3.out hB2)
                   have E4 := Lib.hid (E3.out.trans (hB2.mono E3.out.size))
                   clear hW hB2)
      refine (Q1.out _ A4.out).mono ?_
      rintro e w5 ⟨rfl, hB⟩
      have b5 : Hid (w5.heap[w1.heap.size]? = some (.cells U 36 (0, 0))) := (hB.block _ (Array.getElem?_eq_some_iff.1 b4.out).1).trans b4.out
      have c5 : Hid (w5.heap[w3.heap.size]? = some (.cells U 53 (0, 0))) := (hB.block _ (Array.getElem?_eq_some_iff.1 c4.out).1).trans c4.out
      have A5 := Lib.hid (NX.out _ _ A4.out hB)
      have E5 := Lib.hid (E4.out.trans (hB.mono E4.out.size))
      clear hB b3 b4 c4
      go_wp2_with (refine wpList_store_row rfl 36 (.tmp 10) (.tmp 36) rfl w5.heap.size V rfl rfl 36 _ (heap_alloc_new w5 _) hszV.out h32V.out honeV.out ?_
                   generalize hW : World.setRow (w5.alloc (Obj.cells _ 36)) _ V = w6
                   have d6 : Hid (w6.heap[w5.heap.size]? = some (.cells V 36 (0, 0))) := by rw [← hW]; exact setRow_heap _ _ _ _ _ _ (heap_alloc_new w5 _)
                   have hB2 : Below w5.heap.size w5 w6 := by rw [← hW]; exact below_setRow (below_alloc1 w5 _) (Nat.le_refl _) _
                   have b6 : Hid (w6.heap[w1.heap.size]? = some (.cells U 36 (0, 0))) := (hB2.block _ (Array.getElem?_eq_some_iff.1 b5.out).1).trans b5.out
                   have c6 : Hid (w6.heap[w3.heap.size]? = some (.cells U 53 (0, 0))) := (hB2.block _ (Array.getElem?_eq_some_iff.1 c5.out).1).trans c5.out
                   have A6 := Lib.hid (NX.out _ _ A5.out hB2)
                   have E6 := Lib.hid (E5.out.trans (hB2.mono E5.out.size))
                   clear hW hB2)
      refine (Q2.out _ A6.out).mono ?_
      rintro e w7 ⟨rfl, hB⟩
      have b7 : Hid (w7.heap[w1.heap.size]? = some (.cells U 36 (0, 0))) := (hB.block _ (Array.getElem?_eq_some_iff.1 b6.out).1).trans b6.out
      have c7 : Hid (w7.heap[w3.heap.size]? = some (.cells U 53 (0, 0))) := (hB.block _ (Array.getElem?_eq_some_iff.1 c6.out).1).trans c6.out
      have d7 : Hid (w7.heap[w5.heap.size]? = some (.cells V 36 (0, 0))) := (hB.block _ (Array.getElem?_eq_some_iff.1 d6.out).1).trans d6.out
      have A7 := Lib.hid (NX.out _ _ A6.out hB)
      have E7 := Lib.hid (E6.out.trans (hB.mono E6.out.size))
      clear hB b5 c5 b6 c6 d6
      go_wp2_with (first
        | (refine wpList_store_row rfl 53 (.tmp 12) (.tmp 42) rfl w7.heap.size V rfl rfl 53 _ (heap_alloc_new w7 _) hszV3.out h32V.out honeV.out ?_
           generalize hW : World.setRow (w7.alloc (Obj.cells _ 53)) _ V = w8
           have e8 : Hid (w8.heap[w7.heap.size]? = some (.cells V 53 (0, 0))) := by rw [← hW]; exact setRow_heap _ _ _ _ _ _ (heap_alloc_new w7 _)
           have hB2 : Below w7.heap.size w7 w8 := by rw [← hW]; exact below_setRow (below_alloc1 w7 _) (Nat.le_refl _) _
           have b8 : Hid (w8.heap[w1.heap.size]? = some (.cells U 36 (0, 0))) := (hB2.block _ (Array.getElem?_eq_some_iff.1 b7.out).1).trans b7.out
           have c8 : Hid (w8.heap[w3.heap.size]? = some (.cells U 53 (0, 0))) := (hB2.block _ (Array.getElem?_eq_some_iff.1 c7.out).1).trans c7.out
           have d8 : Hid (w8.heap[w5.heap.size]? = some (.cells V 36 (0, 0))) := (hB2.block _ (Array.getElem?_eq_some_iff.1 d7.out).1).trans d7.out
           have A8 := Lib.hid (NX.out _ _ A7.out hB2)
           have E8 := Lib.hid (E7.out.trans (hB2.mono E7.out.size))
           have eu := EU.out w8
           have ev := EV.out w8
           have l1 : (loadVar 36 ⟨w1.heap.size, 0, none⟩).run Try.prog w8 = .ok (.agg U) w8 := run_loadVar_row (P := Try.prog) w8 w1.heap.size 36 36 U (0, 0) _ b8.out Try.underlying36 rfl hszU.out
           have l2 : (loadVar 53 ⟨w3.heap.size, 0, none⟩).run Try.prog w8 = .ok (.agg U) w8 := run_loadVar_row (P := Try.prog) w8 w3.heap.size 53 53 U (0, 0) _ c8.out Try.underlying53 rfl hszU3.out
           have l3 : (loadVar 36 ⟨w5.heap.size, 0, none⟩).run Try.prog w8 = .ok (.agg V) w8 := run_loadVar_row (P := Try.prog) w8 w5.heap.size 36 36 V (0, 0) _ d8.out Try.underlying36 rfl hszV.out
           have l4 : (loadVar 53 ⟨w7.heap.size, 0, none⟩).run Try.prog w8 = .ok (.agg V) w8 := run_loadVar_row (P := Try.prog) w8 w7.heap.size 53 53 V (0, 0) _ e8.out Try.underlying53 rfl hszV3.out
           clear hW hB2)
        | (refine wpList_load_row rfl 36 (.tmp 6) rfl w1.heap.size rfl 36 U (0, 0) _ b8.out Try.underlying36 rfl hszU.out ?_)
        | (refine wpList_load_row rfl 53 (.tmp 8) rfl w3.heap.size rfl 53 U (0, 0) _ c8.out Try.underlying53 rfl hszU3.out ?_)
        | (refine load_row_on (by first | rfl | simp [Region.wanted, yielded]) 36 (.tmp 10) rfl w5.heap.size rfl 36 V (0, 0) _ d8.out Try.underlying36 rfl hszV.out ?_)
        | (refine load_row_on (by first | rfl | simp [Region.wanted, yielded]) 53 (.tmp 12) rfl w7.heap.size rfl 53 V (0, 0) _ e8.out Try.underlying53 rfl hszV3.out ?_)
        | (go_at_call 21
           refine (V1.out _ A8.out).mono ?_
           rintro e w9 ⟨rfl, hB⟩
           have A9 := Lib.hid (NX.out _ _ A8.out hB)
           have E9 := Lib.hid (E8.out.trans (hB.mono E8.out.size))
           clear hB)
        | (go_at_call 37
           refine (V2.out _ A9.out).mono ?_
           rintro e w' ⟨rfl, rfl⟩))
      go_roundw
      case rel => exact ⟨z + 1, by omega, by omega, rfl, A9.out, E9.out⟩
      case measure => simp [intOf]; omega
    · obtain rfl : z = (n : Int) + 1 := by omega
      have hnn : ¬ ((n : Int) + 1 ≤ (n : Int)) := by omega
      clear hlt
      go_wp2_with fail
      refine (SZ2.out _ A0.out).mono ?_
      rintro e w' ⟨rfl, rfl⟩
      go_wp2_with fail
      refine (SZ1.out _ A0.out).mono ?_
      rintro e w' ⟨rfl, rfl⟩
      go_wp2_with fail
      refine (SZ2.out _ A0.out).mono ?_
      rintro e w' ⟨rfl, rfl⟩
      go_wp2
      go_ret
      exact ⟨rfl, E0.out⟩
end
end Go.Proofs.Ytieeibdhaoaeaaa
