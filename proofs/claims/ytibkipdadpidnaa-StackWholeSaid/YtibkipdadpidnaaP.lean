/- numbers, of, meets, has, lacks, the closure of needs: the program's. -/
import Derived.Test.YtibkipdadpidnaaO
import Derived.Deep.RegionHeld3
set_option linter.unusedVariables false
set_option linter.unusedSimpArgs false
namespace Go.Proofs.Ytibkipdadpidnaa
open Go.RowKit
open Pat (Pt AllB undoP nth)
/-- there are these layers -/
def Lays (w : World) (L : List Ly) : Prop := ∀ q ∈ L, ∃ v, LayAt w q v
theorem Chain.lays {w : World} {L : List Ly} (h : Chain w L) : Lays w L := fun q hq => h.mem hq
theorem Lays.fresh {w w' : World} {L : List Ly} (h : Lays w L) (hb : Below w.heap.size w w') : Lays w' L := fun q hq => by obtain ⟨v, hv⟩ := h q hq; exact ⟨v, hv.fresh hb⟩
theorem Lays.keep {w w' : World} {L : List Ly} {S : Nat → Prop} (h : Lays w L) (hk : Kept w w' S) (h2 : ∀ b, S b → HeadB w b) : Lays w' L := fun q hq => by obtain ⟨v, hv⟩ := h q hq; exact ⟨v, hv.keep hk h2⟩
def xsL (L : List Ly) : List On := L.map (·.x)
theorem length_xsL (L : List Ly) : (xsL L).length = L.length := by simp [xsL]
theorem nums_xsL {L : List Ly} {k : Nat} (h : k < L.length) : nums (xsL (L.take (k + 1))) = nums (xsL (L.take k)) ++ [(lyn L k).x.n] := by rw [take_lyn h]; simp [nums, xsL]
set_option maxRecDepth 100000 in
set_option maxHeartbeats 1000000 in
theorem numbers_any (B : Nat) (A : Option Addr) (c : Nat) (L : List Ly) (w : World) (hR : RowP w B A c L) (hL : Lays w L) (hl : L.length ≤ 900) : Calls Try.prog 52 #[.slice A L.length c] w fun e w' => ∃ A' c', e = .returned (.slice A' (nums (xsL L)).length c') ∧ RowI w' w.heap.size A' c' (nums (xsL L)) ∧ Below w.heap.size w w' := by
  have HR := Lib.hid hR
  have HL := Lib.hid hL
  obtain ⟨i0, hi0, hz0, hz1, hz2⟩ := info_parts infoI
  clear hR hL
  go_enter Try.func52, Try.ntmps52
  go_wp2
  go_loopw [3, 8] (fun s0 i wr => ∃ (k : Nat) (A' : Option Addr) (c' : Nat), k ≤ L.length ∧ i = .int .i64 k ∧ s0 = .slice A' (nums (xsL (L.take k))).length c' ∧ Hid (RowI wr w.heap.size A' c' (nums (xsL (L.take k)))) ∧ Hid (Below w.heap.size w wr)) (fun _ i _ => L.length - (intOf i).toNat)
  case atStart => exact ⟨0, none, 0, Nat.zero_le _, rfl, rfl, World.ownsRow_nil _ _ _ _, Below.refl _ _⟩
  case round =>
    obtain ⟨k, A', c', hk, rfl, rfl, hrow, hB⟩ := hrel
    rename World => wr
    have hk0 : (0 : Int) ≤ (k : Int) := by omega
    have hwz := hB.out.size
    by_cases hlt : k < L.length
    · have hki : (k : Int) < (L.length : Int) := by omega
      obtain ⟨ab, rfl, hab, h1, h2, c0⟩ := (HR.out.fresh hB.out).at_ hlt
      unfold maxLen at h2
      obtain ⟨v, hv⟩ := (HL.out.fresh hB.out) _ (lyn_mem hlt)
      have d3 := hv.cells.2.2.2.1
      have hb := hv.lt
      have Hs := Lib.hid (nums_xsL hlt)
      have hol : (nums (xsL (L.take k))).length ≤ 900 := by rw [length_nums, length_xsL, List.length_take]; omega
      unfold Ly.ptr at c0
      generalize nums (xsL (L.take k)) = o at *
      generalize lyn L k = q at *
      obtain ⟨qb, y, qp⟩ := q
      simp only at c0 d3 hb
      clear hv
      go_wp2_with (at_builtin; refine wpList_append_src rfl (.tmp 12) (.tmp 18) 31 rfl w.heap.size 3 i0 (.int .i64 0) 1 8 Try.underlying31 hi0 hz0 hz1 hz2 rfl (by decide) (.slice A' o.length c') o.length (intsV o) rfl (ai_row y hrow.out) (some ⟨wr.heap.size, 0, none⟩) 1 1 [.int .i64 y] rfl rfl (ai_src wr y) (by intro h; cases h) (by intro u hu; simp at hu; subst hu; rfl) (by unfold maxLen; omega) (by omega) (by simp; omega) (o.length + 1) rfl ?_; intro A7 c7 w7 ho7 hg7 hor7; have G1 := Lib.hid (ai_new hrow.out hB.out ho7 hg7).1; have G2 := Lib.hid (ai_new hrow.out hB.out ho7 hg7).2; clear ho7 hg7 hor7)
      go_roundw
      case rel => exact ⟨k + 1, A7, c7, by omega, by go_num, by rw [Hs.out, List.length_append]; rfl, by rw [Hs.out]; exact G1.out, G2.out⟩
      case measure => simp [intOf]; omega
    · obtain rfl : k = L.length := by omega
      have hki : ¬ (L.length : Int) < (L.length : Int) := by omega
      rw [List.take_length] at *
      go_wp2
      go_ret
      exact ⟨A', c', rfl, hrow.out, hB.out⟩
set_option maxRecDepth 100000 in
set_option maxHeartbeats 1000000 in
theorem of_any (q : Ly) (k : Int) (v : Value) (w : World) (hq : LayAt w q v) : Calls Try.prog 55 #[q.ptr, .int .i64 k] w fun e w' => e = .returned (⟨k, q.x.p.o, q.x.p.s⟩ : Pt).v ∧ Below w.heap.size w w' := by
  obtain ⟨d0, d1, d2, _⟩ := hq.cells
  have hb := hq.lt
  have HB : Hid (Below w.heap.size w ((w.alloc (.cells #[.int .i64 k, .int .i64 q.x.p.o, .string q.x.p.s] 38)).alloc (.cells #[.int .i64 k, .int .i64 q.x.p.o, .string q.x.p.s] 38))) := Pat.below_alloc2 w _ _
  have HX : Hid (Pat.Boxed ((w.alloc (.cells #[.int .i64 k, .int .i64 q.x.p.o, .string q.x.p.s] 38)).alloc (.cells #[.int .i64 k, .int .i64 q.x.p.o, .string q.x.p.s] 38)) w.heap.size ⟨k, q.x.p.o, q.x.p.s⟩) := (Pat.boxed2 w ⟨k, q.x.p.o, q.x.p.s⟩ ⟨k, q.x.p.o, q.x.p.s⟩).1
  obtain ⟨qb, y, pb, po, ps⟩ := q
  unfold Ly.ptr
  simp only at *
  clear hq
  go_enter Try.func55, Try.ntmps55
  go_wp2
  refine bodyPost_ret (v := (⟨k, po, ps⟩ : Pt).v) ?_ rfl ⟨rfl, HB.out⟩
  exact results_cell_row rfl _ _ w.heap.size 38 (⟨k, po, ps⟩ : Pt).cs.toArray (0, 0) _ rfl HX.out Try.underlying38 rfl Pat.info38
end Go.Proofs.Ytibkipdadpidnaa
