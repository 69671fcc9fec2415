/- The program's needs of a layer, pick. -/
import Derived.Test.YtibkipdadpidnaaQ
set_option linter.unusedVariables false
set_option linter.unusedSimpArgs false
namespace Go.Proofs.Ytibkipdadpidnaa
open Go.RowKit
open Pat (Pt AllB undoP nth)
def RightsY (L : List Ly) : Prop := ∀ q ∈ L, q.x.p.right = true
/-- those below the k-th that it needs -/
def needY (L : List Ly) (k : Nat) : List Ly := (L.take k).filter fun q => !(!meetP (lyn L k).x.p q.x.p)
set_option maxRecDepth 100000 in
set_option maxHeartbeats 1000000 in
theorem needsOf_any (L : List Ly) (k : Nat) (hk : k < L.length) (w : World) (hC : Chain w L) (hr : RightsY L) (hl : L.length ≤ 900) : Calls Try.prog 58 #[(lyn L k).ptr] w fun e w' => ∃ A c, e = .returned (.slice A (needY L k).length c) ∧ RowP w' w.heap.size A c (needY L k) ∧ Below w.heap.size w w' := by
  obtain ⟨W1, hW1⟩ : ∃ W1, W1 = w.alloc (.cells #[(lyn L k).ptr] 75) := ⟨_, rfl⟩
  have hB1 : Below w.heap.size w W1 := by rw [hW1]; exact (Below.refl _ _).alloc (Nat.le_refl _) _
  have HB1 := Lib.hid hB1
  have hc1 : W1.cell? ⟨w.heap.size, 0, none⟩ = some (lyn L k).ptr := by rw [hW1]; exact cell_of_row _ w.heap.size 0 _ 75 (0, 0) (heap_alloc_new w _)
  have hz1 : w.heap.size < W1.heap.size := by rw [hW1]; simp
  have HC1 := Lib.hid (hC.fresh hB1)
  have hlay := hC k hk
  obtain ⟨d0, d1, d2, d3, d4⟩ := hlay.cells
  have hb := hlay.lt
  have hlk : (L.take k).length = k := by rw [List.length_take]; omega
  have HR := Lib.hid (rising_any (L.take k) (lyn L k).x.n W1 (HC1.out.take k) (by omega))
  have HF : Hid (∀ W3 A3 c3, Below W1.heap.size W1 W3 → RowP W3 W1.heap.size A3 c3 (L.take k) → ∀ (q : Ly) W, q ∈ L.take k → Kept W3 W (fun b => own A3 = some b) → Calls Try.prog 78 #[q.ptr, .pointer (some ⟨w.heap.size, 0, none⟩)] W fun e w' => e = .returned (.bool (!meetP (lyn L k).x.p q.x.p)) ∧ Below W.heap.size W w') := fun W3 A3 c3 hW3 hr3 q W hq hK => by
    have hb3 : Below W1.heap.size W1 W := hW3.trans (hK.below (fun b e => (hr3.lt b e).1) hW3.size)
    have hqL : q ∈ L := List.mem_of_mem_take hq
    exact unmet_any w.heap.size (lyn L k) q W ((hb3.cell (p := ⟨w.heap.size, 0, none⟩) hz1).trans hc1) (Nat.lt_of_lt_of_le hz1 hb3.size) ((HC1.out.fresh hb3).mem (lyn_mem hk)) ((HC1.out.fresh hb3).mem hqL) (hr _ (lyn_mem hk)) (hr q hqL)
  have HD : Hid (∀ W3 A3 c3, Below W1.heap.size W1 W3 → RowP W3 W1.heap.size A3 c3 (L.take k) → Calls Try.prog 57 #[.slice A3 (L.take k).length c3, .func (.func 78) #[] #[.pointer (some ⟨w.heap.size, 0, none⟩)]] W3 fun e w' => e = .returned (.slice A3 (needY L k).length c3) ∧ RowP w' W1.heap.size A3 c3 (needY L k) ∧ Kept W3 w' (fun b => own A3 = some b)) := fun W3 A3 c3 hW3 hr3 =>
    delete_unmet W1.heap.size A3 c3 (L.take k) w.heap.size _ W3 hr3 (by omega) (HF.out W3 A3 c3 hW3 hr3)
  generalize needY L k = N at *
  generalize (L.take k) = T at *
  obtain ⟨V, hV⟩ : ∃ V, V = topV T := ⟨_, rfl⟩
  rw [← hV] at d4 HR
  clear hV hC hr hlay HF hlk
  generalize lyn L k = q at *
  unfold Ly.ptr at *
  have hmf : ∀ (fn : Fn) (first cap : Array Value) (w : World), (Instr.makeFunc fn first cap).run Try.prog w = .ok (.func fn first cap) w := fun _ _ _ _ => rfl
  go_enter Try.func58, Try.ntmps58
  go_wp2_with (first
    | (go_at_call 48; rw [← hW1]; (with_reducible refine HR.out.mono ?_); rintro e w3 ⟨A3, c3, rfl, hr3, hb3⟩; have B3 := Lib.hid hb3; have R3 := Lib.hid hr3; clear hr3 hb3)
    | (go_at_call 57; (with_reducible refine (HD.out _ _ _ B3.out R3.out).mono ?_); rintro e w4 ⟨rfl, hr4, hk4⟩; have R4 := Lib.hid hr4; have K4 := Lib.hid hk4; clear hr4 hk4))
  go_ret
  exact ⟨A3, c3, rfl, Pat.base_le R4.out HB1.out.size, Below.trans HB1.out (Below.mono (B3.out.trans (K4.out.below (fun b e => (R3.out.lt b e).1) B3.out.size)) HB1.out.size)⟩
end Go.Proofs.Ytibkipdadpidnaa
