/- An engine to which one patch is given: Add. -/
import Derived.Test.YthibnnllecdpaaaNG
namespace Go.Proofs.Ythibnnllecdpaaa
open Go.RowKit

def Added (B ge gd : Nat) (k : Int) (A : Option Addr) (cap : Nat) (l : List Wt) (b : Int) (w w' : World) : Prop :=
  ∃ A' cap' x, x.b = b ∧ EngAt B w' ge gd (k + 1) (.slice A' (l.length + 1) cap') (l ++ [x]) ∧ Kept w w' (At ge (.slice A l.length cap))
set_option maxRecDepth 100000 in
set_option maxHeartbeats 2000000 in
theorem eadd_any (B ge gd bi : Nat) (k : Int) (A : Option Addr) (cap : Nat) (l : List Wt) (b : Int) (w : World) (hE : EngAt B w ge gd k (.slice A l.length cap) l) (hl : l.length ≤ 100) (hlb : ∀ x ∈ l, 0 ≤ x.b ∧ x.b < 40) (hk0 : 0 ≤ k) (hk1 : k ≤ 1000) (hb0 : 0 ≤ b) (hb1 : b < 40) (hB : B ≤ w.heap.size)
    (hi : w.heap[bi]? = some (.cells #[.int .i64 b, .int .i64 0, .string lx, .slice none 0 0] 61 (0, 0))) :
    Calls Try.prog 28 #[.pointer (some ⟨ge, 0, none⟩), .slice (some ⟨bi, 0, none⟩) 1 1] w fun e w' => e = .returned (.tuple #[.int .i64 k, .int .i64 0]) ∧ Added B ge gd k A cap l b w w' := by
  have HR := Lib.hid (refuses_any B ge gd bi k A cap l b w hE hl hb0 hb1 hi)
  have HA := Lib.hid (fun (W : World) hE' hB' => add_any B ge gd k k A cap l b W hE' hl hlb hk0 hk1 hb0 hb1 hB')
  have HE := Lib.hid hE
  have HI := Lib.hid hi
  have hbi := (Array.getElem?_eq_some_iff.1 hi).1
  generalize hlx : lx = s at *
  clear hE hi hlx hlb
  go_enter Try.func28, Try.ntmps28
  go_wp2_with (go_at_call 50; refine HR.out.mono ?_; rintro e w1 ⟨rfl, hb1⟩; have HB1 := Lib.hid hb1; have g1 := (HE.out.fresh hb1).c1; have g3 := (HE.out.fresh hb1).glt; have hh := (hb1.block _ hbi).trans HI.out; have j0 : w1.cell? ⟨bi, 0, none⟩ = some (.int .i64 b) := cell_of_row w1 bi 0 _ 61 (0, 0) hh; have j1 : w1.cell? ⟨bi, 1, none⟩ = some (.int .i64 0) := cell_of_row w1 bi 1 _ 61 (0, 0) hh; have j2 : w1.cell? ⟨bi, 2, none⟩ = some (.string s) := cell_of_row w1 bi 2 _ 61 (0, 0) hh; have j3 : w1.cell? ⟨bi, 3, none⟩ = some (.slice none 0 0) := cell_of_row w1 bi 3 _ 61 (0, 0) hh; have fb : bi < w1.heap.size := (Array.getElem?_eq_some_iff.1 hh).1; clear hh hb1)
  refine wp_loop_rounds 2 ?_
  rw [rounds_succ]
  go_wp2
  have hB2 : Below w1.heap.size w1 (w1.alloc (.cells #[.int .i64 b, .int .i64 0, .string s, .slice none 0 0] 61)) := (Below.refl _ _).alloc (Nat.le_refl _) _
  have hp1 : (w1.alloc (.cells #[.int .i64 b, .int .i64 0, .string s, .slice none 0 0] 61)).heap[w1.heap.size]? = some (.cells #[.int .i64 b, .int .i64 0, .string s, .slice none 0 0] 61 (0, 0)) := heap_alloc_new w1 _
  generalize w1.alloc (.cells #[.int .i64 b, .int .i64 0, .string s, .slice none 0 0] 61) = W2 at hB2 hp1 ⊢
  have hBB : Below w.heap.size w W2 := HB1.out.trans (hB2.mono HB1.out.size)
  have HE2 := Lib.hid (HE.out.fresh hBB)
  have hpW := (Array.getElem?_eq_some_iff.1 hp1).1
  have HX : Hid (∀ W : World, W.heap[w1.heap.size]? = W2.heap[w1.heap.size]? → W.cell? ⟨w1.heap.size, 0, none⟩ = some (.int .i64 b) ∧ W.cell? ⟨w1.heap.size, 1, none⟩ = some (.int .i64 0) ∧ W.cell? ⟨w1.heap.size, 2, none⟩ = some (.string s) ∧ W.cell? ⟨w1.heap.size, 3, none⟩ = some (.slice none 0 0)) := fun W hW => by
    have hh := hW.trans hp1
    exact ⟨cell_of_row W _ 0 _ 61 (0, 0) hh, cell_of_row W _ 1 _ 61 (0, 0) hh, cell_of_row W _ 2 _ 61 (0, 0) hh, cell_of_row W _ 3 _ 61 (0, 0) hh⟩
  have hne : Hid (¬ At ge (.slice A l.length cap) w1.heap.size) := HE2.out.typed.not hp1 (by decide) (by decide)
  have HBB := Lib.hid hBB
  have X0 := Lib.hid (HX.out W2.drew rfl)
  have hBs : B ≤ W2.drew.heap.size := Nat.le_trans hB hBB.size
  have HE3 : Hid (EngAt B W2.drew ge gd k (.slice A l.length cap) l) := HE2.out.fresh ((Below.refl _ _).drew)
  clear hB2 hp1 hBB g1 j0 j1 j2 j3
  go_region_held3 (fun w' => w'.cell? ⟨w1.heap.size, 0, none⟩ = some (.int .i64 b) ∧ w'.cell? ⟨w1.heap.size, 1, none⟩ = some (.int .i64 0) ∧ w'.cell? ⟨w1.heap.size, 2, none⟩ = some (.string s) ∧ w'.cell? ⟨w1.heap.size, 3, none⟩ = some (.slice none 0 0)) (first | exact X3.out | exact X0.out | go_keep)
    ((go_at_call 51; (with_reducible refine (HA.out _ HE3.out hBs).mono ?_); rintro e w3 ⟨rfl, A', c', x, hx, hE4, hk4⟩; have HE4 := Lib.hid hE4; have Hx := Lib.hid hx; have HK4 : Hid (Kept W2 w3 (At ge (.slice A l.length cap))) := (Kept.drew (Kept.refl W2 _)).trans hk4 (fun _ q => .inl q); have X3 := Lib.hid (HX.out w3 (HK4.out.block _ hpW hne.out)); clear hE4 hx hk4))
  all_goals
    go_wp2
    rw [rounds_succ]
    go_wp2
    go_ret2
    exact ⟨rfl, A', c', x, Hx.out, HE4.out, (Kept.fresh HBB.out).trans HK4.out (fun _ q => .inl q)⟩
end Go.Proofs.Ythibnnllecdpaaa
