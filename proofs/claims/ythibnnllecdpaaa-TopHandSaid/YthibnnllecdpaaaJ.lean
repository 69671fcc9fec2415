/- Fork and Use of a cache. -/
import Derived.Test.YthibnnllecdpaaaI
import Derived.Test.YthibnnllecdpaaaF
namespace Go.Proofs.Ythibnnllecdpaaa
open Go.RowKit

theorem own_form {w : World} {B n : Nat} {e : TypeId} {size : Nat} {v : Value} {xs : List Value} (h : w.ownsRow B e size v n xs) : ∃ A c, v = .slice A n c := by
  rcases h.2 with ⟨rfl, h0⟩ | ⟨k, cap, cur, rfl, _⟩
  · exact ⟨none, 0, by rw [h0]⟩
  · exact ⟨_, cap, rfl⟩
set_option maxRecDepth 100000 in
set_option maxHeartbeats 1000000 in
theorem fork_any (B g : Nat) (v : Value) (m : Int) (l : List H) (w : World) (hC : CacheAt 69 66 B w g v m l) (hl : l.length ≤ 1000) :
    Calls Try.prog 23 #[.pointer (some ⟨g, 0, none⟩)] w fun e w' => ∃ h v', e = .returned (.pointer (some ⟨h, 0, none⟩)) ∧ CacheAt 69 66 w.heap.size w' h v' m l ∧ Below w.heap.size w w' := by
  have hs := hC.slot
  have hm := hC.most
  have hg := hC.glt
  have HC := Lib.hid hC
  have HCl : Hid (∀ W, Below w.heap.size w W → Calls Try.prog 43 #[v] W fun e w' => ∃ v', e = .returned v' ∧ w'.ownsRow W.heap.size 66 4 v' l.length (flat l) ∧ Below W.heap.size W w') := fun W hW => clone_any B v l W (hC.fresh hW).row hl
  have hB0 : Below w.heap.size w w.drew := (Below.refl _ _).drew
  obtain ⟨A, cap, hv, _, _⟩ := hC.form
  have Hv := Lib.hid hv
  generalize v = v0 at *
  clear hC hv
  go_enter Try.func23, Try.ntmps23
  go_wp2
  go_region_held3 (fun w' => w'.cell? ⟨g, 0, none⟩ = some (.int .i64 m) ∧ w'.cell? ⟨g, 1, none⟩ = some v0) (first | exact X1.out | go_keep)
    ((go_at_call 43; (with_reducible refine (HCl.out _ hB0).mono ?_); rintro e w1 ⟨v1, rfl, hr1, hb1⟩; obtain ⟨hcl, hfr⟩ := bcell hb1; have hBw1 := hB0.trans (hb1.mono hB0.size); have hC1 := HC.out.fresh hBw1; have X1 : Hid (w1.cell? ⟨g, 0, none⟩ = some (.int .i64 m) ∧ w1.cell? ⟨g, 1, none⟩ = some v0) := ⟨hC1.most, hC1.slot⟩; obtain ⟨A1, c1, rfl⟩ := own_form hr1; have HR1 := Lib.hid hr1; clear hr1 hb1 hC1))
  all_goals
    go_wp2
    go_ret
    refine ⟨_, _, rfl, ⟨heap_alloc_new _ _, HR1.out.alloc _, by decide, hBw1.size⟩, hBw1.alloc hBw1.size _⟩
end Go.Proofs.Ythibnnllecdpaaa
