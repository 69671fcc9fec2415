/- A deed on both stacks: Settle, Squash, any. -/
import Derived.Test.YtibkipdadpidnaaSB
set_option linter.unusedVariables false
set_option linter.unusedSimpArgs false
namespace Go.Proofs.Ytibkipdadpidnaa
open Go.RowKit
open Pat (Pt AllB undoP nth)
section
variable (B g r c : Nat) (s : Sk) (d : Dd) (w : World)
set_option maxRecDepth 100000 in
set_option maxHeartbeats 4000000 in
theorem do_2 (h0 : d.k = 2) (hd : d.ok w B) (hO : Ok c s) (hc : c ≤ 100) (t : Two B w g r s s) : Calls Try.prog 30 #[.pointer (some ⟨g, 0, none⟩), .pointer (some ⟨r, 0, none⟩), d.v] w (DoSays B w g r (settle0 s (fewI d.l))) := by
  have hb0 : Below w.heap.size w (w.alloc (.cells d.cells 48)).drew := ((Below.refl _ _).alloc (Nat.le_refl _) _).drew
  have t1 := t.fresh hb0
  have hbx : DdB (w.alloc (.cells d.cells 48)).drew w.heap.size d := heap_alloc_new w _
  have hml : (fewI d.l).length ≤ 900 := by have := fewI_len d.l; omega
  have hmw : ∀ x ∈ fewI d.l, WfI x := fun x hx => hd.f x (fewI_mem hx)
  have hIw : Ints w B d.A (fewI d.l) := hd.i.take 40
  have hI1 : Ints (w.alloc (.cells d.cells 48)).drew B d.A (fewI d.l) := hIw.below (hb0.mono t.lo)
  have HF := Lib.hid (fun W => few_any d.A d.l d.c W hd.c hd.m)
  have HP : Hid (Calls Try.prog 24 #[.pointer (some ⟨g, 0, none⟩), .slice d.A (fewI d.l).length d.c] (w.alloc (.cells d.cells 48)).drew fun e w' => e = .returned (.int .i64 (mayE s.l (fewI d.l))) ∧ Two B w' g r (settle0 s (fewI d.l)) s ∧ KG g r w w' ∧ DdB w' w.heap.size d) := (q_settle t1 hO (by omega) d.A d.c (fewI d.l) hml hmw (hI1.more t1.lo)).mono fun e w' q => ⟨q.1, q.2.1, (KG.fresh hb0).trans q.2.2, hbx.keep t1 q.2.2⟩
  have HR : Hid (∀ W, Two B W g r (settle0 s (fewI d.l)) s → KG g r w W → DdB W w.heap.size d → Calls Try.prog 61 #[.pointer (some ⟨r, 0, none⟩), .slice d.A (fewI d.l).length d.c] W fun e w' => e = .returned (.int .i64 (mayE s.l (fewI d.l))) ∧ Two B w' g r (settle0 s (fewI d.l)) (settle0 s (fewI d.l)) ∧ KG g r w w' ∧ DdB w' w.heap.size d) := fun W t2 k hx => (d_settle t2 hO (by omega) d.A d.c (fewI d.l) hml (hIw.below (t.below k))).mono fun e w' q => ⟨q.1, q.2.1, k.trans q.2.2, hx.keep t2 q.2.2⟩
  have X1 : Hid ((w.alloc (.cells d.cells 48)).drew.cell? ⟨w.heap.size, 6, none⟩ = some (.slice d.A d.l.length d.c)) := hbx.cl.2.2.2.2.2.2
  have X0 : Hid ((w.alloc (.cells d.cells 48)).cell? ⟨w.heap.size, 6, none⟩ = some (.slice d.A d.l.length d.c)) := X1.out
  clear hb0 t1 hbx hd hO t hml hmw hIw hI1
  generalize settle0 s (fewI d.l) = s' at *
  generalize mayE s.l (fewI d.l) = ee at *
  obtain ⟨dk, dn, dm, ⟨pb, po, ps⟩, A, l, lc⟩ := d
  have HD : Hid (∀ W, DdB W w.heap.size ⟨dk, dn, dm, ⟨pb, po, ps⟩, A, l, lc⟩ → W.cell? ⟨w.heap.size, 6, none⟩ = some (.slice A l.length lc)) := fun W h => h.cl.2.2.2.2.2.2
  simp only at h0
  subst h0
  unfold Dd.v
  unfold Dd.cells at *
  simp only at *
  generalize (fewI l).length = fl at *
  go_enter Try.func30, Try.ntmps30
  go_wp2
  go_region_held3 (fun W => W.cell? ⟨w.heap.size, 6, none⟩ = some (.slice A l.length lc)) (first | exact X0.out | exact X1.out | exact X3.out | exact X4.out)
    (first
      | (go_at_call 15; (with_reducible refine (HF.out _).mono ?_); rintro e w2 ⟨rfl, rfl⟩)
      | (go_at_call 24; (with_reducible refine HP.out.mono ?_); rintro e w3 ⟨rfl, t3, k3, x3⟩; have T3 := Lib.hid t3; have K3 := Lib.hid k3; have D3 := Lib.hid x3; have X3 := Lib.hid (HD.out _ x3); clear t3 k3 x3)
      | (go_at_call 61; (with_reducible refine (HR.out w3 T3.out K3.out D3.out).mono ?_); rintro e w4 ⟨rfl, t4, k4, x4⟩; have T4 := Lib.hid t4; have K4 := Lib.hid k4; have X4 := Lib.hid (HD.out _ x4); clear t4 k4 x4)
      | fail)
  all_goals
    go_wp2
    go_ret
    exact ⟨rfl, T4.out, K4.out⟩
set_option maxRecDepth 100000 in
set_option maxHeartbeats 4000000 in
theorem do_3 (h0 : d.k = 3) (hd : d.ok w B) (hO : Ok c s) (hc : c ≤ 100) (t : Two B w g r s s) : Calls Try.prog 30 #[.pointer (some ⟨g, 0, none⟩), .pointer (some ⟨r, 0, none⟩), d.v] w (DoSays B w g r (squash0 s d.n d.m)) := by
  have hb0 : Below w.heap.size w (w.alloc (.cells d.cells 48)).drew := ((Below.refl _ _).alloc (Nat.le_refl _) _).drew
  have t1 := t.fresh hb0
  have hbx : DdB (w.alloc (.cells d.cells 48)).drew w.heap.size d := heap_alloc_new w _
  have HP : Hid (Calls Try.prog 23 #[.pointer (some ⟨g, 0, none⟩), .int .i64 d.n, .int .i64 d.m] (w.alloc (.cells d.cells 48)).drew fun e w' => e = .returned (.int .i64 (sqE s.l d.n d.m)) ∧ Two B w' g r (squash0 s d.n d.m) s ∧ KG g r w w' ∧ DdB w' w.heap.size d) := (q_squash t1 hO (by omega) d.n d.m).mono fun e w' q => ⟨q.1, q.2.1, (KG.fresh hb0).trans q.2.2, hbx.keep t1 q.2.2⟩
  have HR : Hid (∀ W, Two B W g r (squash0 s d.n d.m) s → KG g r w W → DdB W w.heap.size d → Calls Try.prog 62 #[.pointer (some ⟨r, 0, none⟩), .int .i64 d.n, .int .i64 d.m] W fun e w' => e = .returned (.int .i64 (sqE s.l d.n d.m)) ∧ Two B w' g r (squash0 s d.n d.m) (squash0 s d.n d.m) ∧ KG g r w w' ∧ DdB w' w.heap.size d) := fun W t2 k hx => (d_squash t2 hO (by omega) d.n d.m).mono fun e w' q => ⟨q.1, q.2.1, k.trans q.2.2, hx.keep t2 q.2.2⟩
  have X1 : Hid ((w.alloc (.cells d.cells 48)).drew.cell? ⟨w.heap.size, 1, none⟩ = some (.int .i64 d.n) ∧ (w.alloc (.cells d.cells 48)).drew.cell? ⟨w.heap.size, 2, none⟩ = some (.int .i64 d.m)) := ⟨hbx.cl.2.1, hbx.cl.2.2.1⟩
  have X0 : Hid ((w.alloc (.cells d.cells 48)).cell? ⟨w.heap.size, 1, none⟩ = some (.int .i64 d.n) ∧ (w.alloc (.cells d.cells 48)).cell? ⟨w.heap.size, 2, none⟩ = some (.int .i64 d.m)) := X1.out
  clear hb0 t1 hbx hd hO t
  generalize squash0 s d.n d.m = s' at *
  generalize sqE s.l d.n d.m = ee at *
  obtain ⟨dk, dn, dm, ⟨pb, po, ps⟩, A, l, lc⟩ := d
  have HD : Hid (∀ W, DdB W w.heap.size ⟨dk, dn, dm, ⟨pb, po, ps⟩, A, l, lc⟩ → W.cell? ⟨w.heap.size, 1, none⟩ = some (.int .i64 dn) ∧ W.cell? ⟨w.heap.size, 2, none⟩ = some (.int .i64 dm)) := fun W h => ⟨h.cl.2.1, h.cl.2.2.1⟩
  simp only at h0
  subst h0
  unfold Dd.v
  unfold Dd.cells at *
  simp only at *
  go_enter Try.func30, Try.ntmps30
  go_wp2
  go_region_held3 (fun W => W.cell? ⟨w.heap.size, 1, none⟩ = some (.int .i64 dn) ∧ W.cell? ⟨w.heap.size, 2, none⟩ = some (.int .i64 dm)) (first | exact X0.out | exact X1.out | exact X3.out | exact X4.out)
    (first
      | (go_at_call 23; (with_reducible refine HP.out.mono ?_); rintro e w3 ⟨rfl, t3, k3, x3⟩; have T3 := Lib.hid t3; have K3 := Lib.hid k3; have D3 := Lib.hid x3; have X3 := Lib.hid (HD.out _ x3); clear t3 k3 x3)
      | (go_at_call 62; (with_reducible refine (HR.out w3 T3.out K3.out D3.out).mono ?_); rintro e w4 ⟨rfl, t4, k4, x4⟩; have T4 := Lib.hid t4; have K4 := Lib.hid k4; have X4 := Lib.hid (HD.out _ x4); clear t4 k4 x4)
      | fail)
  all_goals
    go_wp2
    go_ret
    exact ⟨rfl, T4.out, K4.out⟩
set_option maxRecDepth 100000 in
set_option maxHeartbeats 4000000 in
theorem do_4 (h0 : d.k ≠ 0 ∧ d.k ≠ 1 ∧ d.k ≠ 2 ∧ d.k ≠ 3) (t : Two B w g r s s) : Calls Try.prog 30 #[.pointer (some ⟨g, 0, none⟩), .pointer (some ⟨r, 0, none⟩), d.v] w (DoSays B w g r s) := by
  have hb0 : Below w.heap.size w (w.alloc (.cells d.cells 48)) := Pat.below_alloc1 w _
  have HT := Lib.hid (And.intro (t.fresh hb0) (KG.fresh (g := g) (r := r) hb0))
  obtain ⟨h1, h2, h3, h4⟩ := h0
  have e1 : (d.k == 0) = false := by simpa using h1
  have e2 : (d.k == 1) = false := by simpa using h2
  have e3 : (d.k == 2) = false := by simpa using h3
  have e4 : (d.k == 3) = false := by simpa using h4
  clear t hb0
  unfold Dd.v
  unfold Dd.cells at *
  obtain ⟨dk, dn, dm, ⟨pb, po, ps⟩, A, l, lc⟩ := d
  simp only at *
  go_enter Try.func30, Try.ntmps30
  go_wp2
  go_ret
  exact ⟨rfl, HT.out.1, HT.out.2⟩
theorem do_any (hd : d.ok w B) (hO : Ok c s) (hc : c ≤ 100) (t : Two B w g r s s) : Calls Try.prog 30 #[.pointer (some ⟨g, 0, none⟩), .pointer (some ⟨r, 0, none⟩), d.v] w (DoSays B w g r (deed s d)) := by
  unfold deed
  by_cases h0 : d.k = 0
  · rw [if_pos h0]; exact do_0 B g r c s d w h0 hd hO hc t
  rw [if_neg h0]
  by_cases h1 : d.k = 1
  · rw [if_pos h1]; exact do_1 B g r c s d w h1 hd hO hc t
  rw [if_neg h1]
  by_cases h2 : d.k = 2
  · rw [if_pos h2]; exact do_2 B g r c s d w h2 hd hO hc t
  rw [if_neg h2]
  by_cases h3 : d.k = 3
  · rw [if_pos h3]; exact do_3 B g r c s d w h3 hd hO hc t
  rw [if_neg h3]; exact do_4 B g r s d w ⟨h0, h1, h2, h3⟩ t
end
end Go.Proofs.Ytibkipdadpidnaa
