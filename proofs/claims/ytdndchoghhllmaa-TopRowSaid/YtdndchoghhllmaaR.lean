/- The program's groups: turn, Engage, Disengage, Release, Patches, New. -/
import Derived.Test.YtdndchoghhllmaaQ
set_option linter.unusedVariables false
set_option linter.unusedSimpArgs false
namespace Go.Proofs.Ytdndchoghhllmaa
open Go.RowKit
open Go.Maps (Keyed)
def turnZ (l : List Gp) (n : Int) (zs : List Int) : Int := if n ∉ nos l then 5 else if (zs.any fun y => ((ofN l n).s : Int) == y) = true then 0 else 13
section
variable (B c g mb : Nat) (L : List Pr) (k n : Int) (w : World)
set_option maxRecDepth 100000 in
set_option maxHeartbeats 2000000 in
theorem turnG_any (t bz cz : Nat) (zs : List Int) (h : PrgAt B c w g mb L k) (hn : WfI n) (hl : zs.length ≤ 1000) (hz : ∀ j, j < zs.length → w.cell? ⟨bz, j, none⟩ = some (.int .u8 (inn zs j))) :
    Calls Try.prog 50 #[.pointer (some ⟨g, 0, none⟩), .int .i64 n, .int .u8 t, .slice (some ⟨bz, 0, none⟩) zs.length cz] w fun e w' =>
    e = .returned (.int .i64 (turnZ (gp L) n zs)) ∧ PWent B c w g mb L (if turnZ (gp L) n zs = 0 then Gs.turn ⟨gp L, k⟩ n t else ⟨gp L, k⟩) w' := by
  have HS := Lib.hid (PWent.same (d := c) h (Nat.le_refl c) (Below.refl _ _))
  by_cases hin : n ∈ nos (gp L)
  · obtain ⟨q, hq, e1, e2⟩ := h.of_ hin
    have HA := ask_in B c g mb L k w h hq (by rw [e2]; exact hn)
    rw [e2] at HA
    replace HA := Lib.hid HA
    obtain ⟨d0, _, _, hfz, hb⟩ := h.ocells hq
    have hf0 := hfz 0
    have hE : turnZ (gp L) n zs = if (zs.any fun y => (q.g.s : Int) == y) = true then 0 else 13 := by unfold turnZ; rw [if_neg (fun z => z hin), ← e1]
    have HCn := Lib.hid (contains_any bz cz zs (q.g.s : Int) w hl hz)
    have HP : Hid (PWent B c w g mb L (Gs.turn ⟨gp L, k⟩ n t) (w.setCell ⟨q.b, 0, none⟩ (.int .u8 t))) := by
      have hk := Kept.set w q.b 0 (.int .u8 t)
      have ho := h.ap.one q hq
      refine ⟨updL L n fun x => { x with s := t }, ?_, gp_upd _ _ _, hk.more (fun b e => .inl (.inr (.inr ⟨q, hq, .inl e⟩))), fun b hb => .inl (upd_has hb)⟩
      rw [← e2]
      exact h.upd (f := fun x => { x with s := t }) (fun _ => rfl) hq hk (fun b e => .inl e) (Nat.le_refl c) (heap_setCell_same w q.b 0 _ 63 (.int .u8 t) (h.ones q hq)) ((h.pats q hq).keep hk (fun e => ho.2.2.2.2.2.2.1 e.symm)) ((h.ahs q hq).keep hk (fun e => ho.2.2.2.2.2.2.2.1 e.symm))
    generalize q.g.s = s at *
    generalize q.b = qb at *
    cases hc : (zs.any fun y => (s : Int) == y) with
    | true =>
      have H0 : Hid (turnZ (gp L) n zs = 0) := by unfold Hid; rw [hE, hc]; rfl
      rw [H0.out, if_pos rfl]
      rw [hc] at HCn
      clear h hn hin e1 e2 hE hc hz hfz
      go_enter Try.func50, Try.ntmps50
      go_wp2_with (first
        | (go_at_call 39; refine HA.out.mono ?_; rintro e w' ⟨rfl, rfl⟩)
        | (go_at_call 64; refine HCn.out.mono ?_; rintro e w' ⟨rfl, rfl⟩))
      go_ret
      exact ⟨rfl, HP.out⟩
    | false =>
      have H0 : Hid (turnZ (gp L) n zs = 13) := by unfold Hid; rw [hE, hc]; rfl
      rw [H0.out, if_neg (by decide)]
      rw [hc] at HCn
      clear h hn hin e1 e2 hE hc hz hfz
      go_enter Try.func50, Try.ntmps50
      go_wp2_with (first
        | (go_at_call 39; refine HA.out.mono ?_; rintro e w' ⟨rfl, rfl⟩)
        | (go_at_call 64; refine HCn.out.mono ?_; rintro e w' ⟨rfl, rfl⟩))
      go_ret
      exact ⟨rfl, HS.out⟩
  · have HA := Lib.hid (ask_out B c g mb L k n w h hn hin)
    have H0 : Hid (turnZ (gp L) n zs = 5) := by unfold Hid turnZ; rw [if_pos hin]
    rw [H0.out, if_neg (by decide)]
    clear h hn hin hz
    go_enter Try.func50, Try.ntmps50
    go_wp2_with (refine HA.out.mono ?_; rintro e w' ⟨rfl, rfl⟩)
    go_ret
    exact ⟨rfl, HS.out⟩
theorem PWent.back {x : Gs} {w1 w' : World} (hb : Below w.heap.size w w1) (h : PWent B c w1 g mb L x w') : PWent B c w g mb L x w' := by
  obtain ⟨L', h1, h2, h3, h4⟩ := h
  exact ⟨L', h1, h2, ((Kept.fresh (S := OfP g mb L) hb).trans h3 (fun b q => .inl q)), fun b q => (h4 b q).imp id (fun z => Nat.le_trans hb.size z)⟩
theorem turnZ_13 (n : Int) : turnZ (gp L) n [1, 3] = Gs.turnE ⟨gp L, k⟩ n 1 3 := by
  unfold turnZ Gs.turnE
  by_cases h : n ∉ nos (gp L)
  · rw [if_pos h, if_pos h]
  · rw [if_neg h, if_neg h]
    generalize (ofN (gp L) n).s = s
    by_cases e : s = 1
    · subst e; rfl
    · by_cases e3 : s = 3
      · subst e3; rfl
      · have hz : ([1, 3].any fun y => (s : Int) == y) = false := by simp; omega
        rw [hz, if_neg (by decide), if_pos ⟨e, e3⟩]
theorem turnZ_2 (n : Int) : turnZ (gp L) n [2] = Gs.turnE ⟨gp L, k⟩ n 2 2 := by
  unfold turnZ Gs.turnE
  by_cases h : n ∉ nos (gp L)
  · rw [if_pos h, if_pos h]
  · rw [if_neg h, if_neg h]
    generalize (ofN (gp L) n).s = s
    by_cases e : s = 2
    · subst e; rfl
    · have hz : ([2].any fun y => (s : Int) == y) = false := by simp; omega
      rw [hz, if_neg (by decide), if_pos ⟨e, e⟩]
theorem cells_new (w : World) (zs : List Int) (T : TypeId) : ∀ j, j < zs.length → (w.alloc (.cells (zs.map fun z => Value.int .u8 z).toArray T)).cell? ⟨w.heap.size, j, none⟩ = some (.int .u8 (inn zs j)) := fun j hj => by
  have h2 : ((zs.map fun z => Value.int .u8 z).toArray)[j]? = some (.int .u8 (inn zs j)) := by
    rw [List.getElem?_toArray, List.getElem?_map, List.getElem?_eq_getElem hj, inn_lt hj]; rfl
  rw [← h2]
  exact cell_of_row _ _ _ _ _ (0, 0) (heap_alloc_new w _)
set_option maxRecDepth 100000 in
set_option maxHeartbeats 1000000 in
theorem engage_any (h : PrgAt B c w g mb L k) (hn : WfI n) : Calls Try.prog 21 #[.pointer (some ⟨g, 0, none⟩), .int .i64 n] w fun e w' =>
    e = .returned (.int .i64 (Gs.turnE ⟨gp L, k⟩ n 1 3)) ∧ PWent B c w g mb L (if Gs.turnE ⟨gp L, k⟩ n 1 3 = 0 then Gs.turn ⟨gp L, k⟩ n 2 else ⟨gp L, k⟩) w' := by
  have hB : Below w.heap.size w (w.alloc (.cells #[.int .u8 1, .int .u8 3] 32)) := (Below.refl _ w).alloc (Nat.le_refl _) _
  have HT := turnG_any B c g mb L k n _ 2 w.heap.size 2 [1, 3] (h.fresh hB) hn (by decide) (cells_new w [1, 3] 32)
  rw [turnZ_13 L k] at HT
  have HT2 := Lib.hid (HT.mono (fun e w' ⟨a, b⟩ => (⟨a, PWent.back B c g mb L w hB b⟩ : _ ∧ PWent B c w g mb L (if Gs.turnE ⟨gp L, k⟩ n 1 3 = 0 then Gs.turn ⟨gp L, k⟩ n 2 else ⟨gp L, k⟩) w')))
  clear h hn hB HT
  generalize (if Gs.turnE ⟨gp L, k⟩ n 1 3 = 0 then Gs.turn ⟨gp L, k⟩ n 2 else ⟨gp L, k⟩) = y at *
  generalize Gs.turnE ⟨gp L, k⟩ n 1 3 = e0 at *
  go_enter Try.func21, Try.ntmps21
  go_wp2_with (go_at_call 50; refine HT2.out.mono ?_; rintro e w' ⟨rfl, hw⟩; have HW := Lib.hid hw; clear hw)
  go_ret
  exact ⟨rfl, HW.out⟩
set_option maxRecDepth 100000 in
set_option maxHeartbeats 1000000 in
theorem disengage_any (h : PrgAt B c w g mb L k) (hn : WfI n) : Calls Try.prog 31 #[.pointer (some ⟨g, 0, none⟩), .int .i64 n] w fun e w' =>
    e = .returned (.int .i64 (Gs.turnE ⟨gp L, k⟩ n 2 2)) ∧ PWent B c w g mb L (if Gs.turnE ⟨gp L, k⟩ n 2 2 = 0 then Gs.turn ⟨gp L, k⟩ n 3 else ⟨gp L, k⟩) w' := by
  have hB : Below w.heap.size w (w.alloc (.cells #[.int .u8 2] 32)) := (Below.refl _ w).alloc (Nat.le_refl _) _
  have HT := turnG_any B c g mb L k n _ 3 w.heap.size 1 [2] (h.fresh hB) hn (by decide) (cells_new w [2] 32)
  rw [turnZ_2 L k] at HT
  have HT2 := Lib.hid (HT.mono (fun e w' ⟨a, b⟩ => (⟨a, PWent.back B c g mb L w hB b⟩ : _ ∧ PWent B c w g mb L (if Gs.turnE ⟨gp L, k⟩ n 2 2 = 0 then Gs.turn ⟨gp L, k⟩ n 3 else ⟨gp L, k⟩) w')))
  clear h hn hB HT
  generalize (if Gs.turnE ⟨gp L, k⟩ n 2 2 = 0 then Gs.turn ⟨gp L, k⟩ n 3 else ⟨gp L, k⟩) = y at *
  generalize Gs.turnE ⟨gp L, k⟩ n 2 2 = e0 at *
  go_enter Try.func31, Try.ntmps31
  go_wp2_with (go_at_call 50; refine HT2.out.mono ?_; rintro e w' ⟨rfl, hw⟩; have HW := Lib.hid hw; clear hw)
  go_ret
  exact ⟨rfl, HW.out⟩
set_option maxRecDepth 100000 in
set_option maxHeartbeats 1000000 in
theorem release_any (h : PrgAt B c w g mb L k) (hn : WfI n) : Calls Try.prog 22 #[.pointer (some ⟨g, 0, none⟩), .int .i64 n] w fun e w' =>
    e = .returned (.int .i64 (Gs.turnE ⟨gp L, k⟩ n 1 3)) ∧ PWent B c w g mb L (if Gs.turnE ⟨gp L, k⟩ n 1 3 = 0 then Gs.turn ⟨gp L, k⟩ n 4 else ⟨gp L, k⟩) w' := by
  have hB : Below w.heap.size w (w.alloc (.cells #[.int .u8 1, .int .u8 3] 32)) := (Below.refl _ w).alloc (Nat.le_refl _) _
  have HT := turnG_any B c g mb L k n _ 4 w.heap.size 2 [1, 3] (h.fresh hB) hn (by decide) (cells_new w [1, 3] 32)
  rw [turnZ_13 L k] at HT
  have HT2 := Lib.hid (HT.mono (fun e w' ⟨a, b⟩ => (⟨a, PWent.back B c g mb L w hB b⟩ : _ ∧ PWent B c w g mb L (if Gs.turnE ⟨gp L, k⟩ n 1 3 = 0 then Gs.turn ⟨gp L, k⟩ n 4 else ⟨gp L, k⟩) w')))
  clear h hn hB HT
  generalize (if Gs.turnE ⟨gp L, k⟩ n 1 3 = 0 then Gs.turn ⟨gp L, k⟩ n 4 else ⟨gp L, k⟩) = y at *
  generalize Gs.turnE ⟨gp L, k⟩ n 1 3 = e0 at *
  go_enter Try.func22, Try.ntmps22
  go_wp2_with (go_at_call 50; refine HT2.out.mono ?_; rintro e w' ⟨rfl, hw⟩; have HW := Lib.hid hw; clear hw)
  go_ret
  exact ⟨rfl, HW.out⟩
set_option maxRecDepth 100000 in
set_option maxHeartbeats 1000000 in
theorem patches_any (h : PrgAt B c w g mb L k) (hn : WfI n) (hc : c < 1000000) (hr : Rises (ofN (gp L) n).p) : Calls Try.prog 18 #[.pointer (some ⟨g, 0, none⟩), .int .i64 n] w fun e w' =>
    ∃ A' c', e = .returned (.slice A' (ofN (gp L) n).p.length c') ∧ RowI w' w.heap.size A' c' (ofN (gp L) n).p ∧ Below w.heap.size w w' := by
  by_cases hin : n ∈ nos (gp L)
  · obtain ⟨q, hq, e1, e2⟩ := h.of_ hin
    have HA := ask_in B c g mb L k w h hq (by rw [e2]; exact hn)
    rw [e2] at HA
    replace HA := Lib.hid HA
    obtain ⟨_, d1, _, _, hb⟩ := h.ocells hq
    rw [← e1] at hr ⊢
    have HR := Lib.hid (rising_any q.pm c q.g.p q.g.p w (h.pats q hq) (by omega) hr (fun _ => Iff.rfl))
    generalize q.g.p = ps at *
    generalize q.b = qb at *
    generalize q.pm = qm at *
    clear h hn hin e1 e2 hr
    go_enter Try.func18, Try.ntmps18
    go_wp2_with (first
      | (go_at_call 39; refine HA.out.mono ?_; rintro e w' ⟨rfl, rfl⟩)
      | (go_at_call 42; refine HR.out.mono ?_; rintro e w' ⟨A', c', rfl, hr, hb'⟩; have HRr := Lib.hid hr; have HB := Lib.hid hb'; clear hr hb'))
    go_ret
    exact ⟨A', c', rfl, HRr.out, HB.out⟩
  · have HA := Lib.hid (ask_out B c g mb L k n w h hn hin)
    rw [ofN_out hin]
    clear h hn hin hr
    go_enter Try.func18, Try.ntmps18
    go_wp2_with (refine HA.out.mono ?_; rintro e w' ⟨rfl, rfl⟩)
    go_ret
    exact ⟨none, 0, rfl, World.ownsRow_nil _ _ _ _, Below.refl _ _⟩
end
set_option maxRecDepth 100000 in
theorem new_any (w : World) : Calls Try.prog 32 #[] w fun e w' => ∃ g mb, e = .returned (.pointer (some ⟨g, 0, none⟩)) ∧ PrgAt w.heap.size 0 w' g mb [] 1 ∧ Below w.heap.size w w' := by
  have hmm := @run_makeMap Try.prog
  have HB : Hid (Below w.heap.size w ((w.alloc (.map #[] 0)).alloc (.cells #[.int .i64 0, .map (some w.heap.size)] 67))) := ((Below.refl _ w).alloc (Nat.le_refl _) _).alloc (by simp) _
  have HY : Hid (PrgAt w.heap.size 0 ((w.alloc (.map #[] 0)).alloc (.cells #[.int .i64 0, .map (some w.heap.size)] 67)) (w.heap.size + 1) w.heap.size [] 1) := by
    have hno : ∀ q : Pr, q ∈ ([] : List Pr) → False := fun q h => (List.not_mem_nil h).elim
    refine ⟨?_, ⟨.map [], (World.ownsMap_made w Try.prog 3 RV).alloc _, ?_, fun q h => (hno q h).elim⟩, List.nodup_nil, fun q h => (hno q h).elim, fun q h => (hno q h).elim, fun q h => (hno q h).elim, ⟨?_, fun q h => (hno q h).elim, fun q h => (hno q h).elim⟩, ?_, ?_, fun q h => (hno q h).elim⟩
    · have := heap_alloc_new (w.alloc (.map #[] 0)) (.cells #[.int .i64 0, .map (some w.heap.size)] 67)
      simpa using this
    · intro x; constructor <;> (intro h; cases h)
    · omega
    · omega
    · omega
  go_enter Try.func32, Try.ntmps32
  go_wp2
  go_ret
  exact ⟨w.heap.size + 1, w.heap.size, by simp, HY.out, HB.out⟩
end Go.Proofs.Ytdndchoghhllmaa
