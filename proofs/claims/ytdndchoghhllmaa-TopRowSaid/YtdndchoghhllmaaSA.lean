/- Both groups side by side: a deed on both. -/
import Derived.Test.YtdndchoghhllmaaZD
import Derived.Test.YtdndchoghhllmaaRD
set_option linter.unusedVariables false
set_option linter.unusedSimpArgs false
namespace Go.Proofs.Ytdndchoghhllmaa
open Go.RowKit
theorem RefAt.rb {B r c : Nat} {A : Option Addr} {L : List Gr} {k : Int} {w : World} (h : RefAt B w r A c L k) : ∀ b, OfR r A b → RB w b := by
  rintro b (rfl | e)
  · exact .inr (.inr ⟨_, h.head⟩)
  · exact .inr (.inl (h.rowB b e))
/-- rows of numbers stay -/
def KI (w w' : World) : Prop := ∀ (b : Nat) (cur : Array Value), w.heap[b]? = some (Obj.cells cur 3 (0, 0)) → w'.heap[b]? = some (Obj.cells cur 3 (0, 0))
theorem KI.trans {w w1 w2 : World} (h : KI w w1) (k : KI w1 w2) : KI w w2 := fun b cur q => k b cur (h b cur q)
theorem KI.of {w w1 : World} {S : Nat → Prop} (h : Kept w w1 S) (hs : ∀ b, S b → ¬ IntB w b) : KI w w1 := fun b cur q => (h.block b (Array.getElem?_eq_some_iff.1 q).1 (fun s => hs b s ⟨cur, q⟩)).trans q
theorem KI.fresh {w w1 : World} (h : Below w.heap.size w w1) : KI w w1 := fun b cur q => (h.block b (Array.getElem?_eq_some_iff.1 q).1).trans q
theorem RowI.ki {w w1 : World} {B c : Nat} {A : Option Addr} {l : List Int} (h : RowI w B A c l) (k : KI w w1) : RowI w1 B A c l := by
  refine ⟨h.1, ?_⟩
  rcases h.2 with h0 | ⟨g, cap, cur, e, hb, hg, rest⟩
  · exact .inl h0
  · exact .inr ⟨g, cap, cur, e, hb, k g cur hg, rest⟩
/-- both groups, in blocks from B on -/
def Two (B c : Nat) (w : World) (g h : Nat) (x y : Gs) : Prop :=
  B ≤ w.heap.size ∧ (∃ mb L, PrgAt B (8 * c) w g mb L x.k ∧ gp L = x.l) ∧ ∃ A q L, RefAt B w h A q L y.k ∧ gs L = y.l
theorem gs_eta {x : Gs} {l : List Gp} (h : l = x.l) : (⟨l, x.k⟩ : Gs) = x := by cases x; subst h; rfl
namespace Two
variable {B c d g h : Nat} {w w' : World} {x y z : Gs}
theorem fresh (t : Two B c w g h x y) (hb : Below w.heap.size w w') : Two B c w' g h x y := by
  obtain ⟨h0, ⟨mb, L, h1, h3⟩, A2, c2, L2, h2, h4⟩ := t
  exact ⟨Nat.le_trans h0 hb.size, ⟨mb, L, h1.fresh hb, h3⟩, A2, c2, L2, h2.fresh hb, h4⟩
theorem p {mb : Nat} {L : List Pr} (t : Two B c w g h x y) (hP : PrgAt B (8 * c) w g mb L x.k) (hw : PWent B (8 * d) w g mb L z w') : Two B d w' g h z y ∧ Below B w w' := by
  obtain ⟨h0, _, A2, c2, L2, h2, h4⟩ := t
  obtain ⟨L', h5, h6, h7, _⟩ := hw
  exact ⟨⟨Nat.le_trans h0 h7.size, ⟨mb, L', h5, h6⟩, A2, c2, L2, h2.keep h7 (fun b q q2 => not_both (hP.pb b q2) (h2.rb b q)) (fun b q q2 => not_both (hP.pb b q) (.inl q2)), h4⟩, h7.below hP.low h0⟩
theorem r {A : Option Addr} {q : Nat} {L : List Gr} (t : Two B c w g h x y) (hR : RefAt B w h A q L y.k) (hw : RWent B w h A z w') : Two B c w' g h x z ∧ Below B w w' := by
  obtain ⟨h0, ⟨mb, L1, h1, h3⟩, _⟩ := t
  obtain ⟨A', c', L', h5, h6, h7, _⟩ := hw
  exact ⟨⟨Nat.le_trans h0 h7.size, ⟨mb, L1, h1.keep h7 (fun b q q2 => not_both (h1.pb b q) (hR.rb b q2)), h3⟩, A', c', L', h5, h6⟩, h7.below hR.low h0⟩
theorem pk {mb : Nat} {L : List Pr} (hP : PrgAt B c w g mb L x.k) (hw : PWent B d w g mb L z w') : KI w w' := by
  obtain ⟨_, _, _, k, _⟩ := hw
  exact KI.of k (fun b q i => not_both (hP.pb b q) (.inl i))
theorem rk {A : Option Addr} {q : Nat} {L : List Gr} {k : Int} (hR : RefAt B w h A q L k) (hw : RWent B w h A z w') : KI w w' := by
  obtain ⟨_, _, _, _, _, k, _⟩ := hw
  exact KI.of k hR.notInt
end Two
/-- a deed -/
structure Dd where
  k : Int
  n : Int
  m : Int
def Dd.v (d : Dd) : Value := .agg #[.int .i64 d.k, .int .i64 d.n, .int .i64 d.m]
namespace Gs
def mk0 (x : Gs) : Gs := if x.makeE = 0 then x.make else x
def mkV (x : Gs) : Value := if x.makeE = 0 then .tuple #[.int .i64 x.k, .int .i64 0] else .tuple #[.int .i64 0, .int .i64 11]
def dp0 (x : Gs) (n m : Int) : Gs := if x.dependE n m = 0 then x.depend n m else x
def tn0 (x : Gs) (n : Int) (a b t : Nat) : Gs := if x.turnE n a b = 0 then x.turn n t else x
def ab0 (x : Gs) (n : Int) : Gs := if x.abandonE n = 0 then x.abandon n else x
def tk0 (x : Gs) (m : Int) : Gs := if m < 0 then x else x.took m
def tkE (m : Int) : Int := if m < 0 then 2 else 0
def deed (x : Gs) (d : Dd) : Gs := if d.k = 0 then x.mk0 else if d.k = 1 then x.dp0 d.n d.m else if d.k = 2 then x.tn0 d.n 1 3 2 else if d.k = 3 then x.tn0 d.n 2 2 3 else if d.k = 4 then x.tn0 d.n 1 3 4 else if d.k = 5 then x.ab0 d.n else if d.k = 6 then x.tk0 d.m else x
variable {c : Nat} {x : Gs}
theorem Ok.mk0 (h : Ok c x) : Ok (c + 1) x.mk0 := by
  unfold Gs.mk0; split
  · rename_i e; exact h.make e
  · exact h.more (by omega)
theorem Ok.dp0 (h : Ok c x) (n m : Int) : Ok (c + 1) (x.dp0 n m) := by
  unfold Gs.dp0; split
  · rename_i e; exact h.depend e
  · exact h.more (by omega)
theorem Ok.tn0 (h : Ok c x) (n : Int) (a b t : Nat) (h0 : 1 ≤ t) (h1 : t ≤ 4) (ha : a ≠ 4) (hb : b ≠ 4) : Ok (c + 1) (x.tn0 n a b t) := by
  unfold Gs.tn0; split
  · rename_i e
    refine (h.turn h0 h1 (fun hn q => ?_)).more (by omega)
    unfold Gs.turnE at e
    rw [if_neg (fun z => z hn), if_pos ⟨by rw [q]; exact fun z => ha z.symm, by rw [q]; exact fun z => hb z.symm⟩] at e
    cases e
  · exact h.more (by omega)
theorem Ok.ab0 (h : Ok c x) (n : Int) : Ok (c + 1) (x.ab0 n) := by
  unfold Gs.ab0; split
  · rename_i e
    refine (h.abandon (fun q => ?_)).more (by omega)
    unfold Gs.abandonE at e
    split at e
    · cases e
    · split at e
      · cases e
      · rw [if_pos (any_ahead.2 q)] at e; cases e
  · exact h.more (by omega)
theorem Ok.tk0 (h : Ok c x) (m : Int) : Ok (c + 1) (x.tk0 m) := by
  unfold Gs.tk0; split
  · exact h.more (by omega)
  · exact h.took (by omega)
theorem Ok.deed (h : Ok c x) (d : Dd) : Ok (c + 1) (x.deed d) := by
  unfold Gs.deed
  by_cases h0 : d.k = 0
  · rw [if_pos h0]; exact h.mk0
  rw [if_neg h0]
  by_cases h1 : d.k = 1
  · rw [if_pos h1]; exact h.dp0 _ _
  rw [if_neg h1]
  by_cases h2 : d.k = 2
  · rw [if_pos h2]; exact h.tn0 _ _ _ _ (by decide) (by decide) (by decide) (by decide)
  rw [if_neg h2]
  by_cases h3 : d.k = 3
  · rw [if_pos h3]; exact h.tn0 _ _ _ _ (by decide) (by decide) (by decide) (by decide)
  rw [if_neg h3]
  by_cases h4 : d.k = 4
  · rw [if_pos h4]; exact h.tn0 _ _ _ _ (by decide) (by decide) (by decide) (by decide)
  rw [if_neg h4]
  by_cases h5 : d.k = 5
  · rw [if_pos h5]; exact h.ab0 _
  rw [if_neg h5]
  by_cases h6 : d.k = 6
  · rw [if_pos h6]; exact h.tk0 _
  rw [if_neg h6]; exact h.more (by omega)
theorem Ok.wf (h : Ok c x) (hc : c ≤ 10000) : ∀ n ∈ nos x.l, WfI n := fun n hn => by
  obtain ⟨g, hg, e⟩ := List.mem_map.1 hn
  have h1 := h.rng g hg
  have h2 := h.k1
  unfold WfI; omega
theorem Ok.eng8 (h : Ok c x) : x.engaged.length ≤ 8 := by
  have h1 := h.len
  have : x.engaged.length ≤ x.l.length := by unfold Gs.engaged; rw [length_nos]; exact List.length_filter_le _ _
  omega
theorem Ok.pofN (h : Ok c x) (n : Int) : Rises (ofN x.l n).p ∧ (ofN x.l n).p.length ≤ c := by
  by_cases hn : n ∈ nos x.l
  · have := h.pr _ (ofN_in hn).1; exact ⟨this.1, this.2.1⟩
  · rw [ofN_out hn]; exact ⟨List.Pairwise.nil, Nat.zero_le _⟩
theorem Ok.aofN (h : Ok c x) (n : Int) : (ofN x.l n).a.length ≤ c := by
  by_cases hn : n ∈ nos x.l
  · exact (h.al _ (ofN_in hn).1).1
  · rw [ofN_out hn]; exact Nat.zero_le _
end Gs
section
variable {B c g mb q : Nat} {L : List Pr} {x : Gs} {w : World} {n m : Int}
/-- the program's deeds -/
theorem p0 (hP : PrgAt B (8 * c) w g mb L x.k) (hg : gp L = x.l) (hO : x.Ok c) (hc : c ≤ 10000) (hB : B ≤ w.heap.size) : Calls Try.prog 27 #[.pointer (some ⟨g, 0, none⟩)] w fun e w' => e = .returned x.mkV ∧ PWent B (8 * (c + 1)) w g mb L x.mk0 w' := by
  have h0 := hO.k0
  have h1 := hO.k1
  have := make_any B (8 * c) g mb L (x.k - 1) w (by rw [show x.k - 1 + 1 = x.k by omega]; exact hP) (by omega) (by omega) (by omega) (fun n hn => by
    rw [hg] at hn
    obtain ⟨z, hz, e⟩ := List.mem_map.1 hn
    have := (hO.rng z hz).2
    omega) hB
  rw [show x.k - 1 + 1 = x.k by omega, gs_eta hg] at this
  exact this.mono fun e w' ⟨e1, e2⟩ => ⟨e1, e2.more (by omega)⟩
theorem p1 (hP : PrgAt B (8 * c) w g mb L x.k) (hg : gp L = x.l) (hn : WfI n) (hm : WfI m) (hc : c ≤ 10000) : Calls Try.prog 30 #[.pointer (some ⟨g, 0, none⟩), .int .i64 n, .int .i64 m] w fun e w' => e = .returned (.int .i64 (x.dependE n m)) ∧ PWent B (8 * (c + 1)) w g mb L (x.dp0 n m) w' := by
  have := depend_any B (8 * c) g mb L x.k n m w hP hn hm (by omega)
  rw [gs_eta hg] at this
  exact this.mono fun e w' ⟨e1, e2⟩ => ⟨e1, e2.more (by omega)⟩
theorem p2 (hP : PrgAt B (8 * c) w g mb L x.k) (hg : gp L = x.l) (hn : WfI n) : Calls Try.prog 21 #[.pointer (some ⟨g, 0, none⟩), .int .i64 n] w fun e w' => e = .returned (.int .i64 (x.turnE n 1 3)) ∧ PWent B (8 * (c + 1)) w g mb L (x.tn0 n 1 3 2) w' := by
  have := engage_any B (8 * c) g mb L x.k n w hP hn
  rw [gs_eta hg] at this
  exact this.mono fun e w' ⟨e1, e2⟩ => ⟨e1, e2.more (by omega)⟩
theorem p3 (hP : PrgAt B (8 * c) w g mb L x.k) (hg : gp L = x.l) (hn : WfI n) : Calls Try.prog 31 #[.pointer (some ⟨g, 0, none⟩), .int .i64 n] w fun e w' => e = .returned (.int .i64 (x.turnE n 2 2)) ∧ PWent B (8 * (c + 1)) w g mb L (x.tn0 n 2 2 3) w' := by
  have := disengage_any B (8 * c) g mb L x.k n w hP hn
  rw [gs_eta hg] at this
  exact this.mono fun e w' ⟨e1, e2⟩ => ⟨e1, e2.more (by omega)⟩
theorem p4 (hP : PrgAt B (8 * c) w g mb L x.k) (hg : gp L = x.l) (hn : WfI n) : Calls Try.prog 22 #[.pointer (some ⟨g, 0, none⟩), .int .i64 n] w fun e w' => e = .returned (.int .i64 (x.turnE n 1 3)) ∧ PWent B (8 * (c + 1)) w g mb L (x.tn0 n 1 3 4) w' := by
  have := release_any B (8 * c) g mb L x.k n w hP hn
  rw [gs_eta hg] at this
  exact this.mono fun e w' ⟨e1, e2⟩ => ⟨e1, e2.more (by omega)⟩
theorem p5 (hP : PrgAt B (8 * c) w g mb L x.k) (hg : gp L = x.l) (hn : WfI n) : Calls Try.prog 28 #[.pointer (some ⟨g, 0, none⟩), .int .i64 n] w fun e w' => e = .returned (.int .i64 (x.abandonE n)) ∧ PWent B (8 * (c + 1)) w g mb L (x.ab0 n) w' := by
  have := abandon_any B (8 * c) g mb L x.k n w hP hn
  rw [gs_eta hg] at this
  exact this.mono fun e w' ⟨e1, e2⟩ => ⟨e1, e2.more (by omega)⟩
theorem p6 (hP : PrgAt B (8 * c) w g mb L x.k) (hg : gp L = x.l) (hO : x.Ok c) (hc : c ≤ 10000) (hm : WfI m) : Calls Try.prog 24 #[.pointer (some ⟨g, 0, none⟩), .int .i64 m] w fun e w' => e = .returned (.int .i64 (Gs.tkE m)) ∧ PWent B (8 * (c + 1)) w g mb L (x.tk0 m) w' := by
  have := took_any B (8 * c) g mb L x.k m w hP (by omega) hm (by rw [gs_eta hg]; exact hO.engaged_rises) (by rw [gs_eta hg]; exact hO.eng8) (by rw [hg]; exact hO.wf hc)
  rw [gs_eta hg] at this
  exact this.mono fun e w' ⟨e1, e2⟩ => ⟨e1, e2.more (by omega)⟩
end
section
variable {B c r q : Nat} {A : Option Addr} {L : List Gr} {x : Gs} {w : World} {n m : Int}
/-- the document's -/
theorem rlen {L : List Gr} {x : Gs} (hg : gs L = x.l) (hO : x.Ok c) : L.length ≤ 1000 := by have := hO.len; rw [← hg, length_gs] at this; omega
theorem rd0 (hR : RefAt B w r A q L x.k) (hg : gs L = x.l) (hO : x.Ok c) (hc : c ≤ 900) (hB : B ≤ w.heap.size) : Calls Try.prog 43 #[.pointer (some ⟨r, 0, none⟩)] w fun e w' => e = .returned x.mkV ∧ RWent B w r A x.mk0 w' := by
  have h0 := hO.k0
  have h1 := hO.k1
  have := rmake_any B r A q L x.k w hR (rlen hg hO) (by omega) (by omega) hB
  rw [gs_eta hg] at this
  exact this
theorem rd1 (hR : RefAt B w r A q L x.k) (hg : gs L = x.l) (hO : x.Ok c) (hc : c ≤ 900) (hB : B ≤ w.heap.size) : Calls Try.prog 44 #[.pointer (some ⟨r, 0, none⟩), .int .i64 n, .int .i64 m] w fun e w' => e = .returned (.int .i64 (x.dependE n m)) ∧ RWent B w r A (x.dp0 n m) w' := by
  have := rdepend_any B r A q L x.k n m w hR (rlen hg hO) (by rw [hg]; exact hO.nd) (by rw [hg]; have := hO.aofN n; omega) hB
  rw [gs_eta hg] at this
  exact this
theorem rd2 (hR : RefAt B w r A q L x.k) (hg : gs L = x.l) (hO : x.Ok c) : Calls Try.prog 45 #[.pointer (some ⟨r, 0, none⟩), .int .i64 n] w fun e w' => e = .returned (.int .i64 (x.turnE n 1 3)) ∧ RWent B w r A (x.tn0 n 1 3 2) w' := by
  have := rengage_any B r A q L x.k n w hR (rlen hg hO) (by rw [hg]; exact hO.nd)
  rw [gs_eta hg] at this
  exact this
theorem rd3 (hR : RefAt B w r A q L x.k) (hg : gs L = x.l) (hO : x.Ok c) : Calls Try.prog 46 #[.pointer (some ⟨r, 0, none⟩), .int .i64 n] w fun e w' => e = .returned (.int .i64 (x.turnE n 2 2)) ∧ RWent B w r A (x.tn0 n 2 2 3) w' := by
  have := rdisengage_any B r A q L x.k n w hR (rlen hg hO) (by rw [hg]; exact hO.nd)
  rw [gs_eta hg] at this
  exact this
theorem rd4 (hR : RefAt B w r A q L x.k) (hg : gs L = x.l) (hO : x.Ok c) : Calls Try.prog 47 #[.pointer (some ⟨r, 0, none⟩), .int .i64 n] w fun e w' => e = .returned (.int .i64 (x.turnE n 1 3)) ∧ RWent B w r A (x.tn0 n 1 3 4) w' := by
  have := rrelease_any B r A q L x.k n w hR (rlen hg hO) (by rw [hg]; exact hO.nd)
  rw [gs_eta hg] at this
  exact this
theorem rd5 (hR : RefAt B w r A q L x.k) (hg : gs L = x.l) (hO : x.Ok c) (hc : c ≤ 900) (hB : B ≤ w.heap.size) : Calls Try.prog 48 #[.pointer (some ⟨r, 0, none⟩), .int .i64 n] w fun e w' => e = .returned (.int .i64 (x.abandonE n)) ∧ RWent B w r A (x.ab0 n) w' := by
  have := rabandon_any B r A q L x.k n w hR (rlen hg hO) (by rw [hg]; exact hO.nd) (fun z hz => by have := (hO.al z.g (by rw [← hg]; exact List.mem_map.2 ⟨z, hz, rfl⟩)).1; omega) hB
  rw [gs_eta hg] at this
  exact this
theorem rd6 (hR : RefAt B w r A q L x.k) (hg : gs L = x.l) (hO : x.Ok c) (hc : c ≤ 900) (hB : B ≤ w.heap.size) : Calls Try.prog 49 #[.pointer (some ⟨r, 0, none⟩), .int .i64 m] w fun e w' => e = .returned (.int .i64 (Gs.tkE m)) ∧ RWent B w r A (x.tk0 m) w' := by
  have := rtook_any B r A q L x.k m w hR (rlen hg hO) (fun z hz => by have := hO.pr z (by rw [← hg]; exact hz); exact ⟨this.1, by omega⟩) hB
  rw [gs_eta hg] at this
  exact this
end
def DoSays (B c : Nat) (w : World) (g h : Nat) (x : Gs) (d : Dd) (e : Ending) (w' : World) : Prop := e = .returned (.bool true) ∧ Two B (c + 1) w' g h (x.deed d) (x.deed d) ∧ Below B w w' ∧ KI w w'
set_option maxRecDepth 100000 in
set_option maxHeartbeats 2000000 in
theorem do_1 (B g h : Nat) (x : Gs) (dn dm : Int) (hn : WfI dn) (hm : WfI dm) (w : World) {c : Nat} (hO : x.Ok c) (hc : c ≤ 900) (t : Two B c w g h x x) :
    Calls Try.prog 19 #[.pointer (some ⟨g, 0, none⟩), .pointer (some ⟨h, 0, none⟩), .agg #[.int .i64 1, .int .i64 dn, .int .i64 dm]] w (DoSays B c w g h x ⟨1, dn, dm⟩) := by
  obtain ⟨W1, hW⟩ : ∃ W1, W1 = (w.alloc (.cells #[.int .i64 1, .int .i64 dn, .int .i64 dm] 36)).drew := ⟨_, rfl⟩
  have hB0 : Below w.heap.size w W1 := by rw [hW]; exact ((Below.refl _ _).alloc (Nat.le_refl _) _).drew
  have hW1 := t.fresh hB0
  obtain ⟨_, ⟨mb, L, hP0, hg⟩, A2, c2, L2, hR0, hg2⟩ := id t
  have hP := hP0.fresh hB0
  have hR := hR0.fresh hB0
  have HA := Lib.hid (p1 (n := dn) (m := dm) hP hg hn hm (by omega))
  have hbx : W1.heap[w.heap.size]? = some (.cells #[.int .i64 1, .int .i64 dn, .int .i64 dm] 36 (0, 0)) := by rw [hW]; exact heap_alloc_new w _
  have hlt := (Array.getElem?_eq_some_iff.1 hbx).1
  have hcl : ∀ W : World, W.heap[w.heap.size]? = some (.cells #[.int .i64 1, .int .i64 dn, .int .i64 dm] 36 (0, 0)) → W.cell? ⟨w.heap.size, 1, none⟩ = some (.int .i64 dn) ∧ W.cell? ⟨w.heap.size, 2, none⟩ = some (.int .i64 dm) := fun W hW => ⟨cell_of_row _ _ 1 _ _ (0, 0) hW, cell_of_row _ _ 2 _ _ (0, 0) hW⟩
  have HX : Hid (∀ w', PWent B (8 * (c + 1)) W1 g mb L (x.dp0 dn dm) w' → Two B (c + 1) w' g h (x.dp0 dn dm) x ∧ Below B w w' ∧ KI w w' ∧ w'.heap[w.heap.size]? = some (.cells #[.int .i64 1, .int .i64 dn, .int .i64 dm] 36 (0, 0)) ∧ RefAt B w' h A2 c2 L2 x.k) := fun w' hw => by
    obtain ⟨t1, b1⟩ := Two.p hW1 hP hw
    have hki := (KI.fresh hB0).trans (Two.pk hP hw)
    obtain ⟨_, _, _, k, _⟩ := hw
    refine ⟨t1, (hB0.mono t.1).trans b1, hki, (k.block _ hlt (fun q => by have := hP0.lt _ q; omega)).trans hbx, hR.keep k (fun b q q2 => not_both (hP.pb b q2) (hR.rb b q)) (fun b q q2 => not_both (hP.pb b q) (.inl q2))⟩
  have HR : Hid (∀ W, Two B (c + 1) W g h (x.dp0 dn dm) x → RefAt B W h A2 c2 L2 x.k → W.heap[w.heap.size]? = some (.cells #[.int .i64 1, .int .i64 dn, .int .i64 dm] 36 (0, 0)) → Calls Try.prog 44 #[.pointer (some ⟨h, 0, none⟩), .int .i64 dn, .int .i64 dm] W fun e w' => e = .returned (.int .i64 (x.dependE dn dm)) ∧ Two B (c + 1) w' g h (x.dp0 dn dm) (x.dp0 dn dm) ∧ Below B W w' ∧ KI W w' ∧ w'.cell? ⟨w.heap.size, 1, none⟩ = some (.int .i64 dn) ∧ w'.cell? ⟨w.heap.size, 2, none⟩ = some (.int .i64 dm)) := fun W t2 r2 c3 => (rd1 (n := dn) (m := dm) r2 hg2 hO hc t2.1).mono fun e w' ⟨e1, hw⟩ => by
    obtain ⟨t1, b1⟩ := Two.r t2 r2 hw
    have hki := Two.rk r2 hw
    obtain ⟨_, _, _, _, _, k, _⟩ := hw
    exact ⟨e1, t1, b1, hki, hcl _ ((k.block _ (Array.getElem?_eq_some_iff.1 c3).1 (fun q => by have := hR0.lt _ q; omega)).trans c3)⟩
  have HE : Hid (∀ w', Two B (c + 1) w' g h (x.dp0 dn dm) (x.dp0 dn dm) → Below B w w' → KI w w' → DoSays B c w g h x ⟨1, dn, dm⟩ (.returned (.bool true)) w') := fun w' h1 h2 h3 => ⟨rfl, h1, h2, h3⟩
  have HCl := Lib.hid hcl
  have X1 : Hid (W1.cell? ⟨w.heap.size, 1, none⟩ = some (.int .i64 dn) ∧ W1.cell? ⟨w.heap.size, 2, none⟩ = some (.int .i64 dm)) := hcl _ hbx
  have X0 : Hid ((w.alloc (.cells #[.int .i64 1, .int .i64 dn, .int .i64 dm] 36)).cell? ⟨w.heap.size, 1, none⟩ = some (.int .i64 dn) ∧ (w.alloc (.cells #[.int .i64 1, .int .i64 dn, .int .i64 dm] 36)).cell? ⟨w.heap.size, 2, none⟩ = some (.int .i64 dm)) := by have := X1.out; rw [hW] at this; exact this
  rw [hW] at HA X1 HX
  generalize hst : (x.dp0 dn dm) = xa at *
  generalize hval : (x.dependE dn dm) = ee at *
  clear t hB0 hbx hlt hcl hW1 hP hP0 hW hO hR hR0 hn hm hst hval
  go_enter Try.func19, Try.ntmps19
  go_wp2
  go_region_held3 (fun W => W.cell? ⟨w.heap.size, 1, none⟩ = some (.int .i64 dn) ∧ W.cell? ⟨w.heap.size, 2, none⟩ = some (.int .i64 dm)) (first | exact X0.out | exact X1.out | exact X3.out | exact X4.out)
    (first
      | (go_at_call 30; (with_reducible refine HA.out.mono ?_); rintro e w3 ⟨rfl, hw3⟩; obtain ⟨t3, b3, k3, x3, r3⟩ := HX.out w3 hw3; have K3 := Lib.hid k3; have T3 := Lib.hid t3; have B3 := Lib.hid b3; have X3 := Lib.hid (HCl.out _ x3); have X3b := Lib.hid x3; have R3 := Lib.hid r3; clear t3 b3 x3 hw3 r3 k3)
      | (go_at_call 44; (with_reducible refine (HR.out w3 T3.out R3.out X3b.out).mono ?_); rintro e w4 ⟨rfl, t4, b4, k4, x4, y4⟩; have K4 := Lib.hid (K3.out.trans k4); have T4 := Lib.hid t4; have B4 := Lib.hid (B3.out.trans b4); have X4 := Lib.hid (And.intro x4 y4); clear t4 b4 x4 y4 k4)
      | fail)
  all_goals
    go_wp2
    go_ret
    exact HE.out _ T4.out B4.out K4.out
set_option maxRecDepth 100000 in
set_option maxHeartbeats 2000000 in
theorem do_2 (B g h : Nat) (x : Gs) (dn dm : Int) (hn : WfI dn) (hm : WfI dm) (w : World) {c : Nat} (hO : x.Ok c) (hc : c ≤ 900) (t : Two B c w g h x x) :
    Calls Try.prog 19 #[.pointer (some ⟨g, 0, none⟩), .pointer (some ⟨h, 0, none⟩), .agg #[.int .i64 2, .int .i64 dn, .int .i64 dm]] w (DoSays B c w g h x ⟨2, dn, dm⟩) := by
  obtain ⟨W1, hW⟩ : ∃ W1, W1 = (w.alloc (.cells #[.int .i64 2, .int .i64 dn, .int .i64 dm] 36)).drew := ⟨_, rfl⟩
  have hB0 : Below w.heap.size w W1 := by rw [hW]; exact ((Below.refl _ _).alloc (Nat.le_refl _) _).drew
  have hW1 := t.fresh hB0
  obtain ⟨_, ⟨mb, L, hP0, hg⟩, A2, c2, L2, hR0, hg2⟩ := id t
  have hP := hP0.fresh hB0
  have hR := hR0.fresh hB0
  have HA := Lib.hid (p2 (n := dn) hP hg hn)
  have hbx : W1.heap[w.heap.size]? = some (.cells #[.int .i64 2, .int .i64 dn, .int .i64 dm] 36 (0, 0)) := by rw [hW]; exact heap_alloc_new w _
  have hlt := (Array.getElem?_eq_some_iff.1 hbx).1
  have hcl : ∀ W : World, W.heap[w.heap.size]? = some (.cells #[.int .i64 2, .int .i64 dn, .int .i64 dm] 36 (0, 0)) → W.cell? ⟨w.heap.size, 1, none⟩ = some (.int .i64 dn) ∧ W.cell? ⟨w.heap.size, 2, none⟩ = some (.int .i64 dm) := fun W hW => ⟨cell_of_row _ _ 1 _ _ (0, 0) hW, cell_of_row _ _ 2 _ _ (0, 0) hW⟩
  have HX : Hid (∀ w', PWent B (8 * (c + 1)) W1 g mb L (x.tn0 dn 1 3 2) w' → Two B (c + 1) w' g h (x.tn0 dn 1 3 2) x ∧ Below B w w' ∧ KI w w' ∧ w'.heap[w.heap.size]? = some (.cells #[.int .i64 2, .int .i64 dn, .int .i64 dm] 36 (0, 0)) ∧ RefAt B w' h A2 c2 L2 x.k) := fun w' hw => by
    obtain ⟨t1, b1⟩ := Two.p hW1 hP hw
    have hki := (KI.fresh hB0).trans (Two.pk hP hw)
    obtain ⟨_, _, _, k, _⟩ := hw
    refine ⟨t1, (hB0.mono t.1).trans b1, hki, (k.block _ hlt (fun q => by have := hP0.lt _ q; omega)).trans hbx, hR.keep k (fun b q q2 => not_both (hP.pb b q2) (hR.rb b q)) (fun b q q2 => not_both (hP.pb b q) (.inl q2))⟩
  have HR : Hid (∀ W, Two B (c + 1) W g h (x.tn0 dn 1 3 2) x → RefAt B W h A2 c2 L2 x.k → W.heap[w.heap.size]? = some (.cells #[.int .i64 2, .int .i64 dn, .int .i64 dm] 36 (0, 0)) → Calls Try.prog 45 #[.pointer (some ⟨h, 0, none⟩), .int .i64 dn] W fun e w' => e = .returned (.int .i64 (x.turnE dn 1 3)) ∧ Two B (c + 1) w' g h (x.tn0 dn 1 3 2) (x.tn0 dn 1 3 2) ∧ Below B W w' ∧ KI W w' ∧ w'.cell? ⟨w.heap.size, 1, none⟩ = some (.int .i64 dn) ∧ w'.cell? ⟨w.heap.size, 2, none⟩ = some (.int .i64 dm)) := fun W t2 r2 c3 => (rd2 (n := dn) r2 hg2 hO).mono fun e w' ⟨e1, hw⟩ => by
    obtain ⟨t1, b1⟩ := Two.r t2 r2 hw
    have hki := Two.rk r2 hw
    obtain ⟨_, _, _, _, _, k, _⟩ := hw
    exact ⟨e1, t1, b1, hki, hcl _ ((k.block _ (Array.getElem?_eq_some_iff.1 c3).1 (fun q => by have := hR0.lt _ q; omega)).trans c3)⟩
  have HE : Hid (∀ w', Two B (c + 1) w' g h (x.tn0 dn 1 3 2) (x.tn0 dn 1 3 2) → Below B w w' → KI w w' → DoSays B c w g h x ⟨2, dn, dm⟩ (.returned (.bool true)) w') := fun w' h1 h2 h3 => ⟨rfl, h1, h2, h3⟩
  have HCl := Lib.hid hcl
  have X1 : Hid (W1.cell? ⟨w.heap.size, 1, none⟩ = some (.int .i64 dn) ∧ W1.cell? ⟨w.heap.size, 2, none⟩ = some (.int .i64 dm)) := hcl _ hbx
  have X0 : Hid ((w.alloc (.cells #[.int .i64 2, .int .i64 dn, .int .i64 dm] 36)).cell? ⟨w.heap.size, 1, none⟩ = some (.int .i64 dn) ∧ (w.alloc (.cells #[.int .i64 2, .int .i64 dn, .int .i64 dm] 36)).cell? ⟨w.heap.size, 2, none⟩ = some (.int .i64 dm)) := by have := X1.out; rw [hW] at this; exact this
  rw [hW] at HA X1 HX
  generalize hst : (x.tn0 dn 1 3 2) = xa at *
  generalize hval : (x.turnE dn 1 3) = ee at *
  clear t hB0 hbx hlt hcl hW1 hP hP0 hW hO hR hR0 hn hm hst hval
  go_enter Try.func19, Try.ntmps19
  go_wp2
  go_region_held3 (fun W => W.cell? ⟨w.heap.size, 1, none⟩ = some (.int .i64 dn) ∧ W.cell? ⟨w.heap.size, 2, none⟩ = some (.int .i64 dm)) (first | exact X0.out | exact X1.out | exact X3.out | exact X4.out)
    (first
      | (go_at_call 21; (with_reducible refine HA.out.mono ?_); rintro e w3 ⟨rfl, hw3⟩; obtain ⟨t3, b3, k3, x3, r3⟩ := HX.out w3 hw3; have K3 := Lib.hid k3; have T3 := Lib.hid t3; have B3 := Lib.hid b3; have X3 := Lib.hid (HCl.out _ x3); have X3b := Lib.hid x3; have R3 := Lib.hid r3; clear t3 b3 x3 hw3 r3 k3)
      | (go_at_call 45; (with_reducible refine (HR.out w3 T3.out R3.out X3b.out).mono ?_); rintro e w4 ⟨rfl, t4, b4, k4, x4, y4⟩; have K4 := Lib.hid (K3.out.trans k4); have T4 := Lib.hid t4; have B4 := Lib.hid (B3.out.trans b4); have X4 := Lib.hid (And.intro x4 y4); clear t4 b4 x4 y4 k4)
      | fail)
  all_goals
    go_wp2
    go_ret
    exact HE.out _ T4.out B4.out K4.out
set_option maxRecDepth 100000 in
set_option maxHeartbeats 2000000 in
theorem do_3 (B g h : Nat) (x : Gs) (dn dm : Int) (hn : WfI dn) (hm : WfI dm) (w : World) {c : Nat} (hO : x.Ok c) (hc : c ≤ 900) (t : Two B c w g h x x) :
    Calls Try.prog 19 #[.pointer (some ⟨g, 0, none⟩), .pointer (some ⟨h, 0, none⟩), .agg #[.int .i64 3, .int .i64 dn, .int .i64 dm]] w (DoSays B c w g h x ⟨3, dn, dm⟩) := by
  obtain ⟨W1, hW⟩ : ∃ W1, W1 = (w.alloc (.cells #[.int .i64 3, .int .i64 dn, .int .i64 dm] 36)).drew := ⟨_, rfl⟩
  have hB0 : Below w.heap.size w W1 := by rw [hW]; exact ((Below.refl _ _).alloc (Nat.le_refl _) _).drew
  have hW1 := t.fresh hB0
  obtain ⟨_, ⟨mb, L, hP0, hg⟩, A2, c2, L2, hR0, hg2⟩ := id t
  have hP := hP0.fresh hB0
  have hR := hR0.fresh hB0
  have HA := Lib.hid (p3 (n := dn) hP hg hn)
  have hbx : W1.heap[w.heap.size]? = some (.cells #[.int .i64 3, .int .i64 dn, .int .i64 dm] 36 (0, 0)) := by rw [hW]; exact heap_alloc_new w _
  have hlt := (Array.getElem?_eq_some_iff.1 hbx).1
  have hcl : ∀ W : World, W.heap[w.heap.size]? = some (.cells #[.int .i64 3, .int .i64 dn, .int .i64 dm] 36 (0, 0)) → W.cell? ⟨w.heap.size, 1, none⟩ = some (.int .i64 dn) ∧ W.cell? ⟨w.heap.size, 2, none⟩ = some (.int .i64 dm) := fun W hW => ⟨cell_of_row _ _ 1 _ _ (0, 0) hW, cell_of_row _ _ 2 _ _ (0, 0) hW⟩
  have HX : Hid (∀ w', PWent B (8 * (c + 1)) W1 g mb L (x.tn0 dn 2 2 3) w' → Two B (c + 1) w' g h (x.tn0 dn 2 2 3) x ∧ Below B w w' ∧ KI w w' ∧ w'.heap[w.heap.size]? = some (.cells #[.int .i64 3, .int .i64 dn, .int .i64 dm] 36 (0, 0)) ∧ RefAt B w' h A2 c2 L2 x.k) := fun w' hw => by
    obtain ⟨t1, b1⟩ := Two.p hW1 hP hw
    have hki := (KI.fresh hB0).trans (Two.pk hP hw)
    obtain ⟨_, _, _, k, _⟩ := hw
    refine ⟨t1, (hB0.mono t.1).trans b1, hki, (k.block _ hlt (fun q => by have := hP0.lt _ q; omega)).trans hbx, hR.keep k (fun b q q2 => not_both (hP.pb b q2) (hR.rb b q)) (fun b q q2 => not_both (hP.pb b q) (.inl q2))⟩
  have HR : Hid (∀ W, Two B (c + 1) W g h (x.tn0 dn 2 2 3) x → RefAt B W h A2 c2 L2 x.k → W.heap[w.heap.size]? = some (.cells #[.int .i64 3, .int .i64 dn, .int .i64 dm] 36 (0, 0)) → Calls Try.prog 46 #[.pointer (some ⟨h, 0, none⟩), .int .i64 dn] W fun e w' => e = .returned (.int .i64 (x.turnE dn 2 2)) ∧ Two B (c + 1) w' g h (x.tn0 dn 2 2 3) (x.tn0 dn 2 2 3) ∧ Below B W w' ∧ KI W w' ∧ w'.cell? ⟨w.heap.size, 1, none⟩ = some (.int .i64 dn) ∧ w'.cell? ⟨w.heap.size, 2, none⟩ = some (.int .i64 dm)) := fun W t2 r2 c3 => (rd3 (n := dn) r2 hg2 hO).mono fun e w' ⟨e1, hw⟩ => by
    obtain ⟨t1, b1⟩ := Two.r t2 r2 hw
    have hki := Two.rk r2 hw
    obtain ⟨_, _, _, _, _, k, _⟩ := hw
    exact ⟨e1, t1, b1, hki, hcl _ ((k.block _ (Array.getElem?_eq_some_iff.1 c3).1 (fun q => by have := hR0.lt _ q; omega)).trans c3)⟩
  have HE : Hid (∀ w', Two B (c + 1) w' g h (x.tn0 dn 2 2 3) (x.tn0 dn 2 2 3) → Below B w w' → KI w w' → DoSays B c w g h x ⟨3, dn, dm⟩ (.returned (.bool true)) w') := fun w' h1 h2 h3 => ⟨rfl, h1, h2, h3⟩
  have HCl := Lib.hid hcl
  have X1 : Hid (W1.cell? ⟨w.heap.size, 1, none⟩ = some (.int .i64 dn) ∧ W1.cell? ⟨w.heap.size, 2, none⟩ = some (.int .i64 dm)) := hcl _ hbx
  have X0 : Hid ((w.alloc (.cells #[.int .i64 3, .int .i64 dn, .int .i64 dm] 36)).cell? ⟨w.heap.size, 1, none⟩ = some (.int .i64 dn) ∧ (w.alloc (.cells #[.int .i64 3, .int .i64 dn, .int .i64 dm] 36)).cell? ⟨w.heap.size, 2, none⟩ = some (.int .i64 dm)) := by have := X1.out; rw [hW] at this; exact this
  rw [hW] at HA X1 HX
  generalize hst : (x.tn0 dn 2 2 3) = xa at *
  generalize hval : (x.turnE dn 2 2) = ee at *
  clear t hB0 hbx hlt hcl hW1 hP hP0 hW hO hR hR0 hn hm hst hval
  go_enter Try.func19, Try.ntmps19
  go_wp2
  go_region_held3 (fun W => W.cell? ⟨w.heap.size, 1, none⟩ = some (.int .i64 dn) ∧ W.cell? ⟨w.heap.size, 2, none⟩ = some (.int .i64 dm)) (first | exact X0.out | exact X1.out | exact X3.out | exact X4.out)
    (first
      | (go_at_call 31; (with_reducible refine HA.out.mono ?_); rintro e w3 ⟨rfl, hw3⟩; obtain ⟨t3, b3, k3, x3, r3⟩ := HX.out w3 hw3; have K3 := Lib.hid k3; have T3 := Lib.hid t3; have B3 := Lib.hid b3; have X3 := Lib.hid (HCl.out _ x3); have X3b := Lib.hid x3; have R3 := Lib.hid r3; clear t3 b3 x3 hw3 r3 k3)
      | (go_at_call 46; (with_reducible refine (HR.out w3 T3.out R3.out X3b.out).mono ?_); rintro e w4 ⟨rfl, t4, b4, k4, x4, y4⟩; have K4 := Lib.hid (K3.out.trans k4); have T4 := Lib.hid t4; have B4 := Lib.hid (B3.out.trans b4); have X4 := Lib.hid (And.intro x4 y4); clear t4 b4 x4 y4 k4)
      | fail)
  all_goals
    go_wp2
    go_ret
    exact HE.out _ T4.out B4.out K4.out
set_option maxRecDepth 100000 in
set_option maxHeartbeats 2000000 in
theorem do_4 (B g h : Nat) (x : Gs) (dn dm : Int) (hn : WfI dn) (hm : WfI dm) (w : World) {c : Nat} (hO : x.Ok c) (hc : c ≤ 900) (t : Two B c w g h x x) :
    Calls Try.prog 19 #[.pointer (some ⟨g, 0, none⟩), .pointer (some ⟨h, 0, none⟩), .agg #[.int .i64 4, .int .i64 dn, .int .i64 dm]] w (DoSays B c w g h x ⟨4, dn, dm⟩) := by
  obtain ⟨W1, hW⟩ : ∃ W1, W1 = (w.alloc (.cells #[.int .i64 4, .int .i64 dn, .int .i64 dm] 36)).drew := ⟨_, rfl⟩
  have hB0 : Below w.heap.size w W1 := by rw [hW]; exact ((Below.refl _ _).alloc (Nat.le_refl _) _).drew
  have hW1 := t.fresh hB0
  obtain ⟨_, ⟨mb, L, hP0, hg⟩, A2, c2, L2, hR0, hg2⟩ := id t
  have hP := hP0.fresh hB0
  have hR := hR0.fresh hB0
  have HA := Lib.hid (p4 (n := dn) hP hg hn)
  have hbx : W1.heap[w.heap.size]? = some (.cells #[.int .i64 4, .int .i64 dn, .int .i64 dm] 36 (0, 0)) := by rw [hW]; exact heap_alloc_new w _
  have hlt := (Array.getElem?_eq_some_iff.1 hbx).1
  have hcl : ∀ W : World, W.heap[w.heap.size]? = some (.cells #[.int .i64 4, .int .i64 dn, .int .i64 dm] 36 (0, 0)) → W.cell? ⟨w.heap.size, 1, none⟩ = some (.int .i64 dn) ∧ W.cell? ⟨w.heap.size, 2, none⟩ = some (.int .i64 dm) := fun W hW => ⟨cell_of_row _ _ 1 _ _ (0, 0) hW, cell_of_row _ _ 2 _ _ (0, 0) hW⟩
  have HX : Hid (∀ w', PWent B (8 * (c + 1)) W1 g mb L (x.tn0 dn 1 3 4) w' → Two B (c + 1) w' g h (x.tn0 dn 1 3 4) x ∧ Below B w w' ∧ KI w w' ∧ w'.heap[w.heap.size]? = some (.cells #[.int .i64 4, .int .i64 dn, .int .i64 dm] 36 (0, 0)) ∧ RefAt B w' h A2 c2 L2 x.k) := fun w' hw => by
    obtain ⟨t1, b1⟩ := Two.p hW1 hP hw
    have hki := (KI.fresh hB0).trans (Two.pk hP hw)
    obtain ⟨_, _, _, k, _⟩ := hw
    refine ⟨t1, (hB0.mono t.1).trans b1, hki, (k.block _ hlt (fun q => by have := hP0.lt _ q; omega)).trans hbx, hR.keep k (fun b q q2 => not_both (hP.pb b q2) (hR.rb b q)) (fun b q q2 => not_both (hP.pb b q) (.inl q2))⟩
  have HR : Hid (∀ W, Two B (c + 1) W g h (x.tn0 dn 1 3 4) x → RefAt B W h A2 c2 L2 x.k → W.heap[w.heap.size]? = some (.cells #[.int .i64 4, .int .i64 dn, .int .i64 dm] 36 (0, 0)) → Calls Try.prog 47 #[.pointer (some ⟨h, 0, none⟩), .int .i64 dn] W fun e w' => e = .returned (.int .i64 (x.turnE dn 1 3)) ∧ Two B (c + 1) w' g h (x.tn0 dn 1 3 4) (x.tn0 dn 1 3 4) ∧ Below B W w' ∧ KI W w' ∧ w'.cell? ⟨w.heap.size, 1, none⟩ = some (.int .i64 dn) ∧ w'.cell? ⟨w.heap.size, 2, none⟩ = some (.int .i64 dm)) := fun W t2 r2 c3 => (rd4 (n := dn) r2 hg2 hO).mono fun e w' ⟨e1, hw⟩ => by
    obtain ⟨t1, b1⟩ := Two.r t2 r2 hw
    have hki := Two.rk r2 hw
    obtain ⟨_, _, _, _, _, k, _⟩ := hw
    exact ⟨e1, t1, b1, hki, hcl _ ((k.block _ (Array.getElem?_eq_some_iff.1 c3).1 (fun q => by have := hR0.lt _ q; omega)).trans c3)⟩
  have HE : Hid (∀ w', Two B (c + 1) w' g h (x.tn0 dn 1 3 4) (x.tn0 dn 1 3 4) → Below B w w' → KI w w' → DoSays B c w g h x ⟨4, dn, dm⟩ (.returned (.bool true)) w') := fun w' h1 h2 h3 => ⟨rfl, h1, h2, h3⟩
  have HCl := Lib.hid hcl
  have X1 : Hid (W1.cell? ⟨w.heap.size, 1, none⟩ = some (.int .i64 dn) ∧ W1.cell? ⟨w.heap.size, 2, none⟩ = some (.int .i64 dm)) := hcl _ hbx
  have X0 : Hid ((w.alloc (.cells #[.int .i64 4, .int .i64 dn, .int .i64 dm] 36)).cell? ⟨w.heap.size, 1, none⟩ = some (.int .i64 dn) ∧ (w.alloc (.cells #[.int .i64 4, .int .i64 dn, .int .i64 dm] 36)).cell? ⟨w.heap.size, 2, none⟩ = some (.int .i64 dm)) := by have := X1.out; rw [hW] at this; exact this
  rw [hW] at HA X1 HX
  generalize hst : (x.tn0 dn 1 3 4) = xa at *
  generalize hval : (x.turnE dn 1 3) = ee at *
  clear t hB0 hbx hlt hcl hW1 hP hP0 hW hO hR hR0 hn hm hst hval
  go_enter Try.func19, Try.ntmps19
  go_wp2
  go_region_held3 (fun W => W.cell? ⟨w.heap.size, 1, none⟩ = some (.int .i64 dn) ∧ W.cell? ⟨w.heap.size, 2, none⟩ = some (.int .i64 dm)) (first | exact X0.out | exact X1.out | exact X3.out | exact X4.out)
    (first
      | (go_at_call 22; (with_reducible refine HA.out.mono ?_); rintro e w3 ⟨rfl, hw3⟩; obtain ⟨t3, b3, k3, x3, r3⟩ := HX.out w3 hw3; have K3 := Lib.hid k3; have T3 := Lib.hid t3; have B3 := Lib.hid b3; have X3 := Lib.hid (HCl.out _ x3); have X3b := Lib.hid x3; have R3 := Lib.hid r3; clear t3 b3 x3 hw3 r3 k3)
      | (go_at_call 47; (with_reducible refine (HR.out w3 T3.out R3.out X3b.out).mono ?_); rintro e w4 ⟨rfl, t4, b4, k4, x4, y4⟩; have K4 := Lib.hid (K3.out.trans k4); have T4 := Lib.hid t4; have B4 := Lib.hid (B3.out.trans b4); have X4 := Lib.hid (And.intro x4 y4); clear t4 b4 x4 y4 k4)
      | fail)
  all_goals
    go_wp2
    go_ret
    exact HE.out _ T4.out B4.out K4.out
set_option maxRecDepth 100000 in
set_option maxHeartbeats 2000000 in
theorem do_5 (B g h : Nat) (x : Gs) (dn dm : Int) (hn : WfI dn) (hm : WfI dm) (w : World) {c : Nat} (hO : x.Ok c) (hc : c ≤ 900) (t : Two B c w g h x x) :
    Calls Try.prog 19 #[.pointer (some ⟨g, 0, none⟩), .pointer (some ⟨h, 0, none⟩), .agg #[.int .i64 5, .int .i64 dn, .int .i64 dm]] w (DoSays B c w g h x ⟨5, dn, dm⟩) := by
  obtain ⟨W1, hW⟩ : ∃ W1, W1 = (w.alloc (.cells #[.int .i64 5, .int .i64 dn, .int .i64 dm] 36)).drew := ⟨_, rfl⟩
  have hB0 : Below w.heap.size w W1 := by rw [hW]; exact ((Below.refl _ _).alloc (Nat.le_refl _) _).drew
  have hW1 := t.fresh hB0
  obtain ⟨_, ⟨mb, L, hP0, hg⟩, A2, c2, L2, hR0, hg2⟩ := id t
  have hP := hP0.fresh hB0
  have hR := hR0.fresh hB0
  have HA := Lib.hid (p5 (n := dn) hP hg hn)
  have hbx : W1.heap[w.heap.size]? = some (.cells #[.int .i64 5, .int .i64 dn, .int .i64 dm] 36 (0, 0)) := by rw [hW]; exact heap_alloc_new w _
  have hlt := (Array.getElem?_eq_some_iff.1 hbx).1
  have hcl : ∀ W : World, W.heap[w.heap.size]? = some (.cells #[.int .i64 5, .int .i64 dn, .int .i64 dm] 36 (0, 0)) → W.cell? ⟨w.heap.size, 1, none⟩ = some (.int .i64 dn) ∧ W.cell? ⟨w.heap.size, 2, none⟩ = some (.int .i64 dm) := fun W hW => ⟨cell_of_row _ _ 1 _ _ (0, 0) hW, cell_of_row _ _ 2 _ _ (0, 0) hW⟩
  have HX : Hid (∀ w', PWent B (8 * (c + 1)) W1 g mb L (x.ab0 dn) w' → Two B (c + 1) w' g h (x.ab0 dn) x ∧ Below B w w' ∧ KI w w' ∧ w'.heap[w.heap.size]? = some (.cells #[.int .i64 5, .int .i64 dn, .int .i64 dm] 36 (0, 0)) ∧ RefAt B w' h A2 c2 L2 x.k) := fun w' hw => by
    obtain ⟨t1, b1⟩ := Two.p hW1 hP hw
    have hki := (KI.fresh hB0).trans (Two.pk hP hw)
    obtain ⟨_, _, _, k, _⟩ := hw
    refine ⟨t1, (hB0.mono t.1).trans b1, hki, (k.block _ hlt (fun q => by have := hP0.lt _ q; omega)).trans hbx, hR.keep k (fun b q q2 => not_both (hP.pb b q2) (hR.rb b q)) (fun b q q2 => not_both (hP.pb b q) (.inl q2))⟩
  have HR : Hid (∀ W, Two B (c + 1) W g h (x.ab0 dn) x → RefAt B W h A2 c2 L2 x.k → W.heap[w.heap.size]? = some (.cells #[.int .i64 5, .int .i64 dn, .int .i64 dm] 36 (0, 0)) → Calls Try.prog 48 #[.pointer (some ⟨h, 0, none⟩), .int .i64 dn] W fun e w' => e = .returned (.int .i64 (x.abandonE dn)) ∧ Two B (c + 1) w' g h (x.ab0 dn) (x.ab0 dn) ∧ Below B W w' ∧ KI W w' ∧ w'.cell? ⟨w.heap.size, 1, none⟩ = some (.int .i64 dn) ∧ w'.cell? ⟨w.heap.size, 2, none⟩ = some (.int .i64 dm)) := fun W t2 r2 c3 => (rd5 (n := dn) r2 hg2 hO hc t2.1).mono fun e w' ⟨e1, hw⟩ => by
    obtain ⟨t1, b1⟩ := Two.r t2 r2 hw
    have hki := Two.rk r2 hw
    obtain ⟨_, _, _, _, _, k, _⟩ := hw
    exact ⟨e1, t1, b1, hki, hcl _ ((k.block _ (Array.getElem?_eq_some_iff.1 c3).1 (fun q => by have := hR0.lt _ q; omega)).trans c3)⟩
  have HE : Hid (∀ w', Two B (c + 1) w' g h (x.ab0 dn) (x.ab0 dn) → Below B w w' → KI w w' → DoSays B c w g h x ⟨5, dn, dm⟩ (.returned (.bool true)) w') := fun w' h1 h2 h3 => ⟨rfl, h1, h2, h3⟩
  have HCl := Lib.hid hcl
  have X1 : Hid (W1.cell? ⟨w.heap.size, 1, none⟩ = some (.int .i64 dn) ∧ W1.cell? ⟨w.heap.size, 2, none⟩ = some (.int .i64 dm)) := hcl _ hbx
  have X0 : Hid ((w.alloc (.cells #[.int .i64 5, .int .i64 dn, .int .i64 dm] 36)).cell? ⟨w.heap.size, 1, none⟩ = some (.int .i64 dn) ∧ (w.alloc (.cells #[.int .i64 5, .int .i64 dn, .int .i64 dm] 36)).cell? ⟨w.heap.size, 2, none⟩ = some (.int .i64 dm)) := by have := X1.out; rw [hW] at this; exact this
  rw [hW] at HA X1 HX
  generalize hst : (x.ab0 dn) = xa at *
  generalize hval : (x.abandonE dn) = ee at *
  clear t hB0 hbx hlt hcl hW1 hP hP0 hW hO hR hR0 hn hm hst hval
  go_enter Try.func19, Try.ntmps19
  go_wp2
  go_region_held3 (fun W => W.cell? ⟨w.heap.size, 1, none⟩ = some (.int .i64 dn) ∧ W.cell? ⟨w.heap.size, 2, none⟩ = some (.int .i64 dm)) (first | exact X0.out | exact X1.out | exact X3.out | exact X4.out)
    (first
      | (go_at_call 28; (with_reducible refine HA.out.mono ?_); rintro e w3 ⟨rfl, hw3⟩; obtain ⟨t3, b3, k3, x3, r3⟩ := HX.out w3 hw3; have K3 := Lib.hid k3; have T3 := Lib.hid t3; have B3 := Lib.hid b3; have X3 := Lib.hid (HCl.out _ x3); have X3b := Lib.hid x3; have R3 := Lib.hid r3; clear t3 b3 x3 hw3 r3 k3)
      | (go_at_call 48; (with_reducible refine (HR.out w3 T3.out R3.out X3b.out).mono ?_); rintro e w4 ⟨rfl, t4, b4, k4, x4, y4⟩; have K4 := Lib.hid (K3.out.trans k4); have T4 := Lib.hid t4; have B4 := Lib.hid (B3.out.trans b4); have X4 := Lib.hid (And.intro x4 y4); clear t4 b4 x4 y4 k4)
      | fail)
  all_goals
    go_wp2
    go_ret
    exact HE.out _ T4.out B4.out K4.out
set_option maxRecDepth 100000 in
set_option maxHeartbeats 2000000 in
theorem do_6 (B g h : Nat) (x : Gs) (dn dm : Int) (hn : WfI dn) (hm : WfI dm) (w : World) {c : Nat} (hO : x.Ok c) (hc : c ≤ 900) (t : Two B c w g h x x) :
    Calls Try.prog 19 #[.pointer (some ⟨g, 0, none⟩), .pointer (some ⟨h, 0, none⟩), .agg #[.int .i64 6, .int .i64 dn, .int .i64 dm]] w (DoSays B c w g h x ⟨6, dn, dm⟩) := by
  obtain ⟨W1, hW⟩ : ∃ W1, W1 = (w.alloc (.cells #[.int .i64 6, .int .i64 dn, .int .i64 dm] 36)).drew := ⟨_, rfl⟩
  have hB0 : Below w.heap.size w W1 := by rw [hW]; exact ((Below.refl _ _).alloc (Nat.le_refl _) _).drew
  have hW1 := t.fresh hB0
  obtain ⟨_, ⟨mb, L, hP0, hg⟩, A2, c2, L2, hR0, hg2⟩ := id t
  have hP := hP0.fresh hB0
  have hR := hR0.fresh hB0
  have HA := Lib.hid (p6 (m := dm) hP hg hO (by omega) hm)
  have hbx : W1.heap[w.heap.size]? = some (.cells #[.int .i64 6, .int .i64 dn, .int .i64 dm] 36 (0, 0)) := by rw [hW]; exact heap_alloc_new w _
  have hlt := (Array.getElem?_eq_some_iff.1 hbx).1
  have hcl : ∀ W : World, W.heap[w.heap.size]? = some (.cells #[.int .i64 6, .int .i64 dn, .int .i64 dm] 36 (0, 0)) → W.cell? ⟨w.heap.size, 1, none⟩ = some (.int .i64 dn) ∧ W.cell? ⟨w.heap.size, 2, none⟩ = some (.int .i64 dm) := fun W hW => ⟨cell_of_row _ _ 1 _ _ (0, 0) hW, cell_of_row _ _ 2 _ _ (0, 0) hW⟩
  have HX : Hid (∀ w', PWent B (8 * (c + 1)) W1 g mb L (x.tk0 dm) w' → Two B (c + 1) w' g h (x.tk0 dm) x ∧ Below B w w' ∧ KI w w' ∧ w'.heap[w.heap.size]? = some (.cells #[.int .i64 6, .int .i64 dn, .int .i64 dm] 36 (0, 0)) ∧ RefAt B w' h A2 c2 L2 x.k) := fun w' hw => by
    obtain ⟨t1, b1⟩ := Two.p hW1 hP hw
    have hki := (KI.fresh hB0).trans (Two.pk hP hw)
    obtain ⟨_, _, _, k, _⟩ := hw
    refine ⟨t1, (hB0.mono t.1).trans b1, hki, (k.block _ hlt (fun q => by have := hP0.lt _ q; omega)).trans hbx, hR.keep k (fun b q q2 => not_both (hP.pb b q2) (hR.rb b q)) (fun b q q2 => not_both (hP.pb b q) (.inl q2))⟩
  have HR : Hid (∀ W, Two B (c + 1) W g h (x.tk0 dm) x → RefAt B W h A2 c2 L2 x.k → W.heap[w.heap.size]? = some (.cells #[.int .i64 6, .int .i64 dn, .int .i64 dm] 36 (0, 0)) → Calls Try.prog 49 #[.pointer (some ⟨h, 0, none⟩), .int .i64 dm] W fun e w' => e = .returned (.int .i64 (Gs.tkE dm)) ∧ Two B (c + 1) w' g h (x.tk0 dm) (x.tk0 dm) ∧ Below B W w' ∧ KI W w' ∧ w'.cell? ⟨w.heap.size, 1, none⟩ = some (.int .i64 dn) ∧ w'.cell? ⟨w.heap.size, 2, none⟩ = some (.int .i64 dm)) := fun W t2 r2 c3 => (rd6 (m := dm) r2 hg2 hO hc t2.1).mono fun e w' ⟨e1, hw⟩ => by
    obtain ⟨t1, b1⟩ := Two.r t2 r2 hw
    have hki := Two.rk r2 hw
    obtain ⟨_, _, _, _, _, k, _⟩ := hw
    exact ⟨e1, t1, b1, hki, hcl _ ((k.block _ (Array.getElem?_eq_some_iff.1 c3).1 (fun q => by have := hR0.lt _ q; omega)).trans c3)⟩
  have HE : Hid (∀ w', Two B (c + 1) w' g h (x.tk0 dm) (x.tk0 dm) → Below B w w' → KI w w' → DoSays B c w g h x ⟨6, dn, dm⟩ (.returned (.bool true)) w') := fun w' h1 h2 h3 => ⟨rfl, h1, h2, h3⟩
  have HCl := Lib.hid hcl
  have X1 : Hid (W1.cell? ⟨w.heap.size, 1, none⟩ = some (.int .i64 dn) ∧ W1.cell? ⟨w.heap.size, 2, none⟩ = some (.int .i64 dm)) := hcl _ hbx
  have X0 : Hid ((w.alloc (.cells #[.int .i64 6, .int .i64 dn, .int .i64 dm] 36)).cell? ⟨w.heap.size, 1, none⟩ = some (.int .i64 dn) ∧ (w.alloc (.cells #[.int .i64 6, .int .i64 dn, .int .i64 dm] 36)).cell? ⟨w.heap.size, 2, none⟩ = some (.int .i64 dm)) := by have := X1.out; rw [hW] at this; exact this
  rw [hW] at HA X1 HX
  generalize hst : (x.tk0 dm) = xa at *
  generalize hval : (Gs.tkE dm) = ee at *
  clear t hB0 hbx hlt hcl hW1 hP hP0 hW hO hR hR0 hn hm hst hval
  go_enter Try.func19, Try.ntmps19
  go_wp2
  go_region_held3 (fun W => W.cell? ⟨w.heap.size, 1, none⟩ = some (.int .i64 dn) ∧ W.cell? ⟨w.heap.size, 2, none⟩ = some (.int .i64 dm)) (first | exact X0.out | exact X1.out | exact X3.out | exact X4.out)
    (first
      | (go_at_call 24; (with_reducible refine HA.out.mono ?_); rintro e w3 ⟨rfl, hw3⟩; obtain ⟨t3, b3, k3, x3, r3⟩ := HX.out w3 hw3; have K3 := Lib.hid k3; have T3 := Lib.hid t3; have B3 := Lib.hid b3; have X3 := Lib.hid (HCl.out _ x3); have X3b := Lib.hid x3; have R3 := Lib.hid r3; clear t3 b3 x3 hw3 r3 k3)
      | (go_at_call 49; (with_reducible refine (HR.out w3 T3.out R3.out X3b.out).mono ?_); rintro e w4 ⟨rfl, t4, b4, k4, x4, y4⟩; have K4 := Lib.hid (K3.out.trans k4); have T4 := Lib.hid t4; have B4 := Lib.hid (B3.out.trans b4); have X4 := Lib.hid (And.intro x4 y4); clear t4 b4 x4 y4 k4)
      | fail)
  all_goals
    go_wp2
    go_ret
    exact HE.out _ T4.out B4.out K4.out
set_option maxRecDepth 100000 in
set_option maxHeartbeats 2000000 in
theorem do_0 (B g h : Nat) (x : Gs) (dn dm : Int) (w : World) {c : Nat} (hO : x.Ok c) (hc : c ≤ 900) (t : Two B c w g h x x) :
    Calls Try.prog 19 #[.pointer (some ⟨g, 0, none⟩), .pointer (some ⟨h, 0, none⟩), .agg #[.int .i64 0, .int .i64 dn, .int .i64 dm]] w (DoSays B c w g h x ⟨0, dn, dm⟩) := by
  have hB1 : Below w.heap.size w (w.alloc (.cells #[.int .i64 0, .int .i64 dn, .int .i64 dm] 36)) := (Below.refl _ _).alloc (Nat.le_refl _) _
  have hT := t.fresh hB1
  have hbB := hB1.mono t.1
  have HA : Hid (Calls Try.prog 27 #[.pointer (some ⟨g, 0, none⟩)] (w.alloc (.cells #[.int .i64 0, .int .i64 dn, .int .i64 dm] 36)) fun e w' => e = .returned x.mkV ∧ Two B (c + 1) w' g h x.mk0 x ∧ Below B w w' ∧ KI w w') := by
    obtain ⟨_, ⟨mb, L, hP, hg⟩, _⟩ := id hT
    exact (p0 hP hg hO (by omega) hT.1).mono fun e w' ⟨e1, e2⟩ => ⟨e1, (Two.p hT hP e2).1, hbB.trans (Two.p hT hP e2).2, (KI.fresh hB1).trans (Two.pk hP e2)⟩
  have HR : Hid (∀ W, Two B (c + 1) W g h x.mk0 x → Below B w W → KI w W → Calls Try.prog 43 #[.pointer (some ⟨h, 0, none⟩)] W fun e w' => e = .returned x.mkV ∧ Two B (c + 1) w' g h x.mk0 x.mk0 ∧ Below B w w' ∧ KI w w') := fun W t2 hb hk => by
    obtain ⟨_, _, A, q, L, hR, hg⟩ := id t2
    exact (rd0 hR hg hO hc t2.1).mono fun e w' ⟨e1, e2⟩ => ⟨e1, (Two.r t2 hR e2).1, hb.trans (Two.r t2 hR e2).2, hk.trans (Two.rk hR e2)⟩
  have HE : Hid (∀ w', Two B (c + 1) w' g h x.mk0 x.mk0 → Below B w w' → KI w w' → DoSays B c w g h x ⟨0, dn, dm⟩ (.returned (.bool true)) w') := fun w' h1 h2 h3 => ⟨rfl, h1, h2, h3⟩
  have hv : ∃ a b, x.mkV = .tuple #[.int .i64 a, .int .i64 b] := by unfold Gs.mkV; split <;> exact ⟨_, _, rfl⟩
  obtain ⟨va, vb, hv⟩ := hv
  rw [hv] at HA HR
  generalize x.mk0 = xa at *
  clear t hB1 hT hbB hO hv
  go_enter Try.func19, Try.ntmps19
  go_wp2_with (first
    | (go_at_call 27; refine HA.out.mono ?_; rintro e w3 ⟨rfl, t3, b3, k3⟩; have T3 := Lib.hid t3; have B3 := Lib.hid b3; have K3 := Lib.hid k3; clear t3 b3 k3)
    | (go_at_call 43; refine (HR.out w3 T3.out B3.out K3.out).mono ?_; rintro e w4 ⟨rfl, t4, b4, k4⟩; have T4 := Lib.hid t4; have B4 := Lib.hid b4; have K4 := Lib.hid k4; clear t4 b4 k4))
  go_ret
  exact HE.out _ T4.out B4.out K4.out
theorem do_none (B g h : Nat) (x : Gs) (dk dn dm : Int) (hd : dk ≠ 0 ∧ dk ≠ 1 ∧ dk ≠ 2 ∧ dk ≠ 3 ∧ dk ≠ 4 ∧ dk ≠ 5 ∧ dk ≠ 6) (w : World) {c : Nat} (t : Two B c w g h x x) :
    Calls Try.prog 19 #[.pointer (some ⟨g, 0, none⟩), .pointer (some ⟨h, 0, none⟩), .agg #[.int .i64 dk, .int .i64 dn, .int .i64 dm]] w (DoSays B c w g h x ⟨dk, dn, dm⟩) := by
  have hB1 : Below w.heap.size w (w.alloc (.cells #[.int .i64 dk, .int .i64 dn, .int .i64 dm] 36)) := (Below.refl _ _).alloc (Nat.le_refl _) _
  have HE : Hid (DoSays B c w g h x ⟨dk, dn, dm⟩ (.returned (.bool true)) (w.alloc (.cells #[.int .i64 dk, .int .i64 dn, .int .i64 dm] 36))) := ⟨rfl, by
    have e : x.deed ⟨dk, dn, dm⟩ = x := by unfold Gs.deed; rw [if_neg hd.1, if_neg hd.2.1, if_neg hd.2.2.1, if_neg hd.2.2.2.1, if_neg hd.2.2.2.2.1, if_neg hd.2.2.2.2.2.1, if_neg hd.2.2.2.2.2.2]
    rw [e]
    obtain ⟨h0, ⟨mb, L, h1, h3⟩, rest⟩ := t.fresh hB1
    exact ⟨h0, ⟨mb, L, h1.more (by omega), h3⟩, rest⟩, hB1.mono t.1, KI.fresh hB1⟩
  have e0 : (dk == 0) = false := by simpa using hd.1
  have e1 : (dk == 1) = false := by simpa using hd.2.1
  have e2 : (dk == 2) = false := by simpa using hd.2.2.1
  have e3 : (dk == 3) = false := by simpa using hd.2.2.2.1
  have e4 : (dk == 4) = false := by simpa using hd.2.2.2.2.1
  have e5 : (dk == 5) = false := by simpa using hd.2.2.2.2.2.1
  have e6 : (dk == 6) = false := by simpa using hd.2.2.2.2.2.2
  clear hd t hB1
  go_enter Try.func19, Try.ntmps19
  go_wp2
  go_ret
  exact HE.out
theorem do_any (B g h : Nat) (x : Gs) (d : Dd) (hn : WfI d.n) (hm : WfI d.m) (w : World) {c : Nat} (hO : x.Ok c) (hc : c ≤ 900) (t : Two B c w g h x x) :
    Calls Try.prog 19 #[.pointer (some ⟨g, 0, none⟩), .pointer (some ⟨h, 0, none⟩), d.v] w (DoSays B c w g h x d) := by
  obtain ⟨dk, dn, dm⟩ := d
  by_cases h0 : dk = 0
  · subst h0; exact do_0 B g h x dn dm w hO hc t
  by_cases h1 : dk = 1
  · subst h1; exact do_1 B g h x dn dm hn hm w hO hc t
  by_cases h2 : dk = 2
  · subst h2; exact do_2 B g h x dn dm hn hm w hO hc t
  by_cases h3 : dk = 3
  · subst h3; exact do_3 B g h x dn dm hn hm w hO hc t
  by_cases h4 : dk = 4
  · subst h4; exact do_4 B g h x dn dm hn hm w hO hc t
  by_cases h5 : dk = 5
  · subst h5; exact do_5 B g h x dn dm hn hm w hO hc t
  by_cases h6 : dk = 6
  · subst h6; exact do_6 B g h x dn dm hn hm w hO hc t
  · exact do_none B g h x dk dn dm ⟨h0, h1, h2, h3, h4, h5, h6⟩ w t
end Go.Proofs.Ytdndchoghhllmaa
