/- The contract of Runs. -/
import Derived.RangeFuncBox
import Derived.RangeFuncLeaves
import Derived.RangeFuncWrites
import Derived.RangeFuncFrom
import Derived.RangeFuncNested
import Derived.Shelf.RegionOpen
import Derived.Test.YtceppcmcokkkoaaE
namespace Go.Proofs.Ytceppcmcokkkoaa
open Go.RowKit Go.Shelf

attribute [local go_sem] Oper.semAt_some
theorem info51 : (Try.prog.info? 51).map (fun i => (i.zero, i.size, i.bytes)) = some (some (.agg #[.int .i64 0, .int .i64 0]), 2, 16) := by kernel_rfl

/-- the rows so far, and the bit behind the last one -/
abbrev Rowing := List (Nat × Nat) × Option Nat
def bump : List (Nat × Nat) → List (Nat × Nat)
  | [] => []
  | [(a, n)] => [(a, n + 1)]
  | r :: rs => r :: bump rs
def rowStep (s : Rowing) (i : Nat) : Rowing := (if s.2 = some i then bump s.1 else s.1 ++ [(i, 1)], some (i + 1))
def rowing (p : List Nat) : Rowing := p.foldl rowStep ([], none)
def rowsOf (p : List Nat) : List (Nat × Nat) := (rowing p).1
def behindV (s : Option Nat) : Int := match s with | none => -1 | some i => i
def rowsV (rs : List (Nat × Nat)) : List Value := rs.flatMap fun r => [.int .i64 ((r.1 : Nat) : Int), .int .i64 ((r.2 : Nat) : Int)]

theorem rowing_snoc (p : List Nat) (i : Nat) : rowing (p ++ [i]) = rowStep (rowing p) i := by simp [rowing]
theorem bump_snoc (rs : List (Nat × Nat)) (a n : Nat) : bump (rs ++ [(a, n)]) = rs ++ [(a, n + 1)] := by
  induction rs with
  | nil => rfl
  | cons r rs ih =>
    cases rs with
    | nil => simp [bump]
    | cons q rs => rw [List.cons_append, List.cons_append]; show r :: bump (q :: (rs ++ [(a, n)])) = _; rw [← List.cons_append, ih]; rfl
theorem length_bump (rs : List (Nat × Nat)) : (bump rs).length = rs.length := by
  induction rs with
  | nil => rfl
  | cons r rs ih =>
    cases rs with
    | nil => obtain ⟨a, n⟩ := r; rfl
    | cons q rs => show (r :: bump (q :: rs)).length = _; simp [ih]
theorem length_rowsV (rs : List (Nat × Nat)) : (rowsV rs).length = rs.length * 2 := by
  induction rs with
  | nil => rfl
  | cons r rs ih => simp only [rowsV, List.flatMap_cons, List.length_append, List.length_cons, List.length_nil] at ih ⊢; omega
theorem snocInd {α : Type} {P : List α → Prop} (h0 : P []) (h1 : ∀ p i, P p → P (p ++ [i])) (l : List α) : P l := by
  have h : ∀ l : List α, P l.reverse := by
    intro l
    induction l with
    | nil => exact h0
    | cons a l ih => rw [List.reverse_cons]; exact h1 _ _ ih
  have := h l.reverse
  rwa [List.reverse_reverse] at this
theorem rowing_facts (p : List Nat) : (rowing p).1.length ≤ p.length ∧ ((rowing p).2 = none ↔ p = []) ∧ (p ≠ [] → (rowing p).1 ≠ []) ∧ ∀ r ∈ (rowing p).1, r.2 ≤ p.length := by
  induction p using snocInd with
  | h0 => simp [rowing]
  | h1 p i ih =>
    obtain ⟨h1, h2, h3, h4⟩ := ih
    rw [rowing_snoc]
    unfold rowStep
    refine ⟨?_, by simp, fun _ => ?_, ?_⟩
    · dsimp only; split
      · rw [length_bump]; simp; omega
      · simp; omega
    · dsimp only; split
      · rename_i h
        have : (rowing p).1 ≠ [] := h3 (fun e => by have := h2.2 e; rw [this] at h; cases h)
        intro e
        have e2 := length_bump (rowing p).1
        rw [e] at e2
        exact this (List.eq_nil_of_length_eq_zero e2.symm)
      · simp
    · dsimp only; split
      · intro r hr
        rcases List.eq_nil_or_concat (rowing p).1 with h | ⟨q, ⟨a, n⟩, h⟩
        · rw [h] at hr; cases hr
        · rw [List.concat_eq_append] at h
          rw [h, bump_snoc] at hr
          rcases List.mem_append.1 hr with hr | hr
          · have := h4 r (by rw [h]; exact List.mem_append_left _ hr); simp; omega
          · simp only [List.mem_singleton] at hr; subst hr
            have := h4 (a, n) (by rw [h]; simp); simp at this ⊢; omega
      · intro r hr
        rcases List.mem_append.1 hr with hr | hr
        · have := h4 r hr; simp; omega
        · simp only [List.mem_singleton] at hr; subst hr; simp

theorem cells_two_new (W : World) (t : TypeId) (a b : Value) : ∀ (j : Nat) (u : Value), [a, b][j]? = some u → (W.alloc (.cells #[a, b] t)).cell? ((⟨W.heap.size, 0, none⟩ : Addr).add j) = some u := by
  intro j u hj
  have hn := World.alloc_heap_new W (.cells #[a, b] t)
  have e : ((⟨W.heap.size, 0, none⟩ : Addr).add j) = ⟨W.heap.size, j, none⟩ := by unfold Addr.add; split <;> simp_all
  rw [e]
  simp only [World.cell?, hn]
  match j, hj with
  | 0, hj => simpa using hj
  | 1, hj => simpa using hj

theorem boxed_far {W : World} {B g j : Nat} {t : TypeId} {u : Value} (h : Boxed W B t u) (hne : B ≠ g) (v : Value) : Boxed (W.setCell ⟨g, j, none⟩ v) B t u :=
  (Below.heap_setCell W ⟨g, j, none⟩ v B hne).trans h

theorem rowsV_append (a b : List (Nat × Nat)) : rowsV (a ++ b) = rowsV a ++ rowsV b := by simp [rowsV]
theorem rowsV_one (a n : Nat) : rowsV [(a, n)] = [.int .i64 ((a : Nat) : Int), .int .i64 ((n : Nat) : Int)] := rfl
theorem rowsV_last (q : List (Nat × Nat)) (a n m : Nat) : (rowsV (q ++ [(a, n)])).set (q.length * 2 + 1) (.int .i64 ((m : Nat) : Int)) = rowsV (q ++ [(a, m)]) := by
  rw [rowsV_append, rowsV_append, rowsV_one, rowsV_one, ← length_rowsV, List.set_append_right _ _ (by omega)]
  rw [show (rowsV q).length + 1 - (rowsV q).length = 1 from by omega]
  rfl
theorem rowsV_at (q : List (Nat × Nat)) (a n : Nat) : (rowsV (q ++ [(a, n)]))[q.length * 2 + 1]? = some (.int .i64 ((n : Nat) : Int)) := by
  rw [rowsV_append, rowsV_one, ← length_rowsV, List.getElem?_append_right (by omega), show (rowsV q).length + 1 - (rowsV q).length = 1 from by omega]
  rfl

theorem runs_tail {W W2 : World} {N g cap k : Nat} {X : List Value} {u s : Value} (hv2 : Boxed W2 N 49 (.slice (some ⟨g, 0, none⟩) k cap)) (hr2 : W2.ownsRow N 51 2 (.slice (some ⟨g, 0, none⟩) k cap) k X)
    (hoB : Boxed W2 (N + 1) 3 u) (hoN : Boxed W2 (N + 2) 43 s) (hk2 : KeepsOthers W W2) (hb2 : Below N W W2) (hN : N ≤ g) (j : Nat) (m y : Value) :
    KeepsOthers W ((W2.setCell ⟨g, j, none⟩ m).setCell ⟨N + 1, 0, none⟩ y).drew ∧ Below N W ((W2.setCell ⟨g, j, none⟩ m).setCell ⟨N + 1, 0, none⟩ y).drew ∧
      Boxed ((W2.setCell ⟨g, j, none⟩ m).setCell ⟨N + 1, 0, none⟩ y).drew N 49 (.slice (some ⟨g, 0, none⟩) k cap) ∧
      ((W2.setCell ⟨g, j, none⟩ m).setCell ⟨N + 1, 0, none⟩ y).drew.ownsRow N 51 2 (.slice (some ⟨g, 0, none⟩) k cap) k (X.set j m) ∧
      Boxed ((W2.setCell ⟨g, j, none⟩ m).setCell ⟨N + 1, 0, none⟩ y).drew (N + 1) 3 y ∧ Boxed ((W2.setCell ⟨g, j, none⟩ m).setCell ⟨N + 1, 0, none⟩ y).drew (N + 2) 43 s := by
  have n0 : N ≠ g := fun e => by have := hv2.not_row (by decide) hr2; simp [Value.ownBlock] at this; exact this e
  have n1 : N + 1 ≠ g := fun e => by have := hoB.not_row (by decide) hr2; simp [Value.ownBlock] at this; exact this e
  have n2 : N + 2 ≠ g := fun e => by have := hoN.not_row (by decide) hr2; simp [Value.ownBlock] at this; exact this e
  refine ⟨((hk2.trans (KeepsOthers.setCell _ _ _)).trans (KeepsOthers.setCell _ _ _)).trans (KeepsOthers.drew _), ?_, boxed_far (boxed_far hv2 n0 m) (by omega) y, ?_, (show Boxed _ _ _ _ from boxed_far hoB n1 m).set y, boxed_far (boxed_far hoN n2 m) (by omega) y⟩
  · exact ((hb2.setCell (p := ⟨g, j, none⟩) hN m).setCell (p := ⟨N + 1, 0, none⟩) (by simp) y).drew
  · exact ((hr2.stored j m).1.kept (grownBy_setCell' _ (N + 1) y) (.inr (by simp [Value.ownBlock]; omega))).drew

/-- what a round of Runs owes -/
def RunsRound (N : Nat) (w W : World) (sl : Value) (xs : List Bitno) (W' : World) : Prop :=
  (∀ S, KeepsFrom S W W') ∧ KeepsBox N (N + 2) W W' ∧ (∃ v, Boxed W' N 49 v ∧ W'.ownsRow N 51 2 v (rowsOf (plainB xs)).length (rowsV (rowsOf (plainB xs))) ∧ True) ∧ Boxed W' (N + 1) 3 (.int .i64 (behindV (rowing (plainB xs)).2)) ∧ Boxed W' (N + 2) 43 sl ∧ Below N w W'
theorem runs_end {N : Nat} {w W W' : World} {v sl : Value} {n : Nat} {b : Int} {X : List Value} {xs : List Bitno} (hB : Below N w W) (t1 : KeepsOthers W W') (t2 : Below N W W') (t3 : Boxed W' N 49 v)
    (t4 : W'.ownsRow N 51 2 v n X) (hX : X = rowsV (rowsOf (plainB xs))) (hn : n = (rowsOf (plainB xs)).length) (t5 : Boxed W' (N + 1) 3 (.int .i64 b)) (hb : b = behindV (rowing (plainB xs)).2) (t6 : Boxed W' (N + 2) 43 sl) (h0 : Boxed W (N + 2) 43 sl) : RunsRound N w W sl xs W' := by
  subst hX hn hb
  exact ⟨fun S => t1.from S, ⟨t2, Eq.trans (show _ = _ from t6) (show _ = _ from h0).symm⟩, ⟨_, t3, t4, trivial⟩, t5, t6, hB.trans t2⟩

set_option maxRecDepth 100000 in
set_option maxHeartbeats 2000000 in
theorem runs_in (n : Nat) (hn : 3 ≤ n) (A : Option Addr) (c : Nat) (xs : List Int) (w : World) (hxs : xs.length ≤ 1000) (hL : Bts w w.heap.size A xs) :
    CallsIn Fence.wide n Try.prog 36 #[.slice A xs.length c] w fun e W' => ∃ v, e = .returned v ∧ W'.ownsRow w.heap.size 51 2 v (rowsOf (ones xs)).length (rowsV (rowsOf (ones xs))) ∧ Below w.heap.size w W' := by
  have h1 : 1 ≤ n := by omega
  obtain ⟨i0, hi, hz0, hz1, hz2⟩ := info_parts info51
  refine callsIn_of_wp_marks Try.func36 rfl trivial ?_ rfl
  simp only [Try.ntmps36, List.size_toArray, List.length_cons, List.length_nil, Nat.reduceAdd, Nat.reduceSub, Array.replicate_succ, Array.replicate_zero, List.push_toArray, List.append_toArray, List.nil_append, List.cons_append]
  gi_wp2_with (refine ⟨trivial, ?_⟩; gi_at_call 60; refine (onesMake_in (n - 1) _ c xs.length A rfl _).mono ?_; rintro e w' ⟨rfl, rfl⟩)
  have bO := ((Boxed.new w 49 (.slice none 0 0)).alloc (.cells #[.int .i64 (-1)] 3)).alloc (.cells #[.slice A xs.length c] 43)
  have bB := (Boxed.new (w.alloc (.cells #[.slice none 0 0] 49)) 3 (.int .i64 (-1))).alloc (.cells #[.slice A xs.length c] 43)
  have bN := Boxed.new ((w.alloc (.cells #[.slice none 0 0] 49)).alloc (.cells #[.int .i64 (-1)] 3)) 43 (.slice A xs.length c)
  simp only [World.size_alloc] at bB bN
  have hB0 : Below w.heap.size w (((w.alloc (.cells #[.slice none 0 0] 49)).alloc (.cells #[.int .i64 (-1)] 3)).alloc (.cells #[.slice A xs.length c] 43)) := (((Below.refl _ w).alloc (Nat.le_refl _) _).alloc (by simp) _).alloc (by simp; omega) _
  refine wpIn_rangeFunc_ownG rfl h1 (gf := 67) (lb := #[.pointer (some ⟨w.heap.size + 2, 0, none⟩)]) rfl trivial (enters_of Try.func67 (by kernel_rfl) rfl)
    (ones_stops (n - 1) (by omega) (w.heap.size + 2) w.heap.size A c xs hxs _ (by simp) (by simp; omega) bN.cell (hL.below hB0)) KeepsBox.trans (keepsBox_b (by simp; omega) (by simp)) (Below.refl _ _) (fun _ => rfl)
    (fun pre W => (∃ v, Boxed W w.heap.size 49 v ∧ W.ownsRow w.heap.size 51 2 v (rowsOf (plainB pre)).length (rowsV (rowsOf (plainB pre))) ∧ True) ∧ Boxed W (w.heap.size + 1) 3 (.int .i64 (behindV (rowing (plainB pre)).2)) ∧ Boxed W (w.heap.size + 2) 43 (.slice A xs.length c) ∧ Below w.heap.size w W)
    (fun _ _ _ => False)
    ?own (fun _ _ _ _ _ hs _ _ => hs)
    ⟨⟨_, bO, World.ownsRow_nil _ _ _ _, trivial⟩, bB, bN, hB0⟩
    (fun x => { tmps := #[.slice A xs.length c, undef, .slice none 0 0, .pointer (some ⟨w.heap.size, 0, none⟩), .pointer (some ⟨w.heap.size + 1, 0, none⟩), .int .i64 ((x.1 : Nat) : Int), .slice A xs.length c, .func (.func 67) #[] #[.pointer (some ⟨w.heap.size + 2, 0, none⟩)], .int .i64 ((x.1 : Nat) : Int), undef, undef, undef, undef, undef, undef, undef, undef, undef, undef, undef, undef, undef, undef, undef, undef, undef, undef, undef, undef, undef], defers := [] }) ?assign ?body ?done ?stop
  case own =>
    exact OwnFrom.and (Own.from (holdsRow_own w.heap.size w.heap.size 49 51 2 (fun pre : List Bitno => (rowsOf (plainB pre)).length) (fun pre => rowsV (rowsOf (plainB pre))) (fun _ _ => True)) _)
      (OwnFrom.and (Own.from (boxed_own (w.heap.size + 1) 3 (fun pre : List Bitno => .int .i64 (behindV (rowing (plainB pre)).2))) _) (OwnFrom.and (Own.from (boxed_own (w.heap.size + 2) 43 (fun _ => _)) _) (ownFrom_below (Nat.le_refl _) (by simp; omega))))
  case assign =>
    intro l x W K hK
    gi_wp2
    exact hK
  case body =>
    rintro l pre ⟨x, hx⟩ W ⟨⟨v, hv, hrow, _⟩, hbb, hbn, hB⟩ hlt
    have hmx : Try.prog.follows .mixedOrders = true := by kernel_rfl
    have hno := length_onesTo xs xs.length
    have hlt2 : pre.length < 8000 := by unfold ones at hlt; omega
    clear hlt hno
    have hpl : plainB (pre ++ [(⟨x, hx⟩ : Bitno)]) = plainB pre ++ [x] := by simp [plainB]
    have hpn : (plainB pre).length = pre.length := by simp [plainB]
    obtain ⟨f1, f2, f3, f4⟩ := rowing_facts (plainB pre)
    have Hpl := Lib.hid hpl
    clear hpl
    obtain ⟨bv, hbv⟩ : ∃ bv, bv = behindV (rowing (plainB pre)).2 := ⟨_, rfl⟩
    rw [← hbv] at hbb
    have hc := hv.cell
    have hcb := hbb.cell
    have hfb := hbb.frozen
    have hxi : (x : Int) < 8000 := by omega
    have hk8 : (rowsOf (plainB pre)).length < 8000 := by unfold rowsOf; omega
    by_cases hfr : (rowing (plainB pre)).2 = some x
    · have hpne : plainB pre ≠ [] := fun e => by have := f2.2 e; rw [this] at hfr; cases hfr
      have hbx : bv = (x : Int) := by rw [hbv, hfr]; rfl
      subst hbx
      rcases List.eq_nil_or_concat (rowsOf (plainB pre)) with h | ⟨q, ⟨a, m⟩, h⟩
      · exact absurd h (f3 hpne)
      rw [List.concat_eq_append] at h
      have hm : m < 8000 := by
        have := f4 (a, m) (show (a, m) ∈ rowsOf (plainB pre) by rw [h]; simp)
        simp at this
        omega
      have hq8 : q.length < 8000 := by rw [h] at hk8; simp at hk8; omega
      rw [h, List.length_append, List.length_singleton] at hrow
      obtain ⟨g', cap', rfl⟩ := ownsRow_succ hrow
      have hgN := (hrow.lt g' rfl).1
      have hcc : W.cell? ⟨g', q.length * 2 + 1, none⟩ = some (.int .i64 (m : Int)) := by
        rw [hrow.cellAt _ (by omega)]
        exact rowsV_at q a m
      have hff : W.frozen? ⟨g', q.length * 2 + 1, none⟩ = false := hrow.frozenAt _
      obtain ⟨t1, t2, t3, t4, t5, t6⟩ := runs_tail hv hrow hbb hbn (KeepsOthers.refl W) (Below.refl _ W) hgN (q.length * 2 + 1) (.int .i64 ((m : Int) + 1)) (.int .i64 ((x : Int) + 1))
      have hrw : rowing (plainB (pre ++ [(⟨x, hx⟩ : Bitno)])) = (q ++ [(a, m + 1)], some (x + 1)) := by
        rw [Hpl.out, rowing_snoc]; unfold rowStep; rw [if_pos hfr]
        have h' : (rowing (plainB pre)).1 = q ++ [(a, m)] := h
        rw [h', bump_snoc]
      have hfin : (rowsV (q ++ [(a, m)])).set (q.length * 2 + 1) (.int .i64 ((m : Int) + 1)) = rowsV (rowsOf (plainB (pre ++ [(⟨x, hx⟩ : Bitno)]))) := by
        unfold rowsOf
        rw [hrw]
        exact rowsV_last _ a m (m + 1)
      have hlen : q.length + 1 = (rowsOf (plainB (pre ++ [(⟨x, hx⟩ : Bitno)]))).length := by
        unfold rowsOf; rw [hrw]; simp
      have hbe : (x : Int) + 1 = behindV (rowing (plainB (pre ++ [(⟨x, hx⟩ : Bitno)]))).2 := by
        rw [hrw]; rfl
      have HE := Lib.hid (runs_end (xs := pre ++ [(⟨x, hx⟩ : Bitno)]) hB t1 t2 t3 t4 hfin hlen t5 hbe t6 hbn)
      have hmi : (m : Int) < 8000 := by omega
      clear t1 t2 t3 t4 t5 t6 hrw hfin hlen hbe f1 f2 f3 f4 hfr h hbv hpne hpn
      have hwm : IntKind.i64.wrap ((m : Int) + 1) = (m : Int) + 1 := IntWalk.i64_in _ (by omega)
      have hwk : IntKind.i64.wrap (q.length : Int) = (q.length : Int) := IntWalk.i64_in _ (by omega)
      have hk0 : (0 : Int) ≤ (q.length : Int) := by omega
      have hkl : (q.length : Int) < (q.length : Int) + 1 := by omega
      gi_wp2
      gi_region_with_o (fail)
      all_goals gi_wp2
      all_goals exact ⟨HE.out.1 _, HE.out.2⟩
    · have hne : ((x : Int) != bv) = true := by
        rw [bne_iff_ne]
        intro e
        rw [hbv] at e
        cases h : (rowing (plainB pre)).2 with
        | none => rw [h] at e; simp [behindV] at e
        | some y => rw [h] at e hfr; simp only [behindV] at e; exact hfr (by rw [show x = y from by omega])
      have Hbv := Lib.hid hbv
      have Hfr := Lib.hid hfr
      have Hf := Lib.hid (And.intro f1 (And.intro f2 (And.intro f3 f4)))
      have Hpn := Lib.hid hpn
      clear hbv hfr f1 f2 f3 f4 hpn
      obtain ⟨k, hk⟩ : ∃ k, k = (rowsOf (plainB pre)).length := ⟨_, rfl⟩
      rw [← hk] at hrow hk8
      have Hk := Lib.hid hk
      clear hk
      gi_wp2_with (gi_at_builtin; refine wpListIn_append_own _ rfl _ _ 49 rfl w.heap.size 51 i0 (.agg #[.int .i64 0, .int .i64 0]) 2 16 Try.underlying49 hi hz0 hz1 hz2 rfl (by decide) _ _ _ rfl (hrow.alloc _) ⟨W.heap.size, 0, none⟩ 1 1 [.int .i64 (x : Int), .int .i64 0] rfl rfl ?c1 ?c2 ?c3 ?c4 ?c5 ?_)
      case c1 => exact cells_two_new _ _ _ _
      case c2 => simp [Value.oneCell']
      case c3 => unfold maxLen; omega
      case c4 => omega
      case c5 => have := hB.size; simp; omega
      intro v' w1 hown' hgrow _
      obtain ⟨g', cap', rfl⟩ := ownsRow_succ hown'
      obtain ⟨hv1, hv2, hr2, hk2, hb2⟩ := hv.appended (by decide) hrow hB.size (Nat.le_refl _) hown' hgrow
      have hoB := Boxed.appended_other (v' := .slice (some ⟨g', 0, none⟩) (k + 1) cap') hrow hbb (by decide) (show w.heap.size + 1 ≠ w.heap.size by omega) hgrow
      have hoN := Boxed.appended_other (v' := .slice (some ⟨g', 0, none⟩) (k + 1) cap') hrow hbn (by decide) (show w.heap.size + 2 ≠ w.heap.size by omega) hgrow
      have hc1 := hv1.cell
      have hf1 := hv1.frozen
      have hbn0 := Lib.hid hbn
      clear hown' hgrow hv hrow hbb hbn hc hcb hfb
      gi_wp2
      generalize w1.setCell { block := w.heap.size, off := 0 } (Value.slice (some { block := g', off := 0 }) (k + 1) cap') = W2 at *
      clear hc1 hf1 hv1
      have hk : k = (rowsOf (plainB pre)).length := Hk.out
      have hX : rowsV (rowsOf (plainB pre)) ++ [Value.int .i64 (x : Int), .int .i64 0] = rowsV (rowsOf (plainB pre) ++ [(x, 0)]) := by rw [rowsV_append]; rfl
      rw [hX] at hr2
      clear hX
      have hcc : W2.cell? ⟨g', k * 2 + 1, none⟩ = some (.int .i64 0) := by
        rw [hr2.cellAt _ (by omega), hk]
        exact rowsV_at _ x 0
      have hff : W2.frozen? ⟨g', k * 2 + 1, none⟩ = false := hr2.frozenAt _
      have hcb := hoB.cell
      have hfb := hoB.frozen
      have hcv := hv2.cell
      clear hk
      have hgN := (hr2.lt g' rfl).1
      obtain ⟨t1, t2, t3, t4, t5, t6⟩ := runs_tail hv2 hr2 hoB hoN hk2 hb2 hgN (k * 2 + 1) (.int .i64 1) (.int .i64 ((x : Int) + 1))
      have hrw : rowing (plainB (pre ++ [(⟨x, hx⟩ : Bitno)])) = (rowsOf (plainB pre) ++ [(x, 1)], some (x + 1)) := by
        rw [Hpl.out, rowing_snoc]; unfold rowStep; rw [if_neg Hfr.out]; rfl
      have hfin : (rowsV (rowsOf (plainB pre) ++ [(x, 0)])).set (k * 2 + 1) (.int .i64 1) = rowsV (rowsOf (plainB (pre ++ [(⟨x, hx⟩ : Bitno)]))) := by
        rw [Hk.out]
        unfold rowsOf
        rw [hrw]
        exact rowsV_last _ x 0 1
      have hlen : k + 1 = (rowsOf (plainB (pre ++ [(⟨x, hx⟩ : Bitno)]))).length := by
        unfold rowsOf; rw [hrw]; simp [Hk.out, rowsOf]
      have hbe : (x : Int) + 1 = behindV (rowing (plainB (pre ++ [(⟨x, hx⟩ : Bitno)]))).2 := by
        rw [hrw]; rfl
      have HE := Lib.hid (runs_end (xs := pre ++ [(⟨x, hx⟩ : Bitno)]) hB t1 t2 t3 t4 hfin hlen t5 hbe t6 hbn0.out)
      clear t1 t2 t3 t4 t5 t6 hrw hfin hlen hbe
      have hwk : IntKind.i64.wrap (k : Int) = (k : Int) := IntWalk.i64_in _ (by omega)
      have hk0 : (0 : Int) ≤ (k : Int) := by omega
      have hkl : (k : Int) < (k : Int) + 1 := by omega
      gi_region_with_o (fail)
      all_goals gi_wp2
      all_goals exact ⟨HE.out.1 _, HE.out.2⟩
  case done =>
    rintro D ys W hD hys ⟨⟨v, hv, hrow, _⟩, _, _, hB⟩ hK
    have hc := hv.cell
    gi_wp2
    refine ⟨by simp, .inl ⟨_, _, rfl, run_takeDeferred hK, ?_⟩⟩
    rw [hys] at hrow
    exact ⟨_, results_tmp rfl _ _ _, v, rfl, ownsRow_putObj hrow _ hK rfl, hB.trans (belowK_b (w := w) (Nat.le_refl _) W D _ _ (by simp at hD; omega) hK rfl rfl)⟩
  case stop =>
    rintro D c pre W _ _ h _
    exact h.elim

theorem runs_any (A : Option Addr) (c : Nat) (xs : List Int) (w : World) (hxs : xs.length ≤ 1000) (hL : Bts w w.heap.size A xs) :
    Calls Try.prog 36 #[.slice A xs.length c] w fun e W' => ∃ v, e = .returned v ∧ W'.ownsRow w.heap.size 51 2 v (rowsOf (ones xs)).length (rowsV (rowsOf (ones xs))) ∧ Below w.heap.size w W' :=
  (callsIn_wide (n := 3)).1 (runs_in 3 (Nat.le_refl _) A c xs w hxs hL)
end Go.Proofs.Ytceppcmcokkkoaa
