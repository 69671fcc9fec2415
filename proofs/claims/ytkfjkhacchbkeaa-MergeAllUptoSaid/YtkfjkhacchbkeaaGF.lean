/- Contracts of list, addAhead, Close. -/
import Derived.Test.YtkfjkhacchbkeaaGE
namespace Go.Proofs.Ytkfjkhacchbkeaa
set_option linter.unusedVariables false
set_option linter.unusedSimpArgs false
open Go.RowKit Go.Shelf

attribute [local go_sem] Oper.semAt_some
theorem info3 : (Try.prog.info? 3).map (fun i => (i.zero, i.size, i.bytes)) = some (some (.int .i64 0), 1, 8) := by kernel_rfl
theorem wide_depth {p : Prop} (h : Fence.wide.depth.isSome = true) : p := by cases h
def natsV (l : List Nat) : List Value := l.map fun i => Value.int .i64 ((i : Nat) : Int)
def intsV (l : List Int) : List Value := l.map fun i => Value.int .i64 i
theorem natsV_intsV (l : List Nat) : natsV l = intsV (natsI l) := by simp [natsV, intsV, natsI]
theorem length_natsV (l : List Nat) : (natsV l).length = l.length := by simp [natsV]
/-- a slice that owns ints is such a slice -/
theorem own_ints {w : World} {B : Nat} {v : Value} {n : Nat} {l : List Int} (h : w.ownsRow B 3 1 v n (intsV l)) : ∃ A c, v = .slice A l.length c ∧ l.length ≤ c ∧ c ≤ maxLen ∧ Ints w w.heap.size A l := by
  have hn : l.length = n := by have := h.1; simpa [intsV] using this
  subst hn
  rcases h.2 with ⟨rfl, hn⟩ | ⟨g, cap, cur, rfl, _, hg, hnc, hcm, _⟩
  · have hl : l = [] := List.eq_nil_of_length_eq_zero hn
    subst hl
    exact ⟨none, 0, rfl, Nat.le_refl _, Nat.zero_le _, Ints.nil⟩
  · refine ⟨some ⟨g, 0, none⟩, cap, rfl, hnc, hcm, fun _ => ⟨g, 0, rfl, (h.lt g rfl).2, fun j hj => ?_⟩⟩
    rw [Nat.zero_add, h.cellAt j (by omega), intsV, List.getElem?_map, List.getElem?_eq_getElem hj, nth_lt hj]; rfl

set_option maxRecDepth 100000 in
set_option maxHeartbeats 2000000 in
theorem list_in (n : Nat) (hn : 3 ≤ n) (g : Nat) (m : Nat → Bool) (w : World) (hM : Marks w g m) :
    CallsIn Fence.wide n Try.prog 58 #[.pointer (some ⟨g, 0, none⟩)] w fun e W' => ∃ v, e = .returned v ∧ W'.ownsRow w.heap.size 3 1 v (listM 256 m).length (natsV (listM 256 m)) ∧ Below w.heap.size w W' := by
  have h1 : 1 ≤ n := by omega
  have hgl := BlkIs.lt hM
  obtain ⟨i0, hi, hz0, hz1, hz2⟩ := info_parts info3
  refine callsIn_of_wp_marks Try.func58 rfl trivial ?_ rfl
  simp only [Try.ntmps58, List.size_toArray, List.length_cons, List.length_nil, Nat.reduceAdd, Nat.reduceSub, Array.replicate_succ, Array.replicate_zero, List.push_toArray, List.append_toArray, List.nil_append, List.cons_append]
  gi_wp2_with (refine ⟨trivial, ?_⟩; gi_at_call 60; refine (riseMake_in (n - 1) _ _ g rfl).mono ?_; rintro e w' ⟨rfl, rfl⟩)
  have bO := (Boxed.new w 29 (.slice none 0 0)).alloc (.cells #[.pointer (some ⟨g, 0, none⟩)] 91)
  have bN := Boxed.new (w.alloc (.cells #[.slice none 0 0] 29)) 91 (.pointer (some ⟨g, 0, none⟩))
  simp only [World.size_alloc] at bO bN
  have hM0 := (BlkIs.alloc hM (.cells #[.slice none 0 0] 29)).alloc (.cells #[.pointer (some ⟨g, 0, none⟩)] 91)
  have hB0 : Below w.heap.size w ((w.alloc (.cells #[.slice none 0 0] 29)).alloc (.cells #[.pointer (some ⟨g, 0, none⟩)] 91)) := ((Below.refl _ w).alloc (Nat.le_refl _) _).alloc (by simp) _
  refine wpIn_rangeFunc_ownG rfl h1 (gf := 72) (lb := #[.pointer (some ⟨w.heap.size + 1, 0, none⟩)]) rfl trivial (enters_of Try.func72 (by kernel_rfl) rfl)
    (rise_stops (n - 1) (by omega) (w.heap.size + 1) g w.heap.size m _ (by simp) (by simp; omega) bN.cell hM0) KeepsTwo.trans (keepsTwo_b (by simp; omega) (by simp) (by simp; omega)) (Below.refl _ _) (fun _ => rfl)
    (fun pre W => (∃ v, Boxed W w.heap.size 29 v ∧ W.ownsRow w.heap.size 3 1 v (plainO pre).length (natsV (plainO pre)) ∧ True) ∧ Boxed W (w.heap.size + 1) 91 (.pointer (some ⟨g, 0, none⟩)) ∧ Below w.heap.size w W)
    (fun _ _ _ => False)
    ?own (fun _ _ _ _ _ hs _ _ => hs)
    ⟨⟨_, bO, World.ownsRow_nil _ _ _ _, trivial⟩, bN, hB0⟩
    (fun x => { tmps := #[.pointer (some ⟨g, 0, none⟩), undef, .slice none 0 0, .pointer (some ⟨w.heap.size, 0, none⟩), .int .i64 ((x.1 : Nat) : Int), .pointer (some ⟨g, 0, none⟩), .func (.func 72) #[] #[.pointer (some ⟨w.heap.size + 1, 0, none⟩)], .int .i64 ((x.1 : Nat) : Int), undef, undef, undef, undef, undef], defers := [] }) ?assign ?body ?done ?stop
  case own =>
    exact OwnFrom.and (Own.from (holdsRow_own w.heap.size w.heap.size 29 3 1 (fun pre : List (On m) => (plainO pre).length) (fun pre => natsV (plainO pre)) (fun _ _ => True)) _)
      (OwnFrom.and (Own.from (boxed_own (w.heap.size + 1) 91 (fun _ => _)) _) (ownFrom_below (Nat.le_refl _) (by simp; omega)))
  case assign =>
    intro l x W K hK
    gi_wp2
    exact hK
  case body =>
    rintro l pre x W ⟨⟨v, hv, hrow, _⟩, hbn, hB⟩ hlt
    have hc := hv.cell
    have hlt2 : (plainO pre).length < 256 := by rw [length_plainO]; exact hlt
    have Hpl := Lib.hid (plainO_snoc pre x)
    obtain ⟨p, hp⟩ : ∃ p, p = plainO pre := ⟨_, rfl⟩
    rw [← hp] at hrow hlt2 Hpl
    clear hlt hp
    gi_wp2_with (gi_at_builtin; refine wpListIn_append_own _ rfl _ _ 29 rfl w.heap.size 3 i0 (.int .i64 0) 1 8 Try.underlying29 hi hz0 hz1 hz2 rfl (by decide) _ _ _ rfl (hrow.alloc _) ⟨W.heap.size, 0, none⟩ 1 1 [.int .i64 ((x.1 : Nat) : Int)] rfl rfl (cell_one_new _ _ _) (by simp [Value.oneCell']) (by unfold maxLen; omega) (by omega) (by have := hB.size; simp; omega) ?_; intro v' w1 hown' hgrow _; obtain ⟨g', cap', rfl⟩ := ownsRow_succ hown'; obtain ⟨hv1, hv2, hr2, hk2, hb2⟩ := hv.appended (by decide) hrow (by have := hB.size; omega) (by omega) hown' hgrow; have hc1 := hv1.cell; have hf1 := hv1.frozen)
    have hoN := ((hbn.alloc (.cells #[.int .i64 ((x.1 : Nat) : Int)] 3)).kept hgrow (hbn.not_row (by decide) hrow)).other (show w.heap.size + 1 ≠ w.heap.size by omega) (.slice (some ⟨g', 0, none⟩) (p.length + 1) cap')
    have hgN : g < w.heap.size := hgl
    refine ⟨hk2.from _, ⟨hb2, ?_, hb2.block g hgN⟩, ⟨_, hv2, ?_, trivial⟩, hoN, hB.trans hb2⟩
    · exact Eq.trans (show _ = _ from hoN) (show _ = _ from hbn).symm
    · rw [Hpl.out]; simpa [natsV] using hr2
  case done =>
    rintro D ys W hD hys ⟨⟨v, hv, hrow, _⟩, _, hB⟩ hK
    have hc := hv.cell
    gi_wp2
    refine ⟨by simp, .inl ⟨_, _, rfl, run_takeDeferred hK, ?_⟩⟩
    rw [hys] at hrow
    exact ⟨_, results_tmp rfl _ _ _, v, rfl, ownsRow_putObj hrow _ hK rfl, hB.trans (belowK_b (w := w) (Nat.le_refl _) W D _ _ (by simp at hD; omega) hK rfl rfl)⟩
  case stop =>
    rintro D c pre W _ _ h _
    exact h.elim
theorem list_any (g : Nat) (m : Nat → Bool) (w : World) (hM : Marks w g m) :
    Calls Try.prog 58 #[.pointer (some ⟨g, 0, none⟩)] w fun e W' => ∃ v, e = .returned v ∧ W'.ownsRow w.heap.size 3 1 v (listM 256 m).length (natsV (listM 256 m)) ∧ Below w.heap.size w W' :=
  (callsIn_wide (n := 3)).1 (list_in 3 (Nat.le_refl _) g m w hM)
end Go.Proofs.Ytkfjkhacchbkeaa
