/- Contract of List. -/
import Derived.Test.YtpcindemkkdbbaaBSA
import Derived.RangeFuncBox
import Derived.RangeFuncLeaves
import Derived.RangeFuncWrites
import Derived.RangeFuncFrom
import Derived.RangeFuncNested
namespace Go.Proofs.Ytpcindemkkdbbaa.Bs
set_option linter.unusedVariables false
set_option linter.unusedSimpArgs false
open Go.RowKit Go.Shelf

attribute [local go_sem] Oper.semAt_some
theorem info3 : (Try.prog.info? 3).map (fun i => (i.zero, i.size, i.bytes)) = some (some (.int .i64 0), 1, 8) := by kernel_rfl

/-- those of some numbers whose bits the bytes have not set -/
def notIn (b : List Int) (p : List Nat) : List Nat := p.filter fun i => !bitN b i
def natsV (l : List Nat) : List Value := l.map fun i => Value.int .i64 ((i : Nat) : Int)
theorem notIn_hit (b : List Int) (pre : List Nat) {x : Nat} (h : bitN b x = false) : notIn b (pre ++ [x]) = notIn b pre ++ [x] := by simp [notIn, h]
theorem notIn_miss (b : List Int) (pre : List Nat) {x : Nat} (h : bitN b x = true) : notIn b (pre ++ [x]) = notIn b pre := by simp [notIn, h]

/-- only draws lie between two worlds -/
def Quiet (w w' : World) : Prop := ∃ n, w' = w.drewN n
theorem Quiet.boxed {w w' : World} {B : Nat} {t : TypeId} {v : Value} (q : Quiet w w') (h : Boxed w B t v) : Boxed w' B t v := by obtain ⟨n, rfl⟩ := q; exact h
theorem Quiet.row {w w' : World} {base : Nat} {e : TypeId} {size n : Nat} {v : Value} {xs : List Value} (q : Quiet w w') (h : w.ownsRow base e size v n xs) : w'.ownsRow base e size v n xs := by obtain ⟨n, rfl⟩ := q; exact h
theorem Quiet.below {B : Nat} {a w w' : World} (q : Quiet w w') (h : Below B a w) : Below B a w' := by obtain ⟨n, rfl⟩ := q; exact ⟨h.os, h.tape, h.output, h.size, h.block⟩
theorem Quiet.size {w w' : World} (q : Quiet w w') : w'.heap.size = w.heap.size := by obtain ⟨n, rfl⟩ := q; rfl
theorem Quiet.heap {w w' : World} (q : Quiet w w') : w'.heap = w.heap := by obtain ⟨n, rfl⟩ := q; rfl
theorem Quiet.keeps {w w' : World} (q : Quiet w w') : KeepsOthers w w' := by obtain ⟨n, rfl⟩ := q; exact ⟨Nat.le_refl _, fun _ _ h _ => h⟩
theorem Quiet.bts {w w' : World} {B : Nat} {A : Option Addr} {l : List Int} (q : Quiet w w') (h : Bts w B A l) : Bts w' B A l := by obtain ⟨n, rfl⟩ := q; exact h

theorem wide_depth {p : Prop} (h : Fence.wide.depth.isSome = true) : p := by cases h

/-- the contract of Get, in a round -/
theorem get_in (A : Option Addr) (c : Nat) (l : List Int) (i : Nat) (w : World) (B : Nat) (v : Bool) (hb : Bts w B A l) (hl : l.length ≤ 1000) (hi : i ≤ 8000) (hv : bitN l i = v) :
    Calls Try.prog 82 #[.slice A l.length c, .int .i64 ((i : Nat) : Int)] w fun e w' => e = .returned (.bool v) ∧ Quiet w w' := by
  have h := get_any A c l (i : Int) w B hb (by unfold maxLen; omega) (by omega)
  have e : bitI l (i : Int) = v := by simp [bitI, hv]
  rwa [e] at h

theorem Boxed.appended_other {W w1 : World} {n₀ B B2 : Nat} {e t2 : TypeId} {size : Nat} {v v' u : Value} {k : Nat} {xs : List Value} {tmp : Obj}
    (hrow : W.ownsRow n₀ e size v k xs) (hb : Boxed W B2 t2 u) (ht2 : t2 ≠ e) (hne : B2 ≠ B) (hgrow : (W.alloc tmp).grownBy w1 v.ownBlock) : Boxed (w1.setCell ⟨B, 0, none⟩ v') B2 t2 u :=
  ((hb.alloc tmp).kept hgrow (hb.not_row ht2 hrow)).other hne v'

set_option maxRecDepth 100000 in
set_option maxHeartbeats 2000000 in
theorem without_in (n : Nat) (hn : 3 ≤ n) (A : Option Addr) (c : Nat) (xs : List Int) (A2 : Option Addr) (c2 : Nat) (bs : List Int) (w : World) (hxs : xs.length ≤ 1000) (hbs : bs.length ≤ 1000)
    (hL : Bts w w.heap.size A xs) (hL2 : Bts w w.heap.size A2 bs) :
    CallsIn Fence.wide n Try.prog 77 #[.slice A xs.length c, .slice A2 bs.length c2] w fun e W' => ∃ v, e = .returned v ∧ W'.ownsRow w.heap.size 3 1 v (notIn bs (ones xs)).length (natsV (notIn bs (ones xs))) ∧ Below w.heap.size w W' := by
  have h1 : 1 ≤ n := by omega
  obtain ⟨i0, hi, hz0, hz1, hz2⟩ := info_parts info3
  refine callsIn_of_wp_marks Try.func77 rfl trivial ?_ rfl
  simp only [Try.ntmps77, List.size_toArray, List.length_cons, List.length_nil, Nat.reduceAdd, Nat.reduceSub, Array.replicate_succ, Array.replicate_zero, List.push_toArray, List.append_toArray, List.nil_append, List.cons_append]
  gi_wp2_with (refine ⟨trivial, ?_⟩; gi_at_call 81; refine (onesMake_in (n - 1) _ c xs.length A rfl _).mono ?_; rintro e w' ⟨rfl, rfl⟩)
  obtain ⟨vx, hvx⟩ : ∃ vx, vx = Value.slice A xs.length c := ⟨_, rfl⟩
  obtain ⟨vb, hvb⟩ : ∃ vb, vb = Value.slice A2 bs.length c2 := ⟨_, rfl⟩
  have bB := ((Boxed.new w 25 (.slice A2 bs.length c2)).alloc (.cells #[.slice none 0 0] 22)).alloc (.cells #[.slice A xs.length c] 25)
  have bO := (Boxed.new (w.alloc (.cells #[.slice A2 bs.length c2] 25)) 22 (.slice none 0 0)).alloc (.cells #[.slice A xs.length c] 25)
  have bN := Boxed.new ((w.alloc (.cells #[.slice A2 bs.length c2] 25)).alloc (.cells #[.slice none 0 0] 22)) 25 (.slice A xs.length c)
  simp only [World.size_alloc] at bO bN
  have hB0 : Below w.heap.size w (((w.alloc (.cells #[.slice A2 bs.length c2] 25)).alloc (.cells #[.slice none 0 0] 22)).alloc (.cells #[.slice A xs.length c] 25)) := (((Below.refl _ w).alloc (Nat.le_refl _) _).alloc (by simp) _).alloc (by simp; omega) _
  refine wpIn_rangeFunc_ownG rfl h1 (gf := 86) (lb := #[.pointer (some ⟨w.heap.size + 2, 0, none⟩)]) rfl trivial (enters_of Try.func86 (by kernel_rfl) rfl)
    (ones_stops (n - 1) (by omega) (w.heap.size + 2) w.heap.size A c xs hxs _ (by simp) (by simp; omega) bN.cell (hL.below hB0)) KeepsBox.trans (keepsBox_b (by simp; omega) (by simp)) (Below.refl _ _) (fun _ => rfl)
    (fun pre W => (∃ v, Boxed W (w.heap.size + 1) 22 v ∧ W.ownsRow w.heap.size 3 1 v (notIn bs (plainB pre)).length (natsV (notIn bs (plainB pre))) ∧ True) ∧ Boxed W w.heap.size 25 (.slice A2 bs.length c2) ∧ Boxed W (w.heap.size + 2) 25 (.slice A xs.length c) ∧ Below w.heap.size w W)
    (fun _ _ _ => False)
    ?own (fun _ _ _ _ _ hs _ _ => hs)
    ⟨⟨_, bO, World.ownsRow_nil _ _ _ _, trivial⟩, bB, bN, hB0⟩
    (fun x => { tmps := #[.slice A xs.length c, .slice A2 bs.length c2, undef, .pointer (some ⟨w.heap.size, 0, none⟩), .slice none 0 0, .pointer (some ⟨w.heap.size + 1, 0, none⟩), .int .i64 ((x.1 : Nat) : Int), .slice A xs.length c, .func (.func 86) #[] #[.pointer (some ⟨w.heap.size + 2, 0, none⟩)], .int .i64 ((x.1 : Nat) : Int), undef, undef, undef, undef, undef, undef, undef, undef, undef], defers := [] }) ?assign ?body ?done ?stop
  case own =>
    exact OwnFrom.and (Own.from (holdsRow_own w.heap.size (w.heap.size + 1) 22 3 1 (fun pre : List Bitno => (notIn bs (plainB pre)).length) (fun pre => natsV (notIn bs (plainB pre))) (fun _ _ => True)) _)
      (OwnFrom.and (Own.from (boxed_own w.heap.size 25 (fun _ => _)) _) (OwnFrom.and (Own.from (boxed_own (w.heap.size + 2) 25 (fun _ => _)) _) (ownFrom_below (Nat.le_refl _) (by simp; omega))))
  case assign =>
    intro l x W K hK
    gi_wp2
    exact hK
  case body =>
    rintro l pre ⟨x, hx⟩ W ⟨⟨v, hv, hrow, _⟩, hbb, hbn, hB⟩ hlt
    have hc := hv.cell
    have hcb := hbb.cell
    have hL2W := hL2.below hB
    have hxi : (x : Int) < 8000 := by omega
    have hle : (notIn bs (plainB pre)).length ≤ pre.length := by
      have := List.length_filter_le (fun i => !bitN bs i) (plainB pre)
      simpa [notIn, plainB] using this
    have hno := length_onesTo xs xs.length
    have hlt2 : pre.length < 8000 := by unfold ones at hlt; omega
    clear hlt hno
    have hpl : plainB (pre ++ [(⟨x, hx⟩ : Bitno)]) = plainB pre ++ [x] := by simp [plainB]
    have Hpl := Lib.hid hpl
    clear hpl
    cases hv1 : bitN bs x with
    | true =>
      have H1 := Lib.hid hv1
      clear hv1
      gi_wp2_with (refine ⟨trivial, wide_depth, ?_⟩; gi_at_call 82; refine (CallsIn.inRound l (callsIn_wide.2 (get_in A2 c2 bs x _ w.heap.size true hL2W hbs (by omega) H1.out))).mono ?_; rintro e W1 ⟨rfl, hq⟩)
      have hn1 : notIn bs (plainB (pre ++ [(⟨x, hx⟩ : Bitno)])) = notIn bs (plainB pre) := by rw [Hpl.out]; exact notIn_miss bs _ H1.out
      refine ⟨hq.keeps.from _, ⟨hq.below (Below.refl _ _), by rw [hq.heap]⟩, ⟨v, hq.boxed hv, ?_, trivial⟩, hq.boxed hbb, hq.boxed hbn, hq.below hB⟩
      rw [hn1]
      exact hq.row hrow
    | false =>
      have H1 := Lib.hid hv1
      clear hv1
      gi_wp2_with (first
        | (refine ⟨trivial, wide_depth, ?_⟩; gi_at_call 82; refine (CallsIn.inRound l (callsIn_wide.2 (get_in A2 c2 bs x _ w.heap.size false hL2W hbs (by omega) H1.out))).mono ?_; rintro e W1 ⟨rfl, hq⟩; have hvq := hq.boxed hv; have hcq := hvq.cell; have hrq := hq.row hrow)
        | (gi_at_builtin; refine wpListIn_append_own _ rfl _ _ 22 rfl w.heap.size 3 i0 (.int .i64 0) 1 8 Try.underlying22 hi hz0 hz1 hz2 rfl (by decide) _ _ _ rfl (hrq.alloc _) ⟨W1.heap.size, 0, none⟩ 1 1 [.int .i64 (x : Int)] rfl rfl (cell_one_new _ _ _) (by simp [Value.oneCell']) (by unfold maxLen; omega) (by omega) (by have := hB.size; have := hq.size; simp; omega) ?_; intro v' w1 hown' hgrow _; obtain ⟨g', cap', rfl⟩ := ownsRow_succ hown'; obtain ⟨hv1, hv2, hr2, hk2, hb2⟩ := hvq.appended (by decide) hrq (by have := hB.size; have := hq.size; omega) (by omega) hown' hgrow; have hc1 := hv1.cell; have hf1 := hv1.frozen))
      have hn1 : notIn bs (plainB (pre ++ [(⟨x, hx⟩ : Bitno)])) = notIn bs (plainB pre) ++ [x] := by rw [Hpl.out]; exact notIn_hit bs _ H1.out
      have hoB := Boxed.appended_other (v' := .slice (some ⟨g', 0, none⟩) ((notIn bs (plainB pre)).length + 1) cap') hrq (hq.boxed hbb) (by decide) (show w.heap.size ≠ w.heap.size + 1 by omega) hgrow
      have hoN := Boxed.appended_other (v' := .slice (some ⟨g', 0, none⟩) ((notIn bs (plainB pre)).length + 1) cap') hrq (hq.boxed hbn) (by decide) (show w.heap.size + 2 ≠ w.heap.size + 1 by omega) hgrow
      refine ⟨(hq.keeps.trans hk2).from _, ⟨(hq.below (Below.refl _ W)).trans hb2, ?_⟩, ⟨_, hv2, ?_, trivial⟩, hoB, hoN, (hq.below hB).trans hb2⟩
      · exact Eq.trans (show _ = _ from hoN) (show _ = _ from hbn).symm
      · rw [hn1]; simpa [natsV] using hr2
  case done =>
    rintro D ys W hD hys ⟨⟨v, hv, hrow, _⟩, _, _, hB⟩ hK
    have hc := hv.cell
    gi_wp2
    refine ⟨by simp, .inl ⟨_, _, rfl, run_takeDeferred hK, ?_⟩⟩
    rw [hys] at hrow
    exact ⟨_, results_tmp rfl _ _ _, v, rfl, ownsRow_putObj hrow _ hK rfl, hB.trans (belowK_b (w := w) (Nat.le_refl _) W D _ _ (by simp at hD; omega) hK rfl rfl)⟩
  case stop =>
    rintro D c pre W _ _ h _
    exact h.elim

theorem without_any (A : Option Addr) (c : Nat) (xs : List Int) (A2 : Option Addr) (c2 : Nat) (bs : List Int) (w : World) (hxs : xs.length ≤ 1000) (hbs : bs.length ≤ 1000)
    (hL : Bts w w.heap.size A xs) (hL2 : Bts w w.heap.size A2 bs) :
    Calls Try.prog 77 #[.slice A xs.length c, .slice A2 bs.length c2] w fun e W' => ∃ v, e = .returned v ∧ W'.ownsRow w.heap.size 3 1 v (notIn bs (ones xs)).length (natsV (notIn bs (ones xs))) ∧ Below w.heap.size w W' :=
  (callsIn_wide (n := 3)).1 (without_in 3 (Nat.le_refl _) A c xs A2 c2 bs w hxs hbs hL hL2)

theorem notIn_nil (p : List Nat) : notIn [] p = p := by
  unfold notIn
  rw [List.filter_eq_self]
  intro i _
  simp [bitN, nth]

set_option maxHeartbeats 400000 in
theorem list_any (A : Option Addr) (c : Nat) (xs : List Int) (w : World) (hxs : xs.length ≤ 1000) (hL : Bts w w.heap.size A xs) :
    Calls Try.prog 68 #[.slice A xs.length c] w fun e W' => ∃ v, e = .returned v ∧ W'.ownsRow w.heap.size 3 1 v (ones xs).length (natsV (ones xs)) ∧ Below w.heap.size w W' := by
  have h0 := without_any A c xs none 0 [] w hxs (by simp) hL Bts.nil
  rw [notIn_nil] at h0
  have H := Lib.hid h0
  clear h0
  go_enter Try.func68, Try.ntmps68
  go_wp2_with fail
  refine H.out.mono ?_
  rintro e w' ⟨v, rfl, hr, hb⟩
  go_wp2
  go_ret
  exact ⟨_, rfl, hr, hb⟩

end Go.Proofs.Ytpcindemkkdbbaa.Bs
