/- Contract of addAhead. -/
import Derived.Test.YtkfjkhacchbkeaaGF
import Derived.Stop.RegionWithIn
namespace Go.Proofs.Ytkfjkhacchbkeaa
set_option linter.unusedVariables false
set_option linter.unusedSimpArgs false
open Go.RowKit Go.Shelf

attribute [local go_sem] Oper.semAt_some
def rowsI (D : List (List Nat)) : List (List Int) := D.map natsI
theorem length_rowsI (D : List (List Nat)) : (rowsI D).length = D.length := by simp [rowsI]
theorem rowI_rowsI (D : List (List Nat)) (n : Nat) : rowI (rowsI D) n = natsI (rowN D n) := by
  unfold rowI rowsI rowN
  rw [List.getD_eq_getElem?_getD, List.getD_eq_getElem?_getD, List.getElem?_map]
  cases h : D[n]? <;> rfl
theorem foldR_lt {D : List (List Nat)} {m : Nat → Bool} {K : Nat} (hm : ∀ x, m x = true → x < K) (hr : ∀ n, ∀ d ∈ rowN D n, d < K) (pre : List Nat) (x : Nat) (h : foldR D m pre x = true) : x < K := by
  have key : ∀ (pre : List Nat) (m : Nat → Bool), (∀ x, m x = true → x < K) → foldR D m pre x = true → x < K := by
    intro pre
    induction pre with
    | nil => intro m hm h; exact hm x h
    | cons a pre ih =>
      intro m hm h
      refine ih (addAll m (rowN D a)) (fun y hy => ?_) h
      rcases addAll_true.1 hy with hy | hy
      · exact hm y hy
      · exact hr a y hy
  exact key pre m hm h
theorem Right.row_lt {D : List (List Nat)} (hD : Right D) (n : Nat) : ∀ d ∈ rowN D n, d < D.length := fun d hd => Nat.lt_trans (hD.2 n d hd) (mem_row_lt hd)
theorem Ints.grown {w w' : World} {B g : Nat} {A : Option Addr} {l : List Int} (h : Ints w B A l) (hg : w.grownBy w' (some g)) (hB : B ≤ g) (hl : g < w.heap.size) : Ints w' B A l :=
  h.keep fun p hp => World.cell?_of_block (hg.block p.block (by omega) (fun e => by injection e with e; omega))
theorem Mat.grown {w w' : World} {B g : Nat} {A : Option Addr} {R : List (List Int)} (h : Mat w B A R) (hg : w.grownBy w' (some g)) (hB : B ≤ g) (hl : g < w.heap.size) : Mat w' B A R :=
  h.keep fun p hp => World.cell?_of_block (hg.block p.block (by omega) (fun e => by injection e with e; omega))
theorem marks_own {β : Type} (g : Nat) (f : β → Nat → Bool) : Own (fun s W => Marks W g (f s)) := fun s X Y row hs hg hrow =>
  BlkIs.kept hs hg (fun e' => by obtain ⟨o, ho, hc⟩ := hrow g e'.symm; rw [show X.heap[g]? = _ from hs] at ho; cases ho; cases hc)
theorem grown_own {β : Type} {B : Nat} (w : World) (g : Nat) (h : w.heap.size ≤ B) : OwnFrom B (fun (_ : β) W => w.grownBy W (some g)) := fun _ X Y row hs hg hrow =>
  ⟨hg.os.trans hs.os, hg.tape.trans hs.tape, hg.output.trans hs.output, Nat.le_trans hs.size hg.size, fun k hk hne =>
    (hg.block k (Nat.lt_of_lt_of_le hk hs.size) (fun e => by have := (hrow k e.symm).1; omega)).trans (hs.block k hk hne)⟩
theorem grown_keeps {B g : Nat} {W W' : World} (h : W.grownBy W' (some g)) (hg : g < B) : KeepsFrom B W W' := KeepsFrom.of_grownBy h (fun j e => by cases e; exact hg)

theorem add_at (g : Nat) (A : Option Addr) (c : Nat) (m : Nat → Bool) (D : List (List Nat)) (hD : Right D) (hr : ∀ n, (rowN D n).length ≤ 100000) (x : Nat) (w : World) (B : Nat) (hM : Marks w g m) (hI : Ints w B A (rowI (rowsI D) x)) (hB : B ≤ g) :
    Calls Try.prog 71 #[.pointer (some ⟨g, 0, none⟩), .slice A (rowI (rowsI D) x).length c] w fun e w' => (∃ v, e = .returned v) ∧ Marks w' g (addAll m (rowN D x)) ∧ w.grownBy w' (some g) ∧ w'.heap.size = w.heap.size := by
  rw [rowI_rowsI] at hI ⊢
  rw [length_natsI]
  exact add_any g A c _ m _ w B rfl (fun y hy => Nat.lt_of_lt_of_le (hD.row_lt x y hy) hD.1) (hr x) hM hI hB

set_option maxRecDepth 100000 in
set_option maxHeartbeats 400000 in
theorem ahead_in (n : Nat) (hn : 3 ≤ n) (g : Nat) (A : Option Addr) (c kD : Nat) (D : List (List Nat)) (hkD : kD = D.length) (hD : Right D) (hr : ∀ n, (rowN D n).length ≤ 100000) (m : Nat → Bool) (hm : ∀ x, m x = true → x < D.length) (w : World) (B : Nat) (hB : B ≤ g) (hM : Marks w g m) (hMat : Mat w B A (rowsI D)) :
    CallsIn Fence.wide n Try.prog 57 #[.pointer (some ⟨g, 0, none⟩), .slice A kD c] w fun e W' => (∃ v, e = .returned v) ∧ Marks W' g (upM D m 256) ∧ w.grownBy W' (some g) := by
  subst hkD
  have h1 : 1 ≤ n := by omega
  have hgl := BlkIs.lt hM
  refine callsIn_of_wp_marks Try.func57 rfl trivial ?_ rfl
  simp only [Try.ntmps57, List.size_toArray, List.length_cons, List.length_nil, Nat.reduceAdd, Nat.reduceSub, Array.replicate_succ, Array.replicate_zero, List.push_toArray, List.append_toArray, List.nil_append, List.cons_append]
  gi_wp2_with (refine ⟨trivial, ?_⟩; gi_at_call 70; refine (fallMake_in (n - 1) _ _ g rfl).mono ?_; rintro e w' ⟨rfl, rfl⟩)
  have b0 := ((Boxed.new w 91 (.pointer (some ⟨g, 0, none⟩))).alloc (.cells #[.slice A D.length c] 27)).alloc (.cells #[.pointer (some ⟨g, 0, none⟩)] 91)
  have b1 := (Boxed.new (w.alloc (.cells #[.pointer (some ⟨g, 0, none⟩)] 91)) 27 (.slice A D.length c)).alloc (.cells #[.pointer (some ⟨g, 0, none⟩)] 91)
  have b2 := Boxed.new ((w.alloc (.cells #[.pointer (some ⟨g, 0, none⟩)] 91)).alloc (.cells #[.slice A D.length c] 27)) 91 (.pointer (some ⟨g, 0, none⟩))
  simp only [World.size_alloc] at b1 b2
  have hM0 := ((BlkIs.alloc hM (.cells #[.pointer (some ⟨g, 0, none⟩)] 91)).alloc (.cells #[.slice A D.length c] 27)).alloc (.cells #[.pointer (some ⟨g, 0, none⟩)] 91)
  have hG0 : w.grownBy (((w.alloc (.cells #[.pointer (some ⟨g, 0, none⟩)] 91)).alloc (.cells #[.slice A D.length c] 27)).alloc (.cells #[.pointer (some ⟨g, 0, none⟩)] 91)) (some g) :=
    ((World.grownBy_alloc w _ _).trans (World.grownBy_alloc _ _ _)).trans (World.grownBy_alloc _ _ _)
  have hs0 : (((w.alloc (Obj.cells #[.pointer (some ⟨g, 0, none⟩)] 91)).alloc (.cells #[.slice A D.length c] 27)).alloc (.cells #[.pointer (some ⟨g, 0, none⟩)] 91)).heap.size = w.heap.size + 3 := by simp
  generalize (((w.alloc (Obj.cells #[.pointer (some ⟨g, 0, none⟩)] 91)).alloc (.cells #[.slice A D.length c] 27)).alloc (.cells #[.pointer (some ⟨g, 0, none⟩)] 91)) = W0 at b0 b1 b2 hM0 hG0 hs0 ⊢
  obtain ⟨I, hIe⟩ : ∃ I : List Nat → World → Prop, I = fun pre W => Marks W g (foldR D m pre) ∧ Boxed W w.heap.size 91 (.pointer (some ⟨g, 0, none⟩)) ∧ Boxed W (w.heap.size + 1) 27 (.slice A D.length c) ∧ Boxed W (w.heap.size + 2) 91 (.pointer (some ⟨g, 0, none⟩)) ∧ w.grownBy W (some g) := ⟨_, rfl⟩
  refine range_runs (α := Nat) rfl h1 (gf := 75) (lb := #[.pointer (some ⟨w.heap.size + 2, 0, none⟩)]) rfl trivial (enters_of Try.func75 (by kernel_rfl) rfl)
    (encs := fun x => #[.int .i64 ((x : Nat) : Int)]) (fun _ => rfl) I
    (fun pre x => x < 256 ∧ foldR D m pre x = true) (fun ys => ys = fallS D m 256 256) ?own
    (by rw [hIe]; exact ⟨hM0, b0, b1, b2, hG0⟩)
    (fun x => { tmps := #[.pointer (some ⟨g, 0, none⟩), .slice A D.length c, .pointer (some ⟨w.heap.size, 0, none⟩), .pointer (some ⟨w.heap.size + 1, 0, none⟩), .int .i64 ((x : Nat) : Int), .pointer (some ⟨g, 0, none⟩), .func (.func 75) #[] #[.pointer (some ⟨w.heap.size + 2, 0, none⟩)], .int .i64 ((x : Nat) : Int), undef, undef, undef, undef, undef, undef], defers := [] }) ?assign ?body ?iter ?done
  case own =>
    rw [hIe]
    exact OwnFrom.and (Own.from (marks_own g (fun pre => foldR D m pre)) _) (OwnFrom.and (Own.from (boxed_own w.heap.size 91 (fun _ => _)) _) (OwnFrom.and (Own.from (boxed_own (w.heap.size + 1) 27 (fun _ => _)) _) (OwnFrom.and (Own.from (boxed_own (w.heap.size + 2) 91 (fun _ => _)) _) (grown_own w g (by omega)))))
  case assign =>
    intro l x W K hK
    gi_wp2
    exact hK
  case iter =>
    intro l J W1 hJI hY h0
    exact fall_in (n - 1) (by omega) l (w.heap.size + 2) g D m J (fun pre W h => by have := hJI pre W h; rw [hIe] at this; exact ⟨this.2.2.2.1.cell, this.1⟩) hY W1 h0
  case body =>
    rintro l pre x W hi ⟨hx256, hx⟩
    rw [hIe] at hi
    obtain ⟨hMk, hb0, hb1, hb2, hG⟩ := hi
    have hxD := foldR_lt hm hD.row_lt pre x hx
    have hMW := hMat.grown hG hB hgl
    obtain ⟨b, off, Ak, ck, rfl, hb, hc, hI⟩ := hMW.at_ (k := x) (by rw [length_rowsI]; exact hxD)
    have hId : Ints W.drew B Ak (rowI (rowsI D) x) := hI
    have hMd : Marks W.drew g (foldR D m pre) := hMk
    have hadd := add_at g Ak ck _ D hD hr x W.drew B hMd hId hB
    have Hadd := Lib.hid hadd
    have hxi : (x : Int) < (D.length : Int) := by omega
    have hx0 : (0 : Int) ≤ (x : Int) := by omega
    have c0 := hb0.cell
    have c1 := hb1.cell
    have Hb0 := Lib.hid hb0
    have Hb1 := Lib.hid hb1
    have Hb2 := Lib.hid hb2
    have HI := Lib.hid hIe
    have HG := Lib.hid hG
    clear hMk hId hMd hadd hI hMW hb0 hb1 hb2 hG hx hm hr hIe
    gi_wp2_with fail
    gi_region_with (refine ⟨trivial, wide_depth, ?_⟩; gi_at_call 71; refine (CallsIn.inRound l (callsIn_wide.2 Hadd.out)).mono ?_; rintro e W3 ⟨⟨v, rfl⟩, hM3, hG3, hs3⟩)
    all_goals
      have hG4 : W.grownBy W3 (some g) := ⟨hG3.os, hG3.tape, hG3.output, hG3.size, hG3.block⟩
      have hk : KeepsFrom W0.heap.size W W3 := grown_keeps hG4 (by omega)
      have hfin : I (pre ++ [x]) W3 := by
        rw [HI.out]
        exact ⟨by rw [foldR_snoc]; exact hM3, Hb0.out.kept hG4 (fun e => by injection e with e; omega), Hb1.out.kept hG4 (fun e => by injection e with e; omega), Hb2.out.kept hG4 (fun e => by injection e with e; omega), HG.out.trans hG4⟩
      have hQ : ∀ a3, onPost W0.heap.size (I (pre ++ [x])) W Exit.normal a3 W3 := fun _ => ⟨hk, hfin⟩
      exact hQ { tmps := #[], defers := [] }
  case done =>
    rintro D' ys W hD' hys hi hK
    rw [hIe] at hi
    obtain ⟨hMk, _, _, _, hG⟩ := hi
    have hMu : Marks W g (upM D m 256) := by unfold upM; rw [← hys]; exact hMk
    clear hys hMk
    have hgt := grownBy_putObj' W D' (.deferred none)
    gi_wp2
    refine ⟨by simp, .inl ⟨_, _, rfl, run_takeDeferred hK, ?_⟩⟩
    exact ⟨_, results_none rfl _ _ _, ⟨_, rfl⟩, BlkIs.kept hMu hgt (fun e => by injection e with e; omega),
      ⟨hgt.os.trans hG.os, hgt.tape.trans hG.tape, hgt.output.trans hG.output, Nat.le_trans hG.size hgt.size, fun k hk hne => (hgt.block k (Nat.lt_of_lt_of_le hk hG.size) (fun e => by injection e with e; omega)).trans (hG.block k hk hne)⟩⟩
end Go.Proofs.Ytkfjkhacchbkeaa
