/- What a function gives, gathered and sorted. -/
import Derived.Test.YtdndchoghhllmaaX
set_option linter.unusedVariables false
set_option linter.unusedSimpArgs false
namespace Go.Proofs.Ytdndchoghhllmaa
open Go.RowKit Go.Maps Go.Sort Go.Shelf
attribute [local go_sem] Oper.semAt_some
/-- what has been gathered: in the box Bs -/
def GaI (W : World) (Bs : Nat) (pre : List Int) (F : Nat → Prop) (X : World) : Prop :=
  ∃ A c, X.heap[Bs]? = some (.cells #[.slice A pre.length c] 30 (0, 0)) ∧ RowI X W.heap.size A c pre ∧ Below W.heap.size W X ∧ (∀ b, F b ↔ b = Bs ∨ own A = some b)
theorem box_int {X : World} {b : Nat} {cs : Array Value} (h : X.heap[b]? = some (.cells cs 30 (0, 0))) : ¬ IntB X b := by
  rintro ⟨c2, h2⟩; rw [h] at h2; simp at h2
theorem gaI_bears (W : World) (Bs B : Nat) (hB : W.heap.size ≤ B) : Bears B (GaI W Bs) := by
  rintro s F X Y T ⟨A, c, h1, h2, h3, h4⟩ hK hT
  refine ⟨A, c, (hK.block Bs (Array.getElem?_eq_some_iff.1 h1).1 (fun q => (hT _ q).2 ((h4 _).2 (.inl rfl)))).trans h1, h2.keep hK (fun b e q => (hT _ q).2 ((h4 _).2 (.inr e))), h3.trans (hK.below (fun b q => Nat.le_trans hB (hT b q).1) h3.size), h4⟩
theorem gaI_lies (W : World) (Bs : Nat) (Pr : Nat → Prop) (hPr : ∀ b, Pr b → b < W.heap.size) (hBs : W.heap.size ≤ Bs) : Lies Pr (GaI W Bs) := by
  rintro s F X ⟨A, c, h1, h2, h3, h4⟩ b hb
  rcases (h4 b).1 hb with e | e
  · subst e; exact ⟨fun q => by have := hPr _ q; omega, (Array.getElem?_eq_some_iff.1 h1).1⟩
  · have := h2.lt b e; exact ⟨fun q => by have := hPr _ q; omega, this.2⟩
set_option maxRecDepth 100000 in
set_option maxHeartbeats 4000000 in
theorem appendSeq_f {gf : Nat} {lb : Array Value} {S : List Int → Prop} {Nx : List Int → Int → Prop} {Pr : Nat → Prop} {w0 : World} (hPr : ∀ b, Pr b → b < w0.heap.size) (eg : ∀ args w, (callFunc gf args).run Try.prog w = .ok (.enter gf args) w) (hseq : GivesF gf lb S Nx Pr w0) (hN : ∀ pre x, Nx pre x → pre.length ≤ 1000)
    (W : World) (hb0 : Kept w0 W (fun b => ¬ Pr b)) :
    CallsIn Fence.wide 4 Try.prog 66 #[.slice none 0 0, .func (.func gf) #[] lb] W fun e w' => ∃ A c xs, e = .returned (.slice A xs.length c) ∧ S xs ∧ RowI w' W.heap.size A c xs ∧ Below W.heap.size W w' := by
  refine callsIn_of_wp_marks Try.func66 rfl trivial ?_ rfl
  simp only [Try.ntmps66, List.size_toArray, List.length_cons, List.length_nil, Nat.reduceAdd, Nat.reduceSub, Array.replicate_succ, Array.replicate_zero, List.push_toArray, List.append_toArray, List.nil_append, List.cons_append]
  obtain ⟨i0, i1, i2, i3, i4⟩ := infoI2
  have HN := Lib.hid hN
  have hw0 : W.heap.size ≤ (W.alloc (.cells #[.slice none 0 0] 30)).heap.size := by simp
  clear hN
  gi_wp2
  refine range_f (n := 4) (by omega) rfl eg hPr hseq (hb0.trans (Kept.fresh (S := fun b => ¬ Pr b) ((Below.refl _ W).alloc (Nat.le_refl _) _)) (fun b q => .inl q)) (GaI W W.heap.size) (fun b => b = W.heap.size) (gaI_bears W _ _ hw0) (gaI_lies W _ Pr (fun b q => Nat.lt_of_lt_of_le (hPr b q) hb0.size) (Nat.le_refl _))
    ⟨none, 0, heap_alloc_new W _, World.ownsRow_nil _ _ _ _, (Below.refl _ W).alloc (Nat.le_refl _) _, fun b => ⟨fun e => .inl e, fun e => by rcases e with e | e; exact e; cases e⟩⟩
    (fun x => { tmps := #[.slice none 0 0, .func (.func gf) #[] lb, .pointer (some ⟨W.heap.size, 0, none⟩), undef, .slice none 0 0, .int .i64 x, .func (.func gf) #[] lb, .int .i64 x, undef, undef, undef, undef, undef], defers := [] })
    ?assign ?body ?done
  case assign =>
    rintro l2 m2 x V K hK
    gi_wp2
    exact hK
  case body =>
    rintro l2 m2 pre x V F1 ⟨A, c, h1, h2, h3, h4⟩ hx
    have hlen := HN.out _ _ hx
    have hBs : W.heap.size < V.heap.size := (Array.getElem?_eq_some_iff.1 h1).1
    have c1 := cell_of_row V W.heap.size 0 _ 30 (0, 0) h1
    have f1 : V.frozen? ⟨W.heap.size, 0, none⟩ = false := frozen_of_row V W.heap.size 0 _ 30 h1
    have hne : own A ≠ some W.heap.size := fun e => box_int h1 (h2.isInt _ e)
    have HR : Hid ((V.alloc (.cells #[.int .i64 x] 3)).ownsRow W.heap.size 3 1 (.slice A pre.length c) pre.length (intsV pre)) := h2.alloc _
    have HNw : Hid (∀ j u, [Value.int .i64 x][j]? = some u → (V.alloc (.cells #[.int .i64 x] 3)).cell? ((⟨V.heap.size, 0, none⟩ : Addr).add j) = some u) := fun j u hu => World.news_of_block (heap_alloc_new V (.cells #[.int .i64 x] 3)) j u hu
    have HEnd : Hid (∀ v' w3, w3.ownsRow W.heap.size 3 1 v' (pre.length + 1) (intsV pre ++ [.int .i64 x]) → (V.alloc (.cells #[.int .i64 x] 3)).grownBy w3 (Value.slice A pre.length c).ownBlock → (v'.ownBlock = (Value.slice A pre.length c).ownBlock ∨ v'.ownBlock = some (V.alloc (.cells #[.int .i64 x] 3)).heap.size) →
        ∃ A' c', v' = .slice A' (pre.length + 1) c' ∧ w3.cell? ⟨W.heap.size, 0, none⟩ = some (.slice A pre.length c) ∧ w3.frozen? ⟨W.heap.size, 0, none⟩ = false ∧ bodyF (GaI W W.heap.size) pre x F1 V .normal { tmps := #[], defers := [] } (w3.setCell ⟨W.heap.size, 0, none⟩ (.slice A' (pre.length + 1) c'))) := fun v' w3 ho hg hat => by
      have ho' : w3.ownsRow W.heap.size 3 1 v' (pre.length + 1) (intsV (pre ++ [x])) := by rw [intsV_append]; exact ho
      obtain ⟨hn, A', c', rfl, hr⟩ := own_ints ho'
      have hl1 : (pre ++ [x]).length = pre.length + 1 := by simp
      rw [hl1] at hat ⊢
      have hA : Kept V (V.alloc (.cells #[.int .i64 x] 3)) (fun b => own A = some b) := Kept.fresh ((Below.refl _ V).alloc (Nat.le_refl _) _)
      have hk3 : Kept V w3 (fun b => own A = some b) := hA.trans (Kept.grown (S := fun b => own A = some b) hg (fun b e => .inl (by rw [own_eq] at e; exact e))) (fun b e => .inl e)
      have hbx : w3.heap[W.heap.size]? = some (.cells #[.slice A pre.length c] 30 (0, 0)) := (hk3.block _ hBs hne).trans h1
      have hks := Kept.set w3 W.heap.size 0 (.slice A' (pre.length + 1) c')
      have hrI : RowI w3 W.heap.size A' c' (pre ++ [x]) := hr
      have hne' : own A' ≠ some W.heap.size := fun e => box_int hbx (hrI.isInt _ e)
      rw [own_eq, own_eq] at hat
      refine ⟨A', c', rfl, cell_of_row w3 _ 0 _ 30 (0, 0) hbx, frozen_of_row w3 _ 0 _ 30 hbx, fun b => b = W.heap.size ∨ own A' = some b, ⟨A', c', ?_, ?_, ?_, fun b => Iff.rfl⟩, ?_, fun b hb => ?_⟩
      · rw [hl1]; exact heap_setCell_same w3 _ 0 _ 30 _ hbx
      · exact hrI.keep hks (fun b e q => by subst q; exact hne' e)
      · have hkA : Kept V (w3.setCell ⟨W.heap.size, 0, none⟩ (.slice A' (pre.length + 1) c')) (fun b => W.heap.size ≤ b) := (hk3.more (S' := fun b => W.heap.size ≤ b) (fun b e => .inl (h2.lt b e).1)).trans hks (fun b e => .inl (by subst e; exact Nat.le_refl _))
        exact h3.trans (hkA.below (fun b e => e) h3.size)
      · exact (hk3.more (S' := F1) (fun b e => .inl ((h4 b).2 (.inr e)))).trans hks (fun b e => .inl ((h4 b).2 (.inl e)))
      · rcases hb with e | e
        · exact .inl ((h4 b).2 (.inl e))
        · rcases hat with q | q
          · exact .inl ((h4 b).2 (.inr (by rw [← q]; exact e)))
          · rw [q] at e
            right
            have := Option.some.inj e
            simp at this
            omega
    have hV : W.heap.size ≤ V.heap.size := by omega
    have HB := Lib.hid hV
    clear h1 h2 h3 h4 hx hne hV
    gi_wp2_with (gi_at_builtin; refine wpListIn_append_own_at _ rfl _ _ 30 rfl W.heap.size 3 i0 (.int .i64 0) 1 8 Try.underlying30 i1 i2 i3 i4 rfl (by decide) _ _ _ rfl HR.out ⟨V.heap.size, 0, none⟩ 1 1 [.int .i64 x] rfl rfl HNw.out (by intro u hu; simp at hu; subst hu; rfl) (by unfold maxLen; omega) (by omega) (by have := HB.out; simp; omega) ?_; intro v' w3 ho hg _ hat; obtain ⟨A', c', rfl, k1, k2, k3⟩ := HEnd.out v' w3 ho hg hat; have K3 := Lib.hid k3; clear ho hg hat k3)
    exact K3.out
  case done =>
    rintro D xs F' V hD hS ⟨A, c, h1, h2, h3, h4⟩ hK
    have c1 := cell_of_row V W.heap.size 0 _ 30 (0, 0) h1
    have hBs : W.heap.size < V.heap.size := (Array.getElem?_eq_some_iff.1 h1).1
    have hkD := putObj_kept V D (.deferred none)
    have hD' : W.heap.size + 1 ≤ D := by simpa using hD
    have hneD : ∀ b, own A = some b → ¬ b = D := fun b e q => by
      subst q
      obtain ⟨cs, hc⟩ := h2.isInt _ e
      rw [hK] at hc; cases hc
    have HE : Hid (RowI (V.putObj D (.deferred none)) W.heap.size A c xs ∧ Below W.heap.size W (V.putObj D (.deferred none))) :=
      ⟨h2.keep hkD hneD, h3.trans (hkD.below (fun b e => by omega) h3.size)⟩
    clear h1 h2 h3 h4 hneD
    gi_wp2
    refine ⟨by simp, .inl ⟨_, _, rfl, run_takeDeferred hK, ?_⟩⟩
    exact ⟨_, results_tmp rfl _ _ _, A, c, xs, rfl, hS, HE.out.1, HE.out.2⟩
theorem sort_ints (xs p : List Int) (hp : Rises p) (hperm : xs.Perm p) (A : Option Addr) (c : Nat) (w : World) (B : Nat) (hB : B ≤ w.heap.size) (hr : RowI w B A c xs) (hl : xs.length ≤ 100000) : Calls Try.prog 58 #[.slice A xs.length c] w fun e w' => e = .returned (.tuple #[]) ∧ RowI w' B A c p ∧ Below B w w' := by
  have hpl : xs.length = p.length := hperm.length_eq
  rcases hr.2 with ⟨q, hz⟩ | ⟨gb, cap, cur, q, hbase, hgb, r1, r2, r3, r4⟩
  · obtain ⟨rfl, _, rfl⟩ := Value.slice.inj q
    have hxs : xs = [] := List.eq_nil_of_length_eq_zero hz
    subst hxs
    have hp0 : p = [] := List.eq_nil_of_length_eq_zero hpl.symm
    subst hp0
    refine (AnyM.slices_Sort_int_none Try.sort none 0 w).mono fun e w' ⟨he, hw⟩ => ?_
    subst hw
    exact ⟨he, hr, Below.refl _ _⟩
  · obtain ⟨rfl, _, rfl⟩ := Value.slice.inj q
    have hH : Holds encZ w gb 0 xs.toArray := holds_of_block_i hgb (by simpa [intsV, encZ] using r4)
    have hgl : gb < w.heap.size := (Array.getElem?_eq_some_iff.1 hgb).1
    refine (AnyM.slices_Sort_int Try.sort gb 0 c xs w hH hgl (by omega)).mono fun e w' ⟨he, nn, os, hw⟩ => ?_
    subst hw
    have hs := sort_rises hp hperm
    refine ⟨he, ?_, (Below.refl _ w).grown (grownBy_sorted_i _) hB (fun j hj => by cases hj; exact hbase)⟩
    have := ownsRow_sorted_i (n := nn) (os := os) (ss := xs) (ts := xs.mergeSort fun x y => decide (x ≤ y)) (by simp) hbase hgb r1 r2 r3
    rw [hs] at this
    unfold RowI
    rw [hpl] at this
    rw [encZ_ints] at this
    rw [hs]
    exact this
set_option maxRecDepth 100000 in
set_option maxHeartbeats 1000000 in
/-- slices.Sorted of a function that gives the numbers p in any order -/
theorem sorted_f {gf : Nat} {lb : Array Value} {p : List Int} {Nx : List Int → Int → Prop} {Pr : Nat → Prop} {w : World} (hPr : ∀ b, Pr b → b < w.heap.size) (hp : Rises p) (hl : p.length ≤ 1000) (eg : ∀ args w, (callFunc gf args).run Try.prog w = .ok (.enter gf args) w) (hseq : GivesF gf lb (fun xs => xs.Perm p) Nx Pr w) (hN : ∀ pre x, Nx pre x → pre.length ≤ 1000) :
    Calls Try.prog 40 #[.func (.func gf) #[] lb] w fun e w' => ∃ A c, e = .returned (.slice A p.length c) ∧ RowI w' w.heap.size A c p ∧ Below w.heap.size w w' := by
  have HC : Hid (CallsIn Fence.wide 5 Try.prog 57 #[.func (.func gf) #[] lb] w fun e w' => ∃ A c xs, e = .returned (.slice A xs.length c) ∧ xs.Perm p ∧ RowI w' w.heap.size A c xs ∧ Below w.heap.size w w') := by
    have HA := Lib.hid (appendSeq_f hPr eg hseq hN w (Kept.refl _ _))
    refine callsIn_of_wp Try.func57 rfl trivial ?_ rfl
    simp only [Try.ntmps57, List.size_toArray, List.length_cons, List.length_nil, Nat.reduceAdd, Nat.reduceSub, Array.replicate_succ, Array.replicate_zero, List.push_toArray, List.append_toArray, List.nil_append, List.cons_append]
    have hft : Fence.wide.fn 66 := trivial
    gi_wp2_with (gi_at_call 66; refine HA.out.mono ?_; rintro e w' ⟨A, c, xs, rfl, hS, hr, hb⟩)
    go_ret
    exact ⟨A, c, xs, rfl, hS, hr, hb⟩
  have HC2 := Lib.hid ((callsIn_wide (n := 5)).1 HC.out)
  have HPl : Hid (∀ xs : List Int, xs.Perm p → xs.length = p.length) := fun xs h => h.length_eq
  go_enter Try.func40, Try.ntmps40
  go_wp2_with (first
    | (go_at_call 57; refine HC2.out.mono ?_; rintro e W ⟨A, c, xs, rfl, hS, hr, hb⟩; have HSo := Lib.hid (sort_ints xs p hp hS A c W w.heap.size hb.size hr (by have := HPl.out xs hS; omega)); have HB := Lib.hid hb; have hxl := HPl.out xs hS; rw [hxl] at HSo ⊢; clear hS hr hb hxl)
    | (go_at_call 58; refine HSo.out.mono ?_; rintro e w' ⟨rfl, hr, hb⟩; have HR := Lib.hid hr; have HB2 := Lib.hid (HB.out.trans hb); clear hr hb))
  go_ret
  exact ⟨A, c, rfl, HR.out, HB2.out⟩
end Go.Proofs.Ytdndchoghhllmaa
