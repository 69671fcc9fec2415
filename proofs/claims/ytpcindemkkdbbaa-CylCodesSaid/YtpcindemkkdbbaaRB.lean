/- Appends of a slice that may be nil; the document's Copy. -/
import Derived.Test.YtpcindemkkdbbaaW
import Derived.Test.YtpcindemkkdbbaaRA
import Derived.Maps.AppendAt
import Derived.Laws.Cover3
namespace Go.Proofs.Ytpcindemkkdbbaa
set_option linter.unusedVariables false
set_option linter.unusedSimpArgs false
open Go.RowKit

theorem own_form {w : World} {B n : Nat} {e : TypeId} {size : Nat} {v : Value} {xs : List Value} (h : w.ownsRow B e size v n xs) : ∃ A c, v = .slice A n c := by
  rcases h.2 with ⟨rfl, h0⟩ | ⟨k, cap, cur, rfl, _⟩
  · exact ⟨none, 0, by rw [h0]⟩
  · exact ⟨_, cap, rfl⟩
section
variable {P : Program} {ops : Array Oper} {o : Oper} {a : Act} {w : World}
/-- append of a slice that may be nil onto a row of the call's own -/
theorem run_append_src (w : World) (base : Nat) (t ty e : TypeId) (i : TypeInfo) (z : Value) (size bytes : Nat) (ht : P.underlying t = some (.slice e)) (hi : P.info? e = some i) (hz : i.zero = some z)
    (hsize : i.size = size) (hby : i.bytes = bytes) (hzs : z.cells.size = size) (hsz : 0 < size)
    (v : Value) (n : Nat) (xs : List Value) (hown : w.ownsRow base e size v n xs)
    (A : Option Addr) (m c : Nat) (news : List Value) (hl : news.length = m * size) (hsrc : ∀ ad, A = some ad → ∀ j u, news[j]? = some u → w.cell? (ad.add j) = some u) (hnil : A = none → m = 0) (h1 : ∀ u ∈ news, u.oneCell' = true)
    (h63 : n + m ≤ maxLen) (hbytes : (n + m) * bytes ≤ 140737488355328) (hbase : base ≤ w.heap.size) :
    ∃ v' w', (Builtin.append_ #[t, t] ty #[v, .slice A m c]).run P w = .ok v' w' ∧ w'.ownsRow base e size v' (n + m) (xs ++ news) ∧ w.grownBy w' v.ownBlock ∧ (v'.ownBlock = v.ownBlock ∨ v'.ownBlock = some w.heap.size) := by
  rcases A with _ | ad
  · have hm := hnil rfl
    subst hm
    have hn : news = [] := List.eq_nil_of_length_eq_zero (by simpa using hl)
    subst hn
    refine ⟨v, w, ?_, by simpa using hown, World.grownBy.refl w _, .inl rfl⟩
    rcases hown.2 with ⟨rfl, rfl⟩ | ⟨g, cap, cur, rfl, _, _, hnc, _⟩
    · simp [Builtin.append_, run_underlying ht, sizeOf, typeInfo, hi, Builtin.lenOf, Builtin.firstCells]
    · simp [Builtin.append_, run_underlying ht, sizeOf, typeInfo, hi, Builtin.lenOf, Builtin.firstCells, hnc, storeCells]
  · obtain ⟨v', w', hr, h2, h3, _, h5⟩ := run_append_own_at (P := P) w base t ty e i z size bytes ht hi hz hsize hby hzs hsz v n xs hown ad m c news hl (hsrc ad rfl) h1 h63 hbytes hbase
    exact ⟨v', w', hr, h2, h3, h5⟩
theorem step_append_src {K : Act → World → Prop} {Q : Exit → Act → World → Prop} {EE : Prop} (hgd : o.guard = none) (s x : Operand) (t : TypeId)
    (hop : o.op = .call { callee := .builtin .append, args := #[s, x], argTypes := #[t, t] })
    (base : Nat) (e : TypeId) (i : TypeInfo) (z : Value) (size bytes : Nat) (ht : P.underlying t = some (.slice e)) (hi : P.info? e = some i) (hz : i.zero = some z)
    (hsize : i.size = size) (hby : i.bytes = bytes) (hzs : z.cells.size = size) (hsz : 0 < size)
    (v : Value) (n : Nat) (xs : List Value) (hs : a.eval s = v) (hown : w.ownsRow base e size v n xs)
    (A : Option Addr) (m c : Nat) (news : List Value) (hx : a.eval x = .slice A m c) (hl : news.length = m * size) (hsrc : ∀ ad, A = some ad → ∀ j u, news[j]? = some u → w.cell? (ad.add j) = some u) (hnil : A = none → m = 0) (h1 : ∀ u ∈ news, u.oneCell' = true)
    (h63 : n + m ≤ maxLen) (hbytes : (n + m) * bytes ≤ 140737488355328) (hbase : base ≤ w.heap.size) (q : Nat) (hq : n + m = q)
    (hK : ∀ A' c' w', w'.ownsRow base e size (.slice A' q c') q (xs ++ news) → w.grownBy w' v.ownBlock → ((Value.slice A' q c').ownBlock = v.ownBlock ∨ (Value.slice A' q c').ownBlock = some w.heap.size) → K (a.put o.dst (.slice A' q c')) w') :
    if Region.wanted o (yielded ops a.tmps) = true then Oper.wp P o a w K Q else EE := by
  subst hq
  have hw : Region.wanted o (yielded ops a.tmps) = true := by simp [Region.wanted, hgd]
  rw [if_pos hw]
  obtain ⟨v', w', hrun, r1, r2, r3⟩ := run_append_src (P := P) w base t o.type e i z size bytes ht hi hz hsize hby hzs hsz v n xs hown A m c news hl hsrc hnil h1 h63 hbytes hbase
  obtain ⟨A', c', rfl⟩ := own_form r1
  unfold Oper.wp
  simp [execOp, hop, resolve, invoke, builtin, hs, hx, hrun, Result.andThen]
  exact hK A' c' w' r1 r2 r3
theorem wpList_append_src {rest : List Oper} {Q : Exit → Act → World → Prop} (hgd : o.guard = none) (s x : Operand) (t : TypeId)
    (hop : o.op = .call { callee := .builtin .append, args := #[s, x], argTypes := #[t, t] })
    (base : Nat) (e : TypeId) (i : TypeInfo) (z : Value) (size bytes : Nat) (ht : P.underlying t = some (.slice e)) (hi : P.info? e = some i) (hz : i.zero = some z)
    (hsize : i.size = size) (hby : i.bytes = bytes) (hzs : z.cells.size = size) (hsz : 0 < size)
    (v : Value) (n : Nat) (xs : List Value) (hs : a.eval s = v) (hown : w.ownsRow base e size v n xs)
    (A : Option Addr) (m c : Nat) (news : List Value) (hx : a.eval x = .slice A m c) (hl : news.length = m * size) (hsrc : ∀ ad, A = some ad → ∀ j u, news[j]? = some u → w.cell? (ad.add j) = some u) (hnil : A = none → m = 0) (h1 : ∀ u ∈ news, u.oneCell' = true)
    (h63 : n + m ≤ maxLen) (hbytes : (n + m) * bytes ≤ 140737488355328) (hbase : base ≤ w.heap.size) (q : Nat) (hq : n + m = q)
    (hK : ∀ A' c' w', w'.ownsRow base e size (.slice A' q c') q (xs ++ news) → w.grownBy w' v.ownBlock → ((Value.slice A' q c').ownBlock = v.ownBlock ∨ (Value.slice A' q c').ownBlock = some w.heap.size) → wpList P ops Q rest (a.put o.dst (.slice A' q c')) w') : wpList P ops Q (o :: rest) a w := by
  subst hq
  refine wpList_plain hgd fun K hK2 => ?_
  obtain ⟨v', w', hrun, r1, r2, r3⟩ := run_append_src (P := P) w base t o.type e i z size bytes ht hi hz hsize hby hzs hsz v n xs hown A m c news hl hsrc hnil h1 h63 hbytes hbase
  obtain ⟨A', c', rfl⟩ := own_form r1
  unfold Oper.wp
  simp [execOp, hop, resolve, invoke, builtin, hs, hx, hrun, Result.andThen]
  exact hK2 _ _ (hK A' c' w' r1 r2 r3)
end
theorem Ints.src {w : World} {B : Nat} {A : Option Addr} {l : List Int} (h : Ints w B A l) : (∀ ad, A = some ad → ∀ (j : Nat) u, (intsV l)[j]? = some u → w.cell? (ad.add j) = some u) ∧ (A = none → l.length = 0) := by
  refine ⟨fun ad e j u hj => ?_, fun e => ?_⟩
  · have hjl : j < (intsV l).length := (List.getElem?_eq_some_iff.1 hj).1
    rw [length_intsV] at hjl
    obtain ⟨b, off, e2, hb, hc⟩ := h (by omega)
    rw [e] at e2; cases e2
    rw [Addr.add_lit, hc j hjl, ← hj, intsV_at hjl]
  · rcases Nat.eq_zero_or_pos l.length with h0 | h0
    · exact h0
    · obtain ⟨b, off, e2, _⟩ := h h0
      rw [e] at e2; cases e2
theorem empty_row (W : World) (B : Nat) (hB : B ≤ W.heap.size) : (W.alloc (.cells #[] 3)).ownsRow B 3 1 (.slice (some ⟨W.heap.size, 0, none⟩) 0 0) 0 [] := World.ownsRow_made W #[] 0 hB (Nat.zero_le _) rfl

set_option maxRecDepth 100000 in
set_option maxHeartbeats 2000000 in
theorem refcopy_any (x : Cy) (A : Option Addr) (c : Nat) (A2 : Option Addr) (d : Nat) (w : World) (hu : x.us.length ≤ 1000) (hi : x.is.length ≤ 1000) (hU : Ints w w.heap.size A x.us) (hI : Ints w w.heap.size A2 x.is) :
    Calls Try.prog 45 #[x.v A c A2 d] w (ForkSays w x) := by
  obtain ⟨i0, hi0, hz0, hz1, hz2⟩ := info_parts info3
  have HU : Hid (∀ W, Below w.heap.size w W → (∀ ad, A = some ad → ∀ (j : Nat) u, (intsV x.us)[j]? = some u → W.cell? (ad.add j) = some u) ∧ (A = none → x.us.length = 0)) := fun W hB => (hU.next hB).src
  have HI : Hid (∀ W, Below w.heap.size w W → (∀ ad, A2 = some ad → ∀ (j : Nat) u, (intsV x.is)[j]? = some u → W.cell? (ad.add j) = some u) ∧ (A2 = none → x.is.length = 0)) := fun W hB => (hI.next hB).src
  clear hU hI
  obtain ⟨Q, hQ⟩ : ∃ Q, Q = ForkSays w x := ⟨_, rfl⟩
  have HQ : Hid (∀ e w', ForkSays w x e w' → Q e w') := by unfold Hid; rw [hQ]; exact fun _ _ h => h
  rw [← hQ]
  clear hQ
  obtain ⟨ix, bl, fb, fi, ro, us, is⟩ := x
  unfold Cy.v
  simp only at HU HI hu hi ⊢
  obtain ⟨n1, h1⟩ : ∃ n1, n1 = us.length := ⟨_, rfl⟩
  obtain ⟨n2, h2⟩ : ∃ n2, n2 = is.length := ⟨_, rfl⟩
  have H1 := Lib.hid h1
  have H2 := Lib.hid h2
  rw [← h1] at HU hu
  rw [← h2] at HI hi
  rw [← h1, ← h2]
  clear h1 h2
  have HR1 : Hid (∀ o1 o2, (((w.alloc o1).alloc o2).alloc (.cells #[] 3)).ownsRow (w.heap.size + 1 + 1) 3 1 (.slice (some ⟨w.heap.size + 1 + 1, 0, none⟩) 0 0) 0 []) := fun o1 o2 => by
    have := empty_row ((w.alloc o1).alloc o2) (w.heap.size + 1 + 1) (by simp)
    rw [World.size_alloc, World.size_alloc] at this; exact this
  have HB0 : Hid (∀ o1 o2, Below w.heap.size w (((w.alloc o1).alloc o2).alloc (.cells #[] 3))) := fun o1 o2 => (((Below.refl _ w).alloc (Nat.le_refl _) _).alloc (by simp) _).alloc (by simp; omega) _
  have HZ : Hid (∀ o1 o2, (((w.alloc o1).alloc o2).alloc (.cells #[] 3)).heap[w.heap.size]? = some o1 ∧ (((w.alloc o1).alloc o2).alloc (.cells #[] 3)).heap[w.heap.size + 1]? = some o2 ∧ (((w.alloc o1).alloc o2).alloc (.cells #[] 3)).heap.size = w.heap.size + 3) := fun o1 o2 => by
    have a1 := Go.heap_alloc_new w o1
    have a2 := (Below.heap_alloc (w.alloc o1) o2 w.heap.size (by simp)).trans a1
    have a3 := (Below.heap_alloc ((w.alloc o1).alloc o2) (.cells #[] 3) w.heap.size (by simp; omega)).trans a2
    have b1 := Go.heap_alloc_new (w.alloc o1) o2
    rw [World.size_alloc] at b1
    have b2 := (Below.heap_alloc ((w.alloc o1).alloc o2) (.cells #[] 3) (w.heap.size + 1) (by simp)).trans b1
    exact ⟨a3, b2, by simp⟩
  go_enter Try.func45, Try.ntmps45
  go_wp2_with (at_builtin; refine wpList_append_src rfl (.tmp 3) (.tmp 5) 22 rfl (w.heap.size + 1 + 1) 3 i0 (.int .i64 0) 1 8 Try.underlying22 hi0 hz0 hz1 hz2 rfl (by decide) (.slice (some ⟨w.heap.size + 1 + 1, 0, none⟩) 0 0) 0 [] rfl ?r1 A n1 c (intsV us) rfl ?r2 ?r3 ?r4 (intsV_one _) (by unfold maxLen; omega) (by omega) (by simp) n1 (by omega) ?_)
  case r1 => exact HR1.out _ _
  case r2 => rw [length_intsV, Nat.mul_one]; exact H1.out.symm
  case r3 => exact (HU.out _ (HB0.out _ _)).1
  case r4 => exact (HU.out _ (HB0.out (.cells #[] 3) (.cells #[] 3))).2
  rintro A' c' w1 hown hgrow hor
  obtain ⟨z0, z1, z2⟩ := HZ.out (.cells #[.int .i64 ix, .int .i64 bl, .int .i64 fb, .int .i64 fi, .int .i64 ro, .slice A n1 c, .slice A2 n2 d] 24) (.cells #[.int .i64 0, .int .i64 0, .int .i64 0, .int .i64 0, .int .i64 0, .slice none 0 0, .slice none 0 0] 24)
  have hk1 := Kept.grown (S := fun b => b = w.heap.size + 1 + 1) hgrow (fun k e => .inl (by cases e; rfl))
  have h10 := (hk1.block w.heap.size (by rw [z2]; omega) (by omega)).trans z0
  have h11 := (hk1.block (w.heap.size + 1) (by rw [z2]; omega) (by omega)).trans z1
  have hy1 : w.heap.size + 3 ≤ w1.heap.size := by have := hk1.size; omega
  have hBw1 : Below w.heap.size w w1 := (HB0.out _ _).trans (hk1.below (fun b q => by omega) (by rw [z2]; omega))
  obtain ⟨hnx, A1, c1, e1, hr1⟩ := own_ints (l := us) (n := n1) hown
  clear hnx
  obtain ⟨rfl, hnn, rfl⟩ := Value.slice.inj e1
  clear hnn
  obtain ⟨c0, d1, d2, d3, d4, c5, c6⟩ := seven h10
  have f5 := frozen_of_row w1 _ 5 _ 24 h10
  have HB1 : Hid (Below w.heap.size w (w1.setCell ⟨w.heap.size, 5, none⟩ (.slice A' n1 c'))) := hBw1.setCell (Nat.le_refl _) _
  have HB2 : Hid (Below w.heap.size w ((w1.setCell ⟨w.heap.size, 5, none⟩ (.slice A' n1 c')).alloc (.cells #[] 3))) := HB1.out.alloc (by simp; omega) _
  have HR2 : Hid (((w1.setCell ⟨w.heap.size, 5, none⟩ (.slice A' n1 c')).alloc (.cells #[] 3)).ownsRow w1.heap.size 3 1 (.slice (some ⟨w1.heap.size, 0, none⟩) 0 0) 0 []) := by
    have := empty_row (w1.setCell ⟨w.heap.size, 5, none⟩ (.slice A' n1 c')) w1.heap.size (by simp)
    unfold Hid; simpa using this
  have Hr1 := Lib.hid hr1
  have hk2 := set_kept w1 w.heap.size 5 (.slice A' n1 c')
  have H20 := Lib.hid (set_heap h10 (o := 5) (.slice A' n1 c'))
  have H21 := Lib.hid ((set_other (g := w.heap.size) (o := 5) (k := w.heap.size + 1) (by omega) (.slice A' n1 c')).trans h11)
  have Hk2 := Lib.hid hk2
  have hlt : w.heap.size < w1.heap.size := by omega
  clear hr1 hown hgrow hor hk1 h10 h11 hBw1 z0 z1 z2 e1 hk2
  go_wp2_with (at_builtin; refine wpList_append_src rfl (.tmp 8) (.tmp 10) 22 rfl w1.heap.size 3 i0 (.int .i64 0) 1 8 Try.underlying22 hi0 hz0 hz1 hz2 rfl (by decide) (.slice (some ⟨w1.heap.size, 0, none⟩) 0 0) 0 [] rfl ?s1 A2 n2 d (intsV is) rfl ?s2 ?s3 ?s4 (intsV_one _) (by unfold maxLen; omega) (by omega) (by simp) n2 (by omega) ?_)
  case s1 => exact HR2.out
  case s2 => rw [length_intsV, Nat.mul_one]; exact H2.out.symm
  case s3 => exact (HI.out _ HB2.out).1
  case s4 => exact (HI.out _ HB2.out).2
  rintro A2' d' w2 hown hgrow hor
  have hk3 := Kept.grown (S := fun b => w1.heap.size ≤ b) hgrow (fun k e => .inl (by cases e; exact Nat.le_refl _))
  have hz3 : ((w1.setCell ⟨w.heap.size, 5, none⟩ (.slice A' n1 c')).alloc (.cells #[] 3)).heap.size = w1.heap.size + 1 := by simp
  have h20 := (hk3.block w.heap.size (by omega) (by omega)).trans ((Below.heap_alloc (w1.setCell ⟨w.heap.size, 5, none⟩ (.slice A' n1 c')) (.cells #[] 3) w.heap.size (by simp; omega)).trans H20.out)
  have h21 := (hk3.block (w.heap.size + 1) (by omega) (by omega)).trans ((Below.heap_alloc (w1.setCell ⟨w.heap.size, 5, none⟩ (.slice A' n1 c')) (.cells #[] 3) (w.heap.size + 1) (by simp; omega)).trans H21.out)
  simp only [List.setIfInBounds_toArray, List.set_cons_succ, List.set_cons_zero] at h20
  clear c0 d1 d2 d3 d4 c5 c6 f5
  obtain ⟨c0, d1, d2, d3, d4, c5, c6⟩ := seven h20
  obtain ⟨r0, r1, r2, r3, r4, r5, r6⟩ := seven h21
  have f6 := frozen_of_row w2 _ 6 _ 24 h20
  have g0 := frozen_of_row w2 _ 0 _ 24 h21
  have g1 := frozen_of_row w2 _ 1 _ 24 h21
  have g2 := frozen_of_row w2 _ 2 _ 24 h21
  have g3 := frozen_of_row w2 _ 3 _ 24 h21
  have g4 := frozen_of_row w2 _ 4 _ 24 h21
  have g5 := frozen_of_row w2 _ 5 _ 24 h21
  have g6 := frozen_of_row w2 _ 6 _ 24 h21
  have hy2 : w1.heap.size + 1 ≤ w2.heap.size := by have := hk3.size; omega
  obtain ⟨hnx, A3, c3, e3, hr2⟩ := own_ints (l := is) (n := n2) hown
  clear hnx
  obtain ⟨rfl, hnn, rfl⟩ := Value.slice.inj e3
  clear hnn
  have Hr2 := Lib.hid hr2
  have Hk3 := Lib.hid hk3
  have HB3 := Lib.hid (HB2.out.trans (hk3.below (fun b q => by omega) (by omega)))
  clear hr2 hown hgrow hor hk3 h20 h21 e3
  go_wp2_with fail
  have hK : Kept w2 ((((((((w2.setCell ⟨w.heap.size, 6, none⟩ (.slice A2' n2 d')).setCell ⟨w.heap.size + 1, 0, none⟩ (.int .i64 ix)).setCell ⟨w.heap.size + 1, 1, none⟩ (.int .i64 bl)).setCell ⟨w.heap.size + 1, 2, none⟩ (.int .i64 fb)).setCell ⟨w.heap.size + 1, 3, none⟩ (.int .i64 fi)).setCell ⟨w.heap.size + 1, 4, none⟩ (.int .i64 ro)).setCell ⟨w.heap.size + 1, 5, none⟩ (.slice A' n1 c')).setCell ⟨w.heap.size + 1, 6, none⟩ (.slice A2' n2 d')) (fun k => k = w.heap.size ∨ k = w.heap.size + 1) :=
    (((((((Kept.refl _ _).set (.inl (.inl rfl))).set (.inl (.inr rfl))).set (.inl (.inr rfl))).set (.inl (.inr rfl))).set (.inl (.inr rfl))).set (.inl (.inr rfl))).set (.inl (.inr rfl)) |>.set (.inl (.inr rfl))
  refine bodyPost_ret (v := .agg #[.int .i64 ix, .int .i64 bl, .int .i64 fb, .int .i64 fi, .int .i64 ro, .slice A' n1 c', .slice A2' n2 d']) (by simp [results, Try.results45, go_sem, r0, r1, r2, r3, r4, r5, r6]) rfl (HQ.out _ _ ⟨A', c', A2', d', by rw [H1.out, H2.out]; rfl, ?_, ?_, ?_, ?_⟩)
  · have a1 := Hr1.out.keep Hk2.out (fun b q r => by have := (Hr1.out.lt q).1; omega)
    have a2 := (a1.next ((Below.refl _ _).alloc (Nat.le_refl _) (.cells #[] 3))).keep Hk3.out (fun b q r => by have := (Hr1.out.lt q).2; omega)
    exact (a2.keep hK (fun b q r => by have := (Hr1.out.lt q).1; omega)).more (by omega)
  · exact (Hr2.out.keep hK (fun b q r => by have := (Hr2.out.lt q).1; omega)).more (by omega)
  · intro b q r
    have h1 := (Hr1.out.lt q).2
    have h2 := (Hr2.out.lt r).1
    omega
  · exact HB3.out.trans (hK.below (fun b q => by omega) (by omega))
end Go.Proofs.Ytpcindemkkdbbaa
