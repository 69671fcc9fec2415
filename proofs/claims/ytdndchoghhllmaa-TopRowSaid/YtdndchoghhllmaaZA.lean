/- The walk over all that some groups come behind: the walk itself. -/
import Derived.Test.YtdndchoghhllmaaZ
set_option linter.unusedVariables false
set_option linter.unusedSimpArgs false
namespace Go.Proofs.Ytdndchoghhllmaa
open Go.RowKit Go.Maps Go.Sort Go.Shelf
attribute [local go_sem] Oper.semAt_some
theorem far_in {l : List Gp} (hin : ∀ n, ∀ y ∈ (ofN l n).a, y ∈ nos l) {n y : Int} (h : Far l n y) : y ∈ nos l := by
  induction h with
  | one h => exact hin _ _ h
  | step _ _ ih => exact ih
theorem kept_drew (w : World) : Kept w w.drew (fun _ => False) := ⟨rfl, rfl, rfl, Nat.le_refl _, fun _ _ _ => rfl⟩
/-- how long a slice is -/
def sl : Value → Nat
  | .slice _ n _ => n
  | _ => 0
/-- what the walk keeps in memory: xs were given, ys are seen, r is left; the blocks X are its own, too -/
def WkM (Pr X : Nat → Prop) (W w0 : World) (J : List Int → (Nat → Prop) → World → Prop) (xs ys r : List Int) (A : Option Addr) (c : Nat) (wr : World) : Prop :=
  ∃ F, J xs F wr ∧ Kept w0 wr (fun b => ¬ Pr b) ∧ W.heap.size < wr.heap.size ∧ SetAt wr W.heap.size ys.length ys ∧ ¬ F W.heap.size ∧ RowQ wr (W.heap.size + 1) A c r ∧ (∀ b, own A = some b → ¬ F b) ∧ ∀ b, X b → ¬ F b ∧ own A ≠ some b ∧ b < wr.heap.size ∧ W.heap.size + 1 ≤ b
namespace WkM
variable {Pr X : Nat → Prop} {W w0 : World} {J : List Int → (Nat → Prop) → World → Prop} {xs ys r : List Int} {A : Option Addr} {c : Nat} {wr V : World}
theorem step {T : Nat → Prop} (h : WkM Pr X W w0 J xs ys r A c wr) (hJ : Bears W.heap.size J) (hPr : ∀ b, Pr b → b < w0.heap.size) (hw : w0.heap.size ≤ W.heap.size) (hk : Kept wr V T) (hT : ∀ b, T b → X b) : WkM Pr X W w0 J xs ys r A c V := by
  obtain ⟨F, h1, h2, h3, h4, h5, h6, h7, h8⟩ := h
  exact ⟨F, hJ _ _ _ _ T h1 hk (fun b q => ⟨by have := (h8 b (hT b q)).2.2.2; omega, (h8 b (hT b q)).1⟩), h2.trans hk (fun b q => .inl (fun z => by have := hPr b z; have := (h8 b (hT b q)).2.2.2; omega)), Nat.lt_of_lt_of_le h3 hk.size, h4.keep hk (fun q => by have := (h8 _ (hT _ q)).2.2.2; omega), h5, h6.keep hk (fun b e q => (h8 b (hT b q)).2.1 e), h7, fun b q => ⟨(h8 b q).1, (h8 b q).2.1, Nat.lt_of_lt_of_le (h8 b q).2.2.1 hk.size, (h8 b q).2.2.2⟩⟩
theorem fresh (h : WkM Pr X W w0 J xs ys r A c wr) (hJ : Bears W.heap.size J) (hPr : ∀ b, Pr b → b < w0.heap.size) (hw : w0.heap.size ≤ W.heap.size) (hk : Kept wr V (fun _ => False)) : WkM Pr X W w0 J xs ys r A c V :=
  h.step hJ hPr hw hk (fun b q => q.elim)
theorem bel (h : WkM Pr X W w0 J xs ys r A c wr) : Kept w0 wr (fun b => ¬ Pr b) := by obtain ⟨F, h1, h2, _⟩ := h; exact h2
theorem siz (h : WkM Pr X W w0 J xs ys r A c wr) : W.heap.size < wr.heap.size := by obtain ⟨F, h1, h2, h3, _⟩ := h; exact h3
theorem set (h : WkM Pr X W w0 J xs ys r A c wr) : SetAt wr W.heap.size ys.length ys := by obtain ⟨F, h1, h2, h3, h4, _⟩ := h; exact h4
theorem row (h : WkM Pr X W w0 J xs ys r A c wr) : RowQ wr (W.heap.size + 1) A c r := by obtain ⟨F, h1, h2, h3, h4, h5, h6, _⟩ := h; exact h6
theorem less (h : WkM Pr X W w0 J xs ys r A c wr) : WkM Pr (fun _ => False) W w0 J xs ys r A c wr := by
  obtain ⟨F, h1, h2, h3, h4, h5, h6, h7, h8⟩ := h
  exact ⟨F, h1, h2, h3, h4, h5, h6, h7, fun b q => q.elim⟩
/-- a block made now is its own -/
theorem more (h : WkM Pr (fun _ => False) W w0 J xs ys r A c wr) (hJ : Bears W.heap.size J) (hJL : Lies Pr J) (hPr : ∀ b, Pr b → b < w0.heap.size) (hw : w0.heap.size ≤ W.heap.size) (hk : Kept wr V (fun _ => False)) (hl : wr.heap.size < V.heap.size) : WkM Pr (fun b => b = wr.heap.size) W w0 J xs ys r A c V := by
  have h3 := h.siz
  have hA := h.row.lt
  have hF : ∀ F, J xs F wr → ¬ F wr.heap.size := fun F hj q => by have := (hJL _ _ _ hj _ q).2; omega
  obtain ⟨F, h1, _⟩ := id h
  obtain ⟨F2, g1, g2, g3, g4, g5, g6, g7, g8⟩ := h
  exact ⟨F2, hJ _ _ _ _ _ g1 hk (fun b q => q.elim), g2.trans hk (fun b q => q.elim), Nat.lt_of_lt_of_le g3 hk.size, g4.keep hk (fun q => q), g5, g6.keep hk (fun b e q => q), g7, fun b q => by subst q; exact ⟨hF F2 g1, fun e => by have := (hA _ e).2; omega, hl, h3⟩⟩
theorem add (h : WkM Pr X W w0 J xs ys r A c wr) (hJ : Bears W.heap.size J) (hPr : ∀ b, Pr b → b < w0.heap.size) (hw : w0.heap.size ≤ W.heap.size) (hg : wr.grownBy V (some W.heap.size)) {zs : List Int} (hs : SetAt V W.heap.size zs.length zs) : WkM Pr X W w0 J xs zs r A c V := by
  obtain ⟨F, h1, h2, h3, h4, h5, h6, h7, h8⟩ := h
  have hk := Kept.grown (S := fun b => b = W.heap.size) hg (fun b e => by cases e; exact .inl rfl)
  exact ⟨F, hJ _ _ _ _ _ h1 hk (fun b q => by subst q; exact ⟨Nat.le_refl _, h5⟩), h2.trans hk (fun b q => .inl (fun z => by have := hPr b z; omega)), Nat.lt_of_lt_of_le h3 hk.size, hs, h5, h6.keep hk (fun b e q => by have := (h6.lt b e).1; omega), h7, fun b q => ⟨(h8 b q).1, (h8 b q).2.1, Nat.lt_of_lt_of_le (h8 b q).2.2.1 hk.size, (h8 b q).2.2.2⟩⟩
theorem yield {m l : Nat} {x : Int} {Nx : List Int → Int → Prop} (h : WkM Pr X W w0 J xs ys r A c V) (hJL : Lies Pr J) (hPr : ∀ b, Pr b → b < w0.heap.size) (hw : w0.heap.size ≤ W.heap.size) (hx : Nx xs x)
    (hY : ∀ (m : Nat) (pre : List Int) (x : Int) (W1 : World) (F1 : Nat → Prop), J pre F1 W1 → Nx pre x → YieldAt Fence.wide m Try.prog l #[.int .i64 x] W1 fun e W' => e = .returned (.bool true) ∧ ∃ F2, J (pre ++ [x]) F2 W' ∧ Kept W1 W' F1 ∧ ∀ b, F2 b → F1 b ∨ W1.heap.size ≤ b) :
    YieldAt Fence.wide m Try.prog l #[.int .i64 x] V fun e W' => e = .returned (.bool true) ∧ WkM Pr X W w0 J (xs ++ [x]) ys r A c W' ∧ ∃ T, Kept V W' T ∧ ∀ b, T b → ¬ Pr b ∧ ¬ X b := by
  obtain ⟨F, h1, h2, h3, h4, h5, h6, h7, h8⟩ := h
  obtain ⟨fn, tmps, assign, body, hy, hR⟩ := hY m xs x V F h1 hx
  refine ⟨fn, tmps, assign, body, hy, hR.mono ?_⟩
  rintro e W' ⟨he, F2, k1, k2, k3⟩
  have hl := hJL _ _ _ h1
  have hno : ∀ b, b < V.heap.size → ¬ F b → ¬ F2 b := fun b hb hn q => by rcases k3 b q with z | z; exact hn z; omega
  refine ⟨he, ⟨F2, k1, h2.trans k2 (fun b q => .inl (hl b q).1), Nat.lt_of_lt_of_le h3 k2.size, h4.keep k2 h5, hno _ h3 h5, h6.keep k2 (fun b e q => h7 b e q), fun b e => hno b (h6.lt b e).2 (h7 b e), fun b q => ⟨hno b (h8 b q).2.2.1 (h8 b q).1, (h8 b q).2.1, Nat.lt_of_lt_of_le (h8 b q).2.2.1 k2.size, (h8 b q).2.2.2⟩⟩, F, k2, fun b q => ⟨(hl b q).1, fun z => (h8 b z).1 q⟩⟩
theorem append (h : WkM Pr X W w0 J xs ys r A c wr) (hJ : Bears W.heap.size J) (hJL : Lies Pr J) (hPr : ∀ b, Pr b → b < w0.heap.size) (hw : w0.heap.size ≤ W.heap.size) {A' : Option Addr} {c' : Nat} {r' : List Int} (hr : RowQ V (W.heap.size + 1) A' c' r') (hg : wr.grownBy V (own A)) (hat : own A' = own A ∨ own A' = some wr.heap.size) : WkM Pr X W w0 J xs ys r' A' c' V := by
  obtain ⟨F, h1, h2, h3, h4, h5, h6, h7, h8⟩ := h
  have hk := Kept.grown (S := fun b => own A = some b) hg (fun b e => .inl e)
  have hl := hJL _ _ _ h1
  refine ⟨F, hJ _ _ _ _ _ h1 hk (fun b q => ⟨by have := (h6.lt b q).1; omega, h7 b q⟩), h2.trans hk (fun b q => .inl (fun z => by have := hPr b z; have := (h6.lt b q).1; omega)), Nat.lt_of_lt_of_le h3 hk.size, h4.keep hk (fun q => by have := (h6.lt _ q).1; omega), h5, hr, fun b e => ?_, fun b q => ⟨(h8 b q).1, ?_, Nat.lt_of_lt_of_le (h8 b q).2.2.1 hk.size, (h8 b q).2.2.2⟩⟩
  · rcases hat with z | z
    · exact h7 b (by rw [← z]; exact e)
    · rw [z] at e
      intro q
      have := (hl b q).2
      have := Option.some.inj e
      omega
  · rcases hat with z | z
    · rw [z]; exact (h8 b q).2.1
    · rw [z]
      intro e
      have := (h8 b q).2.2.1
      have := Option.some.inj e
      omega
end WkM
theorem Kept.ranges {w w' : World} {S : Nat → Prop} {k : TypeId} {R : Value → Option (DataW Value × List MemPlace)} {b r n : Nat} {D : DataW Value} {left : Lit → Bool} {cnt : Nat} (hk : Kept w w' S) (h : w.ranges Try.prog k R b r n D left cnt) (hb : ¬ S b) (hr : ¬ S r) : w'.ranges Try.prog k R b r n D left cnt := by
  obtain ⟨es, clock, since, seen, c0, h1, F, hs, hD, h2, rest⟩ := h
  exact ⟨es, clock, since, seen, c0, (hk.block b (Array.getElem?_eq_some_iff.1 h1).1 hb).trans h1, F, hs, hD, (hk.block r (Array.getElem?_eq_some_iff.1 h2).1 hr).trans h2, rest⟩
set_option maxRecDepth 100000 in
/-- taking the first away from a row -/
theorem wpListIn_slice_q {F : Fence} {nF : Nat} {ops : Array Oper} {rest : List Oper} {o : Oper} {a : Act} {Q : Exit → Act → World → Prop} {w : World} (hgd : o.guard = none) (s : Operand) (ho : o.op = .slice 30 s (some (.const (.int .i64 1))) none none)
    (gb off m c : Nat) (hs : a.eval s = .slice (some ⟨gb, off, none⟩) (m + 1) c) (h1 : m + 1 ≤ c) (h2 : c ≤ maxLen) (A2 : Option Addr) (hA : A2 = some (if c = 1 then ⟨gb, off, none⟩ else ⟨gb, off + 1, none⟩))
    (h : wpListIn F nF Try.prog ops Q rest (a.put o.dst (.slice A2 m (c - 1))) w) : wpListIn F nF Try.prog ops Q (o :: rest) a w := by
  subst hA
  have hrun : (Instr.sliceAt 30 (.slice (some ⟨gb, off, none⟩) (m + 1) c) (some (.int .i64 1)) none none).run Try.prog w = .ok (.slice (some (if c = 1 then ⟨gb, off, none⟩ else ⟨gb, off + 1, none⟩)) m (c - 1)) w := by
    clear h hs ho hgd h2
    have hm1 : (1 : Int) ≤ (m : Int) + 1 := by omega
    have hz : (Go.sizeOf 3).run Try.prog w = .ok 1 w := Try.sizeOf3 w
    by_cases hc : c = 1
    · simp [Instr.sliceAt, Instr.slice, run_underlying Try.underlying30, Instr.sliceBounds, Instr.sliceBound, go_sem, Result.andThen, hc, hz]
      rw [if_pos hm1]
      simp
    · simp [Instr.sliceAt, Instr.slice, run_underlying Try.underlying30, Instr.sliceBounds, Instr.sliceBound, go_sem, Result.andThen, hc, hz]
      rw [if_pos hm1]
      simp [hc]
  have hrun' : (Instr.sliceAt 30 (.slice (some ⟨gb, off, none⟩) (m + 1) c) (some (a.eval (.const (.int .i64 1)))) none none).run Try.prog w = .ok (.slice (some (if c = 1 then ⟨gb, off, none⟩ else ⟨gb, off + 1, none⟩)) m (c - 1)) w := hrun
  refine wpListIn_plain hgd fun K hK => ?_
  unfold Oper.wpIn
  refine ⟨by simp [Oper.about, ho], ?_⟩
  rw [Oper.semAt_plain F _ _ (by rw [ho]; intro c hc'; cases hc')]
  simp [execOp, ho, hs, hrun', Result.andThen]
  exact hK _ _ h
section
variable (B c g mb : Nat) (L : List Pr) (k : Int) (w0 : World)
set_option maxRecDepth 100000 in
set_option maxHeartbeats 4000000 in
theorem walk_gives (h : PrgAt B c w0 g mb L k) (hc : c < 1000000) (hwf : ∀ n ∈ nos (gp L), WfI n) (hin : ∀ n, ∀ y ∈ (ofN (gp L) n).a, y ∈ nos (gp L)) (Bs Bg B0 c0 : Nat) (A0 : Option Addr) (so p : List Int)
    (hbs : w0.cell? ⟨Bs, 0, none⟩ = some (.slice A0 so.length c0)) (hbsl : Bs < w0.heap.size) (hbg : w0.cell? ⟨Bg, 0, none⟩ = some (.pointer (some ⟨g, 0, none⟩))) (hbgl : Bg < w0.heap.size) (hso : RowI w0 B0 A0 c0 so) (hsn : ∀ y ∈ so, y ∈ nos (gp L)) (hsl : so.length ≤ 100) (hp : AllFar (gp L) so p) (hpl : p.length ≤ 100) (Pr : Nat → Prop) (hPr : ∀ b, Pr b → b < w0.heap.size) (hP1 : ∀ b, OfP g mb L b → Pr b) (hP2 : Pr Bs ∧ Pr Bg) (hP3 : ∀ b, own A0 = some b → Pr b) :
    GivesF 59 #[.pointer (some ⟨Bs, 0, none⟩), .pointer (some ⟨Bg, 0, none⟩)] (fun xs => xs.Perm p) (fun pre x => pre.length < p.length ∧ x ∈ p) Pr w0 := by
  intro n l J F0 W hn1 hW hJ hJL hY h0
  show CallsIn Fence.wide n Try.prog 59 #[.func (.yield l) #[] #[], .pointer (some ⟨Bs, 0, none⟩), .pointer (some ⟨Bg, 0, none⟩)] W _
  have HF : Hid (∀ V, Kept w0 V (fun b => ¬ Pr b) → PrgAt B c V g mb L k ∧ V.cell? ⟨Bs, 0, none⟩ = some (.slice A0 so.length c0) ∧ V.cell? ⟨Bg, 0, none⟩ = some (.pointer (some ⟨g, 0, none⟩)) ∧ RowI V B0 A0 c0 so ∧ Bs < V.heap.size ∧ Bg < V.heap.size) := fun V hV =>
    ⟨h.keep hV (fun b o q => q (hP1 b o)), (hV.cell (a := ⟨Bs, 0, none⟩) hbsl (fun q => q hP2.1)).trans hbs, (hV.cell (a := ⟨Bg, 0, none⟩) hbgl (fun q => q hP2.2)).trans hbg, hso.keep hV (fun b e q => q (hP3 b e)), Nat.lt_of_lt_of_le hbsl hV.size, Nat.lt_of_lt_of_le hbgl hV.size⟩
  have HC := Lib.hid h
  have HY := Lib.hid hY
  have HJ := Lib.hid hJ
  have HJL := Lib.hid hJL
  have HP := Lib.hid hp
  have HIn := Lib.hid hin
  have HWf := Lib.hid hwf
  have HPn : Hid (∀ y ∈ p, y ∈ nos (gp L)) := fun y hy => by
    obtain ⟨n, _, hf⟩ := (hp.2 y).1 hy
    exact far_in hin hf
  have HSn := Lib.hid hsn
  have hmm := @run_makeMap Try.prog
  have hWs := hW.size
  refine callsIn_of_wp Try.func59 rfl trivial ?_ rfl
  simp only [Try.ntmps59, List.size_toArray, List.length_cons, List.length_nil, Nat.reduceAdd, Nat.reduceSub, Array.replicate_succ, Array.replicate_zero, List.push_toArray, List.append_toArray, List.nil_append, List.cons_append]
  have HF0 := Lib.hid (hJL _ _ _ h0)
  have H0 : Hid (∀ V, Below (W.alloc (.map #[] 0)).heap.size (W.alloc (.map #[] 0)) V → J [] F0 V ∧ SetAt V W.heap.size 0 [] ∧ Kept w0 V (fun b => ¬ Pr b) ∧ W.heap.size < V.heap.size) := fun V hV => by
    have hb : Below W.heap.size W (W.alloc (.map #[] 0)) := (Below.refl _ W).alloc (Nat.le_refl _) _
    have hb2 : Below W.heap.size W V := hb.trans (hV.mono (by simp))
    have hs := hV.size
    rw [World.size_alloc] at hs
    exact ⟨hJ _ _ _ _ (fun _ => False) h0 (Kept.fresh hb2) (fun _ q => q.elim), (set_made W).fresh hV, hW.trans (Kept.fresh (S := fun b => ¬ Pr b) hb2) (fun b q => .inl q), by omega⟩
  have hbA : Kept w0 (W.alloc (.map #[] 0)) (fun b => ¬ Pr b) := hW.trans (Kept.fresh (S := fun b => ¬ Pr b) ((Below.refl _ W).alloc (Nat.le_refl _) _)) (fun b q => .inl q)
  obtain ⟨_, c1, c2, hsr, hl1, hl2⟩ := HF.out _ hbA
  have HCl := Lib.hid (callsIn_wide (n := n - 1).2 (clone_row A0 c0 so (by omega) hsr))
  have hws : (W.alloc (.map #[] 0)).heap.size = W.heap.size + 1 := by simp
  rw [hws] at HCl
  clear h hY hJ hJL hp hin hwf hsn hbs hbg hso hsr hW h0 hbA
  have hft1 : Fence.wide.fn 60 := trivial
  have hft2 : Fence.wide.fn 52 := trivial
  have hft3 : Fence.wide.fn 54 := trivial
  gi_wp2_with (gi_at_call 60; refine HCl.out.mono ?_; rintro e w1 ⟨A1, c1', rfl, hr1, hb1⟩; have HR1 := Lib.hid hr1; have HB1 := Lib.hid hb1; clear hr1 hb1)
  have HM1 : Hid (WkM Pr (fun _ => False) W w0 J [] [] so A1 c1' w1) := by
    have hb : Below (W.alloc (.map #[] 0)).heap.size (W.alloc (.map #[] 0)) w1 := by rw [hws]; exact HB1.out
    obtain ⟨a1, a2, a3, a4⟩ := H0.out w1 hb
    exact ⟨F0, a1, a3, a4, a2, fun q => by have := (HF0.out _ q).2; omega, RowQ.of_row HR1.out, fun b e q => by have := (HR1.out.lt b e).1; have := (HF0.out _ q).2; omega, fun b q => q.elim⟩
  clear c1 c2 hl1 hl2 HCl HR1 HB1 H0 hws HF0
  gi_loopw [5, 6, 7] (fun s _ _ wr => ∃ (xs r : List Int) (A : Option Addr) (c1 : Nat), s = .slice A r.length c1 ∧ Hid (WkM Pr (fun _ => False) W w0 J xs xs r A c1 wr) ∧ Hid (Wk (gp L) so p xs r)) (fun s _ _ wr => sl s + (p.length - msize wr W.heap.size))
  case atStart => exact ⟨[], so, A1, c1', rfl, HM1.out, Wk.start⟩
  case round =>
    obtain ⟨xs, r, A, c1, rfl, hM, hK⟩ := hrel
    rename World => wr
    cases r with
    | nil =>
      have Hall := Lib.hid (hK.out.all HP.out)
      obtain ⟨F, hj, _⟩ := hM.out
      have HJf := Lib.hid hj
      clear hj hM hK
      gi_wp2
      go_end0
      exact ⟨⟨_, rfl⟩, xs, Hall.out, F, HJf.out⟩
    | cons x0 r =>
      have hM2 := hM.out
      obtain ⟨F, hj, hb, hsz, hS, hnS, hR, hnR, _⟩ := hM2
      have hxl := hK.out.len
      have hxsub : xs.length ≤ p.length := sub_len hK.out.nd hK.out.sub
      have hx0 : x0 ∈ nos (gp L) := by
        rcases hK.out.rin x0 (List.mem_cons_self ..) with q | q
        · exact HSn.out _ q
        · exact HPn.out _ (hK.out.sub _ q)
      obtain ⟨hC, _, cg, _, _, hgl⟩ := HF.out wr hb
      obtain ⟨q0, hq0, e1, e2⟩ := hC.of_ hx0
      obtain ⟨_, c2⟩ := hC.hcells
      have hgg := hC.glt
      obtain ⟨_, _, d2, _, hqb⟩ := hC.ocells hq0
      obtain ⟨gb, off, rfl, hgb, cr⟩ := hR.first
      have hcap := hR.cap
      simp only [List.length_cons] at hcap hxl
      unfold maxLen at hcap
      have hRr := hR.rest
      obtain ⟨D, m1, m2, m3⟩ := hC.map
      have hlk : (Instr.lookup 65 (.map (some mb)) (.int .i64 x0) false).run Try.prog wr.drew = .ok (.pointer (some ⟨q0.b, 0, none⟩)) wr.drew := by
        obtain ⟨u, ps, hrun, hv⟩ := (m1.drew).lookup lawI Try.underlying65 (zeroP _) (zd := .held (.pointer none)) (zp := []) rfl (keyI (HWf.out _ hx0))
        have : D.atKey (.int .i64 x0) (.held (.pointer none)) = .held (.pointer (some ⟨q0.b, 0, none⟩)) := by rw [← e2]; exact m3 q0 hq0 _
        rw [this] at hv
        simp [RV] at hv
        rw [hrun, hv.1]
      have hlen : ((r.length : Int) + 1) > 0 := by omega
      have HMd : Hid (WkM Pr (fun _ => False) W w0 J xs xs r (some (if c1 = 1 then ⟨gb, off, none⟩ else ⟨gb, off + 1, none⟩)) (c1 - 1) wr.drew) := by
        have := (WkM.fresh hM.out HJ.out hPr hWs (kept_drew wr))
        obtain ⟨F, a1, a2, a3, a4, a5, a6, a7, a8⟩ := this
        exact ⟨F, a1, a2, a3, a4, a5, a6.rest, fun b e => a7 b (by rw [← e]; split <;> rfl), fun b q => q.elim⟩
      clear hj hb hS hnS hR hnR hC m1 m2 m3 hRr
      have HKk := Lib.hid hK.out
      clear hM hK
      have hr28 : wr.drew.heap.size = wr.heap.size := rfl
      obtain ⟨A2, hA2⟩ : ∃ A2, A2 = some (if c1 = 1 then (⟨gb, off, none⟩ : Addr) else ⟨gb, off + 1, none⟩) := ⟨_, rfl⟩
      rw [← hA2] at HMd
      have HA2 := Lib.hid hA2
      have hcap1 : r.length + 1 ≤ c1 := hcap.1
      have hcap2 : c1 ≤ maxLen := by unfold maxLen; exact hcap.2
      obtain ⟨D2, ma1, ma2⟩ := (HF.out _ HMd.out.bel).1.ahs q0 hq0
      have hMA := Lib.hid ma1
      have HI0 : Hid (Wi (gp L) so p xs r x0 (Maps.has D2) xs.length r.length) := HKk.out.enter (fun y hy => (ma2 y).2 (by rw [e1]; exact hy))
      have HA2m : Hid (∀ y, Maps.has D2 (.int .i64 y) = true → y ∈ (ofN (gp L) x0).a) := fun y hy => by rw [← e1]; exact (ma2 y).1 hy
      have hamlt : q0.am < w0.heap.size := HC.out.lt _ (.inr (.inr ⟨q0, hq0, .inr (.inr rfl)⟩))
      have HamP : Hid (Pr q0.am) := hP1 _ (.inr (.inr ⟨q0, hq0, .inr (.inr rfl)⟩))
      have HST : Hid (∀ V, V.ranges Try.prog 3 unitElem q0.am wr.heap.size c D2 (Maps.has D2) (Maps.size D2) → wr.drew.grownBy V none → V.heap.size = wr.heap.size + 1 → WkM Pr (fun b => b = wr.heap.size) W w0 J xs xs r A2 (c1 - 1) V) := fun V hr hg hs =>
        HMd.out.more HJ.out HJL.out hPr hWs (Kept.grown (S := fun _ => False) hg (fun _ e => by cases e)) (by rw [hr28, hs]; omega)
      clear hA2 ma1 ma2 e1 e2
      gi_wp2
      gi_region
      gi_wp2_with (first
        | (refine wpListIn_slice_q rfl (.tmp 22) rfl gb off r.length c1 rfl hcap1 hcap2 A2 HA2.out ?_)
        | (gi_at_range; refine wpListIn_range_own _ rfl _ 61 rfl 3 69 lawI Try.underlying61 unitElem q0.am c D2 rfl hMA.out ?_; intro w2 hrg2 hg2 hs2; rw [hr28] at hrg2 hs2; have HM3 := Lib.hid (HST.out w2 hrg2 hg2 hs2); have HRg := Lib.hid hrg2; clear hrg2 hg2 hs2))
      have HXp : Hid (∀ y ∈ (ofN (gp L) x0).a, y ∈ p) := fun y hy => by
        rcases HKk.out.rin x0 (List.mem_cons_self ..) with q | q
        · exact (HP.out.2 y).2 ⟨x0, q, .one hy⟩
        · obtain ⟨n1, hn1', hf⟩ := (HP.out.2 x0).1 (HKk.out.sub _ q)
          exact (HP.out.2 y).2 ⟨n1, hn1', hf.trans (.one hy)⟩
      have HMs : Hid (msize wr W.heap.size = xs.length) := msize_of (HMd.out.set) HKk.out.nd
      have hrIw : W.heap.size + 1 ≤ wr.heap.size := hsz
      clear c2 cg cr d2 hlk HST
      go_frame
      rw [hr28]
      gi_loopw [5, 7] (fun s _ wv => ∃ (xs' r' : List Int) (A' : Option Addr) (c' : Nat) (left : Lit → Bool) (cnt : Nat), s = .slice A' r'.length c' ∧ Hid (wv.ranges Try.prog 3 unitElem q0.am wr.heap.size c D2 left cnt) ∧ Hid (∀ y, left (.int .i64 y) = true → y ∈ (ofN (gp L) x0).a) ∧ Hid (WkM Pr (fun b => b = wr.heap.size) W w0 J xs' xs' r' A' c' wv) ∧ Hid (Wi (gp L) so p xs' r' x0 left xs.length r.length)) (fun _ _ wv => wv.rangeLeft q0.am wr.heap.size)
      case atStart => exact ⟨xs, r, A2, c1 - 1, _, _, rfl, HRg.out, HA2m.out, HM3.out, HI0.out⟩
      case round =>
        obtain ⟨xs', r', A', c', left, cnt, rfl, hrg, hlf, hM4, hI⟩ := hrel
        rename World => wv
        have HrgL := Lib.hid hrg.out
        gi_wp2_with (gi_at_next; refine wpListIn_next_ranges _ rfl _ rfl 3 lawI unitElem (Value.int .i64) (fun v => v) (fun key kl hkey => by obtain ⟨x, rfl, _⟩ := Maps.keyOf_int_inv Try.underlying3 hkey; exact ⟨x, rfl⟩) (fun v y _ => ⟨v, rfl⟩) q0.am wr.heap.size c D2 left cnt rfl HrgL.out ?_ ?_)
        · intro hc0 hl0
          have HKe := Lib.hid (hI.out.leave hl0)
          have HMe := Lib.hid hM4.out.less
          have hms := msize_of hM4.out.set hI.out.nd
          have heq := hI.out.eq
          have hle := sub_len hI.out.nd hI.out.sub
          have hms0 := HMs.out
          have HMeas : Hid (r'.length + (p.length - msize wv W.heap.size) < r.length + 1 + (p.length - msize wr W.heap.size)) := by unfold Hid; rw [hms, hms0]; omega
          clear hl0 hc0 hM4 hI hrg hlf HrgL hms heq hle hms0
          gi_wp2
          go_roundw
          case rel => exact ⟨xs', r', A', c', rfl, HMe.out, HKe.out⟩
          case measure => exact HMeas.out
        · intro x cv kl yd yp w4 cnt4 hkey hlx hv hat hrg4 hlt hg4 hs4 hen
          obtain ⟨x', ex, rfl, hwx⟩ := Maps.keyOf_int_inv Try.underlying3 hkey
          cases ex
          have hM5 := hM4.out.step HJ.out hPr hWs (Kept.grown (S := fun b => b = wr.heap.size) hg4 (fun b e => by cases e; exact .inl rfl)) (fun b q => q)
          have hxp := HXp.out x (hlf.out x hlx)
          have hwf := WfI.of_wf hwx
          have HLt := Lib.hid hlt
          have HrgO := Lib.hid hrg.out
          have hlf' : ∀ y, (fun z => left z && !z.sameKey (.int .i64 x)) (.int .i64 y) = true → y ∈ (ofN (gp L) x0).a := fun y hy => hlf.out y (by simp only [Bool.and_eq_true] at hy; exact hy.1)
          have HLf := Lib.hid hlf'
          have HHas := Lib.hid (callsIn_wide (n := n - 1).2 (hasS_any W.heap.size xs'.length x xs' w4 hM5.set hwf))
          have hamr : q0.am ≠ wr.heap.size := by omega
          by_cases hx : x ∈ xs'
          · rw [decide_eq_true hx] at HHas
            have HEnd : Hid (∀ w5, Below w4.heap.size w4 w5 → w5.ranges Try.prog 3 unitElem q0.am wr.heap.size c D2 (fun z => left z && !z.sameKey (.int .i64 x)) cnt4 ∧ WkM Pr (fun b => b = wr.heap.size) W w0 J xs' xs' r' A' c' w5) := fun w5 hb5 =>
              ⟨hrg4.kept (below_grown hb5) (by simp) (by simp), hM5.fresh HJ.out hPr hWs (Kept.fresh hb5)⟩
            have HIs := Lib.hid (hI.out.skip hx)
            clear hkey hlx hv hat hrg4 hlt hg4 hs4 hwx hM4 hI hrg hlf HrgL hM5 hxp hwf hlf' hx
            gi_wp2_with (gi_at_call 54; refine HHas.out.mono ?_; rintro e w5 ⟨rfl, hb5⟩; have HZ := Lib.hid (HEnd.out w5 hb5); clear hb5)
            go_roundw
            case rel => exact ⟨xs', r', A', c', _, cnt4, rfl, HZ.out.1, HLf.out, HZ.out.2, HIs.out⟩
            case measure => have := HLt.out; rw [HZ.out.1.left_eq, HrgO.out.left_eq]; omega
          · rw [decide_eq_false hx] at HHas
            have hI5 := hI.out.step hx hxp
            have HIs := Lib.hid hI5
            have hlp := sub_len hI5.nd hI5.sub
            simp only [List.length_append, List.length_singleton] at hlp
            have hrl := hI5.len
            simp only [List.length_append, List.length_singleton] at hrl
            have HEnd : Hid (∀ w5, Below w4.heap.size w4 w5 → w5.ranges Try.prog 3 unitElem q0.am wr.heap.size c D2 (fun z => left z && !z.sameKey (.int .i64 x)) cnt4 ∧ WkM Pr (fun b => b = wr.heap.size) W w0 J xs' xs' r' A' c' w5 ∧ CallsIn Fence.wide (n - 1) Try.prog 52 #[.map (some W.heap.size), .int .i64 x] w5 fun e w' => e = .returned (.tuple #[]) ∧ (∀ m, (∀ y, y ∈ m ↔ y = x ∨ y ∈ xs') → SetAt w' W.heap.size (xs'.length + 1) m) ∧ w5.grownBy w' (some W.heap.size)) := fun w5 hb5 => by
              have hM6 := hM5.fresh HJ.out hPr hWs (Kept.fresh (S := fun _ => False) hb5)
              exact ⟨hrg4.kept (below_grown hb5) (by simp) (by simp), hM6, callsIn_wide (n := n - 1).2 (add_any W.heap.size xs'.length x xs' w5 hM6.set hwf (by omega))⟩
            have HEnd2 : Hid (∀ w5 w6, w5.ranges Try.prog 3 unitElem q0.am wr.heap.size c D2 (fun z => left z && !z.sameKey (.int .i64 x)) cnt4 → WkM Pr (fun b => b = wr.heap.size) W w0 J xs' xs' r' A' c' w5 → (∀ m, (∀ y, y ∈ m ↔ y = x ∨ y ∈ xs') → SetAt w6 W.heap.size (xs'.length + 1) m) → w5.grownBy w6 (some W.heap.size) →
                w6.ranges Try.prog 3 unitElem q0.am wr.heap.size c D2 (fun z => left z && !z.sameKey (.int .i64 x)) cnt4 ∧ YieldAt Fence.wide (n - 1) Try.prog l #[.int .i64 x] w6 fun e W' => e = .returned (.bool true) ∧ WkM Pr (fun b => b = wr.heap.size) W w0 J (xs' ++ [x]) (xs' ++ [x]) r' A' c' W' ∧ ∃ T, Kept w6 W' T ∧ ∀ b, T b → ¬ Pr b ∧ ¬ b = wr.heap.size) := fun w5 w6 hr5 hm5 hs6 hg6 => by
              have hset := hs6 (xs' ++ [x]) (fun y => by rw [List.mem_append, List.mem_singleton]; exact Or.comm)
              have hm6 := hm5.add HJ.out hPr hWs hg6 (zs := xs' ++ [x]) (by rw [List.length_append]; exact hset)
              exact ⟨hr5.kept hg6 (by simp; omega) (by simp; omega), hm6.yield HJL.out hPr hWs (Nx := fun pre x => pre.length < p.length ∧ x ∈ p) ⟨by omega, hxp⟩ HY.out⟩
            have HEnd3 : Hid (∀ w6 w7, w6.ranges Try.prog 3 unitElem q0.am wr.heap.size c D2 (fun z => left z && !z.sameKey (.int .i64 x)) cnt4 → WkM Pr (fun b => b = wr.heap.size) W w0 J (xs' ++ [x]) (xs' ++ [x]) r' A' c' w7 → (∃ T, Kept w6 w7 T ∧ ∀ b, T b → ¬ Pr b ∧ ¬ b = wr.heap.size) →
                (w7.alloc (.cells #[.int .i64 x] 3)).ranges Try.prog 3 unitElem q0.am wr.heap.size c D2 (fun z => left z && !z.sameKey (.int .i64 x)) cnt4 ∧ WkM Pr (fun b => b = wr.heap.size) W w0 J (xs' ++ [x]) (xs' ++ [x]) r' A' c' (w7.alloc (.cells #[.int .i64 x] 3)) ∧ (w7.alloc (.cells #[.int .i64 x] 3)).cell? ⟨w7.heap.size, 0, none⟩ = some (.int .i64 x) ∧ W.heap.size + 1 ≤ (w7.alloc (.cells #[.int .i64 x] 3)).heap.size) := fun w6 w7 hr6 hm7 ⟨T, hk, hT⟩ => by
              have hb7 : Below w7.heap.size w7 (w7.alloc (.cells #[.int .i64 x] 3)) := (Below.refl _ w7).alloc (Nat.le_refl _) _
              exact ⟨(hk.ranges hr6 (fun q => (hT _ q).1 HamP.out) (fun q => (hT _ q).2 rfl)).alloc _, hm7.fresh HJ.out hPr hWs (Kept.fresh hb7), cell_of_row _ _ 0 _ 3 (0, 0) (heap_alloc_new w7 _), by have := hm7.siz; simp; omega⟩
            have HEnd4 : Hid (∀ w7 A8 c8 w8, w7.ranges Try.prog 3 unitElem q0.am wr.heap.size c D2 (fun z => left z && !z.sameKey (.int .i64 x)) cnt4 → WkM Pr (fun b => b = wr.heap.size) W w0 J (xs' ++ [x]) (xs' ++ [x]) r' A' c' w7 → RowQ w8 (W.heap.size + 1) A8 c8 (r' ++ [x]) → w7.grownBy w8 (own A') → (own A8 = own A' ∨ own A8 = some w7.heap.size) →
                w8.ranges Try.prog 3 unitElem q0.am wr.heap.size c D2 (fun z => left z && !z.sameKey (.int .i64 x)) cnt4 ∧ WkM Pr (fun b => b = wr.heap.size) W w0 J (xs' ++ [x]) (xs' ++ [x]) (r' ++ [x]) A8 c8 w8) := fun w7 A8 c8 w8 hr7 hm7 hq hg hat => by
              obtain ⟨F, _, _, _, _, _, z6, _, z8⟩ := id hm7
              exact ⟨hr7.kept hg (fun e => by have := (z6.lt _ e.symm).1; omega) (fun e => (z8 _ rfl).2.1 e.symm), hm7.append HJ.out HJL.out hPr hWs hq hg hat⟩
            have HSm := Lib.hid hlp
            have hrl2 : r'.length ≤ 100000 := by omega
            clear hkey hlx hv hat hrg4 hlt hg4 hs4 hwx hM4 hI hrg hlf HrgL hM5 hxp hwf hlf' hx hI5 hlp hrl
            gi_wp2_with (first
              | (gi_at_call 54; refine HHas.out.mono ?_; rintro e w5 ⟨rfl, hb5⟩; obtain ⟨z1, z2, z3⟩ := HEnd.out w5 hb5; have Z1 := Lib.hid z1; have Z2 := Lib.hid z2; have Z3 := Lib.hid z3; clear hb5 z1 z2 z3)
              | (gi_at_call 52; refine Z3.out.mono ?_; rintro e w6 ⟨rfl, hs6, hg6⟩; obtain ⟨z4, fn, tmps, assign, body, hy, hR⟩ := HEnd2.out w5 w6 Z1.out Z2.out hs6 hg6; have Z4 := Lib.hid z4; have HRr := Lib.hid hR; clear hs6 hg6 z4 hR))
            refine HRr.out.mono ?_
            rintro e w7 ⟨rfl, hm7, hT⟩
            obtain ⟨z5, z6, z7, z8⟩ := HEnd3.out w6 w7 Z4.out hm7 hT
            have Z5 := Lib.hid z5
            have Z6 := Lib.hid z6
            have Z7 := Lib.hid z7
            have Z8 := Lib.hid z8
            have ZR := Lib.hid z6.row
            clear z5 z6 z7 z8 hm7 hT hy
            gi_wp2_with (gi_at_builtin; refine wpListIn_append_q rfl (.tmp 43) (.tmp 45) rfl (W.heap.size + 1) A' c' r' rfl ZR.out ⟨w7.heap.size, 0, none⟩ 1 x rfl Z7.out hrl2 Z8.out ?_; intro A8 c8 w8 hq8 hg8 hat8; have Z9 := Lib.hid (HEnd4.out _ A8 c8 w8 Z5.out Z6.out hq8 hg8 hat8); clear hq8 hg8 hat8)
            go_roundw
            case rel => exact ⟨xs' ++ [x], r' ++ [x], A8, c8, _, cnt4, by simp, Z9.out.1, HLf.out, Z9.out.2, HIs.out⟩
            case measure => have := HLt.out; rw [Z9.out.1.left_eq, HrgO.out.left_eq]; omega
end
end Go.Proofs.Ytdndchoghhllmaa
