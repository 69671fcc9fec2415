/- Rows of numbers from which the first is taken and to whose end one is appended; loops over a function, with a footprint. -/
import Derived.Test.YtdndchoghhllmaaV
import Derived.RangeFuncRecord
import Derived.RangeFuncBox
import Derived.RangeFuncWrites
import Derived.OwnWalkIn
import Derived.TacticsInMore
import Derived.RegionIn
import Derived.LoopNIn
import Derived.LoopIn
import Derived.Maps.OwnIn
import Derived.Stop.RegionWithIn
set_option linter.unusedVariables false
set_option linter.unusedSimpArgs false
namespace Go.Proofs.Ytdndchoghhllmaa
open Go.RowKit Go.Maps Go.Sort Go.Shelf
/-- a row of numbers of one's own, that begins anywhere in its block -/
def RowQ (w : World) (B : Nat) (A : Option Addr) (c : Nat) (l : List Int) : Prop :=
  (A = none ∧ l = [] ∧ c = 0) ∨ ∃ g off cur, A = some ⟨g, off, none⟩ ∧ B ≤ g ∧ w.heap[g]? = some (.cells cur 3 (0, 0)) ∧ l.length ≤ c ∧ c ≤ maxLen ∧ off + c ≤ cur.size ∧ ∀ j, j < l.length → cur[off + j]? = some (.int .i64 (inn l j))
namespace RowQ
variable {w w' : World} {B c : Nat} {A : Option Addr} {l : List Int}
theorem keep {S : Nat → Prop} (h : RowQ w B A c l) (hk : Kept w w' S) (hn : ∀ b, own A = some b → ¬ S b) : RowQ w' B A c l := by
  rcases h with h | ⟨g, off, cur, rfl, hB, hg, h1, h2, h3, h4⟩
  · exact .inl h
  · exact .inr ⟨g, off, cur, rfl, hB, (hk.block g (Array.getElem?_eq_some_iff.1 hg).1 (hn g rfl)).trans hg, h1, h2, h3, h4⟩
theorem lt (h : RowQ w B A c l) : ∀ b, own A = some b → B ≤ b ∧ b < w.heap.size := by
  rcases h with ⟨rfl, _⟩ | ⟨g, off, cur, rfl, hB, hg, _⟩
  · intro b e; cases e
  · intro b e
    obtain rfl : g = b := by simpa [own] using e
    exact ⟨hB, (Array.getElem?_eq_some_iff.1 hg).1⟩
theorem cap (h : RowQ w B A c l) : l.length ≤ c ∧ c ≤ maxLen := by
  rcases h with ⟨_, rfl, rfl⟩ | ⟨g, off, cur, rfl, hB, hg, h1, h2, _⟩
  · exact ⟨Nat.le_refl _, Nat.zero_le _⟩
  · exact ⟨h1, h2⟩
theorem isInt (h : RowQ w B A c l) : ∀ b, own A = some b → IntB w b := by
  rcases h with ⟨rfl, _⟩ | ⟨g, off, cur, rfl, hB, hg, _⟩
  · intro b e; cases e
  · intro b e
    obtain rfl : g = b := by simpa [own] using e
    exact ⟨_, hg⟩
theorem of_row (h : RowI w B A c l) : RowQ w B A c l := by
  rcases h.2 with ⟨q, hn⟩ | ⟨g, cap, cur, q, hB, hg, h1, h2, h3, h4⟩
  · obtain ⟨rfl, _, rfl⟩ := Value.slice.inj q
    exact .inl ⟨rfl, List.eq_nil_of_length_eq_zero hn, rfl⟩
  · obtain ⟨rfl, _, rfl⟩ := Value.slice.inj q
    refine .inr ⟨g, 0, cur, rfl, hB, hg, h1, h2, by omega, fun j hj => ?_⟩
    have e : (cur.toList.take (l.length * 1))[j]? = some (.int .i64 (inn l j)) := by rw [h4, intsV_at hj]
    rw [List.getElem?_take, if_pos (by omega), Array.getElem?_toList] at e
    rw [Nat.zero_add]
    exact e
/-- the first number -/
theorem first {x : Int} {r : List Int} (h : RowQ w B A c (x :: r)) : ∃ g off, A = some ⟨g, off, none⟩ ∧ g < w.heap.size ∧ w.cell? ⟨g, off, none⟩ = some (.int .i64 x) := by
  rcases h with ⟨_, h, _⟩ | ⟨g, off, cur, rfl, hB, hg, h1, h2, h3, h4⟩
  · cases h
  · refine ⟨g, off, rfl, (Array.getElem?_eq_some_iff.1 hg).1, ?_⟩
    have := h4 0 (by simp)
    rw [Nat.add_zero] at this
    have e : inn (x :: r) 0 = x := rfl
    rw [e] at this
    exact (cell_of_row w g off _ _ (0, 0) hg).trans this
/-- those behind the first -/
theorem rest {x : Int} {r : List Int} {g off : Nat} (h : RowQ w B (some ⟨g, off, none⟩) c (x :: r)) : RowQ w B (some (if c = 1 then ⟨g, off, none⟩ else ⟨g, off + 1, none⟩)) (c - 1) r := by
  rcases h with ⟨h, _⟩ | ⟨g', off', cur, e, hB, hg, h1, h2, h3, h4⟩
  · cases h
  · obtain ⟨rfl, rfl⟩ : g = g' ∧ off = off' := by simpa using e
    simp only [List.length_cons] at h1
    by_cases hc : c = 1
    · rw [if_pos hc]
      refine .inr ⟨g, off, cur, rfl, hB, hg, by omega, by omega, by omega, fun j hj => by omega⟩
    · rw [if_neg hc]
      refine .inr ⟨g, off + 1, cur, rfl, hB, hg, by omega, by omega, by omega, fun j hj => ?_⟩
      have := h4 (j + 1) (by simp; omega)
      rw [show off + 1 + j = off + (j + 1) by omega, this]
      rfl
end RowQ
/-- append of one number to such a row -/
theorem run_append_q (w : World) (B : Nat) (A : Option Addr) (c : Nat) (l : List Int) (h : RowQ w B A c l) (ty : TypeId) (ad : Addr) (c2 : Nat) (x : Int) (had : w.cell? ad = some (.int .i64 x)) (hl : l.length ≤ 100000) (hB : B ≤ w.heap.size) :
    ∃ A' c' w', (Builtin.append_ #[30, 30] ty #[.slice A l.length c, .slice (some ad) 1 c2]).run Try.prog w = .ok (.slice A' (l.length + 1) c') w' ∧ RowQ w' B A' c' (l ++ [x]) ∧ w.grownBy w' (own A) ∧ (own A' = own A ∨ own A' = some w.heap.size) := by
  obtain ⟨i0, i1, i2, i3, i4⟩ := infoI2
  have hnews : ∀ j u, [Value.int .i64 x][j]? = some u → w.cell? (ad.add j) = some u := fun j u hu => by
    rcases j with _ | j
    · have e : Value.int .i64 x = u := by simpa using hu
      rw [← e, show ad.add 0 = ad by cases ad; simp [Addr.add]]
      exact had
    · simp at hu
  have hnew : ∀ (old : Nat) (row : Option Nat) (H : List Value), H = intsV l →
      RowQ (w.drew.alloc (.cells (H.toArray ++ [Value.int .i64 x].toArray ++ Builtin.zeroCells (Value.int .i64 0).cells (grownCap w (l.length + 1) old 3 - (l.length + 1))) 3)) B (some ⟨w.heap.size, 0, none⟩) (grownCap w (l.length + 1) old 3) (l ++ [x]) ∧
      w.grownBy (w.drew.alloc (.cells (H.toArray ++ [Value.int .i64 x].toArray ++ Builtin.zeroCells (Value.int .i64 0).cells (grownCap w (l.length + 1) old 3 - (l.length + 1))) 3)) row := by
    intro old row H hH
    subst hH
    have hge := grownCap_ge w (l.length + 1) old 3
    refine ⟨.inr ⟨w.heap.size, 0, _, rfl, hB, heap_alloc_new w.drew _, by simpa using hge, grownCap_le_maxLen w (l.length + 1) old 3 (by unfold maxLen; omega), ?_, fun j hj => ?_⟩, ⟨rfl, rfl, rfl, by simp, fun k hk _ => Below.heap_alloc w.drew _ k hk⟩⟩
    · simp only [Array.size_append, List.size_toArray, size_zeroCells, length_intsV, List.length_singleton]
      have : (Value.int .i64 0).cells.size = 1 := rfl
      rw [this]; omega
    · rw [Nat.zero_add]
      have hj' : j < (l ++ [x]).length := hj
      have e : (intsV l).toArray ++ [Value.int .i64 x].toArray = (intsV (l ++ [x])).toArray := by rw [intsV_append]; simp [intsV]
      rw [e, Array.getElem?_append_left (by simpa [length_intsV] using hj'), List.getElem?_toArray, intsV_at hj']
  rcases h with ⟨rfl, rfl, rfl⟩ | ⟨g, off, cur, rfl, hBg, hg, h1, h2, h3, h4⟩
  · have hr := run_append_nil (P := Try.prog) w 30 ty 3 i0 (.int .i64 0) Try.underlying30 i1 i2 ad 1 c2 [.int .i64 x] (by rw [i3]; rfl) hnews (by omega) (by omega) (by rw [i4]; omega)
    obtain ⟨n1, n2⟩ := hnew 0 (own none) [] rfl
    refine ⟨_, _, _, hr, ?_, ?_, .inr rfl⟩
    · simpa using n1
    · simpa using n2
  · by_cases hroom : l.length + 1 ≤ c
    · have hf := run_firstCells_some (P := Try.prog) w i0.size 1 ad 1 c2 [.int .i64 x] (by rw [i3]; rfl) hnews
      have hst := run_storeCells_at Try.prog g (off + l.length * i0.size) 3 [.int .i64 x] 0 cur w hg (by rw [i3]; simp; omega) (fun v hv => by rw [List.mem_singleton] at hv; subst hv; rfl)
      simp only [Nat.add_zero] at hst
      have hr : (Builtin.append_ #[30, 30] ty #[.slice (some ⟨g, off, none⟩) l.length c, .slice (some ad) 1 c2]).run Try.prog w = .ok (.slice (some ⟨g, off, none⟩) (l.length + 1) c) (w.setRow g (cur.toList.take (off + l.length * i0.size) ++ [Value.int .i64 x] ++ cur.toList.drop (off + l.length * i0.size + [Value.int .i64 x].length)).toArray) := by
        simp [Builtin.append_, run_underlying Try.underlying30, sizeOf, typeInfo, i1, Builtin.lenOf, hroom, hf, Addr.add_lit, hst]
      refine ⟨_, _, _, hr, .inr ⟨g, off, _, rfl, hBg, setRow_heap w g cur _ 3 _ hg, by simpa using hroom, h2, ?_, fun j hj => ?_⟩, ⟨rfl, rfl, rfl, by simp, fun k _ hk => setRow_other w g k _ (fun e => hk (by rw [e]; rfl))⟩, .inl rfl⟩
      · simp only [List.size_toArray, List.length_append, List.length_take, List.length_drop, Array.length_toList, List.length_singleton, i3]
        omega
      · rw [List.length_append, List.length_singleton] at hj
        rw [i3, Nat.mul_one, List.getElem?_toArray, List.append_assoc]
        have hlt : (cur.toList.take (off + l.length)).length = off + l.length := by rw [List.length_take]; have : cur.toList.length = cur.size := Array.length_toList; omega
        by_cases hjl : j < l.length
        · rw [List.getElem?_append_left (by rw [hlt]; omega), List.getElem?_take, if_pos (by omega), Array.getElem?_toList, h4 j hjl]
          unfold inn
          rw [List.getD_eq_getElem?_getD, List.getD_eq_getElem?_getD, List.getElem?_append_left hjl]
        · have : j = l.length := by omega
          subst this
          rw [List.getElem?_append_right (by rw [hlt]; omega), hlt, Nat.sub_self]
          unfold inn
          simp
    · have holds : ∀ j u, (intsV l)[j]? = some u → w.cell? ((⟨g, off, none⟩ : Addr).add j) = some u := fun j u hu => by
        have hj := (List.getElem?_eq_some_iff.1 hu).1
        rw [length_intsV] at hj
        rw [intsV_at hj] at hu
        rw [Addr.add_lit, ← hu, ← h4 j hj]
        exact cell_of_row w g (off + j) _ _ (0, 0) hg
      have hr := run_append_grow (P := Try.prog) w 30 ty 3 i0 (.int .i64 0) Try.underlying30 i1 i2 ⟨g, off, none⟩ l.length c (intsV l) (by rw [i3, length_intsV]; omega) holds ad 1 c2 [.int .i64 x] (by rw [i3]; rfl) hnews (by omega) (by omega) (growslice_fits (by omega) (by rw [i4]; omega))
      obtain ⟨n1, n2⟩ := hnew c (own (some ⟨g, off, none⟩)) (intsV l) rfl
      exact ⟨_, _, _, hr, n1, n2, .inr rfl⟩
section
variable {F : Fence} {nF : Nat} {ops : Array Oper} {rest : List Oper} {o : Oper} {a : Act} {Q : Exit → Act → World → Prop} {w : World}
theorem wpListIn_append_q (hgd : o.guard = none) (s x : Operand) (ho : o.op = .call { callee := .builtin .append, args := #[s, x], argTypes := #[30, 30] })
    (B : Nat) (A : Option Addr) (c : Nat) (l : List Int) (hs : a.eval s = .slice A l.length c) (hown : RowQ w B A c l) (ad : Addr) (c2 : Nat) (y : Int) (hx : a.eval x = .slice (some ad) 1 c2) (had : w.cell? ad = some (.int .i64 y)) (hl : l.length ≤ 100000) (hB : B ≤ w.heap.size)
    (h : ∀ A' c' w', RowQ w' B A' c' (l ++ [y]) → w.grownBy w' (own A) → (own A' = own A ∨ own A' = some w.heap.size) → wpListIn F nF Try.prog ops Q rest (a.put o.dst (.slice A' (l.length + 1) c')) w') :
    wpListIn F nF Try.prog ops Q (o :: rest) a w := by
  refine wpListIn_plain hgd fun K hK => ?_
  obtain ⟨A', c', w', hr, h2, h3, h5⟩ := run_append_q w B A c l hown o.type ad c2 y had hl hB
  unfold Oper.wpIn
  refine ⟨by simp [Oper.about, ho, resolve, Target.leads, Sem.run_pure], ?_⟩
  rw [Oper.semAt_plain F _ _ (by rw [ho]; intro c hc'; cases hc')]
  simp [execOp, ho, resolve, invoke, builtin, hs, hx, hr, Result.andThen]
  exact hK _ _ (h A' c' w' h2 h3 h5)
end
/-- what an invariant with a footprint bears: all that happens from block B on, outside its footprint -/
def Bears (B : Nat) (J : List Int → (Nat → Prop) → World → Prop) : Prop := ∀ s F X Y T, J s F X → Kept X Y T → (∀ b, T b → B ≤ b ∧ ¬ F b) → J s F Y
/-- the footprint lies outside the blocks Pr, and in the world -/
def Lies (Pr : Nat → Prop) (J : List Int → (Nat → Prop) → World → Prop) : Prop := ∀ s F X, J s F X → ∀ b, F b → ¬ Pr b ∧ b < X.heap.size
/-- the function gives numbers, one behind the other: such as S says; it reads the blocks Pr -/
def GivesF (g : Nat) (lb : Array Value) (S : List Int → Prop) (Nx : List Int → Int → Prop) (Pr : Nat → Prop) (w0 : World) : Prop :=
  ∀ (n l : Nat) (J : List Int → (Nat → Prop) → World → Prop) (F : Nat → Prop) (W : World), 1 ≤ n → Kept w0 W (fun b => ¬ Pr b) → Bears W.heap.size J → Lies Pr J →
    (∀ (m : Nat) (pre : List Int) (x : Int) (W1 : World) (F1 : Nat → Prop), J pre F1 W1 → Nx pre x → YieldAt Fence.wide m Try.prog l #[.int .i64 x] W1 fun e W' => e = .returned (.bool true) ∧ ∃ F2, J (pre ++ [x]) F2 W' ∧ Kept W1 W' F1 ∧ ∀ b, F2 b → F1 b ∨ W1.heap.size ≤ b) →
    J [] F W → CallsIn Fence.wide n Try.prog g (#[.func (.yield l) #[] #[]] ++ lb) W fun e W' => (∃ v, e = .returned v) ∧ ∃ xs F', S xs ∧ J xs F' W'
/-- how a round is left -/
def bodyF (I : List Int → (Nat → Prop) → World → Prop) (pre : List Int) (x : Int) (F1 : Nat → Prop) (W : World) : Exit → Act → World → Prop
  | .normal, _, W' => ∃ F2, I (pre ++ [x]) F2 W' ∧ Kept W W' F1 ∧ ∀ b, F2 b → F1 b ∨ W.heap.size ≤ b
  | .ret, _, _ => False
  | .exit _, _, _ => False
  | .goto _, _, _ => False
  | .panic _, _, _ => False
  | .outgrown, _, _ => False
theorem putObj_kept (W : World) (l : Nat) (o : Obj) : Kept W (W.putObj l o) (fun b => b = l) := ⟨rfl, rfl, rfl, by simp, fun k _ hk => World.putObj_heap_other hk⟩
/-- such a loop -/
theorem range_f {g : Operand} {p : Tmp} {assign body : Code} {Q : Exit → Act → World → Prop} {a : Act} {w : World} {n : Nat} (h1 : 2 ≤ n)
    {gf : Nat} {lb : Array Value} (hg : a.eval g = .func (.func gf) #[] lb) (eg : ∀ args w, (callFunc gf args).run Try.prog w = .ok (.enter gf args) w)
    {S : List Int → Prop} {Nx : List Int → Int → Prop} {Pr : Nat → Prop} {w0 : World} (hPr : ∀ b, Pr b → b < w0.heap.size) (hseq : GivesF gf lb S Nx Pr w0) (hb0 : Kept w0 w (fun b => ¬ Pr b))
    (I : List Int → (Nat → Prop) → World → Prop) (F0 : Nat → Prop) (hI : Bears w.heap.size I) (hIF : Lies Pr I) (h0 : I [] F0 w) (a₁ : Int → Act)
    (hassign : ∀ (l m : Nat) (x : Int) (W : World) (K : Act → World → Prop), K (a₁ x) W →
      assign.wpIn (Fence.wide.inRound l) m Try.prog (Exit.then K (fun _ _ _ => False)) { tmps := ((#[p] : Array Tmp).zip #[Value.int .i64 x]).foldl (fun t (p, v) => t.setIfInBounds p v) a.tmps, defers := [] } W)
    (hbody : ∀ (l m : Nat) (pre : List Int) (x : Int) (W : World) (F1 : Nat → Prop), I pre F1 W → Nx pre x → body.wpIn (Fence.wide.inRound l) m Try.prog (bodyF I pre x F1 W) (a₁ x) W)
    (hdone : ∀ (D : Nat) (xs : List Int) (F' : Nat → Prop) (W : World), w.heap.size ≤ D → S xs → I xs F' W → W.heap[D]? = some (.deferred (some [])) → Q .normal { a with defers := { target := .collected D, args := #[] } :: a.defers } W) :
    (Code.rangeFunc g #[p] assign body).wpIn Fence.wide n Try.prog Q a w := by
  refine wpIn_rangeFunc fun fn hfn => ?_
  let rc : LoopState → Option Code → Loop := fun s q => { state := s, pending := q, fn := fn, tmps := a.tmps, params := #[p], assign := assign, body := body, defers := w.heap.size }
  obtain ⟨V, hV⟩ : ∃ V, V = (w.alloc (.deferred (some []))).alloc (.loop (rc .ready none)) := ⟨_, rfl⟩
  have vs : V.heap.size = w.heap.size + 2 := by rw [hV]; simp
  have vB : Below w.heap.size w V := by rw [hV]; exact ((Below.refl _ w).alloc (Nat.le_refl _) _).alloc (by simp) _
  have vD : V.heap[w.heap.size]? = some (.deferred (some [])) := by rw [hV]; exact (Below.heap_alloc _ _ _ (by simp)).trans (World.alloc_heap_new w _)
  have vL : V.heap[w.heap.size + 1]? = some (.loop (rc .ready none)) := by
    rw [hV]; have := World.alloc_heap_new (w.alloc (.deferred (some []))) (.loop (rc .ready none)); rwa [World.size_alloc] at this
  have hF0 := hIF [] F0 w h0
  have vI : I [] F0 V := hI _ _ _ _ (fun _ => False) h0 (Kept.fresh vB) (fun _ q => q.elim)
  refine ⟨w.heap.size + 1, [{ target := .collected w.heap.size, args := #[] }], V, { target := .fn (.func gf) lb, args := #[.func (.yield (w.heap.size + 1)) #[] #[]] }, V, gf,
    #[.func (.yield (w.heap.size + 1)) #[] #[]] ++ lb, V, by rw [hV]; exact run_enterLoop_outer _ _ _ _ _, by simp only [resolve, hg]; simp [go_sem], fun f' hf' => trivial, by simp [invoke, go_sem, eg], fun h => by omega, ?_⟩
  have key := hseq (n - 1) (w.heap.size + 1)
    (fun pre F W => ∃ FI, I pre FI W ∧ (∀ b, F b ↔ FI b ∨ b = w.heap.size ∨ b = w.heap.size + 1) ∧ W.heap[w.heap.size + 1]? = some (.loop (rc .ready none)) ∧ W.heap[w.heap.size]? = some (.deferred (some [])) ∧ ¬ FI w.heap.size ∧ ¬ FI (w.heap.size + 1))
    (fun b => F0 b ∨ b = w.heap.size ∨ b = w.heap.size + 1) V (by omega) (hb0.trans (Kept.fresh (S := fun b => ¬ Pr b) vB) (fun b q => .inl q)) ?_ ?_ ?_ ⟨F0, vI, fun b => Iff.rfl, vL, vD, fun q => by have := (hF0 _ q).2; omega, fun q => by have := (hF0 _ q).2; omega⟩
  · refine key.mono ?_
    rintro e W2 ⟨⟨v, rfl⟩, xs, F', hS, FI, hi, hF, hl, hk, hn1, hn2⟩
    refine ⟨none, _, run_endLoop (P := Try.prog) hl (by simp [rc]), hdone _ xs FI _ (Nat.le_refl _) hS (hI _ _ _ _ (fun b => b = w.heap.size + 1) hi (putObj_kept _ _ _) (fun b e => by subst e; exact ⟨by omega, hn2⟩)) ((World.putObj_heap_other (by omega)).trans hk)⟩
  · rintro s F X Y T ⟨FI, hi, hF, hl, hk, hn1, hn2⟩ hK hT
    have t1 : ¬ T (w.heap.size + 1) := fun q => (hT _ q).2 ((hF _).2 (.inr (.inr rfl)))
    have t2 : ¬ T w.heap.size := fun q => (hT _ q).2 ((hF _).2 (.inr (.inl rfl)))
    exact ⟨FI, hI _ _ _ _ T hi hK (fun b q => ⟨by have := (hT b q).1; omega, fun z => (hT b q).2 ((hF b).2 (.inl z))⟩), hF, (hK.block _ (Array.getElem?_eq_some_iff.1 hl).1 t1).trans hl, (hK.block _ (Array.getElem?_eq_some_iff.1 hk).1 t2).trans hk, hn1, hn2⟩
  · rintro s F X ⟨FI, hi, hF, hl, hk, hn1, hn2⟩ b hb
    rcases (hF b).1 hb with z | z | z
    · exact hIF _ _ _ hi b z
    · subst z; exact ⟨fun q => by have := hb0.size; have := hPr _ q; omega, (Array.getElem?_eq_some_iff.1 hk).1⟩
    · subst z; exact ⟨fun q => by have := hb0.size; have := hPr _ q; omega, (Array.getElem?_eq_some_iff.1 hl).1⟩
  · rintro m pre x W F1 ⟨FI, hi, hF, hl, hk, hn1, hn2⟩ hx
    have hlt : w.heap.size + 1 < W.heap.size := (Array.getElem?_eq_some_iff.1 hl).1
    refine ⟨fn, _, assign, body, run_yield (P := Try.prog) (args := #[.int .i64 x]) hl rfl, roundIn_of_wpIn hfn ?_⟩
    refine hassign _ _ x W _ ?_
    refine ⟨_, run_beginRound hl rfl, ?_⟩
    obtain ⟨X, hX⟩ : ∃ X, X = W.putObj (w.heap.size + 1) (.loop (rc .busy none)) := ⟨_, rfl⟩
    have kX : Kept W X (fun b => b = w.heap.size + 1) := by rw [hX]; exact putObj_kept _ _ _
    have xL : X.heap[w.heap.size + 1]? = some (.loop (rc .busy none)) := by rw [hX]; exact World.putObj_heap_same hlt
    have xD : X.heap[w.heap.size]? = some (.deferred (some [])) := (kX.block _ (by omega) (by omega)).trans hk
    have xI : I pre FI X := hI _ _ _ _ _ hi kX (fun b e => by subst e; exact ⟨by omega, hn2⟩)
    have xs : X.heap.size = W.heap.size := by rw [hX]; simp
    have hX' : W.putObj (w.heap.size + 1) (.loop { rc .ready none with state := .busy }) = X := hX.symm
    rw [hX']
    refine wpIn_mono (hbody _ _ pre x X FI xI hx) ?_
    rintro e a3 Y hp
    cases e with
    | normal =>
      obtain ⟨F2, hiY, hB, hF2⟩ := hp
      have yL := (hB.block (w.heap.size + 1) (by omega) hn2).trans xL
      have yD := (hB.block w.heap.size (by omega) hn1).trans xD
      have hn2' : ¬ F2 (w.heap.size + 1) := fun q => by rcases hF2 _ q with z | z; exact hn2 z; omega
      have hn1' : ¬ F2 w.heap.size := fun q => by rcases hF2 _ q with z | z; exact hn1 z; omega
      obtain ⟨Z, hZ⟩ : ∃ Z, Z = Y.putObj (w.heap.size + 1) (.loop (rc .ready none)) := ⟨_, rfl⟩
      have kZ : Kept Y Z (fun b => b = w.heap.size + 1) := by rw [hZ]; exact putObj_kept _ _ _
      refine ⟨_, _, run_endRound (P := Try.prog) none yL, rfl, fun b => F2 b ∨ b = w.heap.size ∨ b = w.heap.size + 1, ⟨F2, ?_, fun b => Iff.rfl, ?_, ?_, hn1', hn2'⟩, ?_, fun b hb => ?_⟩
      · show I (pre ++ [x]) F2 (Y.putObj (w.heap.size + 1) (.loop (rc .ready none)))
        rw [← hZ]
        exact hI _ _ _ _ _ hiY kZ (fun b e => by subst e; exact ⟨by omega, hn2'⟩)
      · exact World.putObj_heap_same (Array.getElem?_eq_some_iff.1 yL).1
      · exact (World.putObj_heap_other (by omega)).trans yD
      · show Kept W (Y.putObj (w.heap.size + 1) (.loop (rc .ready none))) F1
        rw [← hZ]
        have q1 : Kept W X F1 := kX.more (fun b e => .inl ((hF b).2 (.inr (.inr e))))
        have q2 : Kept X Y F1 := hB.more (fun b e => .inl ((hF b).2 (.inl e)))
        have q3 : Kept Y Z F1 := kZ.more (fun b e => .inl ((hF b).2 (.inr (.inr e))))
        exact (q1.trans q2 (fun b e => .inl e)).trans q3 (fun b e => .inl e)
      · rcases hb with z | z | z
        · rcases hF2 b z with q | q
          · exact .inl ((hF b).2 (.inl q))
          · exact .inr (by omega)
        · exact .inl ((hF b).2 (.inr (.inl z)))
        · exact .inl ((hF b).2 (.inr (.inr z)))
    | ret => exact hp.elim
    | exit id => exact hp.elim
    | goto t => exact hp.elim
    | panic ch => exact hp.elim
    | outgrown => exact hp.elim
end Go.Proofs.Ytdndchoghhllmaa
