/- A loop over a function that itself goes through another function: what it gives, and the loop. -/
import Derived.Test.YtpcindemkkdbbaaBC
import Derived.RangeFuncRecord
import Derived.Test.YtpcindemkkdbbaaIP
import Derived.Shelf.RegionOpen
import Derived.Deep.RegionHeld3
import Derived.Test.YtpcindemkkdbbaaFY
import Derived.Test.YtpcindemkkdbbaaIA
namespace Go.Proofs.Ytpcindemkkdbbaa
set_option linter.unusedVariables false
set_option linter.unusedSimpArgs false
open Go.RowKit Go.Shelf

/-- the function gives the numbers L, one behind the other, until it is told to stop; what lies at or beyond its own beginning and is no cells it may turn -/
def Gives (g : Nat) (lb : Array Value) (L : List Nat) (w0 : World) : Prop :=
  ∀ (n l : Nat) (J Jx : List Nat → World → Prop) (W : World), 1 ≤ n → l < W.heap.size → Below w0.heap.size w0 W → OwnFrom W.heap.size J → OwnFrom W.heap.size Jx →
    (∀ (m : Nat) (pre : List Nat) (x : Nat) (W1 : World), J pre W1 → pre ++ [x] <+: L → YieldAt Fence.wide m Try.prog l #[.int .i64 (x : Nat)] W1 fun e W' =>
      (e = .returned (.bool true) ∧ J (pre ++ [x]) W' ∧ Below W1.heap.size W1 W') ∨ (e = .returned (.bool false) ∧ Jx (pre ++ [x]) W' ∧ KeepsFrom (l + 1) W1 W')) →
    J [] W → CallsIn Fence.wide n Try.prog g (#[.func (.yield l) #[] #[]] ++ lb) W fun e W' => (∃ v, e = .returned v) ∧ (J L W' ∨ ∃ pre, pre <+: L ∧ Jx pre W')
theorem at_own {β : Type} {B k : Nat} {o : Obj} (hk : k < B) : OwnFrom B (fun (_ : β) W => W.heap[k]? = some o) := fun s X Y row hs hg hr =>
  (hg.block k (Array.getElem?_eq_some_iff.1 hs).1 (fun e => by have := (hr k e.symm).1; omega)).trans hs
theorem ownUp {β : Type} {B B' : Nat} {I : β → World → Prop} (h : OwnFrom B I) (hB : B ≤ B') : OwnFrom B' I := fun s X Y row hs hg hr =>
  h s X Y row hs hg fun r e => ⟨by have := (hr r e).1; omega, (hr r e).2⟩
def bodyEnds (B : Nat) (I Ix : List Nat → World → Prop) (pre : List Nat) (x : Nat) (W : World) : Exit → Act → World → Prop
  | .normal, _, W' => Below W.heap.size W W' ∧ I (pre ++ [x]) W'
  | .ret, _, W' => KeepsFrom B W W' ∧ Ix (pre ++ [x]) W'
  | .exit _, _, _ => False
  | .goto _, _, _ => False
  | .panic _, _, _ => False
  | .outgrown, _, _ => False
theorem round_wide {n m l : Nat} {f : FuncId} {tmps : Array Value} {assign body : Code} {w : World} {R : Ending → World → Prop} (h : RoundIn Fence.wide n Try.prog l f tmps assign body w R) : RoundIn Fence.wide m Try.prog l f tmps assign body w R :=
  ⟨h.1, fun c cs _ => h.2 c cs (room_wide _)⟩
theorem yield_wide {n m l : Nat} {args : Array Value} {w : World} {R : Ending → World → Prop} (h : YieldAt Fence.wide n Try.prog l args w R) : YieldAt Fence.wide m Try.prog l args w R := by
  obtain ⟨fn, tmps, assign, body, hy, hR⟩ := h
  exact ⟨fn, tmps, assign, body, hy, round_wide hR⟩
/-- such a loop, whose body goes on or returns -/
theorem range_gives {g : Operand} {p : Tmp} {assign body : Code} {Q : Exit → Act → World → Prop} {a : Act} {w : World} {n : Nat} (h1 : 2 ≤ n)
    {gf : Nat} {lb : Array Value} (hg : a.eval g = .func (.func gf) #[] lb) (eg : ∀ args w, (callFunc gf args).run Try.prog w = .ok (.enter gf args) w)
    {L : List Nat} {w0 : World} (hseq : Gives gf lb L w0) (hb0 : Below w0.heap.size w0 w)
    (I Ix : List Nat → World → Prop) (hI : OwnFrom w.heap.size I) (hIx : OwnFrom w.heap.size Ix) (h0 : I [] w) (a₁ : Nat → Act)
    (hassign : ∀ (l m x : Nat) (W : World) (K : Act → World → Prop), K (a₁ x) W →
      assign.wpIn (Fence.wide.inRound l) m Try.prog (Exit.then K (fun _ _ _ => False)) { tmps := ((#[p] : Array Tmp).zip #[Value.int .i64 (x : Nat)]).foldl (fun t (p, v) => t.setIfInBounds p v) a.tmps, defers := [] } W)
    (hbody : ∀ (l m : Nat) (pre : List Nat) (x : Nat) (W : World), I pre W → pre ++ [x] <+: L → body.wpIn (Fence.wide.inRound l) m Try.prog (bodyEnds w.heap.size I Ix pre x W) (a₁ x) W)
    (hdone : ∀ (D : Nat) (W : World), w.heap.size ≤ D → I L W → W.heap[D]? = some (.deferred (some [])) → Q .normal { a with defers := { target := .collected D, args := #[] } :: a.defers } W)
    (hstop : ∀ (D : Nat) (pre : List Nat) (W : World), w.heap.size ≤ D → pre <+: L → Ix pre W → W.heap[D]? = some (.deferred (some [])) → Code.ret.wpIn Fence.wide n Try.prog Q { a with defers := { target := .collected D, args := #[] } :: a.defers } W) :
    (Code.rangeFunc g #[p] assign body).wpIn Fence.wide n Try.prog Q a w := by
  refine wpIn_rangeFunc fun fn hfn => ?_
  let rc : LoopState → Option Code → Loop := fun s q => { state := s, pending := q, fn := fn, tmps := a.tmps, params := #[p], assign := assign, body := body, defers := w.heap.size }
  obtain ⟨V, hV⟩ : ∃ V, V = (w.alloc (.deferred (some []))).alloc (.loop (rc .ready none)) := ⟨_, rfl⟩
  have vs : V.heap.size = w.heap.size + 2 := by rw [hV]; simp
  have vB : Below w.heap.size w V := by rw [hV]; exact ((Below.refl _ w).alloc (Nat.le_refl _) _).alloc (by simp) _
  have vD : V.heap[w.heap.size]? = some (.deferred (some [])) := by rw [hV]; exact (Below.heap_alloc _ _ _ (by simp)).trans (World.alloc_heap_new w _)
  have vL : V.heap[w.heap.size + 1]? = some (.loop (rc .ready none)) := by
    rw [hV]; have := World.alloc_heap_new (w.alloc (.deferred (some []))) (.loop (rc .ready none)); rwa [World.size_alloc] at this
  have vI : I [] V := by rw [hV]; exact hI.alloc _ (hI.alloc _ h0)
  refine ⟨w.heap.size + 1, [{ target := .collected w.heap.size, args := #[] }], V, { target := .fn (.func gf) lb, args := #[.func (.yield (w.heap.size + 1)) #[] #[]] }, V, gf,
    #[.func (.yield (w.heap.size + 1)) #[] #[]] ++ lb, V, by rw [hV]; exact run_enterLoop_outer _ _ _ _ _, by simp only [resolve, hg]; simp [go_sem], fun f' hf' => trivial, by simp [invoke, go_sem, eg], fun h => by omega, ?_⟩
  have key := hseq (n - 1) (w.heap.size + 1)
    (fun pre W => I pre W ∧ W.heap[w.heap.size + 1]? = some (.loop (rc .ready none)) ∧ W.heap[w.heap.size]? = some (.deferred (some [])))
    (fun pre W => Ix pre W ∧ W.heap[w.heap.size + 1]? = some (.loop (rc .done (some .ret))) ∧ W.heap[w.heap.size]? = some (.deferred (some []))) V (by omega) (by omega) (hb0.trans (vB.mono hb0.size))
    ((ownUp hI (by omega)).and ((at_own (by omega)).and (at_own (by omega)))) ((ownUp hIx (by omega)).and ((at_own (by omega)).and (at_own (by omega)))) ?_ ⟨vI, vL, vD⟩
  · refine key.mono ?_
    rintro e W2 ⟨⟨v, rfl⟩, ⟨hi, hl, hk⟩ | ⟨pre, hpre, hi, hl, hk⟩⟩
    · exact ⟨none, _, run_endLoop (P := Try.prog) hl (by simp [rc]), hdone _ _ (Nat.le_refl _) (hI.putObj _ hi (by omega) hl rfl) ((World.putObj_heap_other (by omega)).trans hk)⟩
    · exact ⟨some .ret, _, run_endLoop (P := Try.prog) hl (by simp [rc]), hstop _ pre _ (Nat.le_refl _) hpre (hIx.putObj _ hi (by omega) hl rfl) ((World.putObj_heap_other (by omega)).trans hk)⟩
  · rintro m pre x W ⟨hi, hl, hk⟩ hx
    have hlt : w.heap.size + 1 < W.heap.size := (Array.getElem?_eq_some_iff.1 hl).1
    refine ⟨fn, _, assign, body, run_yield (P := Try.prog) (args := #[.int .i64 (x : Nat)]) hl rfl, roundIn_of_wpIn hfn ?_⟩
    refine hassign _ _ x W _ ?_
    refine ⟨_, run_beginRound hl rfl, ?_⟩
    obtain ⟨X, hX⟩ : ∃ X, X = W.putObj (w.heap.size + 1) (.loop (rc .busy none)) := ⟨_, rfl⟩
    have xL : X.heap[w.heap.size + 1]? = some (.loop (rc .busy none)) := by rw [hX]; exact World.putObj_heap_same hlt
    have xD : X.heap[w.heap.size]? = some (.deferred (some [])) := by rw [hX]; exact (World.putObj_heap_other (by omega)).trans hk
    have xI : I pre X := by rw [hX]; exact hI.putObj _ hi (by omega) hl rfl
    have xs : X.heap.size = W.heap.size := by rw [hX]; simp
    have hX' : W.putObj (w.heap.size + 1) (.loop { rc .ready none with state := .busy }) = X := hX.symm
    rw [hX']
    refine wpIn_mono (hbody _ _ pre x X xI hx) ?_
    rintro e a3 Y hp
    cases e with
    | normal =>
      obtain ⟨hB, hiY⟩ := hp
      have yL := (hB.block (w.heap.size + 1) (by omega)).trans xL
      refine ⟨_, _, run_endRound (P := Try.prog) none yL, .inl ⟨rfl, ⟨hI.putObj _ hiY (by omega) yL rfl, World.putObj_heap_same (Array.getElem?_eq_some_iff.1 yL).1, ?_⟩, ?_⟩⟩
      · exact (World.putObj_heap_other (by omega)).trans ((hB.block w.heap.size (by omega)).trans xD)
      · refine ⟨?_, ?_, ?_, ?_, fun k hk' => ?_⟩
        · exact hB.os.trans (by rw [hX]; rfl)
        · exact hB.tape.trans (by rw [hX]; rfl)
        · exact hB.output.trans (by rw [hX]; rfl)
        · have := hB.size; simp; omega
        · by_cases e : k = w.heap.size + 1
          · subst e
            rw [World.putObj_heap_same (Array.getElem?_eq_some_iff.1 yL).1, hl]; rfl
          · rw [World.putObj_heap_other e, hB.block k (by omega), hX, World.putObj_heap_other e]
    | ret =>
      obtain ⟨hK, hiY⟩ := hp
      have yL := hK.same _ _ (by omega) xL rfl
      refine ⟨_, _, run_endRound (P := Try.prog) (some .ret) yL, .inr ⟨rfl, ⟨hIx.putObj _ hiY (by omega) yL rfl, World.putObj_heap_same (Array.getElem?_eq_some_iff.1 yL).1, (World.putObj_heap_other (by omega)).trans (hK.same _ _ (Nat.le_refl _) xD rfl)⟩, ?_⟩⟩
      refine ⟨by have := hK.size; simp; omega, fun k o hk1 hk2 hk3 => ?_⟩
      rw [World.putObj_heap_other (by omega)]
      exact hK.same _ _ (by omega) (by rw [hX, World.putObj_heap_other (by omega)]; exact hk2) hk3
    | exit id => exact hp.elim
    | goto t => exact hp.elim
    | panic ch => exact hp.elim
    | outgrown => exact hp.elim
end Go.Proofs.Ytpcindemkkdbbaa

/- The way in which a file's inode is looked for: what searched gives. -/
namespace Go.Proofs.Ytpcindemkkdbbaa
set_option linter.unusedVariables false
set_option linter.unusedSimpArgs false
open Go.RowKit Go.Shelf

attribute [local go_sem] Oper.semAt_some
set_option maxHeartbeats 1000000 in
theorem searched_in (n : Nat) (f m : Int) (w : World) :
    CallsIn Fence.wide n Try.prog 63 #[.int .i64 f, .int .i64 m] w fun e w' => e = .returned (.func (.func 74) #[] #[.pointer (some ⟨w.heap.size, 0, none⟩), .pointer (some ⟨w.heap.size + 1, 0, none⟩)]) ∧ w' = (w.alloc (.cells #[.int .i64 f] 3)).alloc (.cells #[.int .i64 m] 3) := by
  refine callsIn_of_wp Try.func63 rfl trivial ?_ rfl
  simp only [Try.ntmps63, List.size_toArray, List.length_cons, List.length_nil, Nat.reduceAdd, Nat.reduceSub, Array.replicate_succ, Array.replicate_zero, List.push_toArray, List.append_toArray, List.nil_append, List.cons_append]
  gi_wp2
  go_ret
  exact ⟨rfl, rfl⟩
set_option maxRecDepth 100000 in
set_option maxHeartbeats 1000000 in
theorem round_gives (Bm Bf m f : Nat) (hm : 0 < m) (hm2 : m ≤ 1000) (hf2 : f ≤ 1000) (w0 : World) (hBm : w0.cell? ⟨Bm, 0, none⟩ = some (.int .i64 m)) (hBf : w0.cell? ⟨Bf, 0, none⟩ = some (.int .i64 f)) (h1 : Bm < w0.heap.size) (h2 : Bf < w0.heap.size) :
    Gives 70 #[.pointer (some ⟨Bm, 0, none⟩), .pointer (some ⟨Bf, 0, none⟩)] (wayT m f m) w0 := by
  intro n l J Jx W hn hl hW hJ hJx hY h0
  show CallsIn Fence.wide n Try.prog 70 #[.func (.yield l) #[] #[], .pointer (some ⟨Bm, 0, none⟩), .pointer (some ⟨Bf, 0, none⟩)] W _
  have HCf : Hid (∀ W', Below W.heap.size W W' → W'.cell? ⟨Bf, 0, none⟩ = some (.int .i64 f)) := fun W' h => ((hW.trans (h.mono hW.size)).cell (p := ⟨Bf, 0, none⟩) h2).trans hBf
  have HCm : Hid (∀ W', Below W.heap.size W W' → W'.cell? ⟨Bm, 0, none⟩ = some (.int .i64 m)) := fun W' h => ((hW.trans (h.mono hW.size)).cell (p := ⟨Bm, 0, none⟩) h1).trans hBm
  have HY := Lib.hid hY
  refine callsIn_of_wp Try.func70 rfl trivial ?_ rfl
  simp only [Try.ntmps70, List.size_toArray, List.length_cons, List.length_nil, Nat.reduceAdd, Nat.reduceSub, Array.replicate_succ, Array.replicate_zero, List.push_toArray, List.append_toArray, List.nil_append, List.cons_append]
  have cm := HCm.out W (Below.refl _ _)
  clear hY hJ hJx hBm hBf
  gi_wp2
  clear cm
  gi_loopw [6] (fun i wr => ∃ k : Nat, k ≤ m ∧ i = .int .i64 k ∧ J (wayT m f k) wr ∧ Below W.heap.size W wr) (fun i _ => m - (intOf i).toNat)
  case atStart => exact ⟨0, Nat.zero_le _, rfl, h0, Below.refl _ _⟩
  case round =>
    obtain ⟨k, hk, rfl, hJ, hB⟩ := hrel
    have cm := HCm.out wr hB
    have cf := HCf.out wr hB
    by_cases hlt : k < m
    · have hki : (k : Int) < (m : Int) := by omega
      have hk0 : (0 : Int) ≤ (k : Int) := by omega
      have hmi : (0 : Int) < (m : Int) := by omega
      have hs : wayT m f (k + 1) = wayT m f k ++ [(f + k) % m] := by simp [wayT, List.range_succ]
      have Hp := Lib.hid (wayT_pre m f (j := k + 1) (k := m) (by omega))
      obtain ⟨fn, tmps, assign, body, hy, hR⟩ := HY.out (n - 1) _ ((f + k) % m) wr hJ (by rw [← hs]; exact Hp.out)
      have HR := Lib.hid hR
      have Hs := Lib.hid hs
      have e : (((f + k) % m : Nat) : Int) = ((f : Int) + (k : Int)) % (m : Int) := by simp
      rw [e] at hy
      clear hR e hs
      gi_wp2
      refine HR.out.mono ?_
      rintro e W3 (⟨rfl, hJ3, hk3⟩ | ⟨rfl, hJx3, _⟩)
      · gi_wp2
        go_roundw
        case rel => exact ⟨k + 1, by omega, by go_num, by rw [Hs.out]; exact hJ3, hB.trans (hk3.mono hB.size)⟩
        case measure => simp [intOf]; omega
      · gi_wp2
        refine bodyPost_ret (results_none rfl _ _ _) rfl ?_
        exact ⟨⟨_, rfl⟩, .inr ⟨_, by rw [Hs.out] at Hp; exact Hp.out, hJx3⟩⟩
    · obtain rfl : k = m := by omega
      gi_wp2
      go_end0
      exact ⟨⟨_, rfl⟩, .inl hJ⟩
/-- its own group, and those further and further behind below b -/
def preS (m g b : Nat) : List Nat := g :: (([1, 3, 7, 15].filter fun c => decide (c < b ∧ c ≤ m)).map fun c => (g + c) % m)
def IsB (b : Nat) : Prop := b = 1 ∨ b = 3 ∨ b = 7 ∨ b = 15 ∨ b = 31
theorem preS_one (m g : Nat) : preS m g 1 = [g] := by simp [preS]
theorem preS_next {m g b : Nat} (hb : IsB b) (h : b ≤ m) (h15 : b ≤ 15) : preS m g (2 * b + 1) = preS m g b ++ [(g + b) % m] ∧ IsB (2 * b + 1) := by
  rcases hb with rfl | rfl | rfl | rfl | rfl
  · refine ⟨?_, by simp [IsB]⟩
    simp [preS, List.filter, h]
  · refine ⟨?_, by simp [IsB]⟩
    simp [preS, List.filter, h, show 1 ≤ m by omega]
  · refine ⟨?_, by simp [IsB]⟩
    simp [preS, List.filter, h, show 1 ≤ m by omega, show 3 ≤ m by omega]
  · refine ⟨?_, by simp [IsB]⟩
    simp [preS, List.filter, h, show 1 ≤ m by omega, show 3 ≤ m by omega, show 7 ≤ m by omega]
  · omega
theorem preS_all {m g b : Nat} (hb : IsB b) (h : ¬ (b ≤ m ∧ b ≤ 15)) : preS m g b ++ wayT m g m = searchW m g := by
  unfold preS searchW
  have e : ([1, 3, 7, 15].filter fun c => decide (c < b ∧ c ≤ m)) = [1, 3, 7, 15].filter fun c => decide (c ≤ m) := by
    refine List.filter_congr fun c hc => ?_
    have : c ≤ m → c < b := fun q => by
      simp at hc
      rcases hb with rfl | rfl | rfl | rfl | rfl <;> omega
    by_cases q : c ≤ m
    · simp [q, this q]
    · simp [q]
  rw [e]
theorem preS_pre {m g b : Nat} (hb : IsB b) : preS m g b <+: searchW m g := by
  unfold preS searchW
  have e : ([1, 3, 7, 15].filter fun c => decide (c < b ∧ c ≤ m)) <+: [1, 3, 7, 15].filter fun c => decide (c ≤ m) := by
    rcases hb with rfl | rfl | rfl | rfl | rfl
    · simp
    all_goals
      by_cases h1 : 1 ≤ m
      · by_cases h3 : 3 ≤ m
        · by_cases h7 : 7 ≤ m
          · by_cases h15 : 15 ≤ m <;> simp [List.filter, h1, h3, h7, h15]
          · have h15 : ¬ 15 ≤ m := by omega
            simp [List.filter, h1, h3, h7, h15]
        · have h7 : ¬ 7 ≤ m := by omega
          have h15 : ¬ 15 ≤ m := by omega
          simp [List.filter, h1, h3, h7, h15]
      · have h3 : ¬ 3 ≤ m := by omega
        have h7 : ¬ 7 ≤ m := by omega
        have h15 : ¬ 15 ≤ m := by omega
        simp [List.filter, h1, h3, h7, h15]
  obtain ⟨t, ht⟩ := e
  rw [← ht, List.map_append, List.cons_append, List.append_assoc]
  exact List.prefix_append (g :: _) _
end Go.Proofs.Ytpcindemkkdbbaa

/- What searched gives: the walk. -/
namespace Go.Proofs.Ytpcindemkkdbbaa
set_option linter.unusedVariables false
set_option linter.unusedSimpArgs false
open Go.RowKit Go.Shelf

attribute [local go_sem] Oper.semAt_some
set_option maxRecDepth 100000 in
set_option maxHeartbeats 4000000 in
theorem searched_gives (Bg Bm m g : Nat) (hm : 0 < m) (hm2 : m ≤ 1000) (hg : g ≤ 1000) (w0 : World) (hBg : w0.cell? ⟨Bg, 0, none⟩ = some (.int .i64 g)) (hBm : w0.cell? ⟨Bm, 0, none⟩ = some (.int .i64 m)) (h1 : Bg < w0.heap.size) (h2 : Bm < w0.heap.size) :
    Gives 74 #[.pointer (some ⟨Bg, 0, none⟩), .pointer (some ⟨Bm, 0, none⟩)] (searchW m g) w0 := by
  intro n0 l J Jx W hn hlW hW hJ hJx hY h0
  obtain ⟨n, hn8⟩ : ∃ n : Nat, 8 ≤ n := ⟨8, Nat.le_refl _⟩
  have hn1 : 1 ≤ n := by omega
  refine (callsIn_wide (n := n0)).2 ((callsIn_wide (n := n)).1 ?_)
  show CallsIn Fence.wide n Try.prog 74 #[.func (.yield l) #[] #[], .pointer (some ⟨Bg, 0, none⟩), .pointer (some ⟨Bm, 0, none⟩)] W _
  have HCg : Hid (∀ W', Below W.heap.size W W' → W'.cell? ⟨Bg, 0, none⟩ = some (.int .i64 g)) := fun W' h => ((hW.trans (h.mono hW.size)).cell (p := ⟨Bg, 0, none⟩) h1).trans hBg
  have HCm : Hid (∀ W', Below W.heap.size W W' → W'.cell? ⟨Bm, 0, none⟩ = some (.int .i64 m)) := fun W' h => ((hW.trans (h.mono hW.size)).cell (p := ⟨Bm, 0, none⟩) h2).trans hBm
  have hgW : Bg < W.heap.size := by have := hW.size; omega
  have hmW : Bm < W.heap.size := by have := hW.size; omega
  have HY := Lib.hid hY
  have HJ := Lib.hid hJ
  have HJx := Lib.hid hJx
  have hp1 : [] ++ [g] <+: searchW m g := by rw [List.nil_append, ← preS_one m g]; exact preS_pre (.inl rfl)
  refine callsIn_of_wp_marks Try.func74 rfl trivial ?_ rfl
  simp only [Try.ntmps74, List.size_toArray, List.length_cons, List.length_nil, Nat.reduceAdd, Nat.reduceSub, Array.replicate_succ, Array.replicate_zero, List.push_toArray, List.append_toArray, List.nil_append, List.cons_append]
  obtain ⟨fn, tmps, assign, body, hy, hR⟩ := hY (n - 1) [] g (W.alloc (.cells #[.func (.yield l) #[] #[]] 85)) (hJ.alloc _ h0) hp1
  have HR := Lib.hid hR
  have cg := HCg.out W (Below.refl _ _)
  have HP1 := Lib.hid hp1
  clear hR hY hJ hJx h0 hBg hBm hW hp1
  gi_wp2
  refine HR.out.mono ?_
  rintro e W1 (⟨rfl, hJ1, hB1⟩ | ⟨rfl, hJx1, _⟩)
  · have hsa : (W.alloc (.cells #[.func (.yield l) #[] #[]] 85)).heap.size = W.heap.size + 1 := by simp
    have h85 : Blk W1 W.heap.size 85 #[.func (.yield l) #[] #[]] := (hB1.block W.heap.size (by rw [hsa]; omega)).trans (Go.heap_alloc_new W _)
    have hBW : Below W.heap.size W W1 := ((Below.refl _ W).alloc (Nat.le_refl _) _).trans (hB1.mono (by rw [hsa]; omega))
    have HJ1 := Lib.hid hJ1
    have H85 := Lib.hid h85
    have HBW := Lib.hid hBW
    clear hJ1 h85 hBW hB1 hy HR cg
    gi_wp2
    gi_loopw [4] (fun s wr => ∃ b : Nat, IsB b ∧ s = .int .i64 b ∧ J (preS m g b) wr ∧ Blk wr W.heap.size 85 #[.func (.yield l) #[] #[]] ∧ Below W.heap.size W wr) (fun s _ => 32 - (intOf s).toNat)
    case atStart => exact ⟨1, .inl rfl, rfl, by rw [preS_one]; exact HJ1.out, H85.out, HBW.out⟩
    case round =>
      obtain ⟨b, hb, rfl, hJb, h85, hB⟩ := hrel
      have hbx : b ≤ 31 := by rcases hb with rfl | rfl | rfl | rfl | rfl <;> omega
      have hb1 : 1 ≤ b := by rcases hb with rfl | rfl | rfl | rfl | rfl <;> omega
      have cg := HCg.out wr hB
      have cm := HCm.out wr hB
      have c85 := cellAt_of h85 0
      simp only [List.getElem?_toArray, List.getElem?_cons_zero] at c85
      have hsw := lt_heap h85
      by_cases hlt : b ≤ m ∧ b ≤ 15
      · have hle : (b : Int) ≤ min (m : Int) 15 := by omega
        have hmi : (0 : Int) < (m : Int) := by omega
        have hg0 : (0 : Int) ≤ (g : Int) := by omega
        have hb0 : (0 : Int) ≤ (b : Int) := by omega
        have hmx : Try.prog.follows .mixedOrders = true := by kernel_rfl
        obtain ⟨x, hxN⟩ : ∃ x, x = (g + b) % m := ⟨_, rfl⟩
        have hx : ((g : Int) + (b : Int)) % (m : Int) = (x : Int) := by rw [hxN]; push_cast; rfl
        obtain ⟨hnx, hbn⟩ := preS_next (g := g) hb hlt.1 hlt.2
        rw [← hxN] at hnx
        have hpx : preS m g b ++ [x] <+: searchW m g := by rw [← hnx]; exact preS_pre hbn
        have hJd : J (preS m g b) wr.drew := HJ.out _ _ _ none hJb ⟨rfl, rfl, rfl, Nat.le_refl _, fun _ _ _ => rfl⟩ (fun r e => by cases e)
        obtain ⟨fn, tmps, assign, body, hy, hR⟩ := HY.out (n - 1) (preS m g b) x wr.drew hJd hpx
        have hwx : (IntKind.i64.wrap ((g : Int) + (b : Int))).tmod (m : Int) = (x : Int) := by rw [IntWalk.i64_in _ (by omega), Int.tmod_eq_emod_of_nonneg (by omega)]; exact hx
        rw [← hwx] at hy
        have HR : Hid (RoundIn Fence.wide (n - 1) Try.prog l fn tmps assign body wr.drew fun e W' => ∃ q : Bool, e = .returned (.bool q) ∧ ((q = true ∧ J (preS m g b ++ [x]) W' ∧ Below wr.drew.heap.size wr.drew W') ∨ (q = false ∧ Jx (preS m g b ++ [x]) W' ∧ KeepsFrom (l + 1) wr.drew W'))) := hR.mono fun e W' h => by
          rcases h with ⟨e1, e2, e3⟩ | ⟨e1, e2, e3⟩
          · exact ⟨true, e1, .inl ⟨rfl, e2, e3⟩⟩
          · exact ⟨false, e1, .inr ⟨rfl, e2, e3⟩⟩
        have hbl : (b : Int) ≤ 15 := by omega
        have hm0 : ¬ m = 0 := by omega
        have hml : (m : Int) ≤ 1000 := by omega
        have hgl : (g : Int) ≤ 1000 := by omega
        have Hnx := Lib.hid hnx
        have Hbn := Lib.hid hbn
        have Hpx := Lib.hid hpx
        have HBr := Lib.hid hB
        have H85r := Lib.hid h85
        clear hxN hnx hbn hpx hJd hR hb hB h85 hJb hwx hx
        gi_wp2
        refine wpIn_mono (?_ : Code.wpIn _ _ _ _ (NoPanic _) _ _) NoPanic.imp
        gi_region_with_o (refine HR.out.mono ?_; rintro e W3 ⟨q, rfl, hq⟩)
        all_goals
          refine NoPanic.normal ?_
          rcases hq with ⟨rfl, hJ3, hB3⟩ | ⟨rfl, hJx3, _⟩
          · have hB3' : Below wr.heap.size wr W3 := ⟨hB3.os, hB3.tape, hB3.output, hB3.size, hB3.block⟩
            have HJ3 := Lib.hid hJ3
            have HB3 := Lib.hid (HBr.out.trans (hB3'.mono HBr.out.size))
            have H853 := Lib.hid ((hB3'.block _ hsw).trans H85r.out)
            clear hJ3 hB3 hB3'
            gi_wp2
            go_roundw
            case rel => exact ⟨2 * b + 1, Hbn.out, by go_num, by rw [Hnx.out]; exact HJ3.out, H853.out, HB3.out⟩
            case measure => simp [intOf]; omega
          · gi_wp2
            exact ⟨_, results_none rfl _ _ _, ⟨_, rfl⟩, .inr ⟨_, Hpx.out, hJx3⟩⟩
      · have hle : ¬ (b : Int) ≤ min (m : Int) 15 := by omega
        have Hall := Lib.hid (preS_all (g := g) hb hlt)
        have HBr := Lib.hid hB
        have H85r := Lib.hid h85
        have HJr := Lib.hid hJb
        clear hB h85 hJb
        gi_wp2_with (refine ⟨trivial, ?_⟩; gi_at_call 54; refine (round_in Fence.wide (n - 1) trivial rfl _ _ _).mono ?_; rintro e w' ⟨rfl, rfl⟩)
        have hBz : Below wr.heap.size wr ((wr.alloc (.cells #[.int .i64 g] 3)).alloc (.cells #[.int .i64 m] 3)) := ((Below.refl _ wr).alloc (Nat.le_refl _) _).alloc (by simp) _
        have hJz : J (preS m g b) ((wr.alloc (.cells #[.int .i64 g] 3)).alloc (.cells #[.int .i64 m] 3)) := HJ.out.alloc _ (HJ.out.alloc _ HJr.out)
        have bF : Boxed ((wr.alloc (.cells #[.int .i64 g] 3)).alloc (.cells #[.int .i64 m] 3)) wr.heap.size 3 (.int .i64 g) := (Boxed.new wr 3 _).alloc _
        have bM := Boxed.new (wr.alloc (.cells #[.int .i64 g] 3)) 3 (.int .i64 m)
        simp only [World.size_alloc] at bM
        have hsz : ((wr.alloc (.cells #[.int .i64 g] 3)).alloc (.cells #[.int .i64 m] 3)).heap.size = wr.heap.size + 2 := by simp
        generalize (wr.alloc (.cells #[.int .i64 g] 3)).alloc (.cells #[.int .i64 m] 3) = Wz at hBz hJz bF bM hsz ⊢
        have h85z : Blk Wz W.heap.size 85 #[.func (.yield l) #[] #[]] := (hBz.block _ hsw).trans H85r.out
        have hseq := round_gives (wr.heap.size + 1) wr.heap.size m g hm hm2 hg Wz bM.cell bF.cell (by omega) (by omega)
        have hWz : W.heap.size ≤ Wz.heap.size := by have := HBr.out.size; omega
        refine range_gives (n := n) (by omega) (gf := 70) (lb := #[.pointer (some ⟨wr.heap.size + 1, 0, none⟩), .pointer (some ⟨wr.heap.size, 0, none⟩)]) rfl (enters_of Try.func70 (by kernel_rfl) rfl)
          hseq (Below.refl _ _)
          (fun pre' V => J (preS m g b ++ pre') V ∧ Blk V W.heap.size 85 #[.func (.yield l) #[] #[]])
          (fun pre' V => Jx (preS m g b ++ pre') V)
          (OwnFrom.and (fun s X Y row hs hg hr => ownUp HJ.out hWz _ X Y row hs hg hr) (Own.from (own_same (I := fun (_ : List Nat) V => Blk V W.heap.size 85 #[.func (.yield l) #[] #[]]) fun _ _ _ hs _ h => Blk.same h hs) _))
          (fun s X Y row hs hg hr => ownUp HJx.out hWz _ X Y row hs hg hr)
          ⟨by rw [List.append_nil]; exact hJz, h85z⟩
          (fun x => { tmps := (.func (.yield l) #[] #[] :: .pointer (some ⟨Bg, 0, none⟩) :: .pointer (some ⟨Bm, 0, none⟩) :: .pointer (some ⟨W.heap.size, 0, none⟩) :: .int .i64 b :: .int .i64 (x : Nat) :: .func (.yield l) #[] #[] :: .int .i64 g :: .bool true :: .bool false :: .int .i64 b :: .int .i64 m :: .int .i64 (min (m : Int) 15) :: .bool false :: u14 :: u15 :: u16 :: u17 :: u18 :: u19 :: u20 :: u21 :: u22 :: u23 :: u24 :: .int .i64 g :: .int .i64 m :: .func (.func 70) #[] #[.pointer (some ⟨wr.heap.size + 1, 0, none⟩), .pointer (some ⟨wr.heap.size, 0, none⟩)] :: .int .i64 (x : Nat) :: undef :: undef :: undef :: undef :: []).toArray, defers := [] })
          ?assign ?body ?done ?stop
        case assign =>
          rintro l2 m2 x V K hK
          gi_wp2
          exact hK
        case body =>
          rintro l2 m2 pre' x V ⟨hj, hb85⟩ hx
          have hpx : preS m g b ++ pre' ++ [x] <+: searchW m g := by
            rw [← Hall.out, List.append_assoc]
            exact (List.prefix_append_right_inj _).2 hx
          obtain ⟨fn, tmps, assign, body, hy, hR⟩ := HY.out (m2 - 1) _ x V hj hpx
          have HR := Lib.hid hR
          have c85 := cellAt_of hb85 0
          simp only [List.getElem?_toArray, List.getElem?_cons_zero] at c85
          have Hb85 := Lib.hid hb85
          have hVl := lt_heap hb85
          clear hR hj hb85
          gi_wp2
          refine ⟨fun h => (by simp [Fence.wide, Fence.inRound] at h), RoundIn.mono (show RoundIn Fence.wide (m2 - 1) Try.prog l fn tmps assign body V _ from HR.out) ?_⟩
          rintro e W3 (⟨rfl, hJ3, hB3⟩ | ⟨rfl, hJx3, hK3⟩)
          · gi_wp2
            exact ⟨hB3, by rw [List.append_assoc] at hJ3; exact hJ3, (hB3.block _ hVl).trans Hb85.out⟩
          · gi_wp2
            exact ⟨⟨hK3.size, fun k o h1 h2 h3 => hK3.same k o (by omega) h2 h3⟩, by rw [List.append_assoc] at hJx3; exact hJx3⟩
        case done =>
          rintro D V hD ⟨hj, _⟩ hK
          rw [Hall.out] at hj
          gi_wp2
          refine ⟨by simp, .inl ⟨_, _, rfl, run_takeDeferred hK, ?_⟩⟩
          exact ⟨_, results_none rfl _ _ _, ⟨_, rfl⟩, .inl (HJ.out.putObj _ hj (by omega) hK rfl)⟩
        case stop =>
          rintro D pre' V hD hpre hj hK
          gi_wp2
          refine ⟨by simp, .inl ⟨_, _, rfl, run_takeDeferred hK, ?_⟩⟩
          exact ⟨_, results_none rfl _ _ _, ⟨_, rfl⟩, .inr ⟨_, by rw [← Hall.out]; exact (List.prefix_append_right_inj _).2 hpre, HJx.out.putObj _ hj (by omega) hK rfl⟩⟩
  · gi_wp2
    exact ⟨_, results_none rfl _ _ _, ⟨_, rfl⟩, .inr ⟨_, HP1.out, hJx1⟩⟩
end Go.Proofs.Ytpcindemkkdbbaa

/- Contract of File. -/
namespace Go.Proofs.Ytpcindemkkdbbaa
set_option linter.unusedVariables false
set_option linter.unusedSimpArgs false
open Go.RowKit Go.Shelf

attribute [local go_sem] Oper.semAt_some
/-- the four boxes of File's call -/
structure Box4 (w : World) (A : Option Addr) (n c : Nat) (W : World) : Prop where
  b0 : Blk W w.heap.size 39 #[.slice A n c]
  b2 : Blk W (w.heap.size + 1) 39 #[.slice none 0 0]
  b3 : Blk W (w.heap.size + 1 + 1) 41 #[.int .i64 0, .int .i64 0]
  b4 : Blk W (w.heap.size + 1 + 1 + 1) 28 #[.int .i64 0]
theorem Box4.same {w : World} {A : Option Addr} {n c : Nat} {W W' : World} (h : Box4 w A n c W) (hs : Same W W') : Box4 w A n c W' := ⟨h.b0.same hs, h.b2.same hs, h.b3.same hs, h.b4.same hs⟩
theorem Box4.keep {w : World} {A : Option Addr} {n c : Nat} {W W' : World} (h : Box4 w A n c W) (hB : Below W.heap.size W W') : Box4 w A n c W' :=
  ⟨h.b0.keep (S := fun _ => False) (Kept.fresh hB) (fun q => q), h.b2.keep (S := fun _ => False) (Kept.fresh hB) (fun q => q), h.b3.keep (S := fun _ => False) (Kept.fresh hB) (fun q => q), h.b4.keep (S := fun _ => False) (Kept.fresh hB) (fun q => q)⟩
theorem box4_new (w : World) (A : Option Addr) (m c : Nat) : Box4 w A m c ((((w.alloc (.cells #[.slice A m c] 39)).alloc (.cells #[.slice none 0 0] 39)).alloc (.cells #[.int .i64 0, .int .i64 0] 41)).alloc (.cells #[.int .i64 0] 28)) := by
  have al : ∀ (W : World) (o : Obj) (b : Nat) (t : TypeId) (cs : Array Value), Blk W b t cs → Blk (W.alloc o) b t cs := fun W o b t cs h => (Below.heap_alloc W o b (Array.getElem?_eq_some_iff.1 h).1).trans h
  have nw : ∀ (W : World) (t : TypeId) (cs : Array Value) (k : Nat), W.heap.size = k → Blk (W.alloc (.cells cs t)) k t cs := fun W t cs k e => by rw [← e]; exact Go.heap_alloc_new W _
  exact ⟨al _ _ _ _ _ (al _ _ _ _ _ (al _ _ _ _ _ (nw _ _ _ _ rfl))), al _ _ _ _ _ (al _ _ _ _ _ (nw _ _ _ _ (by simp))), al _ _ _ _ _ (nw _ _ _ _ (by simp)), nw _ _ _ _ (by simp)⟩
/-- the answer lies in the boxes -/
def DoneF (w : World) (r : An) (W : World) : Prop := ∃ A c, Blk W (w.heap.size + 1) 39 #[.slice A r.l.length c] ∧ Blk W (w.heap.size + 1 + 1) 41 #[.int .i64 r.g, .int .i64 r.b] ∧ Blk W (w.heap.size + 1 + 1 + 1) 28 #[.int .i64 r.e] ∧ GrpO W w.heap.size A c r.l
theorem DoneF.same {w : World} {r : An} {W W' : World} (h : DoneF w r W) (hs : Same W W') : DoneF w r W' := by
  obtain ⟨A, c, h1, h2, h3, h4⟩ := h
  exact ⟨A, c, h1.same hs, h2.same hs, h3.same hs, h4.same hs⟩
theorem fileAt_no {l : List Cy} {g : Nat} (h : ∀ y ∈ searchW l.length g, ¬ 0 < (cyN l y).fi) : fileAt l g = none := by
  unfold fileAt; rw [List.find?_eq_none]; intro y hy; have := h y hy; simpa using this
theorem fileAt_yes {l : List Cy} {g x : Nat} {p : List Nat} (hp : p ++ [x] <+: searchW l.length g) (h : ∀ y ∈ p, ¬ 0 < (cyN l y).fi) (hx : 0 < (cyN l x).fi) : fileAt l g = some x :=
  find_pre hp (fun y hy => by have := h y hy; simpa using this) (by simpa using hx)

set_option maxRecDepth 100000 in
set_option maxHeartbeats 2000000 in
theorem file_form (A : Option Addr) (c m : Nat) (l : List Cy) (ng : Int) (hm : m = l.length) (w : World) (hs : SmallL l) (hI : Cyls w w.heap.size A l) (hW : wholeL l = false) :
    Calls Try.prog 33 #[.slice A m c, .int .i64 ng] w (AnSays w ⟨[], 0, 0, 3⟩) := by
  have HWh : Hid (∀ W, Below w.heap.size w W → Calls Try.prog 31 #[.slice A m c] W fun e w' => e = .returned (.bool false) ∧ Below W.heap.size W w') := fun W hB => by
    have := whole_any A c m l hm W hs (hI.next hB)
    rw [hW] at this; exact this
  clear hI hs hW hm
  obtain ⟨Q, hQ⟩ : ∃ Q, Q = AnSays w ⟨[], 0, 0, 3⟩ := ⟨_, rfl⟩
  have HQ : Hid (∀ e w', AnSays w ⟨[], 0, 0, 3⟩ e w' → Q e w') := by unfold Hid; rw [hQ]; exact fun _ _ h => h
  rw [← hQ]
  clear hQ
  go_enter Try.func33, Try.ntmps33
  go_wp2_with fail
  have hB0 : Below w.heap.size w ((((w.alloc (.cells #[.slice A m c] 39)).alloc (.cells #[.slice none 0 0] 39)).alloc (.cells #[.int .i64 0, .int .i64 0] 41)).alloc (.cells #[.int .i64 0] 28)) :=
    ((((Below.refl _ w).alloc (Nat.le_refl _) _).alloc (by simp) _).alloc (by simp; omega) _).alloc (by simp; omega) _
  have hX0 := box4_new w A m c
  have hs0 : ((((w.alloc (.cells #[.slice A m c] 39)).alloc (.cells #[.slice none 0 0] 39)).alloc (.cells #[.int .i64 0, .int .i64 0] 41)).alloc (.cells #[.int .i64 0] 28)).heap.size = w.heap.size + 4 := by simp
  generalize (((w.alloc (.cells #[.slice A m c] 39)).alloc (.cells #[.slice none 0 0] 39)).alloc (.cells #[.int .i64 0, .int .i64 0] 41)).alloc (.cells #[.int .i64 0] 28) = Wa at hB0 hX0 hs0 ⊢
  refine (HWh.out _ hB0).mono ?_
  rintro e Wb ⟨rfl, hBb⟩
  have hX := hX0.keep hBb
  have hB : Below w.heap.size w Wb := hB0.trans (hBb.mono (by omega))
  have hsb : w.heap.size + 4 ≤ Wb.heap.size := by have := hBb.size; omega
  clear hBb hB0 hs0 hX0
  have d2 := cellAt_of hX.b2 0
  have d30 := cellAt_of hX.b3 0
  have d31 := cellAt_of hX.b3 1
  have d4 := cellAt_of hX.b4 0
  simp only [List.getElem?_toArray, List.getElem?_cons_zero, List.getElem?_cons_succ] at d2 d30 d31 d4
  have f2 := frozen_of_row Wb _ 0 _ 39 hX.b2
  have f30 := frozen_of_row Wb _ 0 _ 41 hX.b3
  have f31 := frozen_of_row Wb _ 1 _ 41 hX.b3
  have f4 := frozen_of_row Wb _ 0 _ 28 hX.b4
  have HX := Lib.hid hX
  have HB := Lib.hid hB
  clear hX hB
  go_wp2_with fail
  have hbf : Below w.heap.size w ((((Wb.setCell ⟨w.heap.size + 1, 0, none⟩ (.slice none 0 0)).setCell ⟨w.heap.size + 1 + 1, 0, none⟩ (.int .i64 0)).setCell ⟨w.heap.size + 1 + 1, 1, none⟩ (.int .i64 0)).setCell ⟨w.heap.size + 1 + 1 + 1, 0, none⟩ (.int .i64 3)) :=
    (((HB.out.setCell (p := ⟨w.heap.size + 1, 0, none⟩) (by dsimp only; omega) _).setCell (p := ⟨w.heap.size + 1 + 1, 0, none⟩) (by dsimp only; omega) _).setCell (p := ⟨w.heap.size + 1 + 1, 1, none⟩) (by dsimp only; omega) _).setCell (p := ⟨w.heap.size + 1 + 1 + 1, 0, none⟩) (by dsimp only; omega) _
  exact bodyPost_ret (v := .tuple #[.slice none 0 0, .agg #[.int .i64 0, .int .i64 0], .int .i64 3]) (by simp [results, Try.results33, go_sem, d2, d30, d31, d4]) rfl (HQ.out _ _ ⟨none, 0, rfl, .inl ⟨rfl, rfl, rfl⟩, hbf⟩)

set_option maxRecDepth 100000 in
set_option maxHeartbeats 2000000 in
theorem file_range (A : Option Addr) (c m : Nat) (l : List Cy) (ng : Int) (hm : m = l.length) (w : World) (hs : SmallL l) (hI : Cyls w w.heap.size A l) (hW : wholeL l = true) (hb : amongB ng m = false) :
    Calls Try.prog 33 #[.slice A m c, .int .i64 ng] w (AnSays w ⟨[], 0, 0, 2⟩) := by
  have HWh : Hid (∀ W, Below w.heap.size w W → Calls Try.prog 31 #[.slice A m c] W fun e w' => e = .returned (.bool true) ∧ Below W.heap.size W w') := fun W hB => by
    have := whole_any A c m l hm W hs (hI.next hB)
    rw [hW] at this; exact this
  have HA : Hid (∀ W, Calls Try.prog 50 #[.int .i64 ng, .int .i64 m] W fun e w' => e = .returned (.bool false) ∧ W = w') := fun W => by
    have := among_any ng m W
    rw [hb] at this; exact this
  clear hI hs hW hm hb
  obtain ⟨Q, hQ⟩ : ∃ Q, Q = AnSays w ⟨[], 0, 0, 2⟩ := ⟨_, rfl⟩
  have HQ : Hid (∀ e w', AnSays w ⟨[], 0, 0, 2⟩ e w' → Q e w') := by unfold Hid; rw [hQ]; exact fun _ _ h => h
  rw [← hQ]
  clear hQ
  go_enter Try.func33, Try.ntmps33
  go_wp2_with fail
  have hB0 : Below w.heap.size w ((((w.alloc (.cells #[.slice A m c] 39)).alloc (.cells #[.slice none 0 0] 39)).alloc (.cells #[.int .i64 0, .int .i64 0] 41)).alloc (.cells #[.int .i64 0] 28)) :=
    ((((Below.refl _ w).alloc (Nat.le_refl _) _).alloc (by simp) _).alloc (by simp; omega) _).alloc (by simp; omega) _
  have hX0 := box4_new w A m c
  have hs0 : ((((w.alloc (.cells #[.slice A m c] 39)).alloc (.cells #[.slice none 0 0] 39)).alloc (.cells #[.int .i64 0, .int .i64 0] 41)).alloc (.cells #[.int .i64 0] 28)).heap.size = w.heap.size + 4 := by simp
  generalize (((w.alloc (.cells #[.slice A m c] 39)).alloc (.cells #[.slice none 0 0] 39)).alloc (.cells #[.int .i64 0, .int .i64 0] 41)).alloc (.cells #[.int .i64 0] 28) = Wa at hB0 hX0 hs0 ⊢
  refine (HWh.out _ hB0).mono ?_
  rintro e Wb ⟨rfl, hBb⟩
  have hX := hX0.keep hBb
  have hB : Below w.heap.size w Wb := hB0.trans (hBb.mono (by omega))
  have hsb : w.heap.size + 4 ≤ Wb.heap.size := by have := hBb.size; omega
  clear hBb hB0 hs0 hX0
  have c0 := cellAt_of hX.b0 0
  simp only [List.getElem?_toArray, List.getElem?_cons_zero, List.getElem?_cons_succ] at c0
  have d2 := cellAt_of hX.b2 0
  have d30 := cellAt_of hX.b3 0
  have d31 := cellAt_of hX.b3 1
  have d4 := cellAt_of hX.b4 0
  simp only [List.getElem?_toArray, List.getElem?_cons_zero, List.getElem?_cons_succ] at d2 d30 d31 d4
  have f2 := frozen_of_row Wb _ 0 _ 39 hX.b2
  have f30 := frozen_of_row Wb _ 0 _ 41 hX.b3
  have f31 := frozen_of_row Wb _ 1 _ 41 hX.b3
  have f4 := frozen_of_row Wb _ 0 _ 28 hX.b4
  have HX := Lib.hid hX
  have HB := Lib.hid hB
  clear hX hB
  go_wp2_with fail
  refine (HA.out _).mono ?_
  rintro e w' ⟨rfl, rfl⟩
  go_wp2_with fail
  have hbf : Below w.heap.size w ((((Wb.setCell ⟨w.heap.size + 1, 0, none⟩ (.slice none 0 0)).setCell ⟨w.heap.size + 1 + 1, 0, none⟩ (.int .i64 0)).setCell ⟨w.heap.size + 1 + 1, 1, none⟩ (.int .i64 0)).setCell ⟨w.heap.size + 1 + 1 + 1, 0, none⟩ (.int .i64 2)) :=
    (((HB.out.setCell (p := ⟨w.heap.size + 1, 0, none⟩) (by dsimp only; omega) _).setCell (p := ⟨w.heap.size + 1 + 1, 0, none⟩) (by dsimp only; omega) _).setCell (p := ⟨w.heap.size + 1 + 1, 1, none⟩) (by dsimp only; omega) _).setCell (p := ⟨w.heap.size + 1 + 1 + 1, 0, none⟩) (by dsimp only; omega) _
  exact bodyPost_ret (v := .tuple #[.slice none 0 0, .agg #[.int .i64 0, .int .i64 0], .int .i64 2]) (by simp [results, Try.results33, go_sem, d2, d30, d31, d4]) rfl (HQ.out _ _ ⟨none, 0, rfl, .inl ⟨rfl, rfl, rfl⟩, hbf⟩)

set_option maxRecDepth 100000 in
set_option maxHeartbeats 4000000 in
theorem file_in (n : Nat) (hn : 8 ≤ n) (A : Option Addr) (c m : Nat) (l : List Cy) (g : Nat) (hm : m = l.length) (w : World) (hs : SmallL l) (hI : Cyls w w.heap.size A l) (hW : Whole l) (hg : g < m) :
    CallsIn Fence.wide n Try.prog 33 #[.slice A m c, .int .i64 (g : Int)] w (AnSays w (fileR l g)) := by
  have hn1 : 1 ≤ n := by omega
  have hm16 : m ≤ 16 := by have := hW.n2; omega
  have hm1 : 0 < m := by omega
  have HWh : Hid (∀ W, Below w.heap.size w W → Calls Try.prog 31 #[.slice A m c] W fun e w' => e = .returned (.bool true) ∧ Below W.heap.size W w') := fun W hB => by
    have := whole_any A c m l hm W hs (hI.next hB)
    rw [(wholeL_iff l).2 hW] at this; exact this
  have HA : Hid (∀ W, Calls Try.prog 50 #[.int .i64 (g : Int), .int .i64 m] W fun e w' => e = .returned (.bool true) ∧ W = w') := fun W => by
    have := among_any (g : Int) m W
    rw [amongB_iff.2 ⟨by omega, by omega⟩] at this; exact this
  have HIn : Hid (∀ W, Below w.heap.size w W → ∀ x : Nat, x < m → Calls Try.prog 64 #[.slice A m c, .int .i64 (x : Int)] W (AnSays W (inodeG l x))) := fun W h x hx =>
    inode_any A c m l x hm W hs (hI.next h) (by omega) (hW.ok _ (by omega))
  have HFi : Hid (∀ W, Below w.heap.size w W → ∀ x : Nat, x < m → ∃ b off, A = some ⟨b, off, none⟩ ∧ b < W.heap.size ∧ W.cell? ⟨b, off + x * 7 + 3, none⟩ = some (.int .i64 (cyN l x).fi)) := fun W hB x hx => by
    obtain ⟨b, off, _, _, _, _, e, hb, hcy⟩ := hI.at_ (k := x) (by omega)
    exact ⟨b, off, e, Nat.lt_of_lt_of_le hb hB.size, (hB.cell (p := ⟨b, off + x * 7 + 3, none⟩) hb).trans hcy.c3⟩
  have Hm := Lib.hid hm
  refine callsIn_of_wp_marks Try.func33 rfl trivial ?_ rfl
  simp only [Try.ntmps33, List.size_toArray, List.length_cons, List.length_nil, Nat.reduceAdd, Nat.reduceSub, Array.replicate_succ, Array.replicate_zero, List.push_toArray, List.append_toArray, List.nil_append, List.cons_append]
  clear hI hs hW hm
  gi_wp2
  have hB0 : Below w.heap.size w ((((w.alloc (.cells #[.slice A m c] 39)).alloc (.cells #[.slice none 0 0] 39)).alloc (.cells #[.int .i64 0, .int .i64 0] 41)).alloc (.cells #[.int .i64 0] 28)) :=
    ((((Below.refl _ w).alloc (Nat.le_refl _) _).alloc (by simp) _).alloc (by simp; omega) _).alloc (by simp; omega) _
  have hX0 := box4_new w A m c
  have hs0 : ((((w.alloc (.cells #[.slice A m c] 39)).alloc (.cells #[.slice none 0 0] 39)).alloc (.cells #[.int .i64 0, .int .i64 0] 41)).alloc (.cells #[.int .i64 0] 28)).heap.size = w.heap.size + 4 := by simp
  generalize (((w.alloc (.cells #[.slice A m c] 39)).alloc (.cells #[.slice none 0 0] 39)).alloc (.cells #[.int .i64 0, .int .i64 0] 41)).alloc (.cells #[.int .i64 0] 28) = Wa at hB0 hX0 hs0 ⊢
  refine ⟨trivial, (callsIn_wide.2 (HWh.out _ hB0)).mono ?_⟩
  rintro e Wb ⟨rfl, hBb⟩
  have hX := hX0.keep hBb
  have hB : Below w.heap.size w Wb := hB0.trans (hBb.mono (by omega))
  have hsb : w.heap.size + 4 ≤ Wb.heap.size := by have := hBb.size; omega
  clear hBb hB0 hs0 hX0
  have c0 := cellAt_of hX.b0 0
  simp only [List.getElem?_toArray, List.getElem?_cons_zero, List.getElem?_cons_succ] at c0
  gi_wp2
  refine ⟨trivial, (callsIn_wide.2 (HA.out _)).mono ?_⟩
  rintro e w' ⟨rfl, rfl⟩
  gi_wp2_with (refine ⟨trivial, ?_⟩; gi_at_call 63; refine (searched_in (n - 1) _ _ _).mono ?_; rintro e w' ⟨rfl, rfl⟩)
  have hBz : Below Wb.heap.size Wb ((Wb.alloc (.cells #[.int .i64 (g : Int)] 3)).alloc (.cells #[.int .i64 (m : Int)] 3)) := ((Below.refl _ Wb).alloc (Nat.le_refl _) _).alloc (by simp) _
  have hXz := hX.keep hBz
  have bG : Boxed ((Wb.alloc (.cells #[.int .i64 (g : Int)] 3)).alloc (.cells #[.int .i64 (m : Int)] 3)) Wb.heap.size 3 (.int .i64 (g : Int)) := (Boxed.new Wb 3 _).alloc _
  have bM := Boxed.new (Wb.alloc (.cells #[.int .i64 (g : Int)] 3)) 3 (.int .i64 (m : Int))
  simp only [World.size_alloc] at bM
  have hsz : ((Wb.alloc (.cells #[.int .i64 (g : Int)] 3)).alloc (.cells #[.int .i64 (m : Int)] 3)).heap.size = Wb.heap.size + 2 := by simp
  generalize (Wb.alloc (.cells #[.int .i64 (g : Int)] 3)).alloc (.cells #[.int .i64 (m : Int)] 3) = Wz at hBz hXz bG bM hsz ⊢
  have hseq := searched_gives Wb.heap.size (Wb.heap.size + 1) m g hm1 (by omega) (by omega) Wz bG.cell bM.cell (by omega) (by omega)
  have hBw := hB.trans (hBz.mono (by omega))
  clear c0 hX hB
  refine range_gives (n := n) (by omega) (gf := 74) (lb := #[.pointer (some ⟨Wb.heap.size, 0, none⟩), .pointer (some ⟨Wb.heap.size + 1, 0, none⟩)]) rfl (enters_of Try.func74 (by kernel_rfl) rfl)
    hseq (Below.refl _ _)
    (fun pre V => ((∀ y ∈ pre, ¬ 0 < (cyN l y).fi) ∧ Box4 w A m c V) ∧ Below w.heap.size w V)
    (fun pre V => (∃ p x, pre = p ++ [x] ∧ (∀ y ∈ p, ¬ 0 < (cyN l y).fi) ∧ 0 < (cyN l x).fi ∧ DoneF w (inodeG l x) V) ∧ Below w.heap.size w V)
    (OwnFrom.and (OwnFrom.and (ownFrom_pure _ _) (Own.from (own_same (I := fun (_ : List Nat) V => Box4 w A m c V) fun _ _ _ hs _ h => h.same hs) _)) (ownFrom_below (Nat.le_refl _) (by omega)))
    (OwnFrom.and (Own.from (own_same (I := fun (pre : List Nat) V => ∃ p x, pre = p ++ [x] ∧ (∀ y ∈ p, ¬ 0 < (cyN l y).fi) ∧ 0 < (cyN l x).fi ∧ DoneF w (inodeG l x) V) fun _ _ _ hs _ h => by
      obtain ⟨p, x, h1, h2, h3, h4⟩ := h
      exact ⟨p, x, h1, h2, h3, h4.same hs⟩) _) (ownFrom_below (Nat.le_refl _) (by omega)))
    ⟨⟨by simp, hXz⟩, hBw⟩
    (fun x => { tmps := (.slice A m c :: .int .i64 (g : Int) :: .pointer (some ⟨w.heap.size, 0, none⟩) :: undef :: .pointer (some ⟨w.heap.size + 1, 0, none⟩) :: .pointer (some ⟨w.heap.size + 1 + 1, 0, none⟩) :: .pointer (some ⟨w.heap.size + 1 + 1 + 1, 0, none⟩) :: .int .i64 (x : Nat) :: .slice A m c :: .bool true :: .bool false :: undef :: .int .i64 (g : Int) :: .slice A m c :: .int .i64 m :: .bool true :: .bool false :: undef :: .int .i64 (g : Int) :: .slice A m c :: .int .i64 m :: .func (.func 74) #[] #[.pointer (some ⟨Wb.heap.size, 0, none⟩), .pointer (some ⟨Wb.heap.size + 1, 0, none⟩)] :: .int .i64 (x : Nat) :: undef :: undef :: undef :: undef :: undef :: undef :: undef :: undef :: undef :: undef :: undef :: undef :: undef :: []).toArray, defers := [] })
    ?assign ?body ?done ?stop
  case assign =>
    rintro l2 m2 x V K hK
    gi_wp2
    exact hK
  case body =>
    rintro l2 m2 pre x V ⟨⟨hp, hX⟩, hB⟩ hx
    have hxm : x < m := by
      have h1 : x ∈ searchW m g := hx.subset (by simp)
      exact searchW_lt hg h1
    have hxi : (x : Int) < (m : Int) := by omega
    have hx0 : (0 : Int) ≤ (x : Int) := by omega
    obtain ⟨b, off, rfl, hb, hc3⟩ := HFi.out V hB x hxm
    have hsV : w.heap.size + 1 + 1 + 1 < V.heap.size := lt_heap hX.b4
    have c0 := cellAt_of hX.b0 0
    simp only [List.getElem?_toArray, List.getElem?_cons_zero, List.getElem?_cons_succ] at c0
    have HInr := Lib.hid (HIn.out V hB x hxm)
    have HX := Lib.hid hX
    have HB := Lib.hid hB
    have Hp := Lib.hid hp
    obtain ⟨fi, hfi⟩ : ∃ fi, fi = (cyN l x).fi := ⟨_, rfl⟩
    have Hfi := Lib.hid hfi
    rw [← hfi] at hc3
    clear hX hB hp hfi
    by_cases h0 : 0 < fi
    · have Hf0 : Hid (0 < (cyN l x).fi) := by unfold Hid; rw [← Hfi.out]; exact h0
      obtain ⟨r, hr⟩ : ∃ r, r = inodeG l x := ⟨_, rfl⟩
      have Hr := Lib.hid hr
      rw [← hr] at HInr
      clear hr
      gi_wp2
      refine ⟨trivial, fun h => (by simp [Fence.wide] at h), (CallsIn.inRound l2 (callsIn_wide.2 HInr.out)).mono ?_⟩
      rintro e w3 ⟨A3, c3, rfl, hGO, hB3⟩
      have hX := HX.out.keep hB3
      have hsz3 : V.heap.size ≤ w3.heap.size := hB3.size
      have d2 := cellAt_of hX.b2 0
      have d30 := cellAt_of hX.b3 0
      have d31 := cellAt_of hX.b3 1
      have d4 := cellAt_of hX.b4 0
      simp only [List.getElem?_toArray, List.getElem?_cons_zero, List.getElem?_cons_succ] at d2 d30 d31 d4
      have f2 := frozen_of_row w3 _ 0 _ 39 hX.b2
      have f30 := frozen_of_row w3 _ 0 _ 41 hX.b3
      have f31 := frozen_of_row w3 _ 1 _ 41 hX.b3
      have f4 := frozen_of_row w3 _ 0 _ 28 hX.b4
      have HX3 := Lib.hid hX
      have HGO := Lib.hid hGO
      have HB3 := Lib.hid hB3
      clear hX hGO hB3
      gi_wp2
      have e2 : ∀ (v0 v1 v2 v3 : Value), Blk ((((w3.setCell ⟨w.heap.size + 1, 0, none⟩ v0).setCell ⟨w.heap.size + 1 + 1, 0, none⟩ v1).setCell ⟨w.heap.size + 1 + 1, 1, none⟩ v2).setCell ⟨w.heap.size + 1 + 1 + 1, 0, none⟩ v3) (w.heap.size + 1) 39 #[v0] := fun v0 v1 v2 v3 =>
        (set_other (by omega) _).trans ((set_other (by omega) _).trans ((set_other (by omega) _).trans (set_heap HX3.out.b2 v0)))
      have e3 : ∀ (v0 v1 v2 v3 : Value), Blk ((((w3.setCell ⟨w.heap.size + 1, 0, none⟩ v0).setCell ⟨w.heap.size + 1 + 1, 0, none⟩ v1).setCell ⟨w.heap.size + 1 + 1, 1, none⟩ v2).setCell ⟨w.heap.size + 1 + 1 + 1, 0, none⟩ v3) (w.heap.size + 1 + 1) 41 #[v1, v2] := fun v0 v1 v2 v3 =>
        (set_other (by omega) _).trans (set_heap (set_heap ((set_other (by omega) _).trans HX3.out.b3) v1) v2)
      have e4 : ∀ (v0 v1 v2 v3 : Value), Blk ((((w3.setCell ⟨w.heap.size + 1, 0, none⟩ v0).setCell ⟨w.heap.size + 1 + 1, 0, none⟩ v1).setCell ⟨w.heap.size + 1 + 1, 1, none⟩ v2).setCell ⟨w.heap.size + 1 + 1 + 1, 0, none⟩ v3) (w.heap.size + 1 + 1 + 1) 28 #[v3] := fun v0 v1 v2 v3 =>
        set_heap ((set_other (by omega) _).trans ((set_other (by omega) _).trans ((set_other (by omega) _).trans HX3.out.b4))) v3
      have ek : ∀ (v0 v1 v2 v3 : Value), Kept w3 ((((w3.setCell ⟨w.heap.size + 1, 0, none⟩ v0).setCell ⟨w.heap.size + 1 + 1, 0, none⟩ v1).setCell ⟨w.heap.size + 1 + 1, 1, none⟩ v2).setCell ⟨w.heap.size + 1 + 1 + 1, 0, none⟩ v3) (fun b => w.heap.size ≤ b ∧ b < V.heap.size) := fun v0 v1 v2 v3 =>
        ((((Kept.refl w3 _).set (.inl ⟨by omega, by omega⟩)).set (.inl ⟨by omega, by omega⟩)).set (.inl ⟨by omega, by omega⟩)).set (.inl ⟨by omega, by omega⟩)
      have ko : ∀ (v0 v1 v2 v3 : Value), KeepsOthers V ((((w3.setCell ⟨w.heap.size + 1, 0, none⟩ v0).setCell ⟨w.heap.size + 1 + 1, 0, none⟩ v1).setCell ⟨w.heap.size + 1 + 1, 1, none⟩ v2).setCell ⟨w.heap.size + 1 + 1 + 1, 0, none⟩ v3) := fun v0 v1 v2 v3 =>
        ((((keeps_below HB3.out).trans (KeepsOthers.setCell _ _ _)).trans (KeepsOthers.setCell _ _ _)).trans (KeepsOthers.setCell _ _ _)).trans (KeepsOthers.setCell _ _ _)
      refine ⟨(ko _ _ _ _).from _, ⟨pre, x, rfl, Hp.out, Hf0.out, ?_⟩, ?_⟩
      · rw [← Hr.out]
        exact ⟨A3, c3, e2 _ _ _ _, e3 _ _ _ _, e4 _ _ _ _, (HGO.out.keep (ek _ _ _ _) (fun b q => q.2)).more (by have := HB.out.size; exact this)⟩
      · exact (HB.out.trans (HB3.out.mono HB.out.size)).trans ((ek _ _ _ _).below (fun b q => q.1) (by have := HB.out.size; omega))
    · have Hf0 : Hid (¬ 0 < (cyN l x).fi) := by unfold Hid; rw [← Hfi.out]; exact h0
      gi_wp2
      exact ⟨Below.refl _ _, ⟨fun y hy => (List.mem_append.1 hy).elim (Hp.out y) (fun e => by rw [List.mem_singleton] at e; subst e; exact Hf0.out), HX.out⟩, HB.out⟩
  case done =>
    rintro D W hD ⟨⟨hp, hX⟩, hB⟩ hK
    have d2 := cellAt_of hX.b2 0
    have d30 := cellAt_of hX.b3 0
    have d31 := cellAt_of hX.b3 1
    have d4 := cellAt_of hX.b4 0
    simp only [List.getElem?_toArray, List.getElem?_cons_zero, List.getElem?_cons_succ] at d2 d30 d31 d4
    have f2 := frozen_of_row W _ 0 _ 39 hX.b2
    have f30 := frozen_of_row W _ 0 _ 41 hX.b3
    have f31 := frozen_of_row W _ 1 _ 41 hX.b3
    have f4 := frozen_of_row W _ 0 _ 28 hX.b4
    have HX := Lib.hid hX
    have HE : Hid (fileR l g = ⟨[], 0, 0, 4⟩) := fileR_none (fileAt_no (by rw [← Hm.out]; exact hp))
    have HK := Lib.hid hK
    have HB := Lib.hid hB
    have hl4 : w.heap.size + 1 + 1 + 1 < W.heap.size := lt_heap hX.b4
    clear hX hp hB hK
    gi_wp2
    obtain ⟨Wf, hWf⟩ : ∃ Wf, Wf = (((W.setCell ⟨w.heap.size + 1, 0, none⟩ (.slice none 0 0)).setCell ⟨w.heap.size + 1 + 1, 0, none⟩ (.int .i64 0)).setCell ⟨w.heap.size + 1 + 1, 1, none⟩ (.int .i64 0)).setCell ⟨w.heap.size + 1 + 1 + 1, 0, none⟩ (.int .i64 4) := ⟨_, rfl⟩
    have e2 : Blk Wf (w.heap.size + 1) 39 #[.slice none 0 0] := by
      rw [hWf]; exact (set_other (by omega) _).trans ((set_other (by omega) _).trans ((set_other (by omega) _).trans (set_heap HX.out.b2 _)))
    have e3 : Blk Wf (w.heap.size + 1 + 1) 41 #[.int .i64 0, .int .i64 0] := by
      rw [hWf]; exact (set_other (by omega) _).trans (set_heap (set_heap ((set_other (by omega) _).trans HX.out.b3) _) _)
    have e4 : Blk Wf (w.heap.size + 1 + 1 + 1) 28 #[.int .i64 4] := by
      rw [hWf]; exact set_heap ((set_other (by omega) _).trans ((set_other (by omega) _).trans ((set_other (by omega) _).trans HX.out.b4))) _
    have ko : KeepsOthers W Wf := by
      rw [hWf]; exact (((KeepsOthers.setCell _ _ _).trans (KeepsOthers.setCell _ _ _)).trans (KeepsOthers.setCell _ _ _)).trans (KeepsOthers.setCell _ _ _)
    have hbf : Below w.heap.size w Wf := by
      rw [hWf]; exact (((HB.out.setCell (p := ⟨w.heap.size + 1, 0, none⟩) (by dsimp only; omega) _).setCell (p := ⟨w.heap.size + 1 + 1, 0, none⟩) (by dsimp only; omega) _).setCell (p := ⟨w.heap.size + 1 + 1, 1, none⟩) (by dsimp only; omega) _).setCell (p := ⟨w.heap.size + 1 + 1 + 1, 0, none⟩) (by dsimp only; omega) _
    rw [← hWf]
    clear hWf
    have hKf : Wf.heap[D]? = some (.deferred (some [])) := ko.same D _ HK.out rfl
    refine ⟨by simp, .inl ⟨_, _, rfl, run_takeDeferred hKf, ?_⟩⟩
    have hS : Same Wf (Wf.putObj D (.deferred none)) := same_of_grown (grownBy_putObj' _ D (.deferred none)) (fun r e => by cases e; exact ⟨_, hKf, rfl⟩)
    have q2 := cellAt_of (e2.same hS) 0
    have q30 := cellAt_of (e3.same hS) 0
    have q31 := cellAt_of (e3.same hS) 1
    have q4 := cellAt_of (e4.same hS) 0
    simp only [List.getElem?_toArray, List.getElem?_cons_zero, List.getElem?_cons_succ] at q2 q30 q31 q4
    refine ⟨.tuple #[.slice none 0 0, .agg #[.int .i64 0, .int .i64 0], .int .i64 4], by simp [results, Try.f33, go_sem, q2, q30, q31, q4], ?_⟩
    rw [HE.out]
    exact ⟨none, 0, rfl, .inl ⟨rfl, rfl, rfl⟩, hbf.trans (belowK_b (w := w) (Nat.le_refl _) Wf D _ _ (by omega) hKf rfl rfl)⟩
  case stop =>
    rintro D pre W hD hpre ⟨⟨p, x, rfl, hp1, hp2, A', c', h2, h3, h4, hGO⟩, hB⟩ hK
    have HE : Hid (fileR l g = inodeG l x) := fileR_some (fileAt_yes (by rw [← Hm.out]; exact hpre) hp1 hp2)
    obtain ⟨r, hr⟩ : ∃ r, r = inodeG l x := ⟨_, rfl⟩
    rw [← hr] at HE h2 h3 h4 hGO
    clear hr
    gi_wp2
    refine ⟨by simp, .inl ⟨_, _, rfl, run_takeDeferred hK, ?_⟩⟩
    have hS : Same W (W.putObj D (.deferred none)) := same_of_grown (grownBy_putObj' _ D (.deferred none)) (fun r e => by cases e; exact ⟨_, hK, rfl⟩)
    have q2 := cellAt_of (h2.same hS) 0
    have q30 := cellAt_of (h3.same hS) 0
    have q31 := cellAt_of (h3.same hS) 1
    have q4 := cellAt_of (h4.same hS) 0
    simp only [List.getElem?_toArray, List.getElem?_cons_zero, List.getElem?_cons_succ] at q2 q30 q31 q4
    refine ⟨.tuple #[.slice A' r.l.length c', .agg #[.int .i64 r.g, .int .i64 r.b], .int .i64 r.e], by simp [results, Try.f33, go_sem, q2, q30, q31, q4], ?_⟩
    rw [HE.out]
    exact ⟨A', c', rfl, hGO.same hS, hB.trans (belowK_b (w := w) (Nat.le_refl _) W D _ _ (by omega) hK rfl rfl)⟩
theorem file_any (A : Option Addr) (c m : Nat) (l : List Cy) (ng : Int) (hm : m = l.length) (w : World) (hs : SmallL l) (hI : Cyls w w.heap.size A l) :
    Calls Try.prog 33 #[.slice A m c, .int .i64 ng] w (AnSays w (fileL l ng)) := by
  rw [fileL_eq, ← hm]
  by_cases hW : wholeL l = true
  · rw [if_pos hW]
    by_cases hg : amongB ng m = true
    · rw [if_pos hg]
      obtain ⟨h1, h2⟩ := amongB_iff.1 hg
      obtain ⟨g, rfl⟩ : ∃ g : Nat, ng = g := ⟨ng.toNat, by omega⟩
      rw [Int.toNat_natCast]
      exact (callsIn_wide (n := 8)).1 (file_in 8 (Nat.le_refl _) A c m l g hm w hs hI ((wholeL_iff l).1 hW) (by omega))
    · rw [if_neg hg]; exact file_range A c m l ng hm w hs hI hW (by simpa using hg)
  · rw [if_neg hW]; exact file_form A c m l ng hm w hs hI (by simpa using hW)
end Go.Proofs.Ytpcindemkkdbbaa
