/- A loop over a function whose body never leaves it, and may change what the function reads: the function is met with the body's own invariant at hand. -/
import Derived.RangeFuncWrites
import Derived.RangeFuncBox
namespace Go.Proofs.Ythffdkoncagimaa
set_option linter.unusedVariables false
set_option linter.unusedSimpArgs false
set_option maxRecDepth 100000
open Go.RowKit

/-- how a round is left: it goes on -/
def onPost (B : Nat) (R : World → Prop) (W : World) : Exit → Act → World → Prop
  | .normal, _, W' => KeepsFrom B W W' ∧ R W'
  | _, _, _ => False

variable {F : Fence} {n : Nat} {P : Program}

theorem range_runs {α : Type} {g : Operand} {ps : Array Tmp} {assign body : Code} {Q : Exit → Act → World → Prop} {a : Act} {w : World}
    (hro : F.round = none) (h1 : 1 ≤ n) {gf : Nat} {lb : Array Value} (hg : a.eval g = .func (.func gf) #[] lb) (hFg : F.fn gf) (eg : ∀ args w, (callFunc gf args).run P w = .ok (.enter gf args) w)
    {encs : α → Array Value} (hps : ∀ x, (encs x).size = ps.size)
    (I : List α → World → Prop) (Nx : List α → α → Prop) (S : List α → Prop) (hI : OwnFrom w.heap.size I) (h0 : I [] w) (a₁ : α → Act)
    (hassign : ∀ (l : Nat) (x : α) (W : World) (K : Act → World → Prop), K (a₁ x) W →
      assign.wpIn (F.inRound l) (n - 1 - 1) P (Exit.then K (fun _ _ _ => False)) { tmps := (ps.zip (encs x)).foldl (fun t (p, v) => t.setIfInBounds p v) a.tmps, defers := [] } W)
    (hbody : ∀ (l : Nat) (pre : List α) (x : α) (W : World), I pre W → Nx pre x → body.wpIn (F.inRound l) (n - 1 - 1) P (onPost w.heap.size (I (pre ++ [x])) W) (a₁ x) W)
    (hiter : ∀ (l : Nat) (J : List α → World → Prop) (W1 : World), (∀ pre W, J pre W → I pre W) →
      (∀ pre x W, J pre W → Nx pre x → YieldAt F (n - 1 - 1) P l (encs x) W fun e W' => e = .returned (.bool true) ∧ J (pre ++ [x]) W') → J [] W1 →
      CallsIn F (n - 1) P gf (#[.func (.yield l) #[] #[]] ++ lb) W1 fun e W' => (∃ v, e = .returned v) ∧ ∃ xs, S xs ∧ J xs W')
    (hdone : ∀ (D : Nat) (xs : List α) (W : World), w.heap.size ≤ D → S xs → I xs W → W.heap[D]? = some (.deferred (some [])) → Q .normal { a with defers := { target := .collected D, args := #[] } :: a.defers } W) :
    (Code.rangeFunc g ps assign body).wpIn F n P Q a w := by
  refine wpIn_rangeFunc fun fn hfn => ?_
  rw [hro]
  -- the two blocks that the loop lays: D for deferred calls, L its record in one of three states
  obtain ⟨D, hD⟩ : ∃ D, D = w.heap.size := ⟨_, rfl⟩
  obtain ⟨r, hr⟩ : ∃ r : LoopState → Loop, r = fun st => { state := st, pending := none, fn, tmps := a.tmps, params := ps, assign, body, defers := D } := ⟨_, rfl⟩
  have hrp : ∀ st, (r st).params = ps := fun st => by rw [hr]
  obtain ⟨W1, hW1⟩ : ∃ W1, W1 = (w.alloc (.deferred (some []))).alloc (.loop (r .ready)) := ⟨_, rfl⟩
  -- what the book says of a world: the loop's record, and the block for deferred calls
  obtain ⟨Bk, hBk⟩ : ∃ Bk : LoopState → World → Prop, Bk = fun st W => W.heap[D + 1]? = some (.loop (r st)) ∧ W.heap[D]? = some (.deferred (some [])) := ⟨_, rfl⟩
  have turn : ∀ {st W} (st'), Bk st W → Bk st' (W.putObj (D + 1) (.loop (r st'))) := fun st' h => by
    rw [hBk] at h ⊢
    exact ⟨World.putObj_heap_same (Array.getElem?_eq_some_iff.1 h.1).1, (World.putObj_heap_other (by omega)).trans h.2⟩
  have turnI : ∀ {st W xs} (st'), Bk st W → I xs W → I xs (W.putObj (D + 1) (.loop (r st'))) := fun st' h hi => by
    rw [hBk] at h
    exact hI.putObj _ hi (by omega) h.1 rfl
  have keep : ∀ {st W W'}, Bk st W → KeepsFrom w.heap.size W W' → Bk st W' := fun h k => by
    rw [hBk] at h ⊢
    exact ⟨k.same _ _ (by omega) h.1 rfl, k.same _ _ (by omega) h.2 rfl⟩
  have hB1 : Bk .ready W1 := by
    rw [hBk, hW1, hD]
    refine ⟨?_, (Below.heap_alloc _ _ _ (by simp)).trans (World.alloc_heap_new w _)⟩
    have := World.alloc_heap_new (w.alloc (.deferred (some []))) (.loop (r .ready))
    rwa [World.size_alloc] at this
  have hI1 : I [] W1 := by rw [hW1]; exact hI.alloc _ (hI.alloc _ h0)
  refine ⟨D + 1, [{ target := .collected D, args := #[] }], W1, { target := .fn (.func gf) lb, args := #[.func (.yield (D + 1)) #[] #[]] }, W1, gf,
    #[.func (.yield (D + 1)) #[] #[]] ++ lb, W1, ?_, ?_, ?_, ?_, fun _ => h1, ?_⟩
  · rw [hW1, hr, hD]; exact run_enterLoop_outer _ _ _ _ _
  · simp only [resolve, hg]; simp [go_sem]
  · intro f' hf'; simp [Target.leads] at hf'; subst hf'; exact hFg
  · simp [invoke, go_sem, eg]
  · refine (hiter (D + 1) (fun pre W => I pre W ∧ Bk .ready W) W1 (fun _ _ h => h.1) ?_ ⟨hI1, hB1⟩).mono ?_
    · rintro pre x W ⟨hi, hb⟩ hx
      have hl : W.heap[D + 1]? = some (.loop (r .ready)) := by have := hb; rw [hBk] at this; exact this.1
      have hy := run_yield (P := P) (args := encs x) hl (by rw [hrp]; exact hps x)
      have hbusy := turn .busy hb
      have hbg := run_beginRound (P := P) hl (by rw [hr])
      have eb : ({ r .ready with state := .busy } : Loop) = r .busy := by rw [hr]
      rw [eb] at hbg
      have ef : (r .ready).fn = fn ∧ (r .ready).tmps = a.tmps ∧ (r .ready).assign = assign ∧ (r .ready).body = body := by rw [hr]; exact ⟨rfl, rfl, rfl, rfl⟩
      rw [ef.1, ef.2.1, ef.2.2.1, ef.2.2.2, hrp] at hy
      refine ⟨fn, _, assign, body, hy, roundIn_of_wpIn hfn (hassign _ x W _ ⟨_, hbg, ?_⟩)⟩
      refine wpIn_mono (hbody _ pre x _ (turnI .busy hb hi) hx) ?_
      rintro e a3 W3 hp
      cases e with
      | normal =>
        obtain ⟨hk3, hi3⟩ := hp
        have hb3 := keep hbusy hk3
        have hl3 : W3.heap[D + 1]? = some (.loop (r .busy)) := by have := hb3; rw [hBk] at this; exact this.1
        have hend := run_endRound (P := P) none hl3
        have ee : ({ r .busy with state := if (none : Option Code).isNone then .ready else .done, pending := none } : Loop) = r .ready := by rw [hr]; rfl
        rw [ee] at hend
        exact ⟨_, _, hend, rfl, turnI .ready hb3 hi3, turn .ready hb3⟩
      | ret => exact hp.elim
      | exit id => exact hp.elim
      | goto t => exact hp.elim
      | panic ch => exact hp.elim
      | outgrown => exact hp.elim
    · rintro e W2 ⟨⟨v, rfl⟩, xs, hS, hi, hb⟩
      have hl : W2.heap[D + 1]? = some (.loop (r .ready)) := by have := hb; rw [hBk] at this; exact this.1
      have hend := run_endLoop (P := P) hl (by rw [hr]; simp)
      have ee : ({ r .ready with state := .exhausted } : Loop) = r .exhausted := by rw [hr]
      have ep : (r .ready).pending = none := by rw [hr]
      rw [ee, ep] at hend
      have hb2 := turn .exhausted hb
      exact ⟨none, _, hend, hdone D xs _ (by omega) hS (turnI .exhausted hb hi) (by have := hb2; rw [hBk] at this; exact this.2)⟩
end Go.Proofs.Ythffdkoncagimaa
