/- Plain words and small contracts that the texts on deps share. -/
import Derived.Test.YthffdkoncagimaaGH
namespace Go.Proofs.Ythffdkoncagimaa
set_option linter.unusedVariables false
set_option linter.unusedSimpArgs false
set_option maxRecDepth 100000
open Go.RowKit Go.Shelf
/-- a is a number of deps -/
def isN (D : List (List Nat)) (a : Int) : Bool := decide (0 ≤ a) && decide (a < (D.length : Int))
/-- Before -/
def befB (D : List (List Nat)) (a b : Int) : Bool := isN D a && isN D b && !(a == b) && upM D (markI D.length [b]) 256 a.toNat

theorem there_is (A : Option Addr) (c n : Nat) (D : List (List Nat)) (hn : n = D.length) (i : Int) (v : Bool) (hv : isN D i = v) (w : World) :
    Calls Try.prog 35 #[.slice A n c, .int .i64 i] w fun e w' => e = .returned (.bool v) ∧ w = w' := by
  subst hn hv
  exact there_any A D.length c i w

theorem Ints.one (w : World) (i : Int) (B : Nat) (hB : w.heap.size < B) : Ints (w.alloc (.cells #[.int .i64 i] 3)) B (some ⟨w.heap.size, 0, none⟩) [i] := fun _ =>
  ⟨w.heap.size, 0, rfl, hB, fun j hj => by
    have : j = 0 := by simp at hj; exact hj
    subst this
    have := heap_alloc_last w (.cells #[.int .i64 i] 3)
    simp only [World.cell?, Nat.add_zero, this]
    rfl⟩

theorem mem_natsI {p : List Nat} {j : Nat} : (j : Int) ∈ natsI p ↔ j ∈ p := by
  constructor
  · intro h
    obtain ⟨i, hi, e⟩ := List.mem_map.1 h
    have : i = j := by omega
    rw [← this]; exact hi
  · intro h
    exact List.mem_map.2 ⟨j, h, rfl⟩
theorem wpIn_store_new {F : Fence} {n : Nat} {P : Program} {op : Oper} {a : Act} {w : World} {K : Act → World → Prop} {Q : Exit → Act → World → Prop} (ty : TypeId) (x y : Operand) (ho : op.op = .store ty x y)
    (g : Nat) (hgs : g = w.heap.size) (cs cur : Array Value) (hx : a.eval x = .pointer (some ⟨g, 0, none⟩)) (hy : a.eval y = .agg cs)
    (hi : (P.info? ty).map (·.size) = some cs.size) (hsz : cur.size = cs.size) (h1 : ∀ v ∈ cs.toList, v.oneCell' = true)
    (h : K (a.put op.dst undef) (w.alloc (.cells cs ty))) : op.wpIn F n P a (w.alloc (.cells cur ty)) K Q := by
  subst hgs
  have hrun := run_storeVar_new (P := P) w ty cur cs hi hsz (Array.all_eq_true_iff_forall_mem.2 (fun v hv => h1 v (by simpa using hv)))
  unfold Oper.wpIn
  refine ⟨fun f hf => by simp [Oper.about, ho] at hf, ?_⟩
  rw [Oper.semAt_plain F _ _ (by rw [ho]; intro c hc'; cases hc')]
  unfold execOp
  simp only [ho, hx, hy, Instr.storeAt, Instr.sureAddr, Sem.run_bind, Sem.run_pure, Result.andThen_ok, hrun]
  exact h
theorem wpListIn_store_new {F : Fence} {n : Nat} {P : Program} {ops : Array Oper} {rest : List Oper} {op : Oper} {a : Act} {w : World} {Q : Exit → Act → World → Prop} (hgd : op.guard = none) (ty : TypeId) (x y : Operand) (ho : op.op = .store ty x y)
    (g : Nat) (hgs : g = w.heap.size) (cs cur : Array Value) (hx : a.eval x = .pointer (some ⟨g, 0, none⟩)) (hy : a.eval y = .agg cs)
    (hi : (P.info? ty).map (·.size) = some cs.size) (hsz : cur.size = cs.size) (h1 : ∀ v ∈ cs.toList, v.oneCell' = true)
    (h : wpListIn F n P ops Q rest (a.put op.dst undef) (w.alloc (.cells cs ty))) : wpListIn F n P ops Q (op :: rest) a (w.alloc (.cells cur ty)) :=
  wpListIn_plain hgd fun _ hK => wpIn_store_new ty x y ho g hgs cs cur hx hy hi hsz h1 (hK _ _ h)
/-- two rising lists of the same numbers are one -/
theorem rising_ext : ∀ (l l' : List Nat), l.Pairwise (· < ·) → l'.Pairwise (· < ·) → (∀ x, x ∈ l ↔ x ∈ l') → l = l' := by
  intro l
  induction l with
  | nil =>
    intro l' _ _ h
    cases l' with
    | nil => rfl
    | cons a l' => exact absurd ((h a).2 (by simp)) (by simp)
  | cons a l ih =>
    intro l' h1 h2 h
    cases l' with
    | nil => exact absurd ((h a).1 (by simp)) (by simp)
    | cons b l' =>
      obtain ⟨p1, p2⟩ := List.pairwise_cons.1 h1
      obtain ⟨q1, q2⟩ := List.pairwise_cons.1 h2
      have hab : a = b := by
        rcases List.mem_cons.1 ((h a).1 (by simp)) with e | e
        · exact e
        · rcases List.mem_cons.1 ((h b).2 (by simp)) with e' | e'
          · exact e'.symm
          · have := q1 a e; have := p1 b e'; omega
      subst hab
      rw [ih l' p2 q2 fun x => ?_]
      constructor
      · intro hx
        rcases List.mem_cons.1 ((h x).1 (List.mem_cons_of_mem _ hx)) with e | e
        · have := p1 x hx; omega
        · exact e
      · intro hx
        rcases List.mem_cons.1 ((h x).2 (List.mem_cons_of_mem _ hx)) with e | e
        · have := q1 x hx; omega
        · exact e

theorem Mat.next {W W' : World} {A : Option Addr} {R : List (List Int)} (h : Mat W W.heap.size A R) (hb : Below W.heap.size W W') : Mat W' W'.heap.size A R := (h.below hb).more hb.size
theorem Ints.next {W W' : World} {A : Option Addr} {l : List Int} (h : Ints W W.heap.size A l) (hb : Below W.heap.size W W') : Ints W' W'.heap.size A l := (h.below hb).more hb.size
end Go.Proofs.Ythffdkoncagimaa
