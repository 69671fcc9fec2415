/- Blocks that are asked for at once: all of them are waiting, in their order. -/
import Derived.Test.YtpelocpjfmmceaaSG
import Derived.Test.YtpelocpjfmmceaaA7
set_option linter.unusedVariables false
set_option linter.unusedSimpArgs false
namespace Go.Proofs.Ytpelocpjfmmceaa
open Go.RowKit
theorem askL_all (l : List Int) : ∀ x : Ar, (blk x.l ++ l).Nodup → (∀ b ∈ l, 0 ≤ b ∧ b < 1024) → x.l.length + l.length ≤ 24 → ∃ y, askL x l = some y ∧ blk y.l = blk x.l ++ l := by
  induction l with
  | nil => intro x _ _ _; exact ⟨x, rfl, by simp⟩
  | cons b r ih =>
    intro x hnd hr hl
    obtain ⟨b0, b1⟩ := hr b (List.mem_cons_self ..)
    have hb : b ∉ blk x.l := fun q => (List.nodup_append.1 hnd).2.2 b q b (List.mem_cons_self ..) rfl
    simp only [List.length_cons] at hl
    have he : x.askE b = 0 := by
      unfold Ar.askE
      rw [if_neg (by omega), if_neg (by rw [hasR_no.2 hb]; decide), if_neg (by omega)]
    have hx : x.ask b = { x with l := x.l ++ [⟨b, 0⟩] } := by unfold Ar.ask; rw [if_pos he]
    have hbl : blk (x.ask b).l = blk x.l ++ [b] := by rw [hx]; simp [blk]
    obtain ⟨y, h1, h2⟩ := ih (x.ask b) (by rw [hbl, List.append_assoc]; exact hnd) (fun c hc => hr c (List.mem_cons_of_mem _ hc)) (by rw [hx]; simp; omega)
    exact ⟨y, by unfold askL; rw [if_pos he]; exact h1, by rw [h2, hbl, List.append_assoc]; rfl⟩
theorem allX_some {p : Nat} {n f : Int} {l : List Int} (hnew : newOk p n = true) (f0 : 0 ≤ f) (f1 : f < 1024) (hnd : l.Nodup) (hr : ∀ b ∈ l, 0 ≤ b ∧ b < 1024) (hl : l.length ≤ 24) :
    ∃ y, allX p n f l = some y ∧ y.Ok 0 ∧ blk y.l = l ∧ y.l.length = l.length ∧ y.p = p ∧ y.n = n.toNat ∧ y.s = f.toNat ∧ y.u = true := by
  obtain ⟨z, hz, hb⟩ := askL_all l (fresh p n) (by show ([] ++ l).Nodup; simpa using hnd) hr (by show 0 + _ ≤ _; omega)
  obtain ⟨h1, h2, h3, h4, h5, h6, h7⟩ := Ar.Ok.askL l _ _ (fresh_ok hnew 0) hz
  refine ⟨{ z with s := f.toNat }, by unfold allX; rw [if_pos ⟨hnew, f0, f1⟩, hz]; rfl, h1.moved f0 f1, by rw [show blk ({ z with s := f.toNat } : Ar).l = blk z.l from rfl, hb]; rfl, ?_, h5, h6, rfl, h7⟩
  show z.l.length = _
  rw [h2]
  show 0 + _ = _
  omega
/-- All behind such blocks: what it answers is said beforehand. -/
theorem all_of (p : Nat) (hp : p < 256) (n f : Int) (hnew : newOk p n = true) (f0 : 0 ≤ f) (f1 : f < 1024) (l : List Int) (hnd : l.Nodup) (hr : ∀ b ∈ l, 0 ≤ b ∧ b < 1024) (hl : l.length ≤ 24) :
    ∃ y : Ar, y.Ok 0 ∧ blk y.l = l ∧ y.l.length = l.length ∧ y.p = p ∧ y.n = n.toNat ∧ y.s = f.toNat ∧ y.u = true ∧
      ∀ A c w, Ints w w.heap.size A l → Calls Try.prog 14 #[.int .u8 p, .int .i64 n, .int .i64 f, .slice A l.length c] w fun e w' => ∃ A' c', e = .returned (.tuple #[.slice A' l.length c', .int .i64 (stA y l.length).m, .int .i64 0]) ∧ RowI w' w.heap.size A' c' (goL y l.length) ∧ Below w.heap.size w w' := by
  obtain ⟨y, hx, h1, h2, h3, h4, h5, h6, h7⟩ := allX_some hnew f0 f1 hnd hr hl
  refine ⟨y, h1, h2, h3, h4, h5, h6, h7, fun A c w hI => (all_any p hp n f A c l w (by omega) hI).mono ?_⟩
  rintro e w' ⟨hb, ⟨z, A', c', q1, q2, q3⟩ | ⟨q1, _⟩⟩
  · rw [hx] at q1
    cases q1
    rw [h3] at q2 q3
    exact ⟨A', c', q2, q3, hb⟩
  · rw [hx] at q1; cases q1
/-- the first that near goes to is no farther than any -/
theorem near_first {y : Ar} (h : y.Ok 0) (hp : y.p = 2) {j : Nat} (hj : j < y.l.length) : far y.s (y.choose.1).toNat y.n ≤ far y.s (inn (blk y.l) j).toNat y.n := by
  have hc : y.choose.1 = bestL (nearB y.s y.n) (blk y.l) := by
    unfold Ar.choose
    rw [young h (by decide)]
    simp only
    rw [hp, if_pos rfl]
  rw [hc]
  exact near_least y.s y.n (Nat.le_refl _) j (by rw [length_blk]; exact hj)
theorem turnK_one (f : Nat → Int) (s : Int) : turnK f s 1 = 0 := by
  unfold turnK
  rw [if_neg (by rintro (⟨q, _⟩ | ⟨q, _⟩) <;> exact absurd q (by decide))]
  rfl
theorem turnK_le (f : Nat → Int) (s : Int) : ∀ k : Nat, 0 ≤ turnK f s k ∧ turnK f s k ≤ k := by
  intro k
  induction k with
  | zero => exact ⟨Int.le_refl _, Int.le_refl _⟩
  | succ k ih => unfold turnK; split <;> omega
def turnC (f : Nat → Int) (s : Int) (k : Nat) : Prop := (k = 1 ∧ ¬ f (k - 1) < f k ∧ s ≤ f 0) ∨ (1 < k ∧ decide (f (k - 1) < f k) ≠ decide (f (k - 2) < f (k - 1)))
theorem turnK_up {f : Nat → Int} {s : Int} {k : Nat} (h : turnC f s k) : turnK f s (k + 1) = turnK f s k + 1 := by
  unfold turnC at h
  conv => lhs; unfold turnK
  rw [if_pos h]
theorem turnK_same {f : Nat → Int} {s : Int} {k : Nat} (h : ¬ turnC f s k) : turnK f s (k + 1) = turnK f s k := by
  unfold turnC at h
  conv => lhs; unfold turnK
  rw [if_neg h]; omega
theorem fallK_up {f : Nat → Int} {k : Nat} (h : 1 ≤ k) (h2 : f k < f (k - 1)) : fallK f (k + 1) = fallK f k + 1 := by
  conv => lhs; unfold fallK
  rw [if_pos ⟨h, h2⟩]
theorem fallK_same {f : Nat → Int} {k : Nat} (h2 : ¬ f k < f (k - 1)) : fallK f (k + 1) = fallK f k := by
  conv => lhs; unfold fallK
  rw [if_neg (fun q => h2 q.2)]; omega
theorem fallK_one (f : Nat → Int) : fallK f 1 = 0 := rfl
theorem fallK_le (f : Nat → Int) : ∀ k : Nat, 0 ≤ fallK f k ∧ fallK f k ≤ k := by
  intro k
  induction k with
  | zero => exact ⟨Int.le_refl _, Int.le_refl _⟩
  | succ k ih => unfold fallK; split <;> omega
end Go.Proofs.Ytpelocpjfmmceaa
