/- Two rows of slices beside each other, each of which grows in turn. -/
import Derived.Test.YthffdkoncagimaaU
import Derived.Test.YthffdkoncagimaaR
import Derived.Maps.AppendAt
set_option linter.unusedVariables false
set_option linter.unusedSimpArgs false
namespace Go.Proofs.Ythffdkoncagimaa
open Go.RowKit Go.Shelf
theorem RowI.nil (W : World) (B : Nat) : RowI W B none 0 [] := World.ownsRow_nil _ _ _ _
theorem RowI.new (W : World) (B : Nat) (x : Int) (h : B ≤ W.heap.size) : RowI (W.alloc (.cells #[.int .i64 x] 3)) B (some ⟨W.heap.size, 0, none⟩) 1 [x] :=
  ⟨rfl, .inr ⟨W.heap.size, 1, #[.int .i64 x], rfl, h, heap_alloc_new W _, Nat.le_refl _, by unfold maxLen; decide, rfl, rfl⟩⟩
theorem sls_grown {W3 w1 : World} {B n : Nat} {v u : Value} {xs : List Value} {T : List Sl} (hrow : W3.ownsRow B 35 1 v n xs) (hT : SlsOwn W3 B T) (g : (W3.alloc (.cells #[u] 35)).grownBy w1 v.ownBlock) : SlsOwn w1 B T := by
  have hTa : SlsOwn (W3.alloc (.cells #[u] 35)) B T := hT.kept (World.grownBy_alloc _ _ none) (fun r e => by cases e)
  refine hTa.kept g (fun r e cur h => ?_)
  rcases (hrow.alloc (.cells #[u] 35)).2 with ⟨q, _⟩ | ⟨g, cap, cur2, q, _, hgb, _⟩
  · rw [q] at e; cases e
  · rw [q] at e
    obtain rfl : g = r := by simpa [Value.ownBlock] using e
    rw [hgb] at h
    simp at h
/-- two rows -/
structure TwoR (W : World) (B n1 n2 : Nat) (v1 v2 : Value) (T1 T2 : List Sl) : Prop where
  o1 : W.ownsRow B 35 1 v1 n1 (slV T1)
  o2 : W.ownsRow B 35 1 v2 n2 (slV T2)
  s1 : SlsOwn W B T1
  s2 : SlsOwn W B T2
  ne : v1.ownBlock = none ∨ v2.ownBlock = none ∨ v1.ownBlock ≠ v2.ownBlock
theorem TwoR.nil (W : World) (B : Nat) : TwoR W B 0 0 (.slice none 0 0) (.slice none 0 0) [] [] := ⟨World.ownsRow_nil _ _ _ _, World.ownsRow_nil _ _ _ _, fun t ht => (by cases ht), fun t ht => (by cases ht), .inl rfl⟩
theorem TwoR.swap {W : World} {B n1 n2 : Nat} {v1 v2 : Value} {T1 T2 : List Sl} (h : TwoR W B n1 n2 v1 v2 T1 T2) : TwoR W B n2 n1 v2 v1 T2 T1 :=
  ⟨h.o2, h.o1, h.s2, h.s1, by rcases h.ne with q | q | q
                              · exact .inr (.inl q)
                              · exact .inl q
                              · exact .inr (.inr (Ne.symm q))⟩
theorem TwoR.fresh {W W' : World} {B n1 n2 : Nat} {v1 v2 : Value} {T1 T2 : List Sl} (h : TwoR W B n1 n2 v1 v2 T1 T2) (b : Below W.heap.size W W') : TwoR W' B n1 n2 v1 v2 T1 T2 :=
  ⟨own_lay h.o1 b, own_lay h.o2 b, h.s1.fresh b, h.s2.fresh b, h.ne⟩
theorem TwoR.more {W w1 : World} {B n1 n2 : Nat} {v1 v2 v' : Value} {T1 T2 : List Sl} {A3 : Option Addr} {c3 : Nat} {l : List Int} (h : TwoR W B n1 n2 v1 v2 T1 T2) (r3 : RowI W B A3 c3 l)
    (hown : w1.ownsRow B 35 1 v' (n1 + 1) (slV T1 ++ [.slice A3 l.length c3])) (g : (W.alloc (.cells #[.slice A3 l.length c3] 35)).grownBy w1 v1.ownBlock)
    (hat : v'.ownBlock = v1.ownBlock ∨ v'.ownBlock = some (W.heap.size + 1)) : TwoR w1 B (n1 + 1) n2 v' v2 (T1 ++ [⟨A3, c3, l⟩]) T2 := by
  have h2a := h.o2.alloc (.cells #[.slice A3 l.length c3] 35)
  refine ⟨by rw [slv_append]; exact hown, World.ownsRow.kept h2a g ?_, sls_grown h.o1 (fun t ht => ?_) g, sls_grown h.o1 h.s2 g, ?_⟩
  · rcases h.ne with q | q | q
    · rw [q]; cases hb : v2.ownBlock with
      | none => exact .inl rfl
      | some b => exact .inr (by simp)
    · exact .inl q
    · exact .inr (Ne.symm q)
  · rcases List.mem_append.1 ht with ht | ht
    · exact h.s1 t ht
    · rw [List.mem_singleton.1 ht]; exact r3
  · rcases hat with q | q
    · rw [q]; exact h.ne
    · cases hb : v2.ownBlock with
      | none => exact .inr (.inl rfl)
      | some b =>
        refine .inr (.inr ?_)
        rw [q]
        intro e
        have e' := Option.some.inj e
        have := (h.o2.lt b hb).2
        omega
theorem TwoR.mat {W : World} {B n1 n2 : Nat} {v1 v2 : Value} {T1 T2 : List Sl} {R : List (List Int)} (h : TwoR W B n1 n2 v1 v2 T1 T2) (e : T1.map (·.l) = R) (hl : R.length = n1) : ∃ A c, v1 = .slice A n1 c ∧ Mat W W.heap.size A R := by
  obtain ⟨A, c, rfl⟩ := own_form h.o1
  subst hl
  exact ⟨A, c, rfl, GivesT.mat (w := W) (c := c) (B := B) e h.o1 h.s1⟩
theorem cell_one_next (w : World) (o : Obj) (x : Value) (t : TypeId) : ∀ j u, [x][j]? = some u → ((w.alloc o).alloc (.cells #[x] t)).cell? ((⟨w.heap.size + 1, 0, none⟩ : Addr).add j) = some u := by
  have h := cell_one_new (w.alloc o) x t
  simp only [World.size_alloc] at h
  exact h
theorem rowD_succ (k : Nat) : rowD (k + 1) = rowD k ++ [if k = 0 then [] else [k - 1]] := by unfold rowD; rw [List.range_succ, List.map_append]; rfl
theorem aloneD_succ (k : Nat) : aloneD (k + 1) = aloneD k ++ [[]] := by unfold aloneD; rw [List.replicate_succ']
theorem rowsI_snoc' (D : List (List Nat)) (r : List Nat) : rowsI (D ++ [r]) = rowsI D ++ [natsI r] := by simp [rowsI]
theorem fac_small : ∀ k, k ≤ 13 → fac k ≤ 6227020800 := by decide +kernel
/-- the loop's hold -/
def RowSt (B k : Nat) (v1 v2 : Value) (W : World) : Prop := ∃ T1 T2, TwoR W B k k v1 v2 T1 T2 ∧ T1.map (·.l) = rowsI (rowD k) ∧ T2.map (·.l) = rowsI (aloneD k)
theorem RowSt.start (W : World) : RowSt W.heap.size 0 (.slice none 0 0) (.slice none 0 0) W := ⟨[], [], TwoR.nil _ _, rfl, rfl⟩
theorem RowSt.mats {B k : Nat} {v1 v2 : Value} {W : World} (h : RowSt B k v1 v2 W) : ∃ A1 c1 A2 c2, v1 = .slice A1 k c1 ∧ v2 = .slice A2 k c2 ∧ Mat W W.heap.size A1 (rowsI (rowD k)) ∧ Mat W W.heap.size A2 (rowsI (aloneD k)) := by
  obtain ⟨T1, T2, h, e1, e2⟩ := h
  obtain ⟨A1, c1, rfl, m1⟩ := h.mat e1 (by rw [length_rowsI, rowD_len])
  obtain ⟨A2, c2, rfl, m2⟩ := h.swap.mat e2 (by rw [length_rowsI, aloneD_len])
  exact ⟨A1, c1, A2, c2, rfl, rfl, m1, m2⟩
end Go.Proofs.Ythffdkoncagimaa
