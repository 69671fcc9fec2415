/- The contract of 'Write', whatever waits. -/
import Derived.Test.YtieeibdhaoaeaaaKD
set_option linter.unusedVariables false
set_option linter.unusedSimpArgs false
namespace Go.Proofs.Ytieeibdhaoaeaaa
open Go.RowKit

theorem row_zero {w : World} {base : Nat} {e : TypeId} {size : Nat} {v : Value} {n : Nat} {xs : List Value} (h : w.ownsRow base e size v n xs) : w.ownsRow 0 e size v n xs :=
  ⟨h.1, h.2.imp id fun ⟨g, cap, cur, a, _, r⟩ => ⟨g, cap, cur, a, Nat.zero_le _, r⟩⟩
def OkS (s : List Int) : Prop := s.length = 32 ∧ AllB s
theorem key_ne {i j : Nat} (h : i ≠ j) : (Lit.int .i64 (i : Int)) ≠ .int .i64 (j : Int) := by intro e; injection e with _ e; omega
section
variable {w w' : World} {g n c mb k : Nat} {S : Nat → Bk} {L : List Int} {B : List Bool} {D : DataW Value} {V : Nat → List Run} {A : Nat → Option Addr} {C : Nat → Nat}
theorem CodeAt.diskw (h : CodeAt w g n S c L B mb k D V A C) {G : Nat → Prop} (hk : Kept w w' G) (hd : ¬ G g) : DiskAt w' g n L B mb :=
  ⟨hk.blk h.disk.blk hd, h.disk.lo, h.disk.hi, h.disk.lenL, h.disk.lenB, h.disk.allL⟩
theorem CodeAt.put (h : CodeAt w g n S c L B mb k D V A C) {i : Nat} (hi : i < n) {k' c' : Nat} {D' : DataW Value} {a' : Option Addr} {v' : List Run} {s : List Int}
    (hk : Kept w w' (fun b => own (A i) = some b ∨ b = mb)) (hm : w'.ownsMap Try.prog 3 RV mb k' D') (hk' : k' ≤ c + 1)
    (hD1 : ∀ z, D'.atKey (.int .i64 (i : Int)) z = .held (.slice a' v'.length c'))
    (hD2 : ∀ l, l ≠ .int .i64 (i : Int) → Maps.has D' l = Maps.has D l ∧ ∀ z, D'.atKey l z = D.atKey l z)
    (hrow : w'.ownsRow 0 83 33 (.slice a' v'.length c') v'.length (rowsV v')) (ha : own a' = own (A i) ∨ ∀ b, own a' = some b → w.heap.size ≤ b) (hv : v' ≠ []) (hok : OkV v') (hun : unrun v' = (S i).v ++ [s]) :
    Went w w' (foot g n mb A) (Code w' g n (upd S i ⟨(S i).s, (S i).v ++ [s], (S i).b⟩) (c + 1)) := by
  have hold : ∀ b, own (A i) = some b → b < w.heap.size := fun b hb => ((h.row i hi).lt b (by rw [own_eq]; exact hb)).2
  have hapart : ∀ j, j < n → j ≠ i → ∀ b, own (A j) = some b → own a' ≠ some b := by
    intro j hj hji b hb e
    rcases ha with q | q
    · rw [q] at e
      exact h.apart j i hj hi hji b hb e
    · have h1 := q b e
      have h2 := ((h.row j hj).lt b (by rw [own_eq]; exact hb)).2
      omega
  refine ⟨_, ⟨L, B, mb, k', D', fun j => if j = i then v' else V j, fun j => if j = i then a' else A j, fun j => if j = i then c' else C j, ?_, rfl⟩, ?_, ?_⟩
  · refine ⟨h.diskw hk ?_, hm, hk', ?_, ?_, ?_, ?_, ?_, ?_, ?_, ?_, ?_, ?_⟩
    · rintro (q | q)
      · exact h.row_g hi q rfl
      · exact h.gm q
    · intro x hx
      by_cases e : (Lit.int .i64 x) = .int .i64 (i : Int)
      · injection e with _ e
        exact ⟨i, e, hi⟩
      · rw [(hD2 _ e).1] at hx
        exact h.keys x hx
    · intro j hj hne z
      by_cases e : j = i
      · subst e; simpa using hD1 z
      · simp only [if_neg e] at hne ⊢
        rw [(hD2 _ (key_ne e)).2]
        exact h.here j hj hne z
    · intro j hj he
      by_cases e : j = i
      · subst e; simp only [if_true] at he; exact absurd he hv
      · simp only [if_neg e] at he ⊢
        rw [(hD2 _ (key_ne e)).1]
        exact h.gone j hj he
    · intro j hj
      by_cases e : j = i
      · subst e; simpa using hrow
      · simp only [if_neg e]
        refine hk.row (h.row j hj) fun b hb => ?_
        rw [own_eq] at hb
        rintro (q | q)
        · exact h.apart j i hj hi e b hb q
        · exact h.row_m hj hb q
    · intro j hj
      by_cases e : j = i
      · subst e; simpa using hok
      · simpa only [if_neg e] using h.ok j hj
    · intro j hj
      by_cases e : j = i
      · subst e; rw [upd_same]; exact h.sec j hj
      · rw [upd_other _ _ e]; exact h.sec j hj
    · intro j hj
      by_cases e : j = i
      · subst e; rw [upd_same]; exact h.bad j hj
      · rw [upd_other _ _ e]; exact h.bad j hj
    · intro j hj
      by_cases e : j = i
      · subst e; rw [upd_same]; simpa using hun
      · rw [upd_other _ _ e]; simpa only [if_neg e] using h.ver j hj
    · intro j hj
      by_cases e : j = i
      · subst e; rw [upd_same]; have := h.few j hj; simp; omega
      · rw [upd_other _ _ e]; have := h.few j hj; omega
    · intro x y hx hy hxy b hb
      by_cases e1 : x = i
      · subst e1
        have e2 : ¬ y = x := fun q => hxy q.symm
        simp only [if_true, if_neg e2] at hb ⊢
        exact fun q => hapart y hy e2 b q hb
      · by_cases e2 : y = i
        · subst e2
          simp only [if_true, if_neg e1] at hb ⊢
          exact hapart x hx e1 b hb
        · simp only [if_neg e1, if_neg e2] at hb ⊢
          exact h.apart x y hx hy hxy b hb
  · refine hk.more fun b q => .inl ?_
    rcases q with q | q
    · exact .inr (.inr ⟨i, hi, q⟩)
    · exact .inr (.inl q)
  · rintro b (q | q | ⟨j, hj, q⟩)
    · exact .inl (.inl q)
    · exact .inl (.inr (.inl q))
    · by_cases e : j = i
      · subst e
        simp only [if_true] at q
        rcases ha with r | r
        · rw [r] at q; exact .inl (.inr (.inr ⟨j, hj, q⟩))
        · exact .inr (r b q)
      · simp only [if_neg e] at q
        exact .inl (.inr (.inr ⟨j, hj, q⟩))
end

theorem ask_code {w : World} {g n c : Nat} {S : Nat → Bk} {F : Nat → Prop} (h : Code w g n S c F) (i : Int) (hi : ¬ (0 ≤ i ∧ i < n)) : ∀ W, Below w.heap.size w W → Calls Try.prog 38 #[.pointer (some ⟨g, 0, none⟩), .int .i64 i] W fun e w' => e = .returned (.int .i64 2) ∧ W = w' := fun W hB =>
  ask_no g n i W ((h.fresh hB).size.2.2.1) (by omega)
theorem cwrite_no {w : World} {g n c : Nat} {S : Nat → Bk} {F : Nat → Prop} (h : Code w g n S c F) (i : Int) (hi : ¬ (0 ≤ i ∧ i < n)) (s : List Int) :
    Calls Try.prog 17 #[.pointer (some ⟨g, 0, none⟩), .int .i64 i, secV s] w fun e w' => e = .returned (.int .i64 2) ∧ Below w.heap.size w w' :=
  write_err _ i 2 s w (by decide) (ask_code h i hi)
theorem cwrite {w : World} {g n c : Nat} {S : Nat → Bk} {F : Nat → Prop} (h : Code w g n S c F) {i : Nat} (hi : i < n) {s : List Int} (hb : (S i).b = false) (hs : OkS s) (hc : c < 100000) :
    Calls Try.prog 17 #[.pointer (some ⟨g, 0, none⟩), .int .i64 (i : Int), secV s] w fun e w' => e = .returned (.int .i64 0) ∧ Went w w' F (Code w' g n (upd S i ⟨(S i).s, (S i).v ++ [s], (S i).b⟩) (c + 1)) := by
  obtain ⟨L, B, mb, k, D, V, A, C, h, rfl⟩ := h
  have hbad : B.getD i false = false := by rw [h.bad i hi, hb]
  have hi' : (i : Int) < (n : Int) := by omega
  have hk := h.kc
  have hmx : k < maxLen := by unfold maxLen; omega
  have hkey : WideAt.IsKeyLit (.int .i64 (i : Int)) := trivial
  have hat := h.at_nil hi
  by_cases e : V i = []
  · obtain ⟨h1, h2, h3⟩ := h.gone i hi e
    rw [e, h2, h3] at hat
    refine (write_new g n L B mb i k D s w h.disk hi' h.map hmx h.gm hat hbad hs.1).mono ?_
    rintro _ w' ⟨rfl, gv, cap, hgv, hm, hr, hg⟩
    refine ⟨rfl, h.put hi (v' := [(s, 1)]) (a' := some ⟨gv, 0, none⟩) (c' := cap) (Kept.grown hg (fun b e => by cases e; exact .inl (.inr rfl))) hm (by omega) (fun z => Maps.atKey_put_same h.map.isMap hkey _ z) (fun l hl => ⟨Maps.has_put_other hl _, fun z => Maps.atKey_put_other hl _ z⟩)
      ?_ (.inr fun b hb => ?_) (by simp) ?_ ?_⟩
    · have := row_zero hr
      simpa [rowsV] using this
    · simp [own] at hb; omega
    · intro x hx
      obtain rfl : x = (s, 1) := by simpa using hx
      exact ⟨hs.1, hs.2, Nat.one_pos⟩
    · rw [← h.ver i hi, e]; simp [unrun]
  · obtain ⟨V0, x, hV⟩ := snoc (V i) e
    have hok := h.ok i hi
    have hrow := h.row i hi
    have hlen : (V i).length = V0.length + 1 := by rw [hV]; simp
    have hle := h.len_le hi
    have htm := h.time_le hi (x := x) (by rw [hV]; simp)
    rw [hlen] at hat hrow
    obtain ⟨gv, cap, hAe, _, hgl⟩ := hrow.form (by omega)
    obtain ⟨hA, _, hC⟩ := Value.slice.inj hAe
    rw [hA, hC] at hat hrow
    rw [hV] at hrow hok
    have hown : own (A i) = some gv := by rw [hA]; rfl
    have hun := h.ver i hi
    rw [hV] at hun
    by_cases hxs : x.1 = s
    · refine (write_same g n L B mb i k D s w h.disk hi' h.map gv V0.length cap V0 x hat hrow rfl hok hbad (by omega) (by omega) hs.1 hxs).mono ?_
      rintro _ w' ⟨rfl, hr, hK⟩
      have hlv : (V0 ++ [(x.1, x.2 + 1)]).length = V0.length + 1 := by simp
      refine ⟨rfl, h.put hi (v' := V0 ++ [(x.1, x.2 + 1)]) (a' := some ⟨gv, 0, none⟩) (c' := cap) (D' := D) (k' := k) (hK.more fun b q => .inl (.inl (by rw [hown, q]))) ?_ (by omega) (fun z => ?_) (fun l _ => ⟨rfl, fun _ => rfl⟩) (by rw [hlv]; exact hr) (.inl (by rw [hA])) (by simp) ?_ ?_⟩
      · exact hK.map h.map (fun q => h.row_m hi hown q.symm)
      · have := h.here i hi e z
        rw [this, hA, hC, hlen, hlv]
      · intro y hy
        rcases List.mem_append.1 hy with q | q
        · exact hok y (by simp [q])
        · obtain rfl : y = (x.1, x.2 + 1) := by simpa using q
          have := hok x (by simp)
          exact ⟨this.1, this.2.1, by simp⟩
      · rw [unrun_bump, hun, hxs]
    · refine (write_more g n L B mb i k D s w h.disk hi' h.map gv V0.length cap V0 x hat hrow rfl hok hbad (by omega) (by omega) hs.1 hxs hmx (h.row_g hi hown) (h.row_m hi hown) h.gm).mono ?_
      rintro _ w' ⟨rfl, gn, capn, hm, hr, hK, hgn⟩
      have hlv : (V0 ++ [x] ++ [(s, 1)]).length = V0.length + 1 + 1 := by simp
      refine ⟨rfl, h.put hi (v' := V0 ++ [x] ++ [(s, 1)]) (a' := some ⟨gn, 0, none⟩) (c' := capn) (hK.more fun b q => .inl ?_) hm (by omega) (fun z => ?_) (fun l hl => ⟨Maps.has_put_other hl _, fun z => Maps.atKey_put_other hl _ z⟩) (by rw [hlv]; exact hr) ?_ (by simp) (hok.app ?_) ?_⟩
      · rcases q with q | q
        · exact .inl (by rw [hown, q])
        · exact .inr q
      · rw [hlv]; exact Maps.atKey_put_same h.map.isMap hkey _ z
      · rcases hgn with q | q
        · left; rw [hown, q]; rfl
        · right; intro b hb; simp [own] at hb; omega
      · intro y hy
        obtain rfl : y = (s, 1) := by simpa using hy
        exact ⟨hs.1, hs.2, Nat.one_pos⟩
      · rw [unrun_append, hun, unrun_one]; rfl
end Go.Proofs.Ytieeibdhaoaeaaa
