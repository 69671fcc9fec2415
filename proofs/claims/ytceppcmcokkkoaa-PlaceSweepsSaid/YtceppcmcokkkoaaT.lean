/- Two rows of a bitmap that are alike are equal. -/
import Derived.Test.YtceppcmcokkkoaaR
import Derived.ChangeKeysEq
namespace Go.Proofs.Ytceppcmcokkkoaa
open Go.RowKit Go.Shelf

theorem equal_rows (a b : Int) (W : World) : (Op.equalIn 10000 51 (.agg #[.int .i64 a, .int .i64 b]) (.agg #[.int .i64 a, .int .i64 b])).run Try.prog W = .ok true W := by
  obtain ⟨i0, hi, hz0, hz1, hz2⟩ := info_parts info3
  rw [show (10000 : Nat) = 9999 + 1 from rfl]
  rw [run_equalIn_array W 9999 #[.int .i64 a, .int .i64 b] #[.int .i64 a, .int .i64 b] Try.underlying51 hi]
  rw [show Try.prog.cellsOf 3 = 1 from by kernel_rfl, show List.range 2 = [0, 1] from rfl]
  simp [Op.eqItems, part, sizeOf, typeInfo, hi, hz1, run_equalIn_int W 9998 3 .i64 .i64 _ _ Try.underlying3]

theorem same_n (A1 A2 : Option Addr) (c1 c2 n1 n2 : Nat) (l : List Int) (w : World) (B1 B2 : Nat) (e1 : n1 = l.length) (e2 : n2 = l.length) (h1 : Ints w B1 A1 l) (h2 : Ints w B2 A2 l) (hl : l.length ≤ 100000) :
    Calls Try.prog 26 #[.slice A1 n1 c1, .slice A2 n2 c2] w fun e w' => e = .returned (.bool true) ∧ Quiet w w' := by
  subst e1 e2
  exact same_any A1 A2 c1 c2 l w B1 B2 h1 h2 hl

/-- a slice of rows that owns them: each row's two cells -/
theorem own_rows {w : World} {B : Nat} {v : Value} {rs : List (Nat × Nat)} (h : w.ownsRow B 51 2 v rs.length (rowsV rs)) : ∃ A c, v = .slice A rs.length c ∧ (∀ k (hk : k < rs.length), ∃ g, A = some ⟨g, 0, none⟩ ∧ B ≤ g ∧ g < w.heap.size ∧ w.cell? ⟨g, k * 2, none⟩ = some (.int .i64 ((rs[k].1 : Nat) : Int)) ∧ w.cell? ⟨g, k * 2 + 1, none⟩ = some (.int .i64 ((rs[k].2 : Nat) : Int))) := by
  rcases h.2 with ⟨rfl, hn⟩ | ⟨g, cap, cur, rfl, _, hg, hnc, hcm, _⟩
  · have e : rs = [] := List.eq_nil_of_length_eq_zero hn
    subst e
    exact ⟨none, 0, rfl, fun k hk => by simp at hk⟩
  · refine ⟨some ⟨g, 0, none⟩, cap, rfl, fun k hk => ⟨g, rfl, (h.lt g rfl).1, (h.lt g rfl).2, ?_, ?_⟩⟩
    all_goals
      obtain ⟨q, r, hqr, hql⟩ : ∃ q r, rs = q ++ rs[k] :: r ∧ q.length = k := ⟨rs.take k, rs.drop (k + 1), by simp, by rw [List.length_take]; omega⟩
      rw [h.cellAt _ (by omega)]
      have e : rowsV rs = rowsV q ++ ([.int .i64 ((rs[k].1 : Nat) : Int), .int .i64 ((rs[k].2 : Nat) : Int)] ++ rowsV r) := by
        conv => lhs; rw [hqr]
        rw [rowsV_append]; rfl
      rw [e, List.getElem?_append_right (by rw [length_rowsV]; omega), length_rowsV, hql]
      simp
theorem rows_facts (l : List Int) (hl : l.length ≤ 1000) : (rowsOf (ones l)).length ≤ 8000 ∧ ∀ k (hk : k < (rowsOf (ones l)).length), (rowsOf (ones l))[k].2 ≤ 8000 := by
  obtain ⟨f1, _, _, f4⟩ := rowing_facts (ones l)
  have := length_onesTo l l.length
  have h8 : (ones l).length ≤ 8000 := by unfold ones; omega
  exact ⟨by unfold rowsOf; omega, fun k hk => Nat.le_trans (f4 _ (List.getElem_mem hk)) h8⟩
end Go.Proofs.Ytceppcmcokkkoaa
