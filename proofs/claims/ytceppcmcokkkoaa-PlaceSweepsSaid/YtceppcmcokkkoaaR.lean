/- The document's own Runs. -/
import Derived.Test.YtceppcmcokkkoaaQ
import Derived.BigRegion
namespace Go.Proofs.Ytceppcmcokkkoaa
open Go.RowKit Go.Shelf

theorem rowing_behind (p : List Nat) : (rowing p).2 = p.getLast?.map (· + 1) := by
  induction p using snocInd with
  | h0 => rfl
  | h1 p i _ => rw [rowing_snoc]; simp [rowStep]
theorem take_snoc' {α : Type} (p : List α) (k : Nat) (h : k < p.length) : p.take (k + 1) = p.take k ++ [p[k]] := by
  rw [List.take_succ_eq_append_getElem h]
theorem nth_natsI (p : List Nat) (k : Nat) (h : k < p.length) : nth (natsI p) k = ((p[k] : Nat) : Int) := by
  rw [nth_lt (by rw [length_natsI]; exact h)]; simp [natsI]
/-- one more bit: it lengthens the last row, or it begins one -/
theorem rows_step (p : List Nat) (k : Nat) (h : k < p.length) : rowsOf (p.take (k + 1)) = if (p.take k).getLast?.map (· + 1) = some p[k] then bump (rowsOf (p.take k)) else rowsOf (p.take k) ++ [(p[k], 1)] := by
  unfold rowsOf
  rw [take_snoc' p k h, rowing_snoc, ← rowing_behind]
  rfl
theorem last_take (p : List Nat) (m : Nat) (h : m + 1 < p.length) : (p.take (m + 1)).getLast? = some p[m] := by
  rw [take_snoc' p m (by omega), List.getLast?_append]; rfl
theorem own_mono {w : World} {base base' : Nat} {e : TypeId} {size : Nat} {v : Value} {n : Nat} {xs : List Value} (h : w.ownsRow base e size v n xs) (hb : base' ≤ base) : w.ownsRow base' e size v n xs := by
  refine ⟨h.1, ?_⟩
  rcases h.2 with h | ⟨g, cap, cur, h1, h2, h3⟩
  · exact .inl h
  · exact .inr ⟨g, cap, cur, h1, Nat.le_trans hb h2, h3⟩
theorem Quiet.cell {w w' : World} (q : Quiet w w') (a : Addr) : w'.cell? a = w.cell? a := by obtain ⟨n, rfl⟩ := q; rfl
theorem ones_lt8 (l : List Int) (hl : l.length ≤ 1000) (i : Nat) (h : i ∈ ones l) : i < 8000 := by
  have := onesTo_lt h
  omega

set_option maxRecDepth 100000 in
set_option maxHeartbeats 2000000 in
theorem refruns_any (A : Option Addr) (c : Nat) (l : List Int) (w : World) (hl : l.length ≤ 1000) (hb : Bts w w.heap.size A l) :
    Calls Try.prog 37 #[.slice A l.length c] w fun e W' => ∃ v, e = .returned v ∧ W'.ownsRow w.heap.size 51 2 v (rowsOf (ones l)).length (rowsV (rowsOf (ones l))) ∧ Below w.heap.size w W' := by
  obtain ⟨i0, hi, hz0, hz1, hz2⟩ := info_parts info51
  have H := Lib.hid (reflist_any A c l w hl hb)
  have hno := length_onesTo l l.length
  have hp8 : (ones l).length ≤ 8000 := by unfold ones; omega
  have Hlt := Lib.hid (ones_lt8 l hl)
  clear hno
  go_enter Try.func37, Try.ntmps37
  go_wp2_with fail
  refine H.out.mono ?_
  rintro e w1 ⟨v, rfl, hr, hB⟩
  rw [natsV_intsV] at hr
  obtain ⟨A1, c1, rfl, _, _, hin⟩ := own_ints hr
  rw [length_natsI]
  obtain ⟨p, hpe⟩ : ∃ p, p = ones l := ⟨_, rfl⟩
  rw [← hpe] at hin hp8 ⊢
  have Hlt2 : Hid (∀ k, (h : k < p.length) → p[k] < 8000) := fun k h => Hlt.out _ (by rw [← hpe]; exact List.getElem_mem h)
  have Hpe := Lib.hid hpe
  clear hr H Hlt hpe
  go_wp2
  go_loopw [3, 5] (fun v i wr => ∃ k : Nat, k ≤ p.length ∧ i = .int .i64 k ∧ wr.ownsRow w1.heap.size 51 2 v (rowsOf (p.take k)).length (rowsV (rowsOf (p.take k))) ∧ Below w1.heap.size w1 wr) (fun _ i _ => p.length - (intOf i).toNat)
  case atStart => exact ⟨0, Nat.zero_le _, rfl, World.ownsRow_nil _ _ _ _, Below.refl _ _⟩
  case round =>
    obtain ⟨k, hk, rfl, hown, hBr⟩ := hrel
    rename World => wr
    by_cases hlt : k < p.length
    · have hlti : (k : Int) < (p.length : Int) := by omega
      have hk0 : (0 : Int) ≤ (k : Int) := by omega
      have hinr := hin.below hBr
      have hsz := hBr.size
      obtain ⟨b, off, rfl, hbb, hck⟩ := hinr.at_ (k := k) (by rw [length_natsI]; exact hlt)
      rw [nth_natsI p k hlt] at hck
      obtain ⟨x, hx⟩ : ∃ x, x = p[k] := ⟨_, rfl⟩
      have hx8 := Hlt2.out k hlt
      rw [← hx] at hck hx8
      have hst := rows_step p k hlt
      rw [← hx] at hst
      obtain ⟨f1, f2, f3, f4⟩ := rowing_facts (p.take k)
      have hkl : (p.take k).length = k := by rw [List.length_take]; omega
      rw [hkl] at f1 f4
      have Hf4 := Lib.hid f4
      have Hf3 := Lib.hid f3
      have Hx := Lib.hid hx
      have Hst := Lib.hid hst
      clear f2 f3 f4 hst hx hkl
      have hx0 : (x : Int) < 8000 := by omega
      have hrk : (rowsOf (p.take k)).length ≤ k := f1
      clear f1
      by_cases hm : ∃ m, k = m + 1 ∧ (natsI p).getD m 0 + 1 = (x : Int)
      · obtain ⟨m, rfl, hxe⟩ := hm
        have hg : (natsI p).getD m 0 = ((p[m] : Nat) : Int) := nth_natsI p m (by omega)
        rw [hg] at hxe
        clear hg
        have hym := Hlt2.out m (by omega)
        obtain ⟨y, hy⟩ : ∃ y, y = p[m] := ⟨_, rfl⟩
        have hcm : wr.cell? ⟨b, off + m, none⟩ = some (.int .i64 ((y : Nat) : Int)) := by
          obtain ⟨b2, o2, e2, _, hc2⟩ := hinr.at_ (k := m) (by rw [length_natsI]; omega)
          injection e2 with e2; injection e2 with e3 e4; subst e3; subst e4
          rw [nth_natsI p m (by omega), ← hy] at hc2
          exact hc2
        rw [← hy] at hxe hym
        have htest : ((x : Int) == (y : Int) + 1) = true := by
          rw [beq_iff_eq]; omega
        have hold : (p.take (m + 1)).getLast?.map (· + 1) = some x := by
          rw [last_take p m hlt, ← hy]; simp; omega
        have hs : rowsOf (p.take (m + 1 + 1)) = bump (rowsOf (p.take (m + 1))) := by rw [Hst.out, if_pos hold]
        have hy0 : (y : Int) < 8000 := by omega
        have hwm : IntKind.i64.wrap (m : Int) = (m : Int) := IntWalk.i64_in _ (by omega)
        have hwy : IntKind.i64.wrap ((y : Int) + 1) = (y : Int) + 1 := IntWalk.i64_in _ (by omega)
        have hm0 : (0 : Int) ≤ (m : Int) := by omega
        have hmp : (m : Int) < (p.length : Int) := by omega
        have hpos : (0 : Int) < (m : Int) + 1 := by omega
        have hne : p.take (m + 1) ≠ [] := by
          intro e
          rw [e] at hold
          cases hold
        rcases List.eq_nil_or_concat (rowsOf (p.take (m + 1))) with h | ⟨q, ⟨a, r⟩, h⟩
        · exact absurd h (Hf3.out hne)
        rw [List.concat_eq_append] at h
        have hr8 : r < 8000 := by
          have := Hf4.out (a, r) (show (a, r) ∈ rowsOf (p.take (m + 1)) by rw [h]; simp)
          simp at this
          omega
        rw [h, bump_snoc] at hs
        rw [h, List.length_append, List.length_singleton] at hown hrk
        have hq8 : q.length < 8000 := by omega
        obtain ⟨g', cap', rfl⟩ := ownsRow_succ hown
        have hgN := (hown.lt g' rfl).1
        have hcc : wr.cell? ⟨g', q.length * 2 + 1, none⟩ = some (.int .i64 (r : Int)) := by
          rw [hown.cellAt _ (by omega)]
          exact rowsV_at q a r
        have hff : wr.frozen? ⟨g', q.length * 2 + 1, none⟩ = false := hown.frozenAt _
        have hri : (r : Int) < 8000 := by omega
        have er : ((r + 1 : Nat) : Int) = (r : Int) + 1 := by omega
        have hst : ∀ n, ((wr.drewN n).setCell ⟨g', q.length * 2 + 1, none⟩ (.int .i64 ((r : Int) + 1))).ownsRow w1.heap.size 51 2 (.slice (some ⟨g', 0, none⟩) (q.length + 1) cap') (q.length + 1) (rowsV (q ++ [(a, r + 1)])) := by
          intro n
          have h2 := ((show (wr.drewN n).ownsRow _ _ _ _ _ _ from hown).stored (q.length * 2 + 1) (.int .i64 ((r + 1 : Nat) : Int))).1
          rw [rowsV_last q a r (r + 1), er] at h2
          exact h2
        have hBs : ∀ n, Below w1.heap.size w1 ((wr.drewN n).setCell ⟨g', q.length * 2 + 1, none⟩ (.int .i64 ((r : Int) + 1))) := fun n =>
          (show Below w1.heap.size w1 (wr.drewN n) from (show Quiet wr (wr.drewN n) from ⟨n, rfl⟩).below hBr).setCell (p := ⟨g', q.length * 2 + 1, none⟩) hgN _
        have HS := Lib.hid hs
        have Hst2 := Lib.hid hst
        have HBs := Lib.hid hBs
        clear hs hold hne h hst hBs er hy hxe hown
        go_wp2_with fail
        go_quiet (fail)
        have hwr2 : IntKind.i64.wrap ((r : Int) + 1) = (r : Int) + 1 := IntWalk.i64_in _ (by omega)
        have hwq : IntKind.i64.wrap (q.length : Int) = (q.length : Int) := IntWalk.i64_in _ (by omega)
        have hq0 : (0 : Int) ≤ (q.length : Int) := by omega
        have hql : (q.length : Int) < (q.length : Int) + 1 := by omega
        go_wp2
        go_region
        all_goals go_wp2
        all_goals go_roundw
        case rel => exact ⟨m + 1 + 1, by omega, by go_num, by rw [HS.out, List.length_append]; exact Hst2.out _, HBs.out _⟩
        case measure => simp [intOf]; omega
      · have hne : (p.take k).getLast?.map (· + 1) ≠ some x := by
          intro h
          rcases k with _ | m
          · simp at h
          · rw [last_take p m hlt] at h
            have hg : (natsI p).getD m 0 = ((p[m] : Nat) : Int) := nth_natsI p m (by omega)
            simp only [Option.map_some, Option.some.injEq] at h
            exact hm ⟨m, rfl, by rw [hg]; omega⟩
        have hs : rowsOf (p.take (k + 1)) = rowsOf (p.take k) ++ [(x, 1)] := by rw [Hst.out, if_neg hne]
        have Hs := Lib.hid hs
        clear hs hne
        rcases k with _ | m
        · clear hm
          go_wp2_with fail
          go_quiet (fail)
          obtain ⟨w2, hw2⟩ : ∃ w2, w2 = wr.drewN nq := ⟨_, rfl⟩
          have hq : Quiet wr w2 := ⟨_, hw2⟩
          rw [← hw2]
          clear hw2
          have hck2 : w2.cell? ⟨b, off, none⟩ = some (.int .i64 (x : Int)) := (hq.cell _).trans hck
          have hown2 := hq.row hown
          have hsz2 : wr.heap.size ≤ w2.heap.size := Nat.le_of_eq hq.size.symm
          go_wp2_with (at_builtin; refine wpList_append_own _ rfl _ _ 49 rfl w1.heap.size 51 i0 (.agg #[.int .i64 0, .int .i64 0]) 2 16 Try.underlying49 hi hz0 hz1 hz2 rfl (by decide) _ _ _ rfl (hown2.alloc _) ⟨w2.heap.size, 0, none⟩ 1 1 [.int .i64 (x : Int), .int .i64 1] rfl rfl (cells_two_new _ _ _ _) (by simp [Value.oneCell']) (by unfold maxLen; omega) (by omega) (by simp; omega) ?_)
          intro v' w3 hown' hgrow _
          have hB3 : Below w1.heap.size w1 w3 := (hq.below hBr).trans ((((Below.refl _ w2).alloc (by omega) _)).grown hgrow (by simp; omega) (fun j e => (hown2.lt j e).1))
          go_wp2
          go_roundw
          case rel => exact ⟨0 + 1, by omega, by go_num, by rw [Hs.out, rowsV_append, List.length_append]; exact hown', hB3⟩
          case measure => simp [intOf]; omega
        · have hym := Hlt2.out m (by omega)
          obtain ⟨y, hy⟩ : ∃ y, y = p[m] := ⟨_, rfl⟩
          have hcm : wr.cell? ⟨b, off + m, none⟩ = some (.int .i64 ((y : Nat) : Int)) := by
            obtain ⟨b2, o2, e2, _, hc2⟩ := hinr.at_ (k := m) (by rw [length_natsI]; omega)
            injection e2 with e2; injection e2 with e3 e4; subst e3; subst e4
            rw [nth_natsI p m (by omega), ← hy] at hc2
            exact hc2
          have htest : ((x : Int) == (y : Int) + 1) = false := by
            rw [beq_eq_false_iff_ne]
            intro h
            have hg : (natsI p).getD m 0 = ((p[m] : Nat) : Int) := nth_natsI p m (by omega)
            exact hm ⟨m, rfl, by rw [hg, ← hy]; omega⟩
          rw [← hy] at hym
          have hy0 : (y : Int) < 8000 := by omega
          have hwm : IntKind.i64.wrap (m : Int) = (m : Int) := IntWalk.i64_in _ (by omega)
          have hwy : IntKind.i64.wrap ((y : Int) + 1) = (y : Int) + 1 := IntWalk.i64_in _ (by omega)
          have hm0 : (0 : Int) ≤ (m : Int) := by omega
          have hmp : (m : Int) < (p.length : Int) := by omega
          have hpos : (0 : Int) < (m : Int) + 1 := by omega
          clear hm hy
          go_wp2_with fail
          go_quiet (fail)
          obtain ⟨w2, hw2⟩ : ∃ w2, w2 = wr.drewN nq := ⟨_, rfl⟩
          have hq : Quiet wr w2 := ⟨_, hw2⟩
          rw [← hw2]
          clear hw2
          have hck2 := (hq.cell _).trans hck
          have hown2 := hq.row hown
          have hsz2 : wr.heap.size ≤ w2.heap.size := Nat.le_of_eq hq.size.symm
          go_wp2_with (at_builtin; refine wpList_append_own _ rfl _ _ 49 rfl w1.heap.size 51 i0 (.agg #[.int .i64 0, .int .i64 0]) 2 16 Try.underlying49 hi hz0 hz1 hz2 rfl (by decide) _ _ _ rfl (hown2.alloc _) ⟨w2.heap.size, 0, none⟩ 1 1 [.int .i64 (x : Int), .int .i64 1] rfl rfl (cells_two_new _ _ _ _) (by simp [Value.oneCell']) (by unfold maxLen; omega) (by omega) (by simp; omega) ?_)
          intro v' w3 hown' hgrow _
          have hB3 : Below w1.heap.size w1 w3 := (hq.below hBr).trans ((((Below.refl _ w2).alloc (by omega) _)).grown hgrow (by simp; omega) (fun j e => (hown2.lt j e).1))
          go_wp2
          go_roundw
          case rel => exact ⟨(m + 1) + 1, by omega, by go_num, by rw [Hs.out, rowsV_append, List.length_append]; exact hown', hB3⟩
          case measure => simp [intOf]; omega
    · obtain rfl : k = p.length := by omega
      rw [List.take_length, Hpe.out] at hown
      go_wp2
      go_ret
      exact ⟨_, rfl, own_mono hown hB.size, hB.trans (hBr.mono hB.size)⟩
end Go.Proofs.Ytceppcmcokkkoaa
