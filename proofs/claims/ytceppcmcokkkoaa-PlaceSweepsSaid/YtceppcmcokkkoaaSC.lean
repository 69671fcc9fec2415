/- Contracts of without: a row of the call's own loses one, in place. -/
import Derived.Test.YtceppcmcokkkoaaSB
import Derived.Deep.RegionLaw
namespace Go.Proofs.Ytceppcmcokkkoaa
open Go.RowKit

/-- append where there is room, as one step of a region that draws: the whole row behind it -/
theorem step_append_row {P : Program} {ops : Array Oper} {o : Oper} {a : Act} {w : World} {K : Act → World → Prop} {Q : Exit → Act → World → Prop} {E : Prop}
    (hg : o.guard = none) (s x : Operand) (t : TypeId) (hop : o.op = Op.call { callee := Callee.builtin Builtin.append, args := #[s, x], argTypes := #[t, t] })
    (e : TypeId) (i : TypeInfo) (h1 : P.underlying t = some (.slice e)) (h2 : P.info? e = some i) (h4 : i.size = 1)
    (g n cap : Nat) (cur : Array Value) (hgg : w.heap[g]? = some (.cells cur e (0, 0))) (hs : a.eval s = .slice (some ⟨g, 0, none⟩) n cap)
    (ad : Addr) (m c : Nat) (news : List Value) (hx : a.eval x = .slice (some ad) m c) (hn : news.length = m) (hc : ∀ j u, news[j]? = some u → w.cell? (ad.add j) = some u) (h1c : ∀ u ∈ news, u.oneCell' = true)
    (hroom : n + m ≤ cap) (hfit : n + m ≤ cur.size)
    (hK : K (a.put o.dst (.slice (some ⟨g, 0, none⟩) (n + m) cap)) (w.setRow g (cur.toList.take n ++ news ++ cur.toList.drop (n + m)).toArray)) :
    if Region.wanted o (yielded ops a.tmps) = true then Oper.wp P o a w K Q else E := by
  have hw : Region.wanted o (yielded ops a.tmps) = true := by simp [Region.wanted, hg]
  rw [if_pos hw]
  have hrun := run_append_room (P := P) w t o.type e i h1 h2 g n cap cur hgg ad m c news (by rw [h4, Nat.mul_one]; exact hn) hc h1c hroom (by rw [h4, Nat.mul_one, hn]; exact hfit)
  rw [h4, Nat.mul_one, hn] at hrun
  generalize (cur.toList.take n ++ news ++ cur.toList.drop (n + m)).toArray = N at hrun hK
  unfold Oper.wp
  simp [execOp, hop, resolve, invoke, builtin, hs, hx, hrun, Result.andThen]
  exact hK

set_option maxHeartbeats 1600000 in
set_option maxRecDepth 1000000 in
theorem drop54_any (base : Nat) (v : Value) (m k : Nat) (xs : List Value) (w : World) (hk : k < m) (hm : m ≤ 1000) (h1c : ∀ u ∈ xs, u.oneCell' = true) (hown : w.ownsRow base 3 1 v m xs) :
    Calls Try.prog 54 #[v, .int .i64 (k : Int)] w fun e w' => ∃ v', e = .returned v' ∧ v'.ownBlock = v.ownBlock ∧ w'.ownsRow base 3 1 v' (m - 1) (xs.eraseIdx k) ∧ w.grownBy w' v.ownBlock := by
  have hxl := hown.1
  rcases hown.2 with ⟨_, h0⟩ | ⟨g, cap, cur, rfl, hb, hgg, hmc, hcm, hcs, htk⟩
  · omega
  rw [Nat.mul_one] at hxl hcs htk
  unfold maxLen at hcm
  obtain ⟨i0, hi0, hz0, hz1, hz2⟩ := info_parts info3
  have hdl : (xs.drop (k + 1)).length = m - (k + 1) := by rw [List.length_drop, hxl]
  obtain ⟨A, hA, hnews⟩ : ∃ A : Addr, (if cap = k + 1 then some (⟨g, 0, none⟩ : Addr) else some ⟨g, k + 1, none⟩) = some A ∧ Hid (∀ j u, (xs.drop (k + 1))[j]? = some u → w.drew.cell? (A.add j) = some u) := by
    by_cases h : cap = k + 1
    · refine ⟨⟨g, 0, none⟩, by simp [h], fun j u hu => ?_⟩
      have h0 : xs.drop (k + 1) = [] := List.eq_nil_of_length_eq_zero (by omega)
      rw [h0] at hu
      simp at hu
    · refine ⟨⟨g, k + 1, none⟩, by simp [h], fun j u hu => ?_⟩
      rw [List.getElem?_drop, ← htk, List.getElem?_take] at hu
      split at hu
      · rw [Addr.add_lit]
        show w.cell? ⟨g, k + 1 + j, none⟩ = some u
        rw [cell_of_row w g (k + 1 + j) cur 3 (0, 0) hgg]
        simpa using hu
      · cases hu
  have s2 : Hid (∀ u ∈ xs.drop (k + 1), u.oneCell' = true) := fun u hu => h1c u (List.mem_of_mem_drop hu)
  have s4 : Hid (w.drew.heap[g]? = some (.cells cur 3 (0, 0))) := hgg
  have hkc : k ≤ cap := by omega
  have hsz : k + (m - (k + 1)) ≤ cur.size := by omega
  have hlist : (cur.toList.take k ++ xs.drop (k + 1) ++ cur.toList.drop (k + (m - (k + 1)))).take (m - 1) = xs.eraseIdx k := by
    have e1 : cur.toList.take k = xs.take k := by rw [← htk, List.take_take, Nat.min_eq_left (by omega)]
    rw [List.eraseIdx_eq_take_drop_succ, e1]
    rw [List.take_append_of_le_length (by simp; omega)]
    exact List.take_of_length_le (by simp; omega)
  obtain ⟨N, hN⟩ : ∃ N, N = (cur.toList.take k ++ xs.drop (k + 1) ++ cur.toList.drop (k + (m - (k + 1)))).toArray := ⟨_, rfl⟩
  have hNs : N.size = cap := by rw [hN]; simp; omega
  have hNt : N.toList.take (m - 1) = xs.eraseIdx k := by rw [hN]; exact hlist
  have Hfin : Hid ((w.drew.setRow g N).ownsRow base 3 1 (.slice (some ⟨g, 0, none⟩) (k + (m - (k + 1))) cap) (m - 1) (xs.eraseIdx k) ∧ w.grownBy (w.drew.setRow g N) (some g)) := by
    refine ⟨⟨by rw [List.length_eraseIdx_of_lt (by omega)]; omega, .inr ⟨g, cap, N, by rw [show k + (m - (k + 1)) = m - 1 from by omega], hb, setRow_heap _ _ _ _ _ _ s4, by omega, hcm, by rw [hNs, Nat.mul_one], by rw [Nat.mul_one]; exact hNt⟩⟩, ⟨rfl, rfl, rfl, by simp, fun j _ hne => ?_⟩⟩
    exact setRow_other _ _ _ _ (fun e => hne (by rw [e]))
  have HN := Lib.hid (show N = (cur.toList.take k ++ (xs.drop (k + 1) ++ cur.toList.drop (k + (m - (k + 1))))).toArray by rw [hN, List.append_assoc])
  have hwr : IntKind.i64.wrap ((k : Int) + 1) = (k : Int) + 1 := by rw [IntKind.wrap_i64]; omega
  have hp0 : (0 : Int) ≤ (k : Int) + 1 := by omega
  have hp1 : (k : Int) + 1 ≤ (m : Int) := by omega
  have hp2 : ((k : Int) + 1).toNat = k + 1 := by omega
  have HDL := Lib.hid hdl
  clear hgg hcs htk hxl hlist hN hNs hNt hown h1c hdl
  go_enter Try.func54, Try.ntmps54
  go_wp2_with fail
  go_region_law (refine step_append_row rfl (.tmp 7) (.tmp 11) 22 rfl 3 i0 Try.underlying22 hi0 hz1 g k cap cur s4.out (by simp [Act.eval, Act.put]) A (m - (k + 1)) (cap - (k + 1)) (xs.drop (k + 1)) (by simp [Act.eval, Act.put]) HDL.out hnews.out s2.out (by omega) hsz ?_)
  all_goals
    rw [← HN.out]
    go_wp2
    go_ret
    exact ⟨_, rfl, rfl, Hfin.out.1, Hfin.out.2⟩

set_option maxHeartbeats 1600000 in
set_option maxRecDepth 1000000 in
theorem drop55_any (base : Nat) (v : Value) (m k : Nat) (xs : List Value) (w : World) (hk : k < m) (hm : m ≤ 1000) (h1c : ∀ u ∈ xs, u.oneCell' = true) (hown : w.ownsRow base 34 1 v m xs) :
    Calls Try.prog 55 #[v, .int .i64 (k : Int)] w fun e w' => ∃ v', e = .returned v' ∧ v'.ownBlock = v.ownBlock ∧ w'.ownsRow base 34 1 v' (m - 1) (xs.eraseIdx k) ∧ w.grownBy w' v.ownBlock := by
  have hxl := hown.1
  rcases hown.2 with ⟨_, h0⟩ | ⟨g, cap, cur, rfl, hb, hgg, hmc, hcm, hcs, htk⟩
  · omega
  rw [Nat.mul_one] at hxl hcs htk
  unfold maxLen at hcm
  obtain ⟨i0, hi0, hz0, hz1, hz2⟩ := info_parts info34
  have hdl : (xs.drop (k + 1)).length = m - (k + 1) := by rw [List.length_drop, hxl]
  obtain ⟨A, hA, hnews⟩ : ∃ A : Addr, (if cap = k + 1 then some (⟨g, 0, none⟩ : Addr) else some ⟨g, k + 1, none⟩) = some A ∧ Hid (∀ j u, (xs.drop (k + 1))[j]? = some u → w.drew.cell? (A.add j) = some u) := by
    by_cases h : cap = k + 1
    · refine ⟨⟨g, 0, none⟩, by simp [h], fun j u hu => ?_⟩
      have h0 : xs.drop (k + 1) = [] := List.eq_nil_of_length_eq_zero (by omega)
      rw [h0] at hu
      simp at hu
    · refine ⟨⟨g, k + 1, none⟩, by simp [h], fun j u hu => ?_⟩
      rw [List.getElem?_drop, ← htk, List.getElem?_take] at hu
      split at hu
      · rw [Addr.add_lit]
        show w.cell? ⟨g, k + 1 + j, none⟩ = some u
        rw [cell_of_row w g (k + 1 + j) cur 34 (0, 0) hgg]
        simpa using hu
      · cases hu
  have s2 : Hid (∀ u ∈ xs.drop (k + 1), u.oneCell' = true) := fun u hu => h1c u (List.mem_of_mem_drop hu)
  have s4 : Hid (w.drew.heap[g]? = some (.cells cur 34 (0, 0))) := hgg
  have hkc : k ≤ cap := by omega
  have hsz : k + (m - (k + 1)) ≤ cur.size := by omega
  have hlist : (cur.toList.take k ++ xs.drop (k + 1) ++ cur.toList.drop (k + (m - (k + 1)))).take (m - 1) = xs.eraseIdx k := by
    have e1 : cur.toList.take k = xs.take k := by rw [← htk, List.take_take, Nat.min_eq_left (by omega)]
    rw [List.eraseIdx_eq_take_drop_succ, e1]
    rw [List.take_append_of_le_length (by simp; omega)]
    exact List.take_of_length_le (by simp; omega)
  obtain ⟨N, hN⟩ : ∃ N, N = (cur.toList.take k ++ xs.drop (k + 1) ++ cur.toList.drop (k + (m - (k + 1)))).toArray := ⟨_, rfl⟩
  have hNs : N.size = cap := by rw [hN]; simp; omega
  have hNt : N.toList.take (m - 1) = xs.eraseIdx k := by rw [hN]; exact hlist
  have Hfin : Hid ((w.drew.setRow g N).ownsRow base 34 1 (.slice (some ⟨g, 0, none⟩) (k + (m - (k + 1))) cap) (m - 1) (xs.eraseIdx k) ∧ w.grownBy (w.drew.setRow g N) (some g)) := by
    refine ⟨⟨by rw [List.length_eraseIdx_of_lt (by omega)]; omega, .inr ⟨g, cap, N, by rw [show k + (m - (k + 1)) = m - 1 from by omega], hb, setRow_heap _ _ _ _ _ _ s4, by omega, hcm, by rw [hNs, Nat.mul_one], by rw [Nat.mul_one]; exact hNt⟩⟩, ⟨rfl, rfl, rfl, by simp, fun j _ hne => ?_⟩⟩
    exact setRow_other _ _ _ _ (fun e => hne (by rw [e]))
  have HN := Lib.hid (show N = (cur.toList.take k ++ (xs.drop (k + 1) ++ cur.toList.drop (k + (m - (k + 1))))).toArray by rw [hN, List.append_assoc])
  have hwr : IntKind.i64.wrap ((k : Int) + 1) = (k : Int) + 1 := by rw [IntKind.wrap_i64]; omega
  have hp0 : (0 : Int) ≤ (k : Int) + 1 := by omega
  have hp1 : (k : Int) + 1 ≤ (m : Int) := by omega
  have hp2 : ((k : Int) + 1).toNat = k + 1 := by omega
  have HDL := Lib.hid hdl
  clear hgg hcs htk hxl hlist hN hNs hNt hown h1c hdl
  go_enter Try.func55, Try.ntmps55
  go_wp2_with fail
  go_region_law (refine step_append_row rfl (.tmp 7) (.tmp 11) 64 rfl 34 i0 Try.underlying64 hi0 hz1 g k cap cur s4.out (by simp [Act.eval, Act.put]) A (m - (k + 1)) (cap - (k + 1)) (xs.drop (k + 1)) (by simp [Act.eval, Act.put]) HDL.out hnews.out s2.out (by omega) hsz ?_)
  all_goals
    rw [← HN.out]
    go_wp2
    go_ret
    exact ⟨_, rfl, rfl, Hfin.out.1, Hfin.out.2⟩
end Go.Proofs.Ytceppcmcokkkoaa
