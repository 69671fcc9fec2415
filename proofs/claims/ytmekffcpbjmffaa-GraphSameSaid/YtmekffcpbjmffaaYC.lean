/- Arrays of three that came in by value, opened; an append of ints as one step of a drawn region. -/
import Derived.Test.YtmekffcpbjmffaaYB
import Derived.Test.YtmekffcpbjmffaaO
namespace Go.Proofs.Ytmekffcpbjmffaa
open Go.ChangeShapes Go.WideShapes Go.ChangeAt Go.RowKit
section
variable {H : Type} {enc : TypeId × Value → H} {w : World}

theorem okWide_arr {P : Program} {r : Reach} {b0 : Nat} {t e : TypeId} {n : Nat} {v : Value} (ht : P.underlying t = some (.array n e)) (h : Value.okWide P w r b0 t v) : ∃ cs, v = .agg cs ∧ cs.size = P.cellsOf t := by
  simp only [Value.okWide, ht] at h
  obtain ⟨cs, h1, h2, _⟩ := h
  exact ⟨cs, h1, h2⟩
theorem open_three {base : Nat} {r : Reach} {b0 : Nat} {v : Value} {d : DataW H} {p : List MemPlace} {held : TypeId → Bool} {k : Bool}
    (hv : Value.okWide Try.prog w r b0 38 v) (h : DataW.Trod enc Try.prog w base held k 38 v d p) :
    ∃ x y z : Int, v = .agg #[.int .i64 x, .int .i64 y, .int .i64 z] ∧ (Lit.int .i64 x).wf = true ∧ (Lit.int .i64 y).wf = true ∧ (Lit.int .i64 z).wf = true := by
  have hC : Try.prog.cellsOf 38 = 3 := by kernel_rfl
  obtain ⟨cs, rfl, hsz⟩ := okWide_arr Try.underlying38 hv
  rw [hC] at hsz
  obtain ⟨fuel, hf⟩ := h
  obtain ⟨xs, m, _, _, hlen, hxl, hi⟩ := DataW.trod_array Try.underlying38 hf
  have h3 : Try.prog.cellsOf 3 = 1 := by kernel_rfl
  rw [h3] at hi
  obtain ⟨c0, c1, c2, rfl⟩ : ∃ c0 c1 c2, cs = #[c0, c1, c2] := by
    match cs, hsz with
    | ⟨[c0, c1, c2]⟩, _ => exact ⟨c0, c1, c2, rfl⟩
  have i0 := hi 0 (by decide)
  have i1 := hi 1 (by decide)
  have i2 := hi 2 (by decide)
  match xs, hxl with
  | [y0, y1, y2], _ =>
    simp [Value.cells] at i0 i1 i2
    obtain ⟨x, e0, _, wx⟩ := DataW.trod_int Try.underlying3 i0
    obtain ⟨y, e1, _, wy⟩ := DataW.trod_int Try.underlying3 i1
    obtain ⟨z, e2, _, wz⟩ := DataW.trod_int Try.underlying3 i2
    simp at e0 e1 e2
    subst e0 e1 e2
    exact ⟨x, y, z, rfl, wx, wy, wz⟩
theorem open_row_cell {fuel : Nat} {base : Nat} {k : Bool} {c : Value} {x : DataW H × List MemPlace} (hf : DataW.trod enc Try.prog w base (fun _ => true) k fuel 23 [c] = some x) :
    ∃ a len cap zs, c = .slice a len cap ∧ IsRow .i64 w a len cap zs := by
  rcases open_ints Try.underlying23 Try.underlying3 (by kernel_rfl) hf with ⟨hcs, _⟩ | ⟨y, l, c', zs, hcs, _, hl, hm, hz, _, hcell, hwz⟩
  · simp at hcs
    subst hcs
    exact ⟨none, 0, 0, [], rfl, .inl ⟨rfl, rfl, rfl, rfl⟩⟩
  · simp at hcs
    subst hcs
    exact ⟨_, _, _, zs, rfl, .inr ⟨_, rfl, hl, hm, by simpa using hz, hcell, hwz⟩⟩
theorem open_three_rows {r : Reach} {b0 base : Nat} {v : Value} {d : DataW H} {p : List MemPlace} {k : Bool}
    (hv : Value.okWide Try.prog w r b0 40 v) (h : DataW.Trod enc Try.prog w base (fun _ => true) k 40 v d p) :
    ∃ a0 l0 c0 z0 a1 l1 c1 z1 a2 l2 c2 z2, v = .agg #[.slice a0 l0 c0, .slice a1 l1 c1, .slice a2 l2 c2] ∧ IsRow .i64 w a0 l0 c0 z0 ∧ IsRow .i64 w a1 l1 c1 z1 ∧ IsRow .i64 w a2 l2 c2 z2 := by
  have hC : Try.prog.cellsOf 40 = 3 := by kernel_rfl
  obtain ⟨cs, rfl, hsz⟩ := okWide_arr Try.underlying40 hv
  rw [hC] at hsz
  obtain ⟨fuel, hf⟩ := h
  obtain ⟨xs, m, _, _, hlen, hxl, hi⟩ := DataW.trod_array Try.underlying40 hf
  have h3 : Try.prog.cellsOf 23 = 1 := by kernel_rfl
  rw [h3] at hi
  obtain ⟨c0, c1, c2, rfl⟩ : ∃ c0 c1 c2, cs = #[c0, c1, c2] := by
    match cs, hsz with
    | ⟨[c0, c1, c2]⟩, _ => exact ⟨c0, c1, c2, rfl⟩
  have i0 := hi 0 (by decide)
  have i1 := hi 1 (by decide)
  have i2 := hi 2 (by decide)
  match xs, hxl with
  | [y0, y1, y2], _ =>
    simp [Value.cells] at i0 i1 i2
    obtain ⟨a0, l0, k0, z0, rfl, w0⟩ := open_row_cell i0
    obtain ⟨a1, l1, k1, z1, rfl, w1⟩ := open_row_cell i1
    obtain ⟨a2, l2, k2, z2, rfl, w2⟩ := open_row_cell i2
    exact ⟨a0, l0, k0, z0, a1, l1, k1, z1, a2, l2, k2, z2, rfl, w0, w1, w2⟩
end

/-- 'append(s, b...)' as one operation -/
theorem wp_append_ints {w : World} {o : Oper} {a : Act} {K : Act → World → Prop} {Q : Exit → Act → World → Prop} (s x : Operand)
    (ho : o.op = .call { callee := .builtin .append, args := #[s, x], argTypes := #[23, 23] })
    (base : Nat) (v : Value) (n : Nat) (xs : List Value) (hs : a.eval s = v) (hown : w.ownsRow base 3 1 v n xs) (B : Nat) (A : Option Addr) (l : List Int) (c m : Nat) (hm : m = l.length) (hx : a.eval x = .slice A m c) (hb : Ints w B A l)
    (hlen : n + m ≤ 100000) (hbase : base ≤ w.heap.size)
    (h : ∀ v' w', w'.ownsRow base 3 1 v' (n + m) (xs ++ intsV l) → w.grownBy w' v.ownBlock → K (a.put o.dst v') w') : o.wp Try.prog a w K Q := by
  subst hm
  obtain ⟨i0, hi, hz0, hz1, hz2⟩ := info_parts info3
  rcases A with _ | ad
  · have hl0 : l = [] := by
      rcases Nat.eq_zero_or_pos l.length with h0 | h0
      · exact List.eq_nil_of_length_eq_zero h0
      · obtain ⟨_, _, e, _⟩ := hb h0; cases e
    subst hl0
    have hrun := run_append_nil_ints (w := w) base o.type v n xs hown c
    have hx' : a.eval x = .slice none 0 c := hx
    unfold Oper.wp
    simp [execOp, ho, resolve, invoke, builtin, hs, hx', hrun, Result.andThen]
    exact h v w (by simpa [intsV] using hown) (World.grownBy.refl w _)
  · obtain ⟨v', w', hrun, r1, r2, _⟩ := run_append_own (P := Try.prog) w base 23 o.type 3 i0 (.int .i64 0) 1 8 Try.underlying23 hi hz0 hz1 hz2 rfl (by decide) v n xs hown ad l.length c (intsV l) (by simp [intsV]) (by
      intro j u hj
      rw [intsV, List.getElem?_map] at hj
      obtain ⟨y, hy, rfl⟩ := Option.map_eq_some_iff.1 hj
      have hj' : j < l.length := by
        rcases Nat.lt_or_ge j l.length with h | h
        · exact h
        · rw [List.getElem?_eq_none h] at hy; cases hy
      obtain ⟨b, off, e, _, hc⟩ := hb.at_ hj'
      injection e with e
      subst e
      have e : (⟨b, off, none⟩ : Addr).add j = ⟨b, off + j, none⟩ := by unfold Addr.add; split <;> simp_all
      rw [e, hc, nth_lt hj']
      rw [List.getElem?_eq_getElem hj'] at hy
      injection hy with hy
      rw [hy]) (by intro u hu; obtain ⟨y, _, rfl⟩ := List.mem_map.1 hu; rfl) (by unfold maxLen; omega) (by omega) hbase
    unfold Oper.wp
    simp [execOp, ho, resolve, invoke, builtin, hs, hx, hrun, Result.andThen]
    exact h v' w' r1 r2
end Go.Proofs.Ytmekffcpbjmffaa
