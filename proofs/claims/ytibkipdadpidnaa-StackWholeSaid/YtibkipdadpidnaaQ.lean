/- meets, has, lacks, the closure of needs; IndexFunc, DeleteFunc, ContainsFunc over them. -/
import Derived.Test.YtibkipdadpidnaaP
import Derived.Deep.MidRow
import Derived.Great.BuildSlice
set_option linter.unusedVariables false
set_option linter.unusedSimpArgs false
namespace Go.Proofs.Ytibkipdadpidnaa
open Go.RowKit
open Pat (Pt AllB undoP nth)
set_option maxRecDepth 100000 in
set_option maxHeartbeats 1000000 in
theorem meets_any (q y : Ly) (w : World) (hq : ∃ v, LayAt w q v) (hy : ∃ v, LayAt w y v) (rq : q.x.p.right = true) (ry : y.x.p.right = true) : Calls Try.prog 53 #[q.ptr, y.ptr] w fun e w' => e = .returned (.bool (meetP q.x.p y.x.p)) ∧ Below w.heap.size w w' := by
  obtain ⟨v, hq⟩ := hq
  obtain ⟨vy, hy⟩ := hy
  obtain ⟨d0, d1, d2, _⟩ := hq.cells
  have hb := hq.lt
  have HO := Lib.hid (of_any y q.x.p.b vy w.drew hy)
  have HV : Hid (∀ W, Calls Try.prog 74 #[q.x.p.v, (⟨q.x.p.b, y.x.p.o, y.x.p.s⟩ : Pt).v] W fun e w' => e = .returned (.bool (meetP q.x.p y.x.p)) ∧ Below W.heap.size W w') := fun W => by
    have h := Pat.overlap_any q.x.p ⟨q.x.p.b, y.x.p.o, y.x.p.s⟩ W (Pat.ok_of rq) ⟨(Pat.ok_of rq).1, (Pat.ok_of ry).2⟩
    rwa [over_meet rq ry] at h
  have HS : Hid (∀ W, Below w.heap.size w W → W.cell? ⟨q.b, 0, none⟩ = some (.int .i64 q.x.p.b) ∧ W.cell? ⟨q.b, 1, none⟩ = some (.int .i64 q.x.p.o) ∧ W.cell? ⟨q.b, 2, none⟩ = some (.string q.x.p.s)) := fun W hW => ⟨(hW.cell (p := ⟨q.b, 0, none⟩) hb).trans d0, (hW.cell (p := ⟨q.b, 1, none⟩) hb).trans d1, (hW.cell (p := ⟨q.b, 2, none⟩) hb).trans d2⟩
  have HB0 := Lib.hid (show Below w.heap.size w w.drew from (Below.refl _ _).drew)
  generalize meetP q.x.p y.x.p = m at *
  obtain ⟨yb, yn, yo, yp, ys⟩ := y
  obtain ⟨qb, qn, pb, po, ps⟩ := q
  unfold Ly.ptr at *
  unfold Pat.Pt.v at HO HV
  simp only at *
  have X0 := Lib.hid (HS.out w.drew HB0.out)
  clear hq hy rq ry
  go_enter Try.func53, Try.ntmps53
  go_wp2_with fail
  go_region_held3 (fun W => W.cell? ⟨qb, 0, none⟩ = some (.int .i64 pb) ∧ W.cell? ⟨qb, 1, none⟩ = some (.int .i64 po) ∧ W.cell? ⟨qb, 2, none⟩ = some (.string ps))
    (first | exact X0.out | exact X1.out | exact X2.out)
    (first
      | (go_at_call 55; (with_reducible refine HO.out.mono ?_); rintro e w5 ⟨rfl, hb5⟩; have B5 := Lib.hid (Below.trans HB0.out hb5); have X1 := Lib.hid (HS.out w5 B5.out); clear hb5)
      | (go_at_call 74; (with_reducible refine (HV.out _).mono ?_); rintro e w6 ⟨rfl, hb6⟩; have B6 := Lib.hid (Below.trans B5.out (Below.mono hb6 B5.out.size)); have X2 := Lib.hid (HS.out w6 B6.out); clear hb6)
      | fail)
  all_goals
    go_wp2
    go_ret
    exact ⟨rfl, B6.out⟩
section
variable (b c : Nat) (q : Ly) (l : List Int) (w : World)
set_option maxRecDepth 100000 in
set_option maxHeartbeats 1000000 in
theorem hasS_any (h : SetAt w b c l) (hq : ∃ v, LayAt w q v) (hn : WfI q.x.n) : Calls Try.prog 43 #[.map (some b), q.ptr] w fun e w' => e = .returned (.bool (decide (q.x.n ∈ l))) ∧ Below w.heap.size w w' := by
  obtain ⟨v, hq⟩ := hq
  obtain ⟨D, h1, h2⟩ := h
  have HE : Hid (Maps.has D (.int .i64 q.x.n) = decide (q.x.n ∈ l)) := by
    unfold Hid
    have := h2 q.x.n
    by_cases e : q.x.n ∈ l
    · rw [this.2 e, decide_eq_true e]
    · rw [decide_eq_false e]
      cases z : Maps.has D (.int .i64 q.x.n) with
      | false => rfl
      | true => exact absurd (this.1 z) e
  have H1 := Lib.hid h1
  have HK := Lib.hid (keyI hn)
  have HB := Lib.hid ((Below.refl w.heap.size w).alloc (Nat.le_refl _) (.cells #[] 99))
  have d3 := hq.cells.2.2.2.1
  have hb := hq.lt
  obtain ⟨qb, y, qp⟩ := q
  unfold Ly.ptr
  simp only at *
  clear h1 h2 hn hq
  go_enter Try.func43, Try.ntmps43
  go_wp2_with (at_lookup; refine wpList_lookup_own_unit _ rfl _ _ 67 rfl 3 99 lawI Try.underlying67 (zeroU _) b c D rfl H1.out _ _ rfl HK.out ?_)
  go_ret
  exact ⟨by rw [← HE.out]; rfl, HB.out⟩
set_option maxRecDepth 100000 in
set_option maxHeartbeats 1000000 in
theorem lacks_any (h : SetAt w b c l) (hq : ∃ v, LayAt w q v) (hn : WfI q.x.n) : Calls Try.prog 66 #[.map (some b), q.ptr] w fun e w' => e = .returned (.bool (!decide (q.x.n ∈ l))) ∧ Below w.heap.size w w' := by
  have HH := Lib.hid (hasS_any b c q l w h hq hn)
  clear h hq hn
  generalize decide (q.x.n ∈ l) = m at *
  have hnot : ∀ (x : Bool) (w : World), (Op.unary .not (.bool x)).run Try.prog w = .ok (.bool (!x)) w := fun _ _ => rfl
  unfold Ly.ptr at *
  go_enter Try.func66, Try.ntmps66
  go_wp2_with (refine HH.out.mono ?_; rintro e w5 ⟨rfl, hb5⟩; have B5 := Lib.hid hb5; clear hb5)
  go_ret
  exact ⟨rfl, B5.out⟩
end
set_option maxRecDepth 100000 in
set_option maxHeartbeats 1000000 in
theorem unmet_any (cb : Nat) (q y : Ly) (w : World) (hc : w.cell? ⟨cb, 0, none⟩ = some q.ptr) (hcb : cb < w.heap.size) (hq : ∃ v, LayAt w q v) (hy : ∃ v, LayAt w y v) (rq : q.x.p.right = true) (ry : y.x.p.right = true) : Calls Try.prog 78 #[y.ptr, .pointer (some ⟨cb, 0, none⟩)] w fun e w' => e = .returned (.bool (!meetP q.x.p y.x.p)) ∧ Below w.heap.size w w' := by
  have HM := Lib.hid (meets_any q y w hq hy rq ry)
  clear hq hy rq ry
  generalize meetP q.x.p y.x.p = m at *
  unfold Ly.ptr at *
  go_enter Try.func78, Try.ntmps78
  go_wp2_with (refine HM.out.mono ?_; rintro e w5 ⟨rfl, hb5⟩; have B5 := Lib.hid hb5; clear hb5)
  go_ret
  exact ⟨rfl, B5.out⟩
def idxF {α : Type} (f : α → Bool) (l : List α) : Int := if l.any f then (l.findIdx f : Int) else -1
theorem idxL_at {f : Ly → Bool} {l : List Ly} {k : Nat} (hk : k < l.length) (h1 : ∀ j, j < k → f (lyn l j) = false) (h2 : f (lyn l k) = true) : l.any f = true ∧ l.findIdx f = k := by
  rw [lyn_lt hk] at h2
  refine ⟨List.any_eq_true.2 ⟨_, List.getElem_mem hk, h2⟩, ?_⟩
  rw [List.findIdx_eq hk]
  refine ⟨h2, fun j hj => ?_⟩
  have := h1 j hj
  rw [lyn_lt (by omega)] at this
  exact this
theorem idxL_none {f : Ly → Bool} {l : List Ly} (h1 : ∀ j, j < l.length → f (lyn l j) = false) : l.any f = false := by
  rw [List.any_eq_false]
  intro x hx
  obtain ⟨j, hj, rfl⟩ := mem_lyn hx
  rw [h1 j hj]; decide
theorem find_of_any {α : Type} {f : α → Bool} {l : List α} (h : l.any f = true) : l.findIdx f < l.length := by
  obtain ⟨x, hx, e⟩ := List.any_eq_true.1 h
  exact List.findIdx_lt_length_of_exists ⟨x, hx, e⟩
theorem filterL_step (g : Ly → Bool) (l : List Ly) {k : Nat} (h : k < l.length) : (l.take (k + 1)).filter g = if g (lyn l k) = true then (l.take k).filter g ++ [lyn l k] else (l.take k).filter g := by
  rw [take_lyn h, List.filter_append]
  by_cases q : g (lyn l k) = true
  · rw [if_pos q, List.filter_cons_of_pos q]; rfl
  · rw [if_neg q, List.filter_cons_of_neg (by simpa using q)]; simp
theorem zeroP_one : ∀ u ∈ (Value.pointer none).cells.toList, u.oneCell' = true := by simp [Value.cells, Value.oneCell']
section
variable {P : Program} {ops : Array Oper} {o : Oper} {a : Act} {w : World}
theorem zeros_one (z : Array Value) (n : Nat) (hz : ∀ u ∈ z.toList, u.oneCell' = true) : ∀ u ∈ (Builtin.zeroCells z n).toList, u.oneCell' = true := by
  intro u hu
  simp only [Builtin.zeroCells, Array.toList_map, List.mem_map] at hu
  obtain ⟨i, hi, rfl⟩ := hu
  have hi' : i < n * z.size := by simpa using hi
  have hp : 0 < z.size := Nat.pos_of_ne_zero (fun q => by rw [q] at hi'; simp at hi')
  have hm := Nat.mod_lt i hp
  rw [getElem!_pos z (i % z.size) hm]
  exact hz _ (Array.getElem_mem_toList hm)
/-- clear behind the elements of a row -/
theorem run_clear_own (w : World) (B : Nat) (t ty e : TypeId) (i : TypeInfo) (z : Value) (size : Nat) (ht : P.underlying t = some (.slice e)) (hi : P.info? e = some i) (hz : i.zero = some z) (hzs : z.cells.size = size) (h1 : ∀ u ∈ z.cells.toList, u.oneCell' = true)
    (g n cap m c off : Nat) (xs : List Value) (hown : w.ownsRow B e size (.slice (some ⟨g, 0, none⟩) n cap) n xs) (hroom : n + (m + 1) ≤ cap) (hoff : off = n * size) :
    ∃ w', (Builtin.clear_ #[t] ty #[.slice (some ⟨g, off, none⟩) (m + 1) c]).run P w = .ok (.tuple #[]) w' ∧ w'.ownsRow B e size (.slice (some ⟨g, 0, none⟩) n cap) n xs ∧ w.grownBy w' (some g) := by
  subst hzs
  rcases hown.2 with ⟨q, _⟩ | ⟨g', c', cur, q, hB, hg, r1, r2, r3, r4⟩
  · cases q
  · cases q
    have hzl : (Builtin.zeroCells z.cells (m + 1)).toList.length = (m + 1) * z.cells.size := by rw [Array.length_toList, size_zeroCells]
    have hfit : off + 0 + (Builtin.zeroCells z.cells (m + 1)).toList.length ≤ cur.size := by
      rw [hzl, r3, hoff, Nat.add_zero, ← Nat.add_mul]
      exact Nat.mul_le_mul_right _ hroom
    have hst := run_storeCells_at P g off e (Builtin.zeroCells z.cells (m + 1)).toList 0 cur w hg hfit (zeros_one _ _ h1)
    obtain ⟨N, hN⟩ : ∃ N : Array Value, N = (List.take (off + 0) cur.toList ++ (Builtin.zeroCells z.cells (m + 1)).toList ++ List.drop (off + 0 + (Builtin.zeroCells z.cells (m + 1)).toList.length) cur.toList).toArray := ⟨_, rfl⟩
    rw [← hN] at hst
    have hzv : (zeroValue e).run P w = .ok z w := by simp [zeroValue, typeInfo, hi, hz]
    refine ⟨w.setRow g N, ?_, ⟨hown.1, .inr ⟨g, cap, N, rfl, hB, setRow_heap w g cur N e (0, 0) hg, r1, r2, ?_, ?_⟩⟩, ⟨rfl, rfl, rfl, by simp, fun k _ hk => setRow_other w g k _ (fun e => hk (by simp [e]))⟩⟩
    · clear hN
      simp [Builtin.clear_, run_underlying ht, hzv, hst]
    · rw [hN]
      simp only [Nat.add_zero] at hfit ⊢
      simp only [List.size_toArray, List.length_append, List.length_take, List.length_drop, Array.length_toList] at hfit ⊢
      omega
    · rw [← r4, hN]
      simp only [Nat.add_zero]
      simp only [Array.length_toList] at hfit hzl
      rw [List.append_assoc, List.take_append_of_le_length (by rw [List.length_take, Array.length_toList]; omega), List.take_take]
      congr 1; omega
theorem wpList_clear_own {rest : List Oper} {Q : Exit → Act → World → Prop} (hgd : o.guard = none) (s : Operand) (t : TypeId) (ho : o.op = .call { callee := .builtin .clear, args := #[s], argTypes := #[t] })
    (B : Nat) (e : TypeId) (i : TypeInfo) (z : Value) (size : Nat) (ht : P.underlying t = some (.slice e)) (hi : P.info? e = some i) (hz : i.zero = some z) (hzs : z.cells.size = size) (h1 : ∀ u ∈ z.cells.toList, u.oneCell' = true)
    (g n cap m c off : Nat) (xs : List Value) (hs : a.eval s = .slice (some ⟨g, off, none⟩) (m + 1) c) (hown : w.ownsRow B e size (.slice (some ⟨g, 0, none⟩) n cap) n xs) (hroom : n + (m + 1) ≤ cap) (hoff : off = n * size)
    (h : ∀ w', w'.ownsRow B e size (.slice (some ⟨g, 0, none⟩) n cap) n xs → w.grownBy w' (some g) → wpList P ops Q rest (a.put o.dst (.tuple #[])) w') : wpList P ops Q (o :: rest) a w := by
  refine wpList_plain hgd fun K hK => ?_
  obtain ⟨w', hrun, r1, r2⟩ := run_clear_own (P := P) w B t o.type e i z size ht hi hz hzs h1 g n cap m c off xs hown hroom hoff
  unfold Oper.wp
  simp [execOp, ho, resolve, invoke, builtin, hs, hrun, Result.andThen]
  exact hK _ _ (h w' r1 r2)
end

theorem own_take {w : World} {B size : Nat} {E : TypeId} {b cap n : Nat} {xs : List Value} (h : w.ownsRow B E size (.slice (some ⟨b, 0, none⟩) n cap) n xs) {i : Nat} (hi : i ≤ n) :
    w.ownsRow B E size (.slice (some ⟨b, 0, none⟩) i cap) i (xs.take (i * size)) := by
  rcases h.2 with ⟨q, _⟩ | ⟨g, c, cur, q, hB, hg, h1, h2, h3, h4⟩
  · cases q
  · cases q
    refine ⟨by rw [List.length_take, h.1, Nat.min_eq_left]; exact Nat.mul_le_mul_right _ hi, .inr ⟨b, cap, cur, rfl, hB, hg, by omega, h2, h3, ?_⟩⟩
    rw [← h4, List.take_take, Nat.min_eq_left (Nat.mul_le_mul_right _ hi)]
set_option maxRecDepth 100000 in
set_option maxHeartbeats 1000000 in
theorem index_unmet (B : Nat) (A : Option Addr) (c : Nat) (l : List Ly) (cb : Nat) (f : Ly → Bool) (w : World) (hR : RowP w B A c l) (hl : l.length ≤ 1000)
    (hF : ∀ (q : Ly) W, q ∈ l → Below w.heap.size w W → Calls Try.prog 78 #[q.ptr, .pointer (some ⟨cb, 0, none⟩)] W fun e w' => e = .returned (.bool (f q)) ∧ Below W.heap.size W w') :
    Calls Try.prog 77 #[.slice A l.length c, .func (.func 78) #[] #[.pointer (some ⟨cb, 0, none⟩)]] w fun e w' => e = .returned (.int .i64 (idxF f l)) ∧ Below w.heap.size w w' := by
  have HR := Lib.hid hR
  have HF := Lib.hid hF
  have hcap := (own_cap hR)
  unfold maxLen at hcap
  clear hR hF
  go_enter Try.func77, Try.ntmps77
  go_wp2
  go_loopw [8] (fun q wr => ∃ k : Nat, k ≤ l.length ∧ q = .int .i64 k ∧ Below w.heap.size w wr ∧ Hid (∀ j, j < k → f (lyn l j) = false)) (fun q _ => l.length - (intOf q).toNat)
  case atStart => exact ⟨0, Nat.zero_le _, rfl, Below.refl _ _, fun j hj => absurd hj (by omega)⟩
  case round =>
    obtain ⟨k, hk, rfl, hB, hno⟩ := hrel
    rename World => wr
    have HB := Lib.hid hB
    clear hB
    by_cases hlt : k < l.length
    · have hlti : (k : Int) < (l.length : Int) := by omega
      have hk0 : (0 : Int) ≤ (k : Int) := by omega
      obtain ⟨ab, hA, hb, _, _, c0⟩ := ((show RowP w B A c l from HR.out).fresh HB.out).at_ hlt
      subst hA
      have HE := Lib.hid (fun W => HF.out (lyn l k) W (lyn_mem hlt))
      cases ht : f (lyn l k) with
      | true =>
        have Hf : Hid (idxF f l = (k : Int)) := by
          obtain ⟨h1, h2⟩ := idxL_at hlt hno.out ht
          unfold Hid idxF; rw [h1, h2]; rfl
        rw [ht] at HE
        clear ht
        generalize lyn l k = r at c0 HE
        unfold Ly.ptr at c0 HE
        go_wp2_with (refine (HE.out _ HB.out).mono ?_; rintro e w1 ⟨rfl, hb1⟩; have HB1 := Lib.hid hb1; clear hb1)
        go_ret
        rw [Hf.out]
        exact ⟨rfl, HB.out.trans (HB1.out.mono HB.out.size)⟩
      | false =>
        have Hn : Hid (∀ j, j < k + 1 → f (lyn l j) = false) := fun j hj => by
          rcases Nat.lt_or_ge j k with h | h
          · exact hno.out j h
          · obtain rfl : j = k := by omega
            exact ht
        rw [ht] at HE
        clear ht
        generalize lyn l k = r at c0 HE
        unfold Ly.ptr at c0 HE
        go_wp2_with (refine (HE.out _ HB.out).mono ?_; rintro e w1 ⟨rfl, hb1⟩; have HB1 := Lib.hid hb1; clear hb1)
        go_roundw
        case rel => exact ⟨k + 1, by omega, by go_num, HB.out.trans (HB1.out.mono HB.out.size), Hn.out⟩
        case measure => simp [intOf]; omega
    · obtain rfl : k = l.length := by omega
      have hlti : ¬ (l.length : Int) < (l.length : Int) := by omega
      have Hf : Hid (idxF f l = -1) := by
        unfold Hid idxF; rw [idxL_none hno.out]; rfl
      go_wp2
      go_ret
      rw [Hf.out]
      exact ⟨rfl, HB.out⟩
set_option maxRecDepth 100000 in
set_option maxHeartbeats 1000000 in
theorem index_has (B : Nat) (A : Option Addr) (c : Nat) (l : List Ly) (cb : Nat) (f : Ly → Bool) (w : World) (hR : RowP w B A c l) (hl : l.length ≤ 1000)
    (hF : ∀ (q : Ly) W, q ∈ l → Below w.heap.size w W → Calls Try.prog 43 #[.map (some cb), q.ptr] W fun e w' => e = .returned (.bool (f q)) ∧ Below W.heap.size W w') :
    Calls Try.prog 77 #[.slice A l.length c, .func (.func 43) #[.map (some cb)] #[]] w fun e w' => e = .returned (.int .i64 (idxF f l)) ∧ Below w.heap.size w w' := by
  have HR := Lib.hid hR
  have HF := Lib.hid hF
  have hcap := (own_cap hR)
  unfold maxLen at hcap
  clear hR hF
  go_enter Try.func77, Try.ntmps77
  go_wp2
  go_loopw [8] (fun q wr => ∃ k : Nat, k ≤ l.length ∧ q = .int .i64 k ∧ Below w.heap.size w wr ∧ Hid (∀ j, j < k → f (lyn l j) = false)) (fun q _ => l.length - (intOf q).toNat)
  case atStart => exact ⟨0, Nat.zero_le _, rfl, Below.refl _ _, fun j hj => absurd hj (by omega)⟩
  case round =>
    obtain ⟨k, hk, rfl, hB, hno⟩ := hrel
    rename World => wr
    have HB := Lib.hid hB
    clear hB
    by_cases hlt : k < l.length
    · have hlti : (k : Int) < (l.length : Int) := by omega
      have hk0 : (0 : Int) ≤ (k : Int) := by omega
      obtain ⟨ab, hA, hb, _, _, c0⟩ := ((show RowP w B A c l from HR.out).fresh HB.out).at_ hlt
      subst hA
      have HE := Lib.hid (fun W => HF.out (lyn l k) W (lyn_mem hlt))
      cases ht : f (lyn l k) with
      | true =>
        have Hf : Hid (idxF f l = (k : Int)) := by
          obtain ⟨h1, h2⟩ := idxL_at hlt hno.out ht
          unfold Hid idxF; rw [h1, h2]; rfl
        rw [ht] at HE
        clear ht
        generalize lyn l k = r at c0 HE
        unfold Ly.ptr at c0 HE
        go_wp2_with (refine (HE.out _ HB.out).mono ?_; rintro e w1 ⟨rfl, hb1⟩; have HB1 := Lib.hid hb1; clear hb1)
        go_ret
        rw [Hf.out]
        exact ⟨rfl, HB.out.trans (HB1.out.mono HB.out.size)⟩
      | false =>
        have Hn : Hid (∀ j, j < k + 1 → f (lyn l j) = false) := fun j hj => by
          rcases Nat.lt_or_ge j k with h | h
          · exact hno.out j h
          · obtain rfl : j = k := by omega
            exact ht
        rw [ht] at HE
        clear ht
        generalize lyn l k = r at c0 HE
        unfold Ly.ptr at c0 HE
        go_wp2_with (refine (HE.out _ HB.out).mono ?_; rintro e w1 ⟨rfl, hb1⟩; have HB1 := Lib.hid hb1; clear hb1)
        go_roundw
        case rel => exact ⟨k + 1, by omega, by go_num, HB.out.trans (HB1.out.mono HB.out.size), Hn.out⟩
        case measure => simp [intOf]; omega
    · obtain rfl : k = l.length := by omega
      have hlti : ¬ (l.length : Int) < (l.length : Int) := by omega
      have Hf : Hid (idxF f l = -1) := by
        unfold Hid idxF; rw [idxL_none hno.out]; rfl
      go_wp2
      go_ret
      rw [Hf.out]
      exact ⟨rfl, HB.out⟩
set_option maxRecDepth 100000 in
set_option maxHeartbeats 1000000 in
theorem index_lacks (B : Nat) (A : Option Addr) (c : Nat) (l : List Ly) (cb : Nat) (f : Ly → Bool) (w : World) (hR : RowP w B A c l) (hl : l.length ≤ 1000)
    (hF : ∀ (q : Ly) W, q ∈ l → Below w.heap.size w W → Calls Try.prog 66 #[.map (some cb), q.ptr] W fun e w' => e = .returned (.bool (f q)) ∧ Below W.heap.size W w') :
    Calls Try.prog 77 #[.slice A l.length c, .func (.func 66) #[.map (some cb)] #[]] w fun e w' => e = .returned (.int .i64 (idxF f l)) ∧ Below w.heap.size w w' := by
  have HR := Lib.hid hR
  have HF := Lib.hid hF
  have hcap := (own_cap hR)
  unfold maxLen at hcap
  clear hR hF
  go_enter Try.func77, Try.ntmps77
  go_wp2
  go_loopw [8] (fun q wr => ∃ k : Nat, k ≤ l.length ∧ q = .int .i64 k ∧ Below w.heap.size w wr ∧ Hid (∀ j, j < k → f (lyn l j) = false)) (fun q _ => l.length - (intOf q).toNat)
  case atStart => exact ⟨0, Nat.zero_le _, rfl, Below.refl _ _, fun j hj => absurd hj (by omega)⟩
  case round =>
    obtain ⟨k, hk, rfl, hB, hno⟩ := hrel
    rename World => wr
    have HB := Lib.hid hB
    clear hB
    by_cases hlt : k < l.length
    · have hlti : (k : Int) < (l.length : Int) := by omega
      have hk0 : (0 : Int) ≤ (k : Int) := by omega
      obtain ⟨ab, hA, hb, _, _, c0⟩ := ((show RowP w B A c l from HR.out).fresh HB.out).at_ hlt
      subst hA
      have HE := Lib.hid (fun W => HF.out (lyn l k) W (lyn_mem hlt))
      cases ht : f (lyn l k) with
      | true =>
        have Hf : Hid (idxF f l = (k : Int)) := by
          obtain ⟨h1, h2⟩ := idxL_at hlt hno.out ht
          unfold Hid idxF; rw [h1, h2]; rfl
        rw [ht] at HE
        clear ht
        generalize lyn l k = r at c0 HE
        unfold Ly.ptr at c0 HE
        go_wp2_with (refine (HE.out _ HB.out).mono ?_; rintro e w1 ⟨rfl, hb1⟩; have HB1 := Lib.hid hb1; clear hb1)
        go_ret
        rw [Hf.out]
        exact ⟨rfl, HB.out.trans (HB1.out.mono HB.out.size)⟩
      | false =>
        have Hn : Hid (∀ j, j < k + 1 → f (lyn l j) = false) := fun j hj => by
          rcases Nat.lt_or_ge j k with h | h
          · exact hno.out j h
          · obtain rfl : j = k := by omega
            exact ht
        rw [ht] at HE
        clear ht
        generalize lyn l k = r at c0 HE
        unfold Ly.ptr at c0 HE
        go_wp2_with (refine (HE.out _ HB.out).mono ?_; rintro e w1 ⟨rfl, hb1⟩; have HB1 := Lib.hid hb1; clear hb1)
        go_roundw
        case rel => exact ⟨k + 1, by omega, by go_num, HB.out.trans (HB1.out.mono HB.out.size), Hn.out⟩
        case measure => simp [intOf]; omega
    · obtain rfl : k = l.length := by omega
      have hlti : ¬ (l.length : Int) < (l.length : Int) := by omega
      have Hf : Hid (idxF f l = -1) := by
        unfold Hid idxF; rw [idxL_none hno.out]; rfl
      go_wp2
      go_ret
      rw [Hf.out]
      exact ⟨rfl, HB.out⟩
set_option maxRecDepth 100000 in
set_option maxHeartbeats 4000000 in
theorem delete_unmet (B : Nat) (A : Option Addr) (c : Nat) (l : List Ly) (cb : Nat) (f : Ly → Bool) (w : World) (hR : RowP w B A c l) (hl : l.length ≤ 1000)
    (hF : ∀ (r : Ly) W, r ∈ l → Kept w W (fun b => own A = some b) → Calls Try.prog 78 #[r.ptr, .pointer (some ⟨cb, 0, none⟩)] W fun e w' => e = .returned (.bool (f r)) ∧ Below W.heap.size W w') :
    Calls Try.prog 57 #[.slice A l.length c, .func (.func 78) #[] #[.pointer (some ⟨cb, 0, none⟩)]] w fun e w' => e = .returned (.slice A (l.filter (fun r => !f r)).length c) ∧ RowP w' B A c (l.filter (fun r => !f r)) ∧ Kept w w' (fun b => own A = some b) := by
  have HI := Lib.hid (index_unmet B A c l cb f w hR hl (fun r W hr hW => hF r W hr (Kept.fresh hW)))
  have HR := Lib.hid hR
  have HF := Lib.hid hF
  have hcap := own_cap hR
  clear hF
  cases ha : l.any f with
  | false =>
    have Hn : Hid (l.filter (fun r => !f r) = l) := by
      unfold Hid
      rw [List.filter_eq_self]
      intro x hx
      have := List.any_eq_false.1 ha x hx
      simpa using this
    have hr : idxF f l = -1 := by unfold idxF; rw [ha]; rfl
    rw [hr] at HI
    clear ha hr hR hcap
    go_enter Try.func57, Try.ntmps57
    go_wp2_with (refine HI.out.mono ?_; rintro e w1 ⟨rfl, hb1⟩; have HB1 := Lib.hid hb1; clear hb1)
    go_ret
    rw [Hn.out]
    exact ⟨rfl, (show RowP w B A c l from HR.out).fresh HB1.out, Kept.fresh HB1.out⟩
  | true =>
    obtain ⟨ff, hf⟩ : ∃ ff, ff = l.findIdx f := ⟨_, rfl⟩
    have hr : idxF f l = (ff : Int) := by unfold idxF; rw [ha, hf]; rfl
    have hfl : ff < l.length := by rw [hf]; exact find_of_any ha
    have hfw : f (lyn l ff) = true := by
      have h := List.findIdx_getElem (p := f) (xs := l) (w := by rw [← hf]; exact hfl)
      rw [lyn_lt hfl]
      simp only [hf] at h ⊢
      exact h
    have hfn : ∀ j, j < ff → f (lyn l j) = false := fun j hj => by
      have h := List.not_of_lt_findIdx (p := f) (xs := l) (i := j) (by rw [← hf]; exact hj)
      rw [lyn_lt (by omega)]
      simpa using h
    have Hf0 : Hid ((l.take (ff + 1)).filter (fun r => !f r) = l.take ff) := by
      unfold Hid
      rw [take_lyn hfl, List.filter_append, List.filter_cons, if_neg (by rw [hfw]; decide), List.filter_nil, List.append_nil, List.filter_eq_self]
      intro x hx
      obtain ⟨j, hj, rfl⟩ := mem_lyn hx
      rw [List.length_take] at hj
      rw [lyn_take (by omega), hfn j (by omega)]; rfl
    rw [hr] at HI
    have hown := hR
    obtain ⟨ab, hA, hb, hbB⟩ : ∃ ab, A = some ⟨ab, 0, none⟩ ∧ ab < w.heap.size ∧ B ≤ ab := by
      obtain ⟨b, cap, q, hB, hb⟩ := hR.form (by omega)
      exact ⟨b, (Value.slice.inj q).1, by assumption, by assumption⟩
    subst hA
    have HO : Hid (w.ownsRow B 75 1 (.slice (some ⟨ab, 0, none⟩) l.length c) l.length (ptrV l)) := Lib.hid hown
    obtain ⟨nn, hnn⟩ : ∃ nn, nn = l.length := ⟨_, rfl⟩
    have Hnn := Lib.hid hnn
    rw [← hnn] at hl hfl HI HO hcap ⊢
    obtain ⟨i0, hi0, hz0, hz1, hz2⟩ := info_parts infoP
    have hcm : c ≤ 9223372036854775807 := by have := hcap.2; unfold maxLen at this; omega
    clear ha hf hr hfw hfn hR hown hnn
    have hcap0 := hcap.1
    clear hcap
    have hf0 : (0 : Int) ≤ (ff : Int) := by omega
    go_enter Try.func57, Try.ntmps57
    go_wp2_with (refine HI.out.mono ?_; rintro e w1 ⟨rfl, hb1⟩; have HB1 := Lib.hid hb1; clear hb1)
    have hfe : ((ff : Int) == -1) = false := by rw [beq_eq_false_iff_ne]; omega
    rw [hfe]
    clear hfe
    go_loopw [5, 6] (fun p q wr => ∃ (i j : Nat) (m : List Ly), p = .int .i64 i ∧ q = .int .i64 j ∧ i < j ∧ j ≤ nn ∧ m.length = nn ∧ Hid (wr.ownsRow B 75 1 (.slice (some ⟨ab, 0, none⟩) nn c) nn (ptrV m)) ∧ Hid (m.take i = (l.take j).filter (fun r => !f r)) ∧ Hid (m.drop j = l.drop j) ∧ Hid (Kept w wr (fun b => own (some (⟨ab, 0, none⟩ : Addr)) = some b))) (fun _ q _ => nn - (intOf q).toNat)
    case atStart => exact ⟨ff, ff + 1, l, rfl, by simp, by omega, by omega, Hnn.out.symm, (Kept.fresh (S := fun _ => False) HB1.out).row HO.out (fun _ _ q => q), Hf0.out.symm, rfl, Kept.fresh HB1.out⟩
    case round =>
      obtain ⟨i, j, m, rfl, rfl, hij, hj, hml, hrow, hpre, hsuf, hK⟩ := hrel
      rename World => wr
      have Hml := Lib.hid hml
      by_cases hlt : j < nn
      · have hlti : (j : Int) < (nn : Int) := by omega
        have hj0 : (0 : Int) ≤ (j : Int) := by omega
        have hi1 : (i : Int) < (nn : Int) := by omega
        have hi2 : (0 : Int) ≤ (i : Int) := by omega
        have hjl : j < l.length := by rw [← Hnn.out]; exact hlt
        have hbr : ab < wr.heap.size := (hrow.out.lt ab rfl).2
        have c0 : wr.cell? ⟨ab, j, none⟩ = some (lyn l j).ptr := by
          rw [hrow.out.cellAt j (by omega), ptrV_at (by rw [Hml.out]; exact hlt), lyn_drop hsuf.out hjl (by rw [Hml.out, Hnn.out])]
        have d0 : wr.cell? ⟨ab, i, none⟩ = some (lyn m i).ptr := by
          rw [hrow.out.cellAt i (by omega), ptrV_at (by rw [Hml.out]; omega)]
        have f0 : wr.frozen? ⟨ab, i, none⟩ = false := hrow.out.frozenAt _
        have HE := Lib.hid (fun W => HF.out (lyn l j) W (lyn_mem hjl))
        have Hst := Lib.hid (show (l.take (j + 1)).filter (fun r => !f r) = if (!f (lyn l j)) = true then (l.take j).filter (fun r => !f r) ++ [lyn l j] else (l.take j).filter (fun r => !f r) from filterL_step (fun r => !f r) _ hjl)
        clear hml
        cases ht : f (lyn l j) with
        | true =>
          rw [ht] at HE
          have Hp2 : Hid ((l.take (j + 1)).filter (fun r => !f r) = (l.take j).filter (fun r => !f r)) := by unfold Hid; rw [Hst.out, ht]; rfl
          have Hs2 : Hid (m.drop (j + 1) = l.drop (j + 1)) := by
            have := congrArg (List.drop 1) hsuf.out
            simp [List.drop_drop, Nat.add_comm] at this ⊢
            exact this
          clear ht Hst
          generalize lyn l j = x at c0 HE
          unfold Ly.ptr at c0 HE d0
          go_wp2_with ((refine (HE.out _ hK.out).mono ?_); rintro e w2 ⟨rfl, hb2⟩; have HB2 := Lib.hid hb2; clear hb2)
          go_roundw
          case rel => exact ⟨i, j + 1, m, rfl, by go_num, by omega, by omega, Hml.out, (Kept.fresh (S := fun _ => False) HB2.out).row hrow.out (fun _ _ q => q), by unfold Hid; rw [Hp2.out]; exact hpre.out, Hs2.out, hK.out.trans (Kept.fresh (S := fun b => own (some (⟨ab, 0, none⟩ : Addr)) = some b) HB2.out) (fun b q => .inl q)⟩
          case measure => simp [intOf]; omega
        | false =>
          rw [ht] at HE
          obtain ⟨x, hx⟩ : ∃ x, x = lyn l j := ⟨_, rfl⟩
          have Hp2 : Hid ((m.set i x).take (i + 1) = (l.take (j + 1)).filter (fun r => !f r)) := by
            unfold Hid
            rw [Hst.out, if_pos (by rw [ht]; rfl), ← hx, List.take_succ_eq_append_getElem (by rw [List.length_set, Hml.out]; omega), List.getElem_set_self, List.take_set_of_le (Nat.le_refl _), hpre.out]
          have Hs2 : Hid ((m.set i x).drop (j + 1) = l.drop (j + 1)) := by
            unfold Hid
            rw [List.drop_set_of_lt (by omega)]
            have := congrArg (List.drop 1) hsuf.out
            simpa [List.drop_drop, Nat.add_comm] using this
          have Hput : Hid ((ptrV m).set i x.ptr = ptrV (m.set i x)) := by unfold Hid ptrV; rw [List.map_set]
          rw [← hx] at c0 HE
          clear ht Hst hx
          unfold Ly.ptr at c0 HE d0 Hput
          go_wp2_with ((refine (HE.out _ hK.out).mono ?_); rintro e w2 ⟨rfl, hb2⟩; have d1 := (hb2.cell (p := ⟨ab, i, none⟩) hbr).trans d0; have f1 := (hb2.frozen (p := ⟨ab, i, none⟩) hbr).trans f0; have hsc := ((Kept.fresh (S := fun _ => False) hb2).row hrow.out (fun _ _ q => q)).stored i (.pointer (some ⟨x.b, 0, none⟩)); have HSC := Lib.hid hsc; have HB2 := Lib.hid hb2; clear hb2 hsc)
          go_roundw
          case rel => exact ⟨i + 1, j + 1, m.set i x, by go_num, by go_num, by omega, by omega, by rw [List.length_set]; exact Hml.out, by have := HSC.out.1; rw [Hput.out] at this; exact this, Hp2.out, Hs2.out, (hK.out.trans (Kept.fresh (S := fun b => own (some (⟨ab, 0, none⟩ : Addr)) = some b) HB2.out) (fun b q => .inl q)).trans (Kept.grown (S := fun b => own (some (⟨ab, 0, none⟩ : Addr)) = some b) HSC.out.2 (fun k e => .inl e)) (fun b q => .inl q)⟩
          case measure => simp [intOf]; omega
      · obtain rfl : j = nn := by omega
        have hlti : ¬ (j : Int) < (j : Int) := by omega
        have hi1 : (i : Int) < (j : Int) := by omega
        have hi2 : (0 : Int) ≤ (i : Int) := by omega
        have Hpr : Hid (m.take i = l.filter (fun r => !f r)) := by unfold Hid; rw [hpre.out, Hnn.out, List.take_length]
        have hlen : Hid ((l.filter (fun r => !f r)).length = i) := by unfold Hid; rw [← Hpr.out, List.length_take, Hml.out]; omega
        have hpo := own_take hrow.out (show i ≤ j by omega)
        rw [ptrV_take, Hpr.out] at hpo
        have HPO := Lib.hid hpo
        have hic : i ≤ c := by omega
        have hin : i ≤ j := by omega
        have hne : (c = i) = False := by simp; omega
        obtain ⟨d, hd⟩ : ∃ d, j - i = d + 1 := ⟨j - i - 1, by omega⟩
        have Hd := Lib.hid hd
        clear hpo hd hml hpre hsuf
        go_wp2_with (refine wpList_clear_own rfl (.tmp 38) 77 rfl B 75 i0 (.pointer none) 1 Try.underlying77 hi0 hz0 rfl zeroP_one ab i c d (c - i) i (ptrV (l.filter (fun r => !f r))) ?hev HPO.out (by have := Hd.out; omega) (by omega) ?_; (case hev => simp [Act.eval, Hd.out]); intro w2 how2 hgr2; have How2 := Lib.hid how2; have Hgr2 := Lib.hid hgr2; clear how2 hgr2)
        go_ret
        have k2 : Kept w w2 (fun b => own (some (⟨ab, 0, none⟩ : Addr)) = some b) := hK.out.trans (Kept.grown (S := fun b => own (some (⟨ab, 0, none⟩ : Addr)) = some b) Hgr2.out (fun k e => .inl e)) (fun b q => .inl q)
        rw [hlen.out]
        exact ⟨rfl, (by have := How2.out; unfold RowP; rw [hlen.out]; exact this), k2⟩
set_option maxRecDepth 100000 in
set_option maxHeartbeats 4000000 in
theorem delete_has (B : Nat) (A : Option Addr) (c : Nat) (l : List Ly) (cb : Nat) (f : Ly → Bool) (w : World) (hR : RowP w B A c l) (hl : l.length ≤ 1000)
    (hF : ∀ (r : Ly) W, r ∈ l → Kept w W (fun b => own A = some b) → Calls Try.prog 43 #[.map (some cb), r.ptr] W fun e w' => e = .returned (.bool (f r)) ∧ Below W.heap.size W w') :
    Calls Try.prog 57 #[.slice A l.length c, .func (.func 43) #[.map (some cb)] #[]] w fun e w' => e = .returned (.slice A (l.filter (fun r => !f r)).length c) ∧ RowP w' B A c (l.filter (fun r => !f r)) ∧ Kept w w' (fun b => own A = some b) := by
  have HI := Lib.hid (index_has B A c l cb f w hR hl (fun r W hr hW => hF r W hr (Kept.fresh hW)))
  have HR := Lib.hid hR
  have HF := Lib.hid hF
  have hcap := own_cap hR
  clear hF
  cases ha : l.any f with
  | false =>
    have Hn : Hid (l.filter (fun r => !f r) = l) := by
      unfold Hid
      rw [List.filter_eq_self]
      intro x hx
      have := List.any_eq_false.1 ha x hx
      simpa using this
    have hr : idxF f l = -1 := by unfold idxF; rw [ha]; rfl
    rw [hr] at HI
    clear ha hr hR hcap
    go_enter Try.func57, Try.ntmps57
    go_wp2_with (refine HI.out.mono ?_; rintro e w1 ⟨rfl, hb1⟩; have HB1 := Lib.hid hb1; clear hb1)
    go_ret
    rw [Hn.out]
    exact ⟨rfl, (show RowP w B A c l from HR.out).fresh HB1.out, Kept.fresh HB1.out⟩
  | true =>
    obtain ⟨ff, hf⟩ : ∃ ff, ff = l.findIdx f := ⟨_, rfl⟩
    have hr : idxF f l = (ff : Int) := by unfold idxF; rw [ha, hf]; rfl
    have hfl : ff < l.length := by rw [hf]; exact find_of_any ha
    have hfw : f (lyn l ff) = true := by
      have h := List.findIdx_getElem (p := f) (xs := l) (w := by rw [← hf]; exact hfl)
      rw [lyn_lt hfl]
      simp only [hf] at h ⊢
      exact h
    have hfn : ∀ j, j < ff → f (lyn l j) = false := fun j hj => by
      have h := List.not_of_lt_findIdx (p := f) (xs := l) (i := j) (by rw [← hf]; exact hj)
      rw [lyn_lt (by omega)]
      simpa using h
    have Hf0 : Hid ((l.take (ff + 1)).filter (fun r => !f r) = l.take ff) := by
      unfold Hid
      rw [take_lyn hfl, List.filter_append, List.filter_cons, if_neg (by rw [hfw]; decide), List.filter_nil, List.append_nil, List.filter_eq_self]
      intro x hx
      obtain ⟨j, hj, rfl⟩ := mem_lyn hx
      rw [List.length_take] at hj
      rw [lyn_take (by omega), hfn j (by omega)]; rfl
    rw [hr] at HI
    have hown := hR
    obtain ⟨ab, hA, hb, hbB⟩ : ∃ ab, A = some ⟨ab, 0, none⟩ ∧ ab < w.heap.size ∧ B ≤ ab := by
      obtain ⟨b, cap, q, hB, hb⟩ := hR.form (by omega)
      exact ⟨b, (Value.slice.inj q).1, by assumption, by assumption⟩
    subst hA
    have HO : Hid (w.ownsRow B 75 1 (.slice (some ⟨ab, 0, none⟩) l.length c) l.length (ptrV l)) := Lib.hid hown
    obtain ⟨nn, hnn⟩ : ∃ nn, nn = l.length := ⟨_, rfl⟩
    have Hnn := Lib.hid hnn
    rw [← hnn] at hl hfl HI HO hcap ⊢
    obtain ⟨i0, hi0, hz0, hz1, hz2⟩ := info_parts infoP
    have hcm : c ≤ 9223372036854775807 := by have := hcap.2; unfold maxLen at this; omega
    clear ha hf hr hfw hfn hR hown hnn
    have hcap0 := hcap.1
    clear hcap
    have hf0 : (0 : Int) ≤ (ff : Int) := by omega
    go_enter Try.func57, Try.ntmps57
    go_wp2_with (refine HI.out.mono ?_; rintro e w1 ⟨rfl, hb1⟩; have HB1 := Lib.hid hb1; clear hb1)
    have hfe : ((ff : Int) == -1) = false := by rw [beq_eq_false_iff_ne]; omega
    rw [hfe]
    clear hfe
    go_loopw [5, 6] (fun p q wr => ∃ (i j : Nat) (m : List Ly), p = .int .i64 i ∧ q = .int .i64 j ∧ i < j ∧ j ≤ nn ∧ m.length = nn ∧ Hid (wr.ownsRow B 75 1 (.slice (some ⟨ab, 0, none⟩) nn c) nn (ptrV m)) ∧ Hid (m.take i = (l.take j).filter (fun r => !f r)) ∧ Hid (m.drop j = l.drop j) ∧ Hid (Kept w wr (fun b => own (some (⟨ab, 0, none⟩ : Addr)) = some b))) (fun _ q _ => nn - (intOf q).toNat)
    case atStart => exact ⟨ff, ff + 1, l, rfl, by simp, by omega, by omega, Hnn.out.symm, (Kept.fresh (S := fun _ => False) HB1.out).row HO.out (fun _ _ q => q), Hf0.out.symm, rfl, Kept.fresh HB1.out⟩
    case round =>
      obtain ⟨i, j, m, rfl, rfl, hij, hj, hml, hrow, hpre, hsuf, hK⟩ := hrel
      rename World => wr
      have Hml := Lib.hid hml
      by_cases hlt : j < nn
      · have hlti : (j : Int) < (nn : Int) := by omega
        have hj0 : (0 : Int) ≤ (j : Int) := by omega
        have hi1 : (i : Int) < (nn : Int) := by omega
        have hi2 : (0 : Int) ≤ (i : Int) := by omega
        have hjl : j < l.length := by rw [← Hnn.out]; exact hlt
        have hbr : ab < wr.heap.size := (hrow.out.lt ab rfl).2
        have c0 : wr.cell? ⟨ab, j, none⟩ = some (lyn l j).ptr := by
          rw [hrow.out.cellAt j (by omega), ptrV_at (by rw [Hml.out]; exact hlt), lyn_drop hsuf.out hjl (by rw [Hml.out, Hnn.out])]
        have d0 : wr.cell? ⟨ab, i, none⟩ = some (lyn m i).ptr := by
          rw [hrow.out.cellAt i (by omega), ptrV_at (by rw [Hml.out]; omega)]
        have f0 : wr.frozen? ⟨ab, i, none⟩ = false := hrow.out.frozenAt _
        have HE := Lib.hid (fun W => HF.out (lyn l j) W (lyn_mem hjl))
        have Hst := Lib.hid (show (l.take (j + 1)).filter (fun r => !f r) = if (!f (lyn l j)) = true then (l.take j).filter (fun r => !f r) ++ [lyn l j] else (l.take j).filter (fun r => !f r) from filterL_step (fun r => !f r) _ hjl)
        clear hml
        cases ht : f (lyn l j) with
        | true =>
          rw [ht] at HE
          have Hp2 : Hid ((l.take (j + 1)).filter (fun r => !f r) = (l.take j).filter (fun r => !f r)) := by unfold Hid; rw [Hst.out, ht]; rfl
          have Hs2 : Hid (m.drop (j + 1) = l.drop (j + 1)) := by
            have := congrArg (List.drop 1) hsuf.out
            simp [List.drop_drop, Nat.add_comm] at this ⊢
            exact this
          clear ht Hst
          generalize lyn l j = x at c0 HE
          unfold Ly.ptr at c0 HE d0
          go_wp2_with ((refine (HE.out _ hK.out).mono ?_); rintro e w2 ⟨rfl, hb2⟩; have HB2 := Lib.hid hb2; clear hb2)
          go_roundw
          case rel => exact ⟨i, j + 1, m, rfl, by go_num, by omega, by omega, Hml.out, (Kept.fresh (S := fun _ => False) HB2.out).row hrow.out (fun _ _ q => q), by unfold Hid; rw [Hp2.out]; exact hpre.out, Hs2.out, hK.out.trans (Kept.fresh (S := fun b => own (some (⟨ab, 0, none⟩ : Addr)) = some b) HB2.out) (fun b q => .inl q)⟩
          case measure => simp [intOf]; omega
        | false =>
          rw [ht] at HE
          obtain ⟨x, hx⟩ : ∃ x, x = lyn l j := ⟨_, rfl⟩
          have Hp2 : Hid ((m.set i x).take (i + 1) = (l.take (j + 1)).filter (fun r => !f r)) := by
            unfold Hid
            rw [Hst.out, if_pos (by rw [ht]; rfl), ← hx, List.take_succ_eq_append_getElem (by rw [List.length_set, Hml.out]; omega), List.getElem_set_self, List.take_set_of_le (Nat.le_refl _), hpre.out]
          have Hs2 : Hid ((m.set i x).drop (j + 1) = l.drop (j + 1)) := by
            unfold Hid
            rw [List.drop_set_of_lt (by omega)]
            have := congrArg (List.drop 1) hsuf.out
            simpa [List.drop_drop, Nat.add_comm] using this
          have Hput : Hid ((ptrV m).set i x.ptr = ptrV (m.set i x)) := by unfold Hid ptrV; rw [List.map_set]
          rw [← hx] at c0 HE
          clear ht Hst hx
          unfold Ly.ptr at c0 HE d0 Hput
          go_wp2_with ((refine (HE.out _ hK.out).mono ?_); rintro e w2 ⟨rfl, hb2⟩; have d1 := (hb2.cell (p := ⟨ab, i, none⟩) hbr).trans d0; have f1 := (hb2.frozen (p := ⟨ab, i, none⟩) hbr).trans f0; have hsc := ((Kept.fresh (S := fun _ => False) hb2).row hrow.out (fun _ _ q => q)).stored i (.pointer (some ⟨x.b, 0, none⟩)); have HSC := Lib.hid hsc; have HB2 := Lib.hid hb2; clear hb2 hsc)
          go_roundw
          case rel => exact ⟨i + 1, j + 1, m.set i x, by go_num, by go_num, by omega, by omega, by rw [List.length_set]; exact Hml.out, by have := HSC.out.1; rw [Hput.out] at this; exact this, Hp2.out, Hs2.out, (hK.out.trans (Kept.fresh (S := fun b => own (some (⟨ab, 0, none⟩ : Addr)) = some b) HB2.out) (fun b q => .inl q)).trans (Kept.grown (S := fun b => own (some (⟨ab, 0, none⟩ : Addr)) = some b) HSC.out.2 (fun k e => .inl e)) (fun b q => .inl q)⟩
          case measure => simp [intOf]; omega
      · obtain rfl : j = nn := by omega
        have hlti : ¬ (j : Int) < (j : Int) := by omega
        have hi1 : (i : Int) < (j : Int) := by omega
        have hi2 : (0 : Int) ≤ (i : Int) := by omega
        have Hpr : Hid (m.take i = l.filter (fun r => !f r)) := by unfold Hid; rw [hpre.out, Hnn.out, List.take_length]
        have hlen : Hid ((l.filter (fun r => !f r)).length = i) := by unfold Hid; rw [← Hpr.out, List.length_take, Hml.out]; omega
        have hpo := own_take hrow.out (show i ≤ j by omega)
        rw [ptrV_take, Hpr.out] at hpo
        have HPO := Lib.hid hpo
        have hic : i ≤ c := by omega
        have hin : i ≤ j := by omega
        have hne : (c = i) = False := by simp; omega
        obtain ⟨d, hd⟩ : ∃ d, j - i = d + 1 := ⟨j - i - 1, by omega⟩
        have Hd := Lib.hid hd
        clear hpo hd hml hpre hsuf
        go_wp2_with (refine wpList_clear_own rfl (.tmp 38) 77 rfl B 75 i0 (.pointer none) 1 Try.underlying77 hi0 hz0 rfl zeroP_one ab i c d (c - i) i (ptrV (l.filter (fun r => !f r))) ?hev HPO.out (by have := Hd.out; omega) (by omega) ?_; (case hev => simp [Act.eval, Hd.out]); intro w2 how2 hgr2; have How2 := Lib.hid how2; have Hgr2 := Lib.hid hgr2; clear how2 hgr2)
        go_ret
        have k2 : Kept w w2 (fun b => own (some (⟨ab, 0, none⟩ : Addr)) = some b) := hK.out.trans (Kept.grown (S := fun b => own (some (⟨ab, 0, none⟩ : Addr)) = some b) Hgr2.out (fun k e => .inl e)) (fun b q => .inl q)
        rw [hlen.out]
        exact ⟨rfl, (by have := How2.out; unfold RowP; rw [hlen.out]; exact this), k2⟩
set_option maxRecDepth 100000 in
set_option maxHeartbeats 1000000 in
theorem contains_lacks (B : Nat) (A : Option Addr) (c : Nat) (l : List Ly) (cb : Nat) (f : Ly → Bool) (w : World) (hR : RowP w B A c l) (hl : l.length ≤ 1000)
    (hF : ∀ (q : Ly) W, q ∈ l → Below w.heap.size w W → Calls Try.prog 66 #[.map (some cb), q.ptr] W fun e w' => e = .returned (.bool (f q)) ∧ Below W.heap.size W w') :
    Calls Try.prog 65 #[.slice A l.length c, .func (.func 66) #[.map (some cb)] #[]] w fun e w' => e = .returned (.bool (l.any f)) ∧ Below w.heap.size w w' := by
  have HI := Lib.hid (index_lacks B A c l cb f w hR hl hF)
  have HD : Hid (decide ((0 : Int) ≤ idxF f l) = l.any f) := by
    unfold Hid idxF
    cases l.any f with
    | true => exact decide_eq_true (by simp)
    | false => rfl
  clear hR hF
  generalize idxF f l = k at *
  generalize l.any f = m at *
  go_enter Try.func65, Try.ntmps65
  go_wp2_with (refine HI.out.mono ?_; rintro e w1 ⟨rfl, hb1⟩; have HB1 := Lib.hid hb1; clear hb1)
  go_ret
  exact ⟨by rw [← HD.out]; rfl, HB1.out⟩
end Go.Proofs.Ytibkipdadpidnaa
