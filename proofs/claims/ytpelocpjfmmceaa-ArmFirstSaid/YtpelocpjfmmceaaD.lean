/- Rows of requests and of numbers, asked and thinned: IndexFunc, DeleteFunc. -/
import Derived.Test.YtpelocpjfmmceaaC
import Derived.Deep.MidRow
import Derived.Great.BuildSlice
set_option linter.unusedVariables false
set_option linter.unusedSimpArgs false
namespace Go.Proofs.Ytpelocpjfmmceaa
open Go.RowKit

def zeroQ : Value := .agg #[.int .i64 0, .int .i64 0]
theorem zeroQ_one : ∀ u ∈ zeroQ.cells.toList, u.oneCell' = true := by simp [zeroQ, Value.cells, Value.oneCell']
theorem zeroI_one : ∀ u ∈ (Value.int .i64 0).cells.toList, u.oneCell' = true := by simp [Value.cells, Value.oneCell']
theorem infoQ : (Try.prog.info? 74).map (fun i => (i.zero, i.size, i.bytes)) = some (some zeroQ, 2, 16) := by kernel_rfl
theorem infoI : (Try.prog.info? 3).map (fun i => (i.zero, i.size, i.bytes)) = some (some (.int .i64 0), 1, 8) := by kernel_rfl
theorem intsV_take' (l : List Int) (k : Nat) : (intsV l).take (k * 1) = intsV (l.take k) := by rw [Nat.mul_one]; exact intsV_take l k
section
variable {P : Program} {ops : Array Oper} {o : Oper} {a : Act} {w : World}
theorem zeros_one (z : Array Value) (n : Nat) (hz : ∀ u ∈ z.toList, u.oneCell' = true) : ∀ u ∈ (Builtin.zeroCells z n).toList, u.oneCell' = true := by
  intro u hu
  simp only [Builtin.zeroCells, Array.toList_map, List.mem_map] at hu
  obtain ⟨i, hi, rfl⟩ := hu
  have hi' : i < n * z.size := by simpa using hi
  have hp : 0 < z.size := Nat.pos_of_ne_zero (fun q => by rw [q] at hi'; simp at hi')
  have hm := Nat.mod_lt i hp
  rw [getElem!_pos z (i % z.size) hm]
  exact hz _ (Array.getElem_mem_toList hm)
/-- clear behind the elements of a row -/
theorem run_clear_own (w : World) (B : Nat) (t ty e : TypeId) (i : TypeInfo) (z : Value) (size : Nat) (ht : P.underlying t = some (.slice e)) (hi : P.info? e = some i) (hz : i.zero = some z) (hzs : z.cells.size = size) (h1 : ∀ u ∈ z.cells.toList, u.oneCell' = true)
    (g n cap m c off : Nat) (xs : List Value) (hown : w.ownsRow B e size (.slice (some ⟨g, 0, none⟩) n cap) n xs) (hroom : n + (m + 1) ≤ cap) (hoff : off = n * size) :
    ∃ w', (Builtin.clear_ #[t] ty #[.slice (some ⟨g, off, none⟩) (m + 1) c]).run P w = .ok (.tuple #[]) w' ∧ w'.ownsRow B e size (.slice (some ⟨g, 0, none⟩) n cap) n xs ∧ w.grownBy w' (some g) := by
  subst hzs
  rcases hown.2 with ⟨q, _⟩ | ⟨g', c', cur, q, hB, hg, r1, r2, r3, r4⟩
  · cases q
  · cases q
    have hzl : (Builtin.zeroCells z.cells (m + 1)).toList.length = (m + 1) * z.cells.size := by rw [Array.length_toList, size_zeroCells]
    have hfit : off + 0 + (Builtin.zeroCells z.cells (m + 1)).toList.length ≤ cur.size := by
      rw [hzl, r3, hoff, Nat.add_zero, ← Nat.add_mul]
      exact Nat.mul_le_mul_right _ hroom
    have hst := run_storeCells_at P g off e (Builtin.zeroCells z.cells (m + 1)).toList 0 cur w hg hfit (zeros_one _ _ h1)
    obtain ⟨N, hN⟩ : ∃ N : Array Value, N = (List.take (off + 0) cur.toList ++ (Builtin.zeroCells z.cells (m + 1)).toList ++ List.drop (off + 0 + (Builtin.zeroCells z.cells (m + 1)).toList.length) cur.toList).toArray := ⟨_, rfl⟩
    rw [← hN] at hst
    have hzv : (zeroValue e).run P w = .ok z w := by simp [zeroValue, typeInfo, hi, hz]
    refine ⟨w.setRow g N, ?_, ⟨hown.1, .inr ⟨g, cap, N, rfl, hB, setRow_heap w g cur N e (0, 0) hg, r1, r2, ?_, ?_⟩⟩, ⟨rfl, rfl, rfl, by simp, fun k _ hk => setRow_other w g k _ (fun e => hk (by simp [e]))⟩⟩
    · clear hN
      simp [Builtin.clear_, run_underlying ht, hzv, hst]
    · rw [hN]
      simp only [Nat.add_zero] at hfit ⊢
      simp only [List.size_toArray, List.length_append, List.length_take, List.length_drop, Array.length_toList] at hfit ⊢
      omega
    · rw [← r4, hN]
      simp only [Nat.add_zero]
      simp only [Array.length_toList] at hfit hzl
      rw [List.append_assoc, List.take_append_of_le_length (by rw [List.length_take, Array.length_toList]; omega), List.take_take]
      congr 1; omega
theorem wpList_clear_own {rest : List Oper} {Q : Exit → Act → World → Prop} (hgd : o.guard = none) (s : Operand) (t : TypeId) (ho : o.op = .call { callee := .builtin .clear, args := #[s], argTypes := #[t] })
    (B : Nat) (e : TypeId) (i : TypeInfo) (z : Value) (size : Nat) (ht : P.underlying t = some (.slice e)) (hi : P.info? e = some i) (hz : i.zero = some z) (hzs : z.cells.size = size) (h1 : ∀ u ∈ z.cells.toList, u.oneCell' = true)
    (g n cap m c off : Nat) (xs : List Value) (hs : a.eval s = .slice (some ⟨g, off, none⟩) (m + 1) c) (hown : w.ownsRow B e size (.slice (some ⟨g, 0, none⟩) n cap) n xs) (hroom : n + (m + 1) ≤ cap) (hoff : off = n * size)
    (h : ∀ w', w'.ownsRow B e size (.slice (some ⟨g, 0, none⟩) n cap) n xs → w.grownBy w' (some g) → wpList P ops Q rest (a.put o.dst (.tuple #[])) w') : wpList P ops Q (o :: rest) a w := by
  refine wpList_plain hgd fun K hK => ?_
  obtain ⟨w', hrun, r1, r2⟩ := run_clear_own (P := P) w B t o.type e i z size ht hi hz hzs h1 g n cap m c off xs hown hroom hoff
  unfold Oper.wp
  simp [execOp, ho, resolve, invoke, builtin, hs, hrun, Result.andThen]
  exact hK _ _ (h w' r1 r2)
end

set_option maxRecDepth 100000 in
set_option maxHeartbeats 1000000 in
theorem index_find (B : Nat) (A : Option Addr) (c : Nat) (l : List Rq) (cb : Nat) (f : Rq → Bool) (w : World) (hR : RowQ 74 w B A c l) (hl : l.length ≤ 1000)
    (hF : ∀ (r : Rq) W, Below w.heap.size w W → Calls Try.prog 67 #[r.v, .pointer (some ⟨cb, 0, none⟩)] W fun e w' => e = .returned (.bool (f r)) ∧ Below W.heap.size W w') :
    Calls Try.prog 66 #[.slice A l.length c, .func (.func 67) #[] #[.pointer (some ⟨cb, 0, none⟩)]] w fun e w' => e = .returned (.int .i64 (idxF f l)) ∧ Below w.heap.size w w' := by
  have HR := Lib.hid hR
  have HF := Lib.hid hF
  have hcap := (own_cap hR)
  unfold maxLen at hcap
  clear hR hF
  go_enter Try.func66, Try.ntmps66
  go_wp2
  go_loopw [8] (fun q wr => ∃ k : Nat, k ≤ l.length ∧ q = .int .i64 k ∧ Below w.heap.size w wr ∧ Hid (∀ j, j < k → f (rn l j) = false)) (fun q _ => l.length - (intOf q).toNat)
  case atStart => exact ⟨0, Nat.zero_le _, rfl, Below.refl _ _, fun j hj => absurd hj (by omega)⟩
  case round =>
    obtain ⟨k, hk, rfl, hB, hno⟩ := hrel
    rename World => wr
    have HB := Lib.hid hB
    clear hB
    by_cases hlt : k < l.length
    · have hlti : (k : Int) < (l.length : Int) := by omega
      have hk0 : (0 : Int) ≤ (k : Int) := by omega
      obtain ⟨ab, hA, h3, h4, hb, _, c0, c1, _⟩ := ((show RowQ 74 w B A c l from HR.out).fresh HB.out).at_ hlt
      subst hA
      unfold maxLen at h4
      have HE := Lib.hid (fun W => HF.out (rn l k) W)
      cases ht : f (rn l k) with
      | true =>
        have Hf : Hid (idxF f l = (k : Int)) := by
          obtain ⟨h1, h2⟩ := idxF_at hlt hno.out ht
          unfold Hid idxF; rw [h1, h2]; rfl
        rw [ht] at HE
        clear ht
        generalize rn l k = r at c0 c1 HE
        obtain ⟨rb, ra⟩ := r
        unfold Rq.v at HE
        dsimp only at c0 c1
        go_wp2_with (refine (HE.out _ HB.out).mono ?_; rintro e w1 ⟨rfl, hb1⟩; have HB1 := Lib.hid hb1; clear hb1)
        go_ret
        rw [Hf.out]
        exact ⟨rfl, HB.out.trans (HB1.out.mono HB.out.size)⟩
      | false =>
        have Hn : Hid (∀ j, j < k + 1 → f (rn l j) = false) := fun j hj => by
          rcases Nat.lt_or_ge j k with h | h
          · exact hno.out j h
          · obtain rfl : j = k := by omega
            exact ht
        rw [ht] at HE
        clear ht
        generalize rn l k = r at c0 c1 HE
        obtain ⟨rb, ra⟩ := r
        unfold Rq.v at HE
        dsimp only at c0 c1
        go_wp2_with (refine (HE.out _ HB.out).mono ?_; rintro e w1 ⟨rfl, hb1⟩; have HB1 := Lib.hid hb1; clear hb1)
        go_roundw
        case rel => exact ⟨k + 1, by omega, by go_num, HB.out.trans (HB1.out.mono HB.out.size), Hn.out⟩
        case measure => simp [intOf]; omega
    · obtain rfl : k = l.length := by omega
      have Hf : Hid (idxF f l = -1) := by
        unfold Hid idxF; rw [idxF_none hno.out]; rfl
      go_wp2
      go_ret
      rw [Hf.out]
      exact ⟨rfl, HB.out⟩

set_option maxRecDepth 100000 in
set_option maxHeartbeats 1000000 in
theorem index_forget (B : Nat) (A : Option Addr) (c : Nat) (l : List Rq) (cb : Nat) (f : Rq → Bool) (w : World) (hR : RowQ 74 w B A c l) (hl : l.length ≤ 1000)
    (hF : ∀ (r : Rq) W, Below w.heap.size w W → Calls Try.prog 64 #[r.v, .pointer (some ⟨cb, 0, none⟩)] W fun e w' => e = .returned (.bool (f r)) ∧ Below W.heap.size W w') :
    Calls Try.prog 66 #[.slice A l.length c, .func (.func 64) #[] #[.pointer (some ⟨cb, 0, none⟩)]] w fun e w' => e = .returned (.int .i64 (idxF f l)) ∧ Below w.heap.size w w' := by
  have HR := Lib.hid hR
  have HF := Lib.hid hF
  have hcap := (own_cap hR)
  unfold maxLen at hcap
  clear hR hF
  go_enter Try.func66, Try.ntmps66
  go_wp2
  go_loopw [8] (fun q wr => ∃ k : Nat, k ≤ l.length ∧ q = .int .i64 k ∧ Below w.heap.size w wr ∧ Hid (∀ j, j < k → f (rn l j) = false)) (fun q _ => l.length - (intOf q).toNat)
  case atStart => exact ⟨0, Nat.zero_le _, rfl, Below.refl _ _, fun j hj => absurd hj (by omega)⟩
  case round =>
    obtain ⟨k, hk, rfl, hB, hno⟩ := hrel
    rename World => wr
    have HB := Lib.hid hB
    clear hB
    by_cases hlt : k < l.length
    · have hlti : (k : Int) < (l.length : Int) := by omega
      have hk0 : (0 : Int) ≤ (k : Int) := by omega
      obtain ⟨ab, hA, h3, h4, hb, _, c0, c1, _⟩ := ((show RowQ 74 w B A c l from HR.out).fresh HB.out).at_ hlt
      subst hA
      unfold maxLen at h4
      have HE := Lib.hid (fun W => HF.out (rn l k) W)
      cases ht : f (rn l k) with
      | true =>
        have Hf : Hid (idxF f l = (k : Int)) := by
          obtain ⟨h1, h2⟩ := idxF_at hlt hno.out ht
          unfold Hid idxF; rw [h1, h2]; rfl
        rw [ht] at HE
        clear ht
        generalize rn l k = r at c0 c1 HE
        obtain ⟨rb, ra⟩ := r
        unfold Rq.v at HE
        dsimp only at c0 c1
        go_wp2_with (refine (HE.out _ HB.out).mono ?_; rintro e w1 ⟨rfl, hb1⟩; have HB1 := Lib.hid hb1; clear hb1)
        go_ret
        rw [Hf.out]
        exact ⟨rfl, HB.out.trans (HB1.out.mono HB.out.size)⟩
      | false =>
        have Hn : Hid (∀ j, j < k + 1 → f (rn l j) = false) := fun j hj => by
          rcases Nat.lt_or_ge j k with h | h
          · exact hno.out j h
          · obtain rfl : j = k := by omega
            exact ht
        rw [ht] at HE
        clear ht
        generalize rn l k = r at c0 c1 HE
        obtain ⟨rb, ra⟩ := r
        unfold Rq.v at HE
        dsimp only at c0 c1
        go_wp2_with (refine (HE.out _ HB.out).mono ?_; rintro e w1 ⟨rfl, hb1⟩; have HB1 := Lib.hid hb1; clear hb1)
        go_roundw
        case rel => exact ⟨k + 1, by omega, by go_num, HB.out.trans (HB1.out.mono HB.out.size), Hn.out⟩
        case measure => simp [intOf]; omega
    · obtain rfl : k = l.length := by omega
      have Hf : Hid (idxF f l = -1) := by
        unfold Hid idxF; rw [idxF_none hno.out]; rfl
      go_wp2
      go_ret
      rw [Hf.out]
      exact ⟨rfl, HB.out⟩

set_option maxRecDepth 100000 in
set_option maxHeartbeats 1000000 in
theorem index_side (B : Nat) (A : Option Addr) (c : Nat) (l : List Int) (cb : Nat) (f : Int → Bool) (w : World) (hR : RowI w B A c l) (hl : l.length ≤ 1000)
    (hF : ∀ (r : Int) W, Below w.heap.size w W → Calls Try.prog 92 #[.int .i64 r, .pointer (some ⟨cb, 0, none⟩)] W fun e w' => e = .returned (.bool (f r)) ∧ Below W.heap.size W w') :
    Calls Try.prog 95 #[.slice A l.length c, .func (.func 92) #[] #[.pointer (some ⟨cb, 0, none⟩)]] w fun e w' => e = .returned (.int .i64 (idxF f l)) ∧ Below w.heap.size w w' := by
  have HR := Lib.hid hR
  have HF := Lib.hid hF
  have hcap := (own_cap hR)
  unfold maxLen at hcap
  clear hR hF
  go_enter Try.func95, Try.ntmps95
  go_wp2
  go_loopw [8] (fun q wr => ∃ k : Nat, k ≤ l.length ∧ q = .int .i64 k ∧ Below w.heap.size w wr ∧ Hid (∀ j, j < k → f (inn l j) = false)) (fun q _ => l.length - (intOf q).toNat)
  case atStart => exact ⟨0, Nat.zero_le _, rfl, Below.refl _ _, fun j hj => absurd hj (by omega)⟩
  case round =>
    obtain ⟨k, hk, rfl, hB, hno⟩ := hrel
    rename World => wr
    have HB := Lib.hid hB
    clear hB
    by_cases hlt : k < l.length
    · have hlti : (k : Int) < (l.length : Int) := by omega
      have hk0 : (0 : Int) ≤ (k : Int) := by omega
      obtain ⟨ab, off, hA, hb, c0⟩ := (((show RowI w B A c l from HR.out).fresh HB.out).ints).at_ hlt
      subst hA
      skip
      have HE := Lib.hid (fun W => HF.out (inn l k) W)
      cases ht : f (inn l k) with
      | true =>
        have Hf : Hid (idxF f l = (k : Int)) := by
          obtain ⟨h1, h2⟩ := idxG_at hlt hno.out ht
          unfold Hid idxF; rw [h1, h2]; rfl
        rw [ht] at HE
        clear ht
        generalize inn l k = r at c0 HE
        go_wp2_with (refine (HE.out _ HB.out).mono ?_; rintro e w1 ⟨rfl, hb1⟩; have HB1 := Lib.hid hb1; clear hb1)
        go_ret
        rw [Hf.out]
        exact ⟨rfl, HB.out.trans (HB1.out.mono HB.out.size)⟩
      | false =>
        have Hn : Hid (∀ j, j < k + 1 → f (inn l j) = false) := fun j hj => by
          rcases Nat.lt_or_ge j k with h | h
          · exact hno.out j h
          · obtain rfl : j = k := by omega
            exact ht
        rw [ht] at HE
        clear ht
        generalize inn l k = r at c0 HE
        go_wp2_with (refine (HE.out _ HB.out).mono ?_; rintro e w1 ⟨rfl, hb1⟩; have HB1 := Lib.hid hb1; clear hb1)
        go_roundw
        case rel => exact ⟨k + 1, by omega, by go_num, HB.out.trans (HB1.out.mono HB.out.size), Hn.out⟩
        case measure => simp [intOf]; omega
    · obtain rfl : k = l.length := by omega
      have Hf : Hid (idxF f l = -1) := by
        unfold Hid idxF; rw [idxG_none hno.out]; rfl
      go_wp2
      go_ret
      rw [Hf.out]
      exact ⟨rfl, HB.out⟩
end Go.Proofs.Ytpelocpjfmmceaa
