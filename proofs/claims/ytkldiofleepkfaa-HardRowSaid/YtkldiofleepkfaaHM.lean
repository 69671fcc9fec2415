/- One taken out of a row of pointers: slices.Delete. -/
import Derived.Test.YtkldiofleepkfaaHL
import Derived.Laws.CopyOwn
import Derived.Deep.AppendLies
import Derived.Great.BuildSlice
set_option linter.unusedVariables false
set_option linter.unusedSimpArgs false
namespace Go.Proofs.Ytkldiofleepkfaa.Hd
open Go.RowKit
theorem own_take {w : World} {B : Nat} {E : TypeId} {b cap n : Nat} {xs : List Value} (h : w.ownsRow B E 1 (.slice (some ⟨b, 0, none⟩) n cap) n xs) {i : Nat} (hi : i ≤ n) :
    w.ownsRow B E 1 (.slice (some ⟨b, 0, none⟩) i cap) i (xs.take (i * 1)) := by
  rcases h.2 with ⟨q, _⟩ | ⟨g, c, cur, q, hB, hg, h1, h2, h3, h4⟩
  · cases q
  · cases q
    refine ⟨by rw [List.length_take, h.1]; omega, .inr ⟨b, cap, cur, rfl, hB, hg, by omega, h2, h3, ?_⟩⟩
    rw [← h4, List.take_take]
    congr 1; omega
theorem own_room {w : World} {B : Nat} {E : TypeId} {b cap n : Nat} {xs : List Value} (h : w.ownsRow B E 1 (.slice (some ⟨b, 0, none⟩) n cap) n xs) : n ≤ cap ∧ cap ≤ maxLen := by
  rcases h.2 with ⟨q, _⟩ | ⟨g, c, cur, q, hB, hg, h1, h2, h3, h4⟩
  · cases q
  · cases q; exact ⟨h1, h2⟩
section
variable {P : Program} {ops : Array Oper} {o : Oper} {a : Act} {w : World}
/-- append where there is room, as one step of a region that draws -/
theorem step_append_fits {K : Act → World → Prop} {Q : Exit → Act → World → Prop} {EE : Prop}
    (hgd : o.guard = none) (s x : Operand) (t : TypeId) (hop : o.op = Op.call { callee := Callee.builtin Builtin.append, args := #[s, x], argTypes := #[t, t] })
    (B : Nat) (e : TypeId) (i : TypeInfo) (size : Nat) (h1 : P.underlying t = some (.slice e)) (h2 : P.info? e = some i) (h4 : i.size = size)
    (g n cap : Nat) (xs : List Value) (hown : w.ownsRow B e size (.slice (some ⟨g, 0, none⟩) n cap) n xs) (hs : a.eval s = .slice (some ⟨g, 0, none⟩) n cap)
    (ad : Addr) (m c : Nat) (news : List Value) (hx : a.eval x = .slice (some ad) m c) (hn : news.length = m * size) (hc : ∀ j u, news[j]? = some u → w.cell? (ad.add j) = some u) (h1c : ∀ u ∈ news, u.oneCell' = true)
    (hroom : n + m ≤ cap) (q : Nat) (hq : n + m = q)
    (hK : ∀ w', w'.ownsRow B e size (.slice (some ⟨g, 0, none⟩) q cap) q (xs ++ news) → w.grownBy w' (some g) → K (a.put o.dst (.slice (some ⟨g, 0, none⟩) q cap)) w') :
    if Region.wanted o (yielded ops a.tmps) = true then Oper.wp P o a w K Q else EE := by
  subst hq
  have hw : Region.wanted o (yielded ops a.tmps) = true := by simp [Region.wanted, hgd]
  rw [if_pos hw]
  obtain ⟨w', hrun, r1, r2⟩ := run_append_fits (P := P) w B t o.type e i size h1 h2 h4 g n cap xs hown ad m c news hn hc h1c hroom
  unfold Oper.wp
  simp [execOp, hop, resolve, invoke, builtin, hs, hx, hrun, Result.andThen]
  exact hK w' r1 r2
theorem zeros_one (z : Array Value) (n : Nat) (hz : ∀ u ∈ z.toList, u.oneCell' = true) : ∀ u ∈ (Builtin.zeroCells z n).toList, u.oneCell' = true := by
  intro u hu
  simp only [Builtin.zeroCells, Array.toList_map, List.mem_map] at hu
  obtain ⟨i, hi, rfl⟩ := hu
  have hi' : i < n * z.size := by simpa using hi
  have hp : 0 < z.size := Nat.pos_of_ne_zero (fun q => by rw [q] at hi'; simp at hi')
  have hm := Nat.mod_lt i hp
  rw [getElem!_pos z (i % z.size) hm]
  exact hz _ (Array.getElem_mem_toList hm)
/-- clear behind the elements of a row -/
theorem run_clear_own (w : World) (B : Nat) (t ty e : TypeId) (i : TypeInfo) (z : Value) (size : Nat) (ht : P.underlying t = some (.slice e)) (hi : P.info? e = some i) (hz : i.zero = some z) (hzs : z.cells.size = size) (h1 : ∀ u ∈ z.cells.toList, u.oneCell' = true)
    (g n cap m c off : Nat) (xs : List Value) (hown : w.ownsRow B e size (.slice (some ⟨g, 0, none⟩) n cap) n xs) (hroom : n + (m + 1) ≤ cap) (hoff : off = n * size) :
    ∃ w', (Builtin.clear_ #[t] ty #[.slice (some ⟨g, off, none⟩) (m + 1) c]).run P w = .ok (.tuple #[]) w' ∧ w'.ownsRow B e size (.slice (some ⟨g, 0, none⟩) n cap) n xs ∧ w.grownBy w' (some g) := by
  subst hzs
  rcases hown.2 with ⟨q, _⟩ | ⟨g', c', cur, q, hB, hg, r1, r2, r3, r4⟩
  · cases q
  · cases q
    have hzl : (Builtin.zeroCells z.cells (m + 1)).toList.length = (m + 1) * z.cells.size := by rw [Array.length_toList, size_zeroCells]
    have hfit : off + 0 + (Builtin.zeroCells z.cells (m + 1)).toList.length ≤ cur.size := by
      rw [hzl, r3, hoff, Nat.add_zero, ← Nat.add_mul]
      exact Nat.mul_le_mul_right _ hroom
    have hst := run_storeCells_at P g off e (Builtin.zeroCells z.cells (m + 1)).toList 0 cur w hg hfit (zeros_one _ _ h1)
    obtain ⟨N, hN⟩ : ∃ N : Array Value, N = (List.take (off + 0) cur.toList ++ (Builtin.zeroCells z.cells (m + 1)).toList ++ List.drop (off + 0 + (Builtin.zeroCells z.cells (m + 1)).toList.length) cur.toList).toArray := ⟨_, rfl⟩
    rw [← hN] at hst
    have hzv : (zeroValue e).run P w = .ok z w := by simp [zeroValue, typeInfo, hi, hz]
    refine ⟨w.setRow g N, ?_, ⟨hown.1, .inr ⟨g, cap, N, rfl, hB, setRow_heap w g cur N e (0, 0) hg, r1, r2, ?_, ?_⟩⟩, ⟨rfl, rfl, rfl, by simp, fun k _ hk => setRow_other w g k _ (fun e => hk (by simp [e]))⟩⟩
    · clear hN
      simp [Builtin.clear_, run_underlying ht, hzv, hst]
    · rw [hN]
      simp only [Nat.add_zero] at hfit ⊢
      simp only [List.size_toArray, List.length_append, List.length_take, List.length_drop, Array.length_toList] at hfit ⊢
      omega
    · rw [← r4, hN]
      simp only [Nat.add_zero]
      simp only [Array.length_toList] at hfit hzl
      rw [List.append_assoc, List.take_append_of_le_length (by rw [List.length_take, Array.length_toList]; omega), List.take_take]
      congr 1; omega
theorem wpList_clear_own {rest : List Oper} {Q : Exit → Act → World → Prop} (hgd : o.guard = none) (s : Operand) (t : TypeId) (ho : o.op = .call { callee := .builtin .clear, args := #[s], argTypes := #[t] })
    (B : Nat) (e : TypeId) (i : TypeInfo) (z : Value) (size : Nat) (ht : P.underlying t = some (.slice e)) (hi : P.info? e = some i) (hz : i.zero = some z) (hzs : z.cells.size = size) (h1 : ∀ u ∈ z.cells.toList, u.oneCell' = true)
    (g n cap m c off : Nat) (xs : List Value) (hs : a.eval s = .slice (some ⟨g, off, none⟩) (m + 1) c) (hown : w.ownsRow B e size (.slice (some ⟨g, 0, none⟩) n cap) n xs) (hroom : n + (m + 1) ≤ cap) (hoff : off = n * size)
    (h : ∀ w', w'.ownsRow B e size (.slice (some ⟨g, 0, none⟩) n cap) n xs → w.grownBy w' (some g) → wpList P ops Q rest (a.put o.dst (.tuple #[])) w') : wpList P ops Q (o :: rest) a w := by
  refine wpList_plain hgd fun K hK => ?_
  obtain ⟨w', hrun, r1, r2⟩ := run_clear_own (P := P) w B t o.type e i z size ht hi hz hzs h1 g n cap m c off xs hown hroom hoff
  unfold Oper.wp
  simp [execOp, ho, resolve, invoke, builtin, hs, hrun, Result.andThen]
  exact hK _ _ (h w' r1 r2)
end
def zeroH : Value := .agg #[.int .i64 0, .int .i64 0, .int .i64 0, .string ⟨#[]⟩, .slice none 0 0, .bool false]
theorem zeroH_one : ∀ u ∈ zeroH.cells.toList, u.oneCell' = true := by simp [zeroH, Value.cells, Value.oneCell']
set_option maxRecDepth 100000 in
set_option maxHeartbeats 2000000 in
theorem deleteU_any (B b cap n i k q : Nat) (x y : Int) (X : List Value) (w : World) (hrow : w.ownsRow B 59 1 (.slice (some ⟨b, 0, none⟩) n cap) n X) (hX1 : ∀ u ∈ X, u.oneCell' = true) (hi : i < n) (hl : n ≤ 1000) (hk : k = i + 1) (hq : n = q + 1) (hx : x = (i : Int)) (hy : y = (k : Int)) :
    Calls Try.prog 31 #[.slice (some ⟨b, 0, none⟩) n cap, .int .i64 x, .int .i64 y] w fun e w' => e = .returned (.slice (some ⟨b, 0, none⟩) q cap) ∧
      w'.ownsRow B 59 1 (.slice (some ⟨b, 0, none⟩) q cap) q (X.take i ++ X.drop k) ∧ w.grownBy w' (some b) := by
  subst hx hy
  obtain ⟨hnc, hcm⟩ := own_room hrow
  obtain ⟨i0, hi0, hz0, hz1, hz2⟩ := info_parts infoPU
  have hXl : X.length = n := by have := hrow.1; omega
  have hpre := own_take hrow (show i ≤ n by omega)
  rw [Nat.mul_one] at hpre
  obtain ⟨A, hA, hnews⟩ : ∃ A : Addr, (if cap = k then some (⟨b, 0, none⟩ : Addr) else some ⟨b, k, none⟩) = some A ∧ Hid (∀ j u, (X.drop k)[j]? = some u → w.drew.cell? (A.add j) = some u) := by
    by_cases h : cap = k
    · refine ⟨⟨b, 0, none⟩, by simp [h], fun j u hu => ?_⟩
      rw [List.drop_eq_nil_of_le (by omega)] at hu
      simp at hu
    · refine ⟨⟨b, k, none⟩, by simp [h], fun j u hu => ?_⟩
      rw [List.getElem?_drop] at hu
      have hlt := (List.getElem?_eq_some_iff.1 hu).1
      rw [Addr.add_lit]
      show w.cell? ⟨b, k + j, none⟩ = some u
      rw [hrow.cellAt _ (by omega)]
      exact hu
  have HN := Lib.hid hnews
  have Hpre : Hid (w.drew.ownsRow B 59 1 (.slice (some ⟨b, 0, none⟩) i cap) i (X.take i)) := hpre
  have Hlen : Hid ((X.drop k).length = (n - k) * 1) := by unfold Hid; rw [List.length_drop, hXl, Nat.mul_one]
  have Hone : Hid (∀ u ∈ X.drop k, u.oneCell' = true) := fun u hu => hX1 u (List.mem_of_mem_drop hu)
  obtain ⟨Y, hY⟩ : ∃ Y, Y = X.take i ++ X.drop k := ⟨_, rfl⟩
  have Hfin : Hid (X.take i ++ X.drop k = Y) := hY.symm
  rw [← hY]
  have hne : ((i : Int) == (k : Int)) = false := by simp; omega
  have hne' : (i == k) = false := by simp; omega
  have hic : i ≤ cap := by omega
  have hkc : k ≤ cap := by omega
  have hin : i ≤ n := by omega
  have hkn : k ≤ n := by omega
  have hik : i ≤ k := by omega
  have hqc : q < cap := by omega
  have hqn : q ≤ n := by omega
  have hqq : i + (n - k) = q := by omega
  have h1q : n - q = 0 + 1 := by omega
  have Hqq := Lib.hid hqq
  have H1q := Lib.hid h1q
  have hqne : (cap = q) = False := by simp; omega
  unfold maxLen at hcm
  generalize X.take i = X1 at Hpre Hfin
  generalize X.drop k = X2 at HN Hlen Hone Hfin
  clear hnews hpre hrow hqq h1q hk hq hX1 hXl hY
  go_enter Try.func31, Try.ntmps31
  go_wp2_with fail
  go_region_law (refine step_append_fits rfl (.tmp 22) (.tmp 25) 56 rfl B 59 i0 1 Try.underlying56 hi0 hz1 b i cap X1 Hpre.out (by simp [Act.eval, Act.put]) A (n - k) (cap - k) X2 (by simp [Act.eval, Act.put]) Hlen.out HN.out Hone.out (by omega) q Hqq.out ?_; intro w1 how1 hgr1)
  rw [Hfin.out] at how1
  have How := Lib.hid how1
  have Hgr := Lib.hid hgr1
  clear how1 hgr1
  go_wp2_with (refine wpList_clear_own rfl (.tmp 31) 56 rfl B 59 i0 (.pointer none) 1 Try.underlying56 hi0 hz0 rfl (by intro u hu; simp [Value.cells] at hu; subst hu; rfl) b q cap 0 (cap - q) q Y ?hev How.out (by omega) (by omega) ?_; (case hev => simp [Act.eval, H1q.out]); intro w2 how2 hgr2; have How2 := Lib.hid how2; have Hgr2 := Lib.hid hgr2; clear how2 hgr2)
  go_ret
  have g1 := Hgr.out
  have g2 := Hgr2.out
  exact ⟨rfl, How2.out, ⟨g2.os.trans g1.os, g2.tape.trans g1.tape, g2.output.trans g1.output, Nat.le_trans g1.size g2.size, fun z hz hz2 => (g2.block z (Nat.lt_of_lt_of_le hz g1.size) hz2).trans (g1.block z hz hz2)⟩⟩
end Go.Proofs.Ytkldiofleepkfaa.Hd
