/- What the program's disk answers, over all that it holds: New, Lasting, Read, Versions, Size, Spoil, Flush. -/
import Derived.Test.YtieeibdhaoaeaaaKG
set_option linter.unusedVariables false
set_option linter.unusedSimpArgs false
namespace Go.Proofs.Ytieeibdhaoaeaaa
open Go.RowKit

theorem nth_repl (k i : Nat) : nth (List.replicate k (0 : Int)) i = 0 := by
  unfold nth
  rw [List.getD_eq_getElem?_getD, List.getElem?_replicate]
  split <;> rfl
theorem getD_repl (k i : Nat) : (List.replicate k false).getD i false = false := by
  rw [List.getD_eq_getElem?_getD, List.getElem?_replicate]
  split <;> rfl
section
variable {w : World} {g n c : Nat} {S : Nat → Bk} {F : Nat → Prop}
theorem csize (h : Code w g n S c F) : Calls Try.prog 29 #[.pointer (some ⟨g, 0, none⟩)] w fun e w' => e = .returned (.int .i64 n) ∧ w = w' := size_yes g n w h.size.2.2.1
/-- what stands of a block -/
def Bk.now (b : Bk) : List Int := b.v.getLast?.getD b.s
theorem cbad (h : Code w g n S c F) {i : Nat} (hi : i < n) (hb : (S i).b = true) (s : List Int) :
    Calls Try.prog 17 #[.pointer (some ⟨g, 0, none⟩), .int .i64 (i : Int), secV s] w fun e w' => e = .returned (.int .i64 10) ∧ Below w.heap.size w w' := by
  obtain ⟨L, B, mb, k, D, V, A, C, h, rfl⟩ := h
  exact write_bad g n L B mb i s w h.disk (by omega) (by rw [h.bad i hi, hb])
theorem clast (h : Code w g n S c F) {i : Nat} (hi : i < n) :
    Calls Try.prog 16 #[.pointer (some ⟨g, 0, none⟩), .int .i64 (i : Int)] w fun e w' => e = .returned (.tuple #[secV (S i).s, .int .i64 0]) ∧ Below w.heap.size w w' := by
  obtain ⟨L, B, mb, k, D, V, A, C, h, rfl⟩ := h
  have := lasting_yes g n L B mb i w h.disk (by omega)
  rw [h.sec i hi] at this
  exact this
theorem clast_no (h : Code w g n S c F) (i : Int) (hi : ¬ (0 ≤ i ∧ i < n)) :
    Calls Try.prog 16 #[.pointer (some ⟨g, 0, none⟩), .int .i64 i] w fun e w' => e = .returned (.tuple #[secV noSec, .int .i64 2]) ∧ Below w.heap.size w w' := lasting_err _ i 2 w (by decide) (ask_code h i hi)
theorem cread_no (h : Code w g n S c F) (i : Int) (hi : ¬ (0 ≤ i ∧ i < n)) :
    Calls Try.prog 20 #[.pointer (some ⟨g, 0, none⟩), .int .i64 i] w fun e w' => e = .returned (.tuple #[secV noSec, .int .i64 2]) ∧ Below w.heap.size w w' := read_err _ i 2 w (by decide) (ask_code h i hi)
theorem cread (h : Code w g n S c F) {i : Nat} (hi : i < n) (hc : c < 100000) :
    Calls Try.prog 20 #[.pointer (some ⟨g, 0, none⟩), .int .i64 (i : Int)] w fun e w' => e = .returned (.tuple #[secV (S i).now, .int .i64 0]) ∧ Below w.heap.size w w' := by
  obtain ⟨L, B, mb, k, D, V, A, C, h, rfl⟩ := h
  have hat := h.at_nil hi
  have hver := h.ver i hi
  by_cases e : V i = []
  · obtain ⟨h1, h2, h3⟩ := h.gone i hi e
    rw [e, h2, h3] at hat
    rw [e] at hver
    have := read_none g n L B mb i k D w h.disk (by omega) h.map hat
    rw [h.sec i hi] at this
    have hn : (S i).now = (S i).s := by unfold Bk.now; rw [← hver]; rfl
    rw [hn]; exact this
  · obtain ⟨V0, x, hV⟩ := snoc (V i) e
    have hok := h.ok i hi
    have hrow := h.row i hi
    have hlen : (V i).length = V0.length + 1 := by rw [hV]; simp
    have hle := h.len_le hi
    obtain ⟨gv, hA, hgl, hr⟩ := run_row hrow hok (k := V0.length) (by omega)
    have hx : (V i)[V0.length]'(by omega) = x := by simp [hV]
    rw [hx] at hr
    rw [hlen, hA] at hat
    rw [hV] at hok hver
    have hx3 := hok x (by simp)
    have hn : (S i).now = x.1 := by unfold Bk.now; rw [← hver, unrun_last hx3.2.2]; rfl
    rw [hn]
    refine read_some g n L B mb i k D w h.disk (by omega) h.map gv V0.length (C i) x.1 hat (fun j u hj => hr j u ?_) hx3.1 hgl (by omega)
    have hj' : j < 32 := by
      rcases Nat.lt_or_ge j 32 with h1 | h1
      · exact h1
      · rw [List.getElem?_eq_none (by rw [length_bytesV, hx3.1]; exact h1)] at hj; cases hj
    rw [rowL, List.getElem?_append_left (by rw [length_bytesV, hx3.1]; exact hj')]; exact hj
/-- how many versions a block has, if it is there -/
def vers (n : Nat) (S : Nat → Bk) (i : Int) : Nat := if 0 ≤ i ∧ i < n then (S i.toNat).v.length else 0
theorem cvers (h : Code w g n S c F) (i : Int) (hw : -9223372036854775808 ≤ i ∧ i ≤ 9223372036854775807) (hc : c < 100000) :
    Calls Try.prog 21 #[.pointer (some ⟨g, 0, none⟩), .int .i64 i] w fun e w' => e = .returned (.int .i64 (vers n S i)) ∧ Below w.heap.size w w' := by
  obtain ⟨L, B, mb, k, D, V, A, C, h, rfl⟩ := h
  have hk : keyOf Try.prog 3 (.int .i64 i) = some (.int .i64 i) := Go.Maps.keyOf_int_mk Try.underlying3 (WalkArith.wf_i64 hw)
  unfold vers
  split
  · next hi =>
    obtain ⟨j, rfl⟩ : ∃ j : Nat, i = (j : Int) := ⟨i.toNat, by omega⟩
    have hj : j < n := by omega
    have hf := h.few j hj
    have := versions_any g n L B mb k j D w h.disk h.map hk (A j) (C j) (V j) (h.at_nil hj) (h.row j hj) (h.ok j hj) (by rw [h.ver j hj]; omega)
    rw [h.ver j hj] at this
    exact this
  · next hi =>
    have hno : Maps.has D (.int .i64 i) = false := by
      cases hh : Maps.has D (.int .i64 i) with
      | false => rfl
      | true =>
        obtain ⟨j, rfl, hj⟩ := h.keys i hh
        exact absurd ⟨by omega, by omega⟩ hi
    have := versions_any g n L B mb k i D w h.disk h.map hk none 0 [] (Maps.atKey_of_not_has hno _) (World.ownsRow_nil _ _ _ _) (fun x hx => by cases hx) (by decide)
    exact this
theorem cnew {m : Int} (h0 : 1 ≤ m) (h1 : m ≤ 96) (w : World) :
    Calls Try.prog 26 #[.int .i64 m] w fun e w' => e = .returned (.pointer (some ⟨w.heap.size + 1, 0, none⟩)) ∧ (∃ F, Code w' (w.heap.size + 1) m.toNat (fun _ => ⟨noSec, [], false⟩) 0 F ∧ ∀ b, F b → w.heap.size ≤ b) ∧ Below w.heap.size w w' := by
  have hzz : AllB zeroL := by intro x hx; rw [zeroL, List.mem_replicate] at hx; rw [hx.2]; decide
  refine (new_yes m w h0 h1).mono ?_
  rintro e w' ⟨rfl, hb, hm, hB⟩
  refine ⟨rfl, ⟨_, ⟨zeroL, goodB, w.heap.size, 0, .map [], fun _ => [], fun _ => none, fun _ => 0, ⟨⟨?_, by omega, by omega, zeroL_len, goodB_len, hzz⟩, hm, Nat.le_refl _, ?_, ?_, ?_, ?_, ?_, ?_, ?_, ?_, ?_, ?_⟩, rfl⟩, ?_⟩, hB⟩
  · rw [Int.toNat_of_nonneg (by omega)]; exact hb
  · intro i hi; cases hi
  · intro j _ hne; exact absurd rfl hne
  · intro j _ _; exact ⟨rfl, rfl, rfl⟩
  · intro j _; exact World.ownsRow_nil _ _ _ _
  · intro j _ x hx; cases hx
  · intro j hj
    refine ext_nth (by rw [length_sec zeroL_len (by omega), noSec_len]) fun i hi => ?_
    rw [length_sec zeroL_len (by omega)] at hi
    unfold sec zeroL noSec
    rw [nth_part _ _ _ _ (by omega)]
    rw [nth_repl, nth_repl]
  · intro j _
    exact getD_repl 96 j
  · intro j _; rfl
  · intro j _; exact Nat.le_refl _
  · intro i j _ _ _ b hb; cases hb
  · rintro b (q | q | ⟨j, hj, q⟩)
    · omega
    · omega
    · cases q
end
end Go.Proofs.Ytieeibdhaoaeaaa
