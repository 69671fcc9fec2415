/- The program's sets: maps from numbers to nothing; add, has. -/
import Derived.Test.YtdndchoghhllmaaM
import Derived.Maps.Views
import Derived.Maps.RangeWalk
import Derived.Maps.OwnSet
import Derived.Lib.SlKeysI
set_option linter.unusedVariables false
set_option linter.unusedSimpArgs false
namespace Go.Proofs.Ytdndchoghhllmaa
open Go.RowKit
open Go.Maps (Keyed)
theorem lawI : Keyed Try.prog 3 := Go.Maps.int_keyed Try.underlying3
/-- a number of the kind int -/
def WfI (n : Int) : Prop := -9223372036854775808 ≤ n ∧ n ≤ 9223372036854775807
theorem keyI {n : Int} (h : WfI n) : keyOf Try.prog 3 (.int .i64 n) = some (.int .i64 n) := Go.Maps.keyOf_int_mk Try.underlying3 (WalkArith.wf_i64 h)
theorem isKey (n : Int) : WideAt.IsKeyLit (.int .i64 n) := trivial
theorem ne_key {a b : Int} (h : a ≠ b) : (Lit.int .i64 a) ≠ .int .i64 b := fun e => h (by injection e)
theorem WfI.of_wf {n : Int} (h : (Lit.int .i64 n).wf = true) : WfI n := by
  simp [Lit.wf, IntKind.min, IntKind.max, IntKind.signed, IntKind.bits] at h
  unfold WfI
  omega
theorem Kept.map {w w' : World} {S : Nat → Prop} {k : TypeId} {R : Value → Option (DataW Value × List MemPlace)} {b n : Nat} {D : DataW Value} (h : Kept w w' S) (hm : w.ownsMap Try.prog k R b n D) (hn : ¬ S b) : w'.ownsMap Try.prog k R b n D := by
  obtain ⟨es, clock, hb, F, hs, hD⟩ := hm
  exact ⟨es, clock, (h.block b (Array.getElem?_eq_some_iff.1 hb).1 hn).trans hb, F, hs, hD⟩
/-- block b holds the set of the numbers l, behind at most c stores -/
def SetAt (w : World) (b c : Nat) (l : List Int) : Prop :=
  ∃ D : DataW Value, w.ownsMap Try.prog 3 unitElem b c D ∧ ∀ x : Int, Maps.has D (.int .i64 x) = true ↔ x ∈ l
/-- a block that holds a map -/
def MapB (w : World) (b : Nat) : Prop := ∃ es clock, w.heap[b]? = some (.map es clock)
theorem ownsB {w : World} {k : TypeId} {R : Value → Option (DataW Value × List MemPlace)} {b n : Nat} {D : DataW Value} (h : w.ownsMap Try.prog k R b n D) : MapB w b := by
  obtain ⟨es, clock, hb, _⟩ := h; exact ⟨es, clock, hb⟩
namespace SetAt
variable {w w' : World} {b c d : Nat} {l m : List Int}
theorem mapB (h : SetAt w b c l) : MapB w b := by obtain ⟨D, h1, _⟩ := h; exact ownsB h1
theorem lt (h : SetAt w b c l) : b < w.heap.size := by obtain ⟨D, h1, _⟩ := h; exact h1.lt
theorem more (h : SetAt w b c l) (hc : c ≤ d) : SetAt w b d l := by obtain ⟨D, h1, h2⟩ := h; exact ⟨D, h1.mono hc, h2⟩
theorem same (h : SetAt w b c l) (hm : ∀ x, x ∈ m ↔ x ∈ l) : SetAt w b c m := by obtain ⟨D, h1, h2⟩ := h; exact ⟨D, h1, fun x => (h2 x).trans (hm x).symm⟩
theorem keep {S : Nat → Prop} (h : SetAt w b c l) (hk : Kept w w' S) (hn : ¬ S b) : SetAt w' b c l := by obtain ⟨D, h1, h2⟩ := h; exact ⟨D, hk.map h1 hn, h2⟩
theorem fresh (h : SetAt w b c l) (hb : Below w.heap.size w w') : SetAt w' b c l := h.keep (S := fun _ => False) (Kept.fresh hb) (fun q => q)
theorem wf (h : SetAt w b c l) : ∀ x ∈ l, WfI x := fun x hx => by
  obtain ⟨D, h1, h2⟩ := h
  obtain ⟨es, hD, hko⟩ := h1.keysOf
  have := (h2 x).2 hx
  rw [hD] at this
  rw [Maps.has_eq] at this
  obtain ⟨p, hp, e⟩ := List.any_eq_true.1 this
  obtain ⟨v, hv⟩ := hko p hp
  obtain ⟨x', _, hx', hw⟩ := Maps.keyOf_int_inv Try.underlying3 hv
  rw [hx'] at e
  have e2 : x' = x := by simpa [Lit.sameKey] using e
  rw [← e2]
  exact WfI.of_wf hw
end SetAt
theorem set_made (w : World) : SetAt (w.alloc (.map #[] 0)) w.heap.size 0 [] :=
  ⟨.map [], World.ownsMap_made w Try.prog 3 unitElem, fun x => by constructor <;> (intro h; cases h)⟩
theorem zeroU (w : World) : (zeroValue 69).run Try.prog w = .ok (.agg #[]) w := by
  have := (by kernel_rfl : (Try.prog.info? 69).map (·.zero) = some (some (.agg #[])))
  cases hq : Try.prog.info? 69 with
  | none => simp [hq] at this
  | some i => simp [hq] at this; simp [zeroValue, typeInfo, hq, this]
section
variable (b c : Nat) (n : Int) (l : List Int) (w : World)
set_option maxRecDepth 100000 in
set_option maxHeartbeats 1000000 in
theorem add_any (h : SetAt w b c l) (hn : WfI n) (hc : c < 100000000) : Calls Try.prog 52 #[.map (some b), .int .i64 n] w fun e w' =>
    e = .returned (.tuple #[]) ∧ (∀ m, (∀ y, y ∈ m ↔ y = n ∨ y ∈ l) → SetAt w' b (c + 1) m) ∧ w.grownBy w' (some b) := by
  obtain ⟨D, h1, h2⟩ := h
  have H1 := Lib.hid h1
  have HK := Lib.hid (keyI hn)
  have HF : Hid (∀ w7, w7.ownsMap Try.prog 3 unitElem b (c + 1) (D.put (.int .i64 n) (.agg [])) → ∀ m, (∀ y, y ∈ m ↔ y = n ∨ y ∈ l) → SetAt w7 b (c + 1) m) := fun w7 h7 m hm => by
    refine ⟨_, h7, fun x => ?_⟩
    by_cases e : x = n
    · rw [e, Maps.has_put_same h1.isMap (isKey n), hm n]; simp
    · rw [Maps.has_put_other (ne_key e), h2 x, hm x]; simp [e]
  have hcm : c < maxLen := by unfold maxLen; omega
  have HC := Lib.hid hcm
  clear h1 h2 hn hcm
  go_enter Try.func52, Try.ntmps52
  go_wp2_with (at_mapUpdate; refine wpList_mapUpdate_own _ rfl _ _ _ 61 rfl 3 69 lawI Try.underlying61 unitElem b c D rfl H1.out HC.out _ _ (.int .i64 n) rfl rfl HK.out (.agg []) [] rfl ?_; intro w7 h7 hg7; have H7 := Lib.hid (HF.out w7 h7); have G7 := Lib.hid hg7; clear h7 hg7)
  go_end0
  exact ⟨rfl, H7.out, G7.out⟩
set_option maxRecDepth 100000 in
set_option maxHeartbeats 1000000 in
theorem hasS_any (h : SetAt w b c l) (hn : WfI n) : Calls Try.prog 54 #[.map (some b), .int .i64 n] w fun e w' => e = .returned (.bool (decide (n ∈ l))) ∧ Below w.heap.size w w' := by
  obtain ⟨D, h1, h2⟩ := h
  have HE : Hid (Maps.has D (.int .i64 n) = decide (n ∈ l)) := by
    unfold Hid
    have := h2 n
    by_cases e : n ∈ l
    · rw [this.2 e, decide_eq_true e]
    · rw [decide_eq_false e]
      cases q : Maps.has D (.int .i64 n) with
      | false => rfl
      | true => exact absurd (this.1 q) e
  have H1 := Lib.hid h1
  have HK := Lib.hid (keyI hn)
  have HB := Lib.hid ((Below.refl w.heap.size w).alloc (Nat.le_refl _) (.cells #[] 69))
  clear h1 h2 hn
  go_enter Try.func54, Try.ntmps54
  go_wp2_with (at_lookup; refine wpList_lookup_own_unit _ rfl _ _ 61 rfl 3 69 lawI Try.underlying61 (zeroU _) b c D rfl H1.out _ _ rfl HK.out ?_)
  go_ret
  exact ⟨by rw [← HE.out]; rfl, HB.out⟩
end
end Go.Proofs.Ytdndchoghhllmaa
