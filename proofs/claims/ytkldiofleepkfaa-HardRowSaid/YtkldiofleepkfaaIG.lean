/- Patches of one block, added one after the other: one unit; two, if the block was written between. -/
import Derived.Test.YtkldiofleepkfaaID
import Derived.Laws.BytesArg
set_option linter.unusedVariables false
set_option linter.unusedSimpArgs false
namespace Go.Proofs.Ytkldiofleepkfaa.Hd
open Go.RowKit
def byt (j : Nat) : ByteArray := ⟨#[UInt8.ofNat (j + 1)]⟩
def rowP (b : Int) (j : Nat) : Pt := ⟨b, j, byt j⟩
def rowU (cut j : Nat) : Int := if cut = 0 ∨ j < cut then 0 else cut
def rowX (b : Int) (cut j : Nat) : Hw := ⟨j, rowP b j, [], rowU cut j⟩
def rowL (b : Int) (cut i : Nat) : List Hw := (List.range i).map (rowX b cut)
def rowSent (cut i : Nat) : List Int := if 0 < cut ∧ cut ≤ i then [0] else []
theorem rowL_succ (b : Int) (cut i : Nat) : rowL b cut (i + 1) = rowL b cut i ++ [rowX b cut i] := by unfold rowL; rw [List.range_succ, List.map_append]; rfl
theorem rowL_len (b : Int) (cut i : Nat) : (rowL b cut i).length = i := by simp [rowL]
theorem mem_rowL {b : Int} {cut i : Nat} {x : Hw} : x ∈ rowL b cut i ↔ ∃ j, j < i ∧ x = rowX b cut j := by
  unfold rowL
  rw [List.mem_map]
  constructor
  · rintro ⟨j, hj, rfl⟩; exact ⟨j, List.mem_range.1 hj, rfl⟩
  · rintro ⟨j, hj, rfl⟩; exact ⟨j, List.mem_range.2 hj, rfl⟩
theorem rowP_right {b : Int} (h0 : 0 ≤ b) (h1 : b < 96) {j : Nat} (hj : j < 32) : (rowP b j).right = true := Pt.right_in ⟨h0, h1, by simp [rowP], by simp [rowP]; omega, by simp [rowP, byt, ByteArray.size], by simp [rowP, byt, ByteArray.size]; omega⟩
theorem rowU_nn (cut j : Nat) : 0 ≤ rowU cut j := by unfold rowU; split <;> omega
theorem row_last1 (b : Int) (cut i : Nat) : lastU (rowL b cut (i + 1)) b = if lastU (rowL b cut i) b < rowU cut i then rowU cut i else lastU (rowL b cut i) b := by
  rw [rowL_succ, lastU_snoc]
  have h1 : ((rowX b cut i).p.b == b) = true := by simp [rowX, rowP]
  rw [h1, Bool.true_and]
  by_cases h : lastU (rowL b cut i) b < rowU cut i
  · rw [if_pos h]; exact if_pos (decide_eq_true h)
  · rw [if_neg h]; exact if_neg (by intro q; exact h (of_decide_eq_true q))
theorem row_last {b : Int} {cut : Nat} (i : Nat) : lastU (rowL b cut (i + 1)) b = rowU cut i := by
  induction i with
  | zero =>
    have h := rowU_nn cut 0
    have e : lastU (rowL b cut 0) b = -1 := rfl
    rw [row_last1, e, if_pos (show (-1 : Int) < rowU cut 0 by omega)]
  | succ i ih =>
    rw [row_last1, ih]
    by_cases hn : rowU cut i < rowU cut (i + 1)
    · rw [if_pos hn]
    · rw [if_neg hn]
      unfold rowU at hn ⊢
      by_cases c1 : cut = 0 ∨ i < cut
      · by_cases c2 : cut = 0 ∨ i + 1 < cut
        · rw [if_pos c1, if_pos c2]
        · rw [if_pos c1, if_neg c2] at hn; omega
      · rw [if_neg c1, if_neg (show ¬ (cut = 0 ∨ i + 1 < cut) by omega)]
theorem row_ah {b : Int} {cut i : Nat} : ahH (rowL b cut i) [] (rowP b i) = [] := by
  unfold ahH
  rw [List.filter_eq_nil_iff.2, nums_nil]
  intro x hx
  obtain ⟨j, hj, rfl⟩ := mem_rowL.1 hx
  have : (rowX b cut j).p.over (rowP b i) = false := by
    unfold Pt.over
    simp only [rowX, rowP, byt, ByteArray.size, List.size_toArray, List.length_singleton]
    simp
    intro _ _
    omega
  simp [selH, this]
theorem nth_puts {i : Nat} : ∀ (L : List Hw) (b : List Int), b.length = 32 → RightH L → (∀ x ∈ L, ¬ (x.p.o.toNat ≤ i ∧ i < x.p.o.toNat + x.p.s.size)) → nth (putH b L) i = nth b i
  | [], b, _, _, _ => rfl
  | x :: r, b, hb, hr, hn => by
    have h1 : putH b (x :: r) = putH (put b x.p) r := rfl
    rw [h1, nth_puts r (put b x.p) (length_put (hr x List.mem_cons_self) hb) (fun y hy => hr y (List.mem_cons_of_mem _ hy)) (fun y hy => hn y (List.mem_cons_of_mem _ hy)), nth_put (hr x List.mem_cons_self) hb, if_neg (hn x List.mem_cons_self)]
theorem row_busy {b : Int} (h0 : 0 ≤ b) (h1 : b < 96) {cut i : Nat} (hi : i < 32) {S : Nat → Bk} (hS : (S b.toNat).s = noSec) : idleB (blkH S (rowL b cut i) b) (rowP b i) = false := by
  have hr : RightH (setU (rowL b cut i) (onU (rowL b cut i) b)) := fun x hx => by
    obtain ⟨j, hj, rfl⟩ := mem_rowL.1 (mem_setU.1 hx).1
    exact rowP_right h0 h1 (by omega)
  have hok : OkS noSec := ⟨noSec_len, fun x hx => by rw [noSec, List.mem_replicate] at hx; rw [hx.2]; decide⟩
  have hB : OkS (blkH S (rowL b cut i) b) := by unfold blkH; rw [hS]; exact putH_ok hok hr
  have hp := rowP_right h0 h1 hi
  unfold idleB
  rw [decide_eq_false_iff_not, idle_iff hp hB.1 hB.2]
  intro e
  have e1 := nth_put hp hB.1 i
  rw [e] at e1
  have ho : (rowP b i).o.toNat = i := by simp [rowP]
  have hs : (rowP b i).s.size = 1 := rfl
  rw [ho, hs, if_pos ⟨Nat.le_refl _, Nat.lt_succ_self _⟩, Nat.sub_self] at e1
  have e2 : nth (blkH S (rowL b cut i) b) i = 0 := by
    unfold blkH
    rw [hS, nth_puts _ _ noSec_len hr]
    · have : ∀ i : Fin 32, nth noSec i.val = 0 := by decide
      exact this ⟨i, hi⟩
    · intro x hx
      obtain ⟨j, hj, rfl⟩ := mem_rowL.1 (mem_setU.1 hx).1
      simp [rowX, rowP, byt, ByteArray.size]
      omega
  have e3 : nth (sb (rowP b i).s) 0 = ((i + 1 : Nat) : Int) := by
    have : ∀ i : Fin 32, nth (sb (byt i.val)) 0 = ((i.val + 1 : Nat) : Int) := by decide
    exact this ⟨i, hi⟩
  rw [e2, e3] at e1
  omega
theorem row_add {b : Int} (h0 : 0 ≤ b) (h1 : b < 96) {cut i : Nat} (hi : i < 32) {S : Nat → Bk} (hS : (S b.toNat).s = noSec) {s : Hs} (hk : s.k = i) (hl : s.l = rowL b cut i) (hs : s.sent = rowSent cut i) (hc : s.Cnt) (first : Int) :
    (add1 S first s ⟨rowP b i, []⟩).k = ((i + 1 : Nat) : Int) ∧ (add1 S first s ⟨rowP b i, []⟩).l = rowL b cut (i + 1) ∧ (add1 S first s ⟨rowP b i, []⟩).sent = rowSent cut i ∧ (add1 S first s ⟨rowP b i, []⟩).Cnt := by
  have hcn := add1_cnt (S := S) (first := first) hc ⟨rowP b i, []⟩
  have ha : ahS s first ⟨rowP b i, []⟩ = [] := by unfold ahS; rw [hl]; exact row_ah
  have hid : ¬ (ahS s first ⟨rowP b i, []⟩ = [] ∧ idleB (blkH S s.l (⟨rowP b i, []⟩ : It).p.b) (⟨rowP b i, []⟩ : It).p = true) := fun q => by
    have := q.2
    rw [hl] at this
    rw [show (⟨rowP b i, []⟩ : It).p.b = b from rfl, show (⟨rowP b i, []⟩ : It).p = rowP b i from rfl, row_busy h0 h1 hi hS] at this
    cases this
  have hpb : (⟨rowP b i, []⟩ : It).p.b = b := rfl
  by_cases hj : joinsH s.l s.sent (⟨rowP b i, []⟩ : It).p.b (ahS s first ⟨rowP b i, []⟩)
  · have hu : lastU s.l b = rowU cut i := by
      obtain ⟨j1, j2, _⟩ := hj
      rw [hpb, hl] at j1 j2
      rw [hs] at j2
      rw [hl]
      cases i with
      | zero => exact absurd j1 (by simp [rowL, lastU])
      | succ i =>
        rw [row_last] at j1 j2 ⊢
        unfold rowU rowSent at *
        by_cases c0 : cut = 0
        · simp [c0]
        · by_cases c1 : i + 1 < cut
          · rw [if_pos (.inr (by omega)), if_pos (.inr c1)]
          · rw [if_pos (show 0 < cut ∧ cut ≤ i + 1 by omega)] at j2
            by_cases c2 : i < cut
            · rw [if_pos (.inr c2)] at j2; simp at j2
            · rw [if_neg (by omega), if_neg (by omega)]
    rw [add1_join hid hj] at hcn ⊢
    refine ⟨by simp [hk], ?_, hs, hcn⟩
    rw [hpb, hu, ha, hk, hl, rowL_succ]
    rfl
  · have hu : s.k = rowU cut i := by
      rw [hk]
      unfold joinsH at hj
      rw [hpb, ha, hl, hs] at hj
      simp only [List.not_mem_nil, false_implies, implies_true, and_true] at hj
      cases i with
      | zero => unfold rowU; split <;> omega
      | succ i =>
        rw [row_last] at hj
        have hn := rowU_nn cut i
        have hj : rowU cut i ∈ rowSent cut (i + 1) := Classical.byContradiction fun q => hj ⟨hn, q⟩
        unfold rowU rowSent at *
        by_cases c0 : 0 < cut ∧ cut ≤ i + 1
        · rw [if_pos c0] at hj
          rw [List.mem_singleton] at hj
          by_cases c2 : cut = 0 ∨ i < cut
          · rw [if_neg (by omega)]; omega
          · rw [if_neg c2] at hj; omega
        · rw [if_neg c0] at hj; cases hj
    rw [add1_new hid hj] at hcn ⊢
    refine ⟨by simp [hk], ?_, hs, hcn⟩
    rw [ha, hu, ← hu, hk, hl, rowL_succ]
    have : rowX b cut i = ⟨(i : Int), rowP b i, [], (i : Int)⟩ := by unfold rowX; rw [← hu, hk]
    rw [this]
theorem row_heads {b : Int} {cut : Nat} (i : Nat) : heads (rowL b cut (i + 1)) = rowX b cut 0 :: (if 0 < cut ∧ cut < i + 1 then [rowX b cut cut] else []) := by
  induction i with
  | zero =>
    have : rowU cut 0 = 0 := by unfold rowU; split <;> omega
    rw [if_neg (show ¬ (0 < cut ∧ cut < 0 + 1) by omega)]
    simp [heads, rowL, rowX, this]
  | succ i ih =>
    unfold heads at ih ⊢
    rw [rowL_succ, List.filter_append, ih]
    have hx : ((rowX b cut (i + 1)).num == (rowX b cut (i + 1)).u) = decide (0 < cut ∧ i + 1 = cut) := by
      simp only [rowX, rowU]
      rw [Bool.eq_iff_iff]
      simp only [beq_iff_eq, decide_eq_true_eq]
      by_cases c : cut = 0 ∨ i + 1 < cut
      · rw [if_pos c]; omega
      · rw [if_neg c]; omega
    rw [List.filter_cons, hx, List.filter_nil]
    by_cases c : 0 < cut ∧ i + 1 = cut
    · rw [decide_eq_true c, if_neg (show ¬ (0 < cut ∧ cut < i + 1) by omega), if_pos (show 0 < cut ∧ cut < i + 1 + 1 by omega), if_pos rfl, c.2]
      rfl
    · rw [decide_eq_false c, if_neg (show ¬ (false = true) by simp), List.append_nil]
      by_cases c2 : 0 < cut ∧ cut < i + 1
      · rw [if_pos c2, if_pos (show 0 < cut ∧ cut < i + 1 + 1 by omega)]
      · rw [if_neg c2, if_neg (show ¬ (0 < cut ∧ cut < i + 1 + 1) by omega)]
theorem row_units {b : Int} {cut i : Nat} (hi : 0 < i) : (units (rowL b cut i)).length = if 0 < cut ∧ cut < i then 2 else 1 := by
  obtain ⟨i, rfl⟩ : ∃ k, i = k + 1 := ⟨i - 1, by omega⟩
  unfold units
  rw [row_heads, List.length_map]
  split <;> rfl
theorem row_of {b : Int} {cut : Nat} (i : Nat) : (ofU (rowL b cut i) 0).length = if 0 < cut ∧ cut < i then cut else i := by
  induction i with
  | zero => rw [if_neg (show ¬ (0 < cut ∧ cut < 0) by omega)]; rfl
  | succ i ih =>
    unfold ofU at ih ⊢
    rw [rowL_succ, List.filter_append, List.length_append, ih, List.filter_cons, List.filter_nil]
    by_cases c : cut = 0 ∨ i < cut
    · have : ((rowX b cut i).u == 0) = true := by simp [rowX, rowU, c]
      rw [this, if_neg (show ¬ (0 < cut ∧ cut < i) by omega), if_neg (show ¬ (0 < cut ∧ cut < i + 1) by omega)]; rfl
    · have : ((rowX b cut i).u == 0) = false := by
        simp only [rowX, rowU, if_neg c]
        simp; omega
      rw [this, if_pos (show 0 < cut ∧ cut < i + 1 by omega), if_neg (show ¬ (false = true) by simp), List.length_nil]
      by_cases c2 : 0 < cut ∧ cut < i
      · rw [if_pos c2]; rfl
      · rw [if_neg c2]; omega
theorem row_ready {b : Int} {cut : Nat} (hc : 0 < cut) : readyU (rowL b cut cut) b = [0] := by
  obtain ⟨c, rfl⟩ : ∃ c, cut = c + 1 := ⟨cut - 1, by omega⟩
  have hon : onU (rowL b (c + 1) (c + 1)) b = [0] := by
    unfold onU
    rw [row_heads, if_neg (show ¬ (0 < c + 1 ∧ c + 1 < c + 1) by omega)]
    simp [rowX, rowP]
  unfold readyU
  rw [hon]
  unfold keepU
  have : okU (rowL b (c + 1) (c + 1)) [] 0 = true := by
    unfold okU
    rw [List.all_eq_true]
    intro x hx
    obtain ⟨j, hj, rfl⟩ := mem_rowL.1 (mem_ofU.1 hx).1
    rfl
  rw [if_pos this]
  rfl
theorem row_set {b : Int} {cut : Nat} (hc : 0 < cut) : (setU (rowL b cut cut) (readyU (rowL b cut cut) b)).length = cut := by
  rw [row_ready hc]
  unfold setU
  rw [List.flatMap_singleton, row_of, if_neg (show ¬ (0 < cut ∧ cut < cut) by omega)]
theorem row_wrote {b cut : Nat} (hc : 0 < cut) {S : Nat → Bk} {s : Hs} (hl : s.l = rowL b cut cut) (hs : s.sent = []) (hb : (S b).b = false) :
    wrN S s b = cut ∧ wrE S s b = 0 ∧ (wrS S s b b).s = (S b).s ∧ (wrS S s b b).b = false ∧ (wrH S s b).k = s.k ∧ (wrH S s b).l = s.l ∧ (wrH S s b).sent = [0] := by
  have hw : wact s b = true := by unfold wact; rw [hl, row_ready hc, hs]; rfl
  have hg : wgo S s b = true := by unfold wgo; rw [hw, hb]; rfl
  refine ⟨?_, ?_, ?_, ?_, wrH_k S s b, wrH_l S s b, ?_⟩
  · unfold wrN; rw [if_pos hg, hl, row_set hc]
  · unfold wrE; rw [hw, hb]; rfl
  · unfold wrS; rw [if_pos hg, upd_same]
  · unfold wrS; rw [if_pos hg, upd_same]; exact hb
  · unfold wrH; rw [if_pos hg, hl, row_ready hc, hs]; rfl
theorem bounds8 {n : Int} (h : (Lit.int .u8 n).wf = true) : 0 ≤ n ∧ n ≤ 255 := by
  simp [Lit.wf, IntKind.min, IntKind.max, IntKind.signed, IntKind.bits] at h
  omega
theorem w64 {x : Int} (h0 : 0 ≤ x) (h1 : x < 1000000) : wrap64 x = x := by unfold wrap64; omega
theorem tmN {x : Int} (h0 : 0 ≤ x) (n : Nat) : x.tmod (n : Int) = ((x.toNat % n : Nat) : Int) := by
  rw [Int.tmod_eq_emod_of_nonneg h0]
  obtain ⟨k, rfl⟩ : ∃ k : Nat, x = (k : Int) := ⟨x.toNat, by omega⟩
  simp
theorem row_ok {b n : Nat} (hb : b < n) (hn : n ≤ 96) {i : Nat} (hi : i < 32) {k : Int} {wl : Nat} (hw : wl ≤ 100) : refusesE n k wl [⟨rowP (b : Int) i, []⟩] = 0 := by
  have hr := rowP_right (b := (b : Int)) (by omega) (by omega) hi
  have hbn : (rowP (b : Int) i).b = (b : Int) := rfl
  unfold refusesE
  rw [if_neg (by simp [badForm, hr, hbn]; omega), if_neg (by simp [badAll, badDeps, itN]), if_neg (by simp; omega)]
theorem byt_is (i : Nat) : strOfNums [(i : Int) + 1] = byt i := by
  unfold strOfNums byt
  have : ((i : Int) + 1).toNat = i + 1 := by omega
  simp [this]
theorem byt_conv (i : Nat) (W : World) : (convert 30 9 (.slice (some ⟨W.heap.size, 0, none⟩) 1 1)).run Try.prog (W.alloc (.cells #[.int .u8 ((i : Int) + 1)] 5)) = .ok (.string (byt i)) (W.alloc (.cells #[.int .u8 ((i : Int) + 1)] 5)) := by
  rw [← byt_is]
  refine run_convert_bytes_arg _ 30 5 Try.underlying30 Try.underlying5 W.heap.size 0 1 1 [(i : Int) + 1] rfl (fun j hj => ?_) 9 Try.underlying9
  obtain rfl : j = 0 := by omega
  exact cell_of_row _ _ _ _ 5 (0, 0) (heap_alloc_new W _)
theorem sent_next (cut i : Nat) : rowSent cut i = if 0 < cut ∧ cut < i + 1 then [0] else [] := by
  unfold rowSent
  by_cases q : 0 < cut ∧ cut ≤ i
  · rw [if_pos q, if_pos (by omega)]
  · rw [if_neg q, if_neg (by omega)]
end Go.Proofs.Ytkldiofleepkfaa.Hd
