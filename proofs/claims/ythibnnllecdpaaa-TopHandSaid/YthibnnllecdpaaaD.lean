/- Where a block stands; whether some can go. -/
import Derived.Test.YthibnnllecdpaaaC
namespace Go.Proofs.Ythibnnllecdpaaa
open Go.RowKit

theorem bcell {W w1 : World} (hb : Below W.heap.size W w1) : (∀ b o, b < W.heap.size → w1.cell? ⟨b, o, none⟩ = W.cell? ⟨b, o, none⟩) ∧ (∀ b o, b < W.heap.size → w1.frozen? ⟨b, o, none⟩ = W.frozen? ⟨b, o, none⟩) :=
  ⟨fun b o h => hb.cell (p := ⟨b, o, none⟩) h, fun b o h => hb.frozen (p := ⟨b, o, none⟩) h⟩
theorem can_any (h : H) (w : World) : Calls Try.prog 38 #[h.v] w fun e w' => e = .returned (.bool h.can) ∧ Below w.heap.size w w' := by
  obtain ⟨b, p, d, t⟩ := h
  unfold H.v
  by_cases hp : p = 0
  · subst hp
    go_enter Try.func38, Try.ntmps38
    go_wp2
    go_ret
    exact ⟨ret_bool (by simp [H.can]), (Below.refl _ _).alloc (Nat.le_refl _) _⟩
  · have hp' : (p == 0) = false := by simpa using hp
    go_enter Try.func38, Try.ntmps38
    go_wp2
    go_ret
    exact ⟨ret_bool (by simp [H.can, hp]), (Below.refl _ _).alloc (Nat.le_refl _) _⟩
theorem u1_any (h : H) (w : World) : Calls Try.prog 37 #[h.v] w fun e w' => e = .returned (.bool h.can) ∧ Below w.heap.size w w' := by
  have HC := Lib.hid (can_any h)
  obtain ⟨b, p, d, t⟩ := h
  unfold H.v at HC ⊢
  go_enter Try.func37, Try.ntmps37
  go_wp2_with (refine (HC.out _).mono ?_; rintro e w1 ⟨rfl, hb1⟩)
  go_ret
  exact ⟨rfl, ((Below.refl _ _).alloc (Nat.le_refl _) _).trans (hb1.mono (by simp))⟩
theorem u2_any (h : H) (w : World) : Calls Try.prog 40 #[h.v] w fun e w' => e = .returned (.bool h.goes) ∧ Below w.heap.size w w' := by
  have HC := Lib.hid (can_any h)
  obtain ⟨b, p, d, t⟩ := h
  unfold H.goes
  have hs : (w.heap.size : Nat) < w.heap.size + 1 := Nat.lt_succ_self _
  cases hc : (H.mk b p d t).can with
  | true =>
    rw [hc] at HC
    clear hc
    unfold H.v at HC ⊢
    go_enter Try.func40, Try.ntmps40
    go_wp2_with (refine (HC.out _).mono ?_; rintro e w1 ⟨rfl, hb1⟩; obtain ⟨hcl, hfr⟩ := bcell hb1)
    go_ret
    exact ⟨by simp, ((Below.refl _ _).alloc (Nat.le_refl _) _).trans (hb1.mono (by simp))⟩
  | false =>
    rw [hc] at HC
    clear hc
    unfold H.v at HC ⊢
    go_enter Try.func40, Try.ntmps40
    go_wp2_with (refine (HC.out _).mono ?_; rintro e w1 ⟨rfl, hb1⟩; obtain ⟨hcl, hfr⟩ := bcell hb1)
    go_ret
    exact ⟨by simp, ((Below.refl _ _).alloc (Nat.le_refl _) _).trans (hb1.mono (by simp))⟩
theorem eq_any (h : H) (x : Int) (c : Nat) (w : World) (hc : w.cell? ⟨c, 0, none⟩ = some (.int .i64 x)) : Calls Try.prog 57 #[h.v, .pointer (some ⟨c, 0, none⟩)] w fun e w' => e = .returned (.bool (h.b == x)) ∧ Below w.heap.size w w' := by
  obtain ⟨b, p, d, t⟩ := h
  unfold H.v
  have hlt := World.block_lt_of_cell? w _ hc
  have hne : c ≠ w.heap.size := by simp at hlt; omega
  go_enter Try.func57, Try.ntmps57
  go_wp2
  go_ret
  exact ⟨rfl, (Below.refl _ _).alloc (Nat.le_refl _) _⟩

set_option maxRecDepth 100000 in
set_option maxHeartbeats 1000000 in
theorem index57 (B : Nat) (v : Value) (l : List H) (x : Int) (c : Nat) (w : World) (hrow : w.ownsRow B 66 4 v l.length (flat l)) (_hl : l.length ≤ 1000) (hc : w.cell? ⟨c, 0, none⟩ = some (.int .i64 x)) :
    Calls Try.prog 56 #[v, .func (.func 57) #[] #[.pointer (some ⟨c, 0, none⟩)]] w fun e w' => e = .returned (.int .i64 (idxI l x)) ∧ Below w.heap.size w w' := by
  obtain ⟨A, cap, hv⟩ : ∃ A cap, v = .slice A l.length cap := by
    rcases hrow.2 with ⟨q, h0⟩ | ⟨g, cap, _, q, _⟩
    · exact ⟨none, 0, by rw [q, h0]⟩
    · exact ⟨_, cap, q⟩
  have HR := Lib.hid hrow
  subst hv
  clear hrow
  have HCC := Lib.hid hc
  have hclt : c < w.heap.size := by simpa using World.block_lt_of_cell? w _ hc
  clear hc
  go_enter Try.func56, Try.ntmps56
  go_wp2
  go_loopw [8] (fun i wr => ∃ k : Nat, k ≤ l.length ∧ i = .int .i64 k ∧ Below w.heap.size w wr ∧ ∀ j, j < k → ((nthH l j).b == x) = false) (fun i _ => l.length - (intOf i).toNat)
  case atStart => exact ⟨0, Nat.zero_le _, rfl, Below.refl _ _, fun j hj => absurd hj (by omega)⟩
  case round =>
    obtain ⟨k, hk, rfl, hB, hno⟩ := hrel
    rename World => wr
    have Hno := Lib.hid hno
    have HB := Lib.hid hB
    clear hno hB
    by_cases hlt : k < l.length
    · have hlti : (k : Int) < (l.length : Int) := by omega
      have hk0 : (0 : Int) ≤ (k : Int) := by omega
      have hrow : wr.ownsRow B 66 4 (.slice A l.length cap) l.length (flat l) := (Kept.fresh (S := fun _ => False) HB.out).row HR.out (fun _ _ q => q)
      obtain ⟨b, cap', hv, h1, h2, hb, _, c0, c1, c2, c3, _⟩ := row_at hrow hlt
      cases hv
      clear hrow
      have HE := Lib.hid (fun w => eq_any (nthH l k) x c w)
      unfold maxLen at h2
      have HC3 : Hid (wr.cell? ⟨c, 0, none⟩ = some (.int .i64 x)) := (HB.out.cell (p := ⟨c, 0, none⟩) hclt).trans HCC.out
      cases ht : ((nthH l k).b == x) with
      | true =>
        have Hf := Lib.hid (show idxI l x = (k : Int) from by rw [idxI, has, idx_at hlt Hno.out (by simpa using ht)]; simp [hlt])
        rw [ht] at HE
        clear ht
        generalize nthH l k = h at c0 c1 c2 c3 HE
        obtain ⟨hb', hp', hd', ht'⟩ := h
        unfold H.v at HE
        go_wp2_with (refine (HE.out wr HC3.out).mono ?_; rintro e w1 ⟨rfl, hb1⟩; have HB1 := Lib.hid hb1; clear hb1)
        go_ret
        exact ⟨ret_int Hf.out.symm, HB.out.trans (HB1.out.mono HB.out.size)⟩
      | false =>
        have Hn : Hid (∀ j, j < k + 1 → ((nthH l j).b == x) = false) := fun j hj => by
          rcases Nat.lt_or_ge j k with h | h
          · exact Hno.out j h
          · obtain rfl : j = k := by omega
            exact ht
        rw [ht] at HE
        clear ht
        generalize nthH l k = h at c0 c1 c2 c3 HE
        obtain ⟨hb', hp', hd', ht'⟩ := h
        unfold H.v at HE
        go_wp2_with (refine (HE.out wr HC3.out).mono ?_; rintro e w1 ⟨rfl, hb1⟩; have HB1 := Lib.hid hb1; clear hb1)
        go_roundw
        case rel => exact ⟨k + 1, by omega, by go_num, HB.out.trans (HB1.out.mono HB.out.size), Hn.out⟩
        case measure => simp [intOf]; omega
    · obtain rfl : k = l.length := by omega
      have Hf := Lib.hid (show idxI l x = -1 from by rw [idxI, has, idx_none Hno.out]; simp)
      go_wp2
      go_ret
      exact ⟨ret_int Hf.out.symm, HB.out⟩

/-- where the first one stands that can go -/
def canI (l : List H) : Int := if l.any H.can then (l.findIdx H.can : Int) else -1
theorem canI_at {l : List H} {k : Nat} (hk : k < l.length) (h1 : ∀ j, j < k → (nthH l j).can = false) (h2 : (nthH l k).can = true) : canI l = (k : Int) := by
  have e : l.findIdx H.can = k := by
    rw [List.findIdx_eq hk]
    refine ⟨by rw [← nthH_lt hk]; exact h2, fun j hj => ?_⟩
    have := h1 j hj
    rwa [nthH_lt (by omega)] at this
  have : l.any H.can = true := List.any_eq_true.2 ⟨l[k], List.getElem_mem hk, by rw [← nthH_lt hk]; exact h2⟩
  simp [canI, this, e]
theorem canI_none {l : List H} (h1 : ∀ j, j < l.length → (nthH l j).can = false) : canI l = -1 := by
  have : l.any H.can = false := by
    rw [List.any_eq_false]
    intro x hx
    obtain ⟨j, hj, rfl⟩ := List.mem_iff_getElem.1 hx
    have := h1 j hj
    rw [nthH_lt hj] at this
    simp [this]
  simp [canI, this]
theorem canI_ge (l : List H) : decide (0 ≤ canI l) = l.any H.can := by
  unfold canI
  cases h : l.any H.can <;> simp

set_option maxRecDepth 100000 in
set_option maxHeartbeats 1000000 in
theorem index37 (B : Nat) (v : Value) (l : List H) (w : World) (hrow : w.ownsRow B 66 4 v l.length (flat l)) (hl : l.length ≤ 1000) :
    Calls Try.prog 56 #[v, .func (.func 37) #[] #[]] w fun e w' => e = .returned (.int .i64 (canI l)) ∧ Below w.heap.size w w' := by
  obtain ⟨A, cap, hv⟩ : ∃ A cap, v = .slice A l.length cap := by
    rcases hrow.2 with ⟨q, h0⟩ | ⟨g, cap, _, q, _⟩
    · exact ⟨none, 0, by rw [q, h0]⟩
    · exact ⟨_, cap, q⟩
  have HR := Lib.hid hrow
  subst hv
  clear hrow
  skip
  go_enter Try.func56, Try.ntmps56
  go_wp2
  go_loopw [8] (fun i wr => ∃ k : Nat, k ≤ l.length ∧ i = .int .i64 k ∧ Below w.heap.size w wr ∧ ∀ j, j < k → (nthH l j).can = false) (fun i _ => l.length - (intOf i).toNat)
  case atStart => exact ⟨0, Nat.zero_le _, rfl, Below.refl _ _, fun j hj => absurd hj (by omega)⟩
  case round =>
    obtain ⟨k, hk, rfl, hB, hno⟩ := hrel
    rename World => wr
    have Hno := Lib.hid hno
    have HB := Lib.hid hB
    clear hno hB
    by_cases hlt : k < l.length
    · have hlti : (k : Int) < (l.length : Int) := by omega
      have hk0 : (0 : Int) ≤ (k : Int) := by omega
      have hrow : wr.ownsRow B 66 4 (.slice A l.length cap) l.length (flat l) := (Kept.fresh (S := fun _ => False) HB.out).row HR.out (fun _ _ q => q)
      obtain ⟨b, cap', hv, h1, h2, hb, _, c0, c1, c2, c3, _⟩ := row_at hrow hlt
      cases hv
      clear hrow
      have HE := Lib.hid (fun w => u1_any (nthH l k) w)
      unfold maxLen at h2
      skip
      cases ht : (nthH l k).can with
      | true =>
        have Hf := Lib.hid (show canI l = (k : Int) from canI_at hlt Hno.out ht)
        rw [ht] at HE
        clear ht
        generalize nthH l k = h at c0 c1 c2 c3 HE
        obtain ⟨hb', hp', hd', ht'⟩ := h
        unfold H.v at HE
        go_wp2_with (refine (HE.out wr).mono ?_; rintro e w1 ⟨rfl, hb1⟩; have HB1 := Lib.hid hb1; clear hb1)
        go_ret
        exact ⟨ret_int Hf.out.symm, HB.out.trans (HB1.out.mono HB.out.size)⟩
      | false =>
        have Hn : Hid (∀ j, j < k + 1 → (nthH l j).can = false) := fun j hj => by
          rcases Nat.lt_or_ge j k with h | h
          · exact Hno.out j h
          · obtain rfl : j = k := by omega
            exact ht
        rw [ht] at HE
        clear ht
        generalize nthH l k = h at c0 c1 c2 c3 HE
        obtain ⟨hb', hp', hd', ht'⟩ := h
        unfold H.v at HE
        go_wp2_with (refine (HE.out wr).mono ?_; rintro e w1 ⟨rfl, hb1⟩; have HB1 := Lib.hid hb1; clear hb1)
        go_roundw
        case rel => exact ⟨k + 1, by omega, by go_num, HB.out.trans (HB1.out.mono HB.out.size), Hn.out⟩
        case measure => simp [intOf]; omega
    · obtain rfl : k = l.length := by omega
      have Hf := Lib.hid (show canI l = -1 from canI_none Hno.out)
      go_wp2
      go_ret
      exact ⟨ret_int Hf.out.symm, HB.out⟩

theorem some_any (B : Nat) (v : Value) (l : List H) (w : World) (hrow : w.ownsRow B 66 4 v l.length (flat l)) (hl : l.length ≤ 1000) :
    Calls Try.prog 36 #[v, .func (.func 37) #[] #[]] w fun e w' => e = .returned (.bool (l.any H.can)) ∧ Below w.heap.size w w' := by
  have HI := Lib.hid (index37 B v l w hrow hl)
  have Hc := Lib.hid (canI_ge l)
  clear hrow
  go_enter Try.func36, Try.ntmps36
  go_wp2_with (refine HI.out.mono ?_; rintro e w1 ⟨rfl, hb1⟩)
  go_ret
  exact ⟨ret_bool Hc.out, hb1⟩
theorem find_any (B : Nat) (g : Nat) (v : Value) (m : Int) (l : List H) (x : Int) (w : World) (hC : CacheAt 69 66 B w g v m l) (hl : l.length ≤ 1000) :
    Calls Try.prog 35 #[.pointer (some ⟨g, 0, none⟩), .int .i64 x] w fun e w' => e = .returned (.int .i64 (idxI l x)) ∧ Below w.heap.size w w' := by
  have hs := hC.slot
  have hg := hC.glt
  obtain ⟨W, hW⟩ : ∃ W, W = w.alloc (.cells #[.int .i64 x] 3) := ⟨_, rfl⟩
  have hC1 : CacheAt 69 66 B W g v m l := by rw [hW]; exact hC.fresh ((Below.refl _ _).alloc (Nat.le_refl _) _)
  have HI := Lib.hid (index57 B v l x w.heap.size W hC1.row hl (by rw [hW]; simp))
  rw [hW] at HI
  have hne : g ≠ w.heap.size := by omega
  obtain ⟨A, cap, rfl, _, _⟩ := hC.form
  clear hC hC1 hW
  go_enter Try.func35, Try.ntmps35
  go_wp2_with (refine HI.out.mono ?_; rintro e w1 ⟨rfl, hb1⟩)
  go_ret
  exact ⟨rfl, ((Below.refl _ _).alloc (Nat.le_refl _) _).trans (hb1.mono (by simp))⟩
/-- ask of a cache: the place, or that it is not there -/
theorem ask_any (B : Nat) (g : Nat) (v : Value) (m : Int) (l : List H) (x : Int) (w : World) (hC : CacheAt 69 66 B w g v m l) (hl : l.length ≤ 1000) :
    Calls Try.prog 42 #[.pointer (some ⟨g, 0, none⟩), .int .i64 x] w fun e w' => e = .returned (.tuple #[.int .i64 (if has l x then (idx l x : Int) else 0), .int .i64 (if has l x then 0 else 5)]) ∧ Below w.heap.size w w' := by
  have HF := Lib.hid (find_any B g v m l x w hC hl)
  have hle := idx_le l x
  clear hC
  cases hx : has l x with
  | true =>
    rw [idxI_yes hx] at HF
    simp only [if_true]
    generalize idx l x = n at HF hle
    have hn : (0 : Int) ≤ (n : Int) := by omega
    clear hx
    go_enter Try.func42, Try.ntmps42
    go_wp2_with (refine HF.out.mono ?_; rintro e w1 ⟨rfl, hb1⟩)
    go_ret2
    exact ⟨rfl, hb1⟩
  | false =>
    rw [idxI_no hx] at HF
    simp only [Bool.false_eq_true, if_false]
    clear hx
    go_enter Try.func42, Try.ntmps42
    go_wp2_with (refine HF.out.mono ?_; rintro e w1 ⟨rfl, hb1⟩)
    go_ret2
    exact ⟨rfl, hb1⟩
theorem ask_nil (x : Int) (w : World) : Calls Try.prog 42 #[.pointer none, .int .i64 x] w fun e w' => e = .returned (.tuple #[.int .i64 0, .int .i64 1]) ∧ w = w' := by
  go_enter Try.func42, Try.ntmps42
  go_wp2
  go_ret2
  exact ⟨rfl, rfl⟩
end Go.Proofs.Ythibnnllecdpaaa
