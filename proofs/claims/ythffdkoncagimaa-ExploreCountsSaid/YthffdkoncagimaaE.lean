/- The document's fits, needs, closed. -/
import Derived.Test.YthffdkoncagimaaD
set_option linter.unusedVariables false
set_option linter.unusedSimpArgs false
namespace Go.Proofs.Ythffdkoncagimaa
open Go.RowKit
def fitB (R : List (List Int)) : Bool := decide (R.length ≤ 14) && okB R
set_option maxRecDepth 100000 in
set_option maxHeartbeats 1000000 in
theorem fits_any (A : Option Addr) (c : Nat) (R : List (List Int)) (w : World) (hl : R.length ≤ 1000) (hr : ∀ k, k < R.length → (rowI R k).length ≤ 1000) (hM : Mat w w.heap.size A R) :
    Calls Try.prog 22 #[.slice A R.length c] w fun e w' => e = .returned (.bool (fitB R)) ∧ w = w' := by
  have HR := Lib.hid (refright_any A c R w hl hr hM)
  clear hM hr
  by_cases h14 : R.length ≤ 14
  · have hi : (R.length : Int) ≤ 14 := by omega
    have Hf : Hid (fitB R = okB R) := by unfold Hid fitB; rw [decide_eq_true h14]; rfl
    generalize okB R = b at *
    go_enter Try.func22, Try.ntmps22
    go_wp2_with (go_at_call 38; (with_reducible refine HR.out.mono ?_); rintro e w4 ⟨rfl, rfl⟩)
    go_ret
    exact ⟨by rw [Hf.out]; simp, rfl⟩
  · have hi : ¬ (R.length : Int) ≤ 14 := by omega
    have Hf : Hid (fitB R = false) := by unfold Hid fitB; rw [decide_eq_false h14]; rfl
    go_enter Try.func22, Try.ntmps22
    go_wp2_with fail
    go_ret
    exact ⟨by rw [Hf.out]; rfl, rfl⟩
theorem i_shor (m d : Nat) (hm : m < 16384) (hd : d < 14) : bits .or .i64 (m : Int) (IntKind.i64.wrap (2 ^ d)) = ((m ||| 2 ^ d : Nat) : Int) := by
  have hp : 2 ^ d < 2 ^ 63 := Nat.pow_lt_pow_right (by decide) (by omega)
  have e : (2 : Int) ^ d = ((2 ^ d : Nat) : Int) := by simp
  rw [e, wraps_i64 _ (Int.natCast_nonneg _) (by exact_mod_cast hp)]
  exact i_or m (2 ^ d) (by omega) hp
theorem pow_lt14 {d : Nat} (h : d < 14) : 2 ^ d < 16384 := by
  show 2 ^ d < 2 ^ 14
  exact Nat.pow_lt_pow_right (by decide) h
theorem needN_lt {r : List Nat} (h : ∀ d ∈ r, d < 14) : needN r < 16384 := by
  refine Nat.lt_pow_two_of_testBit (n := 14) _ fun i hi => ?_
  rw [needN_bit]
  refine decide_eq_false fun hm => ?_
  have := h i hm
  omega
theorem take_el' (q : List Nat) (k : Nat) (h : k < q.length) : q.take (k + 1) = q.take k ++ [el q k] := take_el q k h
theorem el_mem {q : List Nat} {k : Nat} (h : k < q.length) : el q k ∈ q := by rw [el_lt h]; exact List.getElem_mem h
theorem lok_needs {D : List (List Nat)} (h : Sm D) : Lok (needsL D) := ⟨by rw [length_needsL]; exact h.n, fun k hk => by
  rw [length_needsL] at hk
  show _ < 2 ^ 14
  exact Nat.lt_of_lt_of_le (h.need_lt hk) (Nat.pow_le_pow_right (by decide) h.n)⟩
theorem needs_take {D : List (List Nat)} {k : Nat} (h : k < D.length) : needsL (D.take (k + 1)) = needsL (D.take k) ++ [needN (rowN D k)] := by
  unfold needsL
  rw [List.map_take, List.map_take, List.take_succ_eq_append_getElem (by simpa using h), rowN_lt h]; simp
set_option maxRecDepth 100000 in
set_option maxHeartbeats 2000000 in
theorem rneeds_any (A : Option Addr) (c : Nat) (D : List (List Nat)) (w : World) (hD : Sm D) (hlen : ∀ k, (rowN D k).length ≤ 256) (hM : Mat w w.heap.size A (rowsI D)) :
    Calls Try.prog 23 #[.slice A D.length c] w (GivesM w (natsI (needsL D))) := by
  obtain ⟨i0, hi0, hz0, hz1, hz2⟩ := info_parts info3
  have HM := Lib.hid hM
  have HD := Lib.hid hD
  have HL := Lib.hid hlen
  have hn := hD.n
  clear hM hD hlen
  go_enter Try.func23, Try.ntmps23
  go_wp2
  go_loopw [3, 4] (fun o i wr => ∃ (k : Nat) (A' : Option Addr) (c' : Nat), k ≤ D.length ∧ i = .int .i64 k ∧ o = .slice A' (natsI (needsL (D.take k))).length c' ∧ Hid (RowI wr w.heap.size A' c' (natsI (needsL (D.take k)))) ∧ Hid (Below w.heap.size w wr)) (fun _ i _ => D.length - (intOf i).toNat)
  case atStart => exact ⟨0, none, 0, Nat.zero_le _, rfl, rfl, World.ownsRow_nil _ _ _ _, Below.refl _ _⟩
  case round =>
    obtain ⟨k, A', c', hk, rfl, rfl, hrow, hB⟩ := hrel
    rename World => wr
    have hk0 : (0 : Int) ≤ (k : Int) := by omega
    have hwz := hB.out.size
    by_cases hlt : k < D.length
    · have hki : (k : Int) < (D.length : Int) := by omega
      obtain ⟨b1, o1, A1, c1, rfl, l1, x1, hI⟩ := (HM.out.below hB.out).at_ (k := k) (by rw [length_rowsI]; exact hlt)
      rw [rowI_rowsI, length_natsI] at x1
      rw [rowI_rowsI] at hI
      have hrl := HL.out k
      have HI := Lib.hid hI
      have HR : Hid (∀ d ∈ rowN D k, d < 14) := fun d hd => by have := HD.out.r k d hd; omega
      have Hs : Hid (natsI (needsL (D.take (k + 1))) = natsI (needsL (D.take k)) ++ [((needN (rowN D k) : Nat) : Int)]) := by unfold Hid; rw [needs_take hlt, natsI_snoc]
      have hol : (natsI (needsL (D.take k))).length ≤ 14 := by rw [length_natsI, length_needsL, List.length_take]; omega
      clear hI
      generalize natsI (needsL (D.take k)) = o at *
      generalize rowN D k = r at *
      go_wp2
      go_loopw [5, 6] (fun m j wr' => ∃ q : Nat, q ≤ r.length ∧ m = .int .i64 ((needN (r.take q) : Nat) : Int) ∧ j = .int .i64 q ∧ wr' = wr) (fun _ j _ => r.length - (intOf j).toNat)
      case atStart => exact ⟨0, Nat.zero_le _, rfl, rfl, rfl⟩
      case round =>
        obtain ⟨q, hq, rfl, rfl, rfl⟩ := hrel
        rename World => wq
        have hq0 : (0 : Int) ≤ (q : Int) := by omega
        by_cases hqt : q < r.length
        · have hqi : (q : Int) < (r.length : Int) := by omega
          obtain ⟨b2, o2, rfl, l2, c2⟩ := HI.out.at_ (k := q) (by rw [length_natsI]; exact hqt)
          rw [nth_nats _ _ hqt] at c2
          have hd := HR.out _ (el_mem hqt)
          have hd0 : (0 : Int) ≤ ((el r q : Nat) : Int) := by omega
          have hd6 : ((el r q : Nat) : Int) < 64 := by omega
          have HV : Hid (bits .or .i64 ((needN (r.take q) : Nat) : Int) (wrap64 (2 ^ el r q)) = ((needN (r.take (q + 1)) : Nat) : Int)) := by
            unfold Hid
            rw [← IntWalk.i64_left, i_shor _ _ (needN_lt fun d h => HR.out d (List.mem_of_mem_take h)) hd, take_el _ _ hqt, needN_snoc]
          clear hd
          generalize needN (r.take q) = m at *
          generalize el r q = d at *
          go_wp2
          go_roundw
          case rel => exact ⟨q + 1, by omega, congrArg _ HV.out, by go_num, trivial⟩
          case measure => simp [intOf]; omega
        · obtain rfl : q = r.length := by omega
          have hqi : ¬ (r.length : Int) < (r.length : Int) := by omega
          rw [List.take_length]
          generalize needN r = m at *
          go_wp2_with (at_builtin; refine wpList_append_src rfl (.tmp 32) (.tmp 34) 35 rfl w.heap.size 3 i0 (.int .i64 0) 1 8 Try.underlying35 hi0 hz0 hz1 hz2 rfl (by decide) (.slice A' o.length c') o.length (intsV o) rfl (ai_row (m : Int) hrow.out) (some ⟨wq.heap.size, 0, none⟩) 1 1 [.int .i64 (m : Int)] rfl rfl (ai_src wq (m : Int)) (by intro h; cases h) (by intro u hu; simp at hu; subst hu; rfl) (by unfold maxLen; omega) (by omega) (by simp; omega) (o.length + 1) rfl ?_; intro A7 c7 w7 ho7 hg7 hor7; have G1 := Lib.hid (ai_new hrow.out hB.out ho7 hg7).1; have G2 := Lib.hid (ai_new hrow.out hB.out ho7 hg7).2; clear ho7 hg7 hor7)
          go_roundw
          case rel => exact ⟨k + 1, A7, c7, by omega, by go_num, by rw [Hs.out, List.length_append]; rfl, by rw [Hs.out]; exact G1.out, G2.out⟩
          case measure => simp [intOf]; omega
    · obtain rfl : k = D.length := by omega
      have hki : ¬ (D.length : Int) < (D.length : Int) := by omega
      rw [List.take_length] at *
      go_wp2
      go_ret
      exact ⟨A', c', rfl, hrow.out, hB.out⟩
theorem i_sub (x s : Nat) (hx : x < 16384) (hs : s < 16384) : (bits .and .i64 (x : Int) (s : Int) != (x : Int)) = !subS x s := by
  rw [i_and _ _ (by omega) (by omega)]
  unfold subS
  by_cases h : x &&& s = x
  · rw [h]; simp
  · rw [decide_eq_false h]
    have : ((x &&& s : Nat) : Int) ≠ (x : Int) := fun e => h (by exact_mod_cast e)
    simpa using this
set_option maxRecDepth 100000 in
set_option maxHeartbeats 2000000 in
theorem rclosed_any (A : Option Addr) (c : Nat) (L : List Nat) (s : Nat) (w : World) (hL : Lok L) (hs : s < 16384) (hI : Ints w w.heap.size A (natsI L)) :
    Calls Try.prog 24 #[.slice A L.length c, .int .i64 (s : Int)] w fun e w' => e = .returned (.bool (clo L s)) ∧ Below w.heap.size w w' := by
  have HI := Lib.hid hI
  have HL := Lib.hid hL
  have hn := hL.n
  clear hI hL
  go_enter Try.func24, Try.ntmps24
  go_wp2
  go_loopw [5] (fun i wr => ∃ k : Nat, k ≤ L.length ∧ i = .int .i64 k ∧ Hid (∀ j, j < k → s.testBit j = true → subS (nd L j) s = true) ∧ Hid (Below w.heap.size w wr)) (fun i _ => L.length - (intOf i).toNat)
  case atStart => exact ⟨0, Nat.zero_le _, rfl, fun j hj => absurd hj (Nat.not_lt_zero _), Below.refl _ _⟩
  case round =>
    obtain ⟨k, hk, rfl, hC, hB⟩ := hrel
    rename World => wr
    have hk0 : (0 : Int) ≤ (k : Int) := by omega
    by_cases hlt : k < L.length
    · have hki : (k : Int) < (L.length : Int) := by omega
      have hk6 : (k : Int) < 64 := by omega
      obtain ⟨b1, o1, rfl, l1, c1⟩ := (HI.out.below hB.out).at_ (k := k) (by rw [length_natsI]; exact hlt)
      rw [nth_nats _ _ hlt] at c1
      have hel : el L k = nd L k := rfl
      rw [hel] at c1
      clear hel
      have X0 : Hid (wr.drew.cell? ⟨b1, o1 + k, none⟩ = some (.int .i64 ((nd L k : Nat) : Int))) := c1
      have hbit := bit_at_i s k (by omega)
      cases hb : s.testBit k with
      | false =>
        have HC : Hid (∀ j, j < k + 1 → s.testBit j = true → subS (nd L j) s = true) := fun j hj h => by
          rcases Nat.lt_or_ge j k with h1 | h1
          · exact hC.out j h1 h
          · obtain rfl : j = k := by omega
            rw [hb] at h; cases h
        rw [hb] at hbit
        clear hb c1
        go_wp2
        go_quiet (fail)
        go_wp2
        go_roundw
        case rel => exact ⟨k + 1, by omega, by go_num, HC.out, bdn hB.out _⟩
        case measure => simp [intOf]; omega
      | true =>
        have hsub := i_sub (nd L k) s (HL.out.b k hlt) hs
        cases hq : subS (nd L k) s with
        | true =>
          have HC : Hid (∀ j, j < k + 1 → s.testBit j = true → subS (nd L j) s = true) := fun j hj h => by
            rcases Nat.lt_or_ge j k with h1 | h1
            · exact hC.out j h1 h
            · obtain rfl : j = k := by omega
              exact hq
          rw [hb] at hbit
          rw [hq] at hsub
          clear hb c1 hq
          go_wp2
          go_region_held3 (fun V => V.cell? ⟨b1, o1 + k, none⟩ = some (.int .i64 ((nd L k : Nat) : Int))) (exact X0.out) (fail)
          go_wp2
          go_roundw
          case rel => exact ⟨k + 1, by omega, by go_num, HC.out, bdn hB.out _⟩
          case measure => simp [intOf]; omega
        | false =>
          have HN : Hid (clo L s = false) := by
            unfold Hid
            cases r : clo L s
            · rfl
            · rw [clo_iff] at r
              have := r k hlt hb
              rw [hq] at this; cases this
          rw [hb] at hbit
          rw [hq] at hsub
          clear hb c1 hq
          go_wp2
          go_region_held3 (fun V => V.cell? ⟨b1, o1 + k, none⟩ = some (.int .i64 ((nd L k : Nat) : Int))) (exact X0.out) (fail)
          go_wp2
          go_ret
          exact ⟨by rw [HN.out]; rfl, bdn hB.out _⟩
    · obtain rfl : k = L.length := by omega
      have hki : ¬ (L.length : Int) < (L.length : Int) := by omega
      have HN : Hid (clo L s = true) := clo_iff.2 hC.out
      go_wp2
      go_ret
      exact ⟨by rw [HN.out]; rfl, hB.out⟩
end Go.Proofs.Ythffdkoncagimaa
