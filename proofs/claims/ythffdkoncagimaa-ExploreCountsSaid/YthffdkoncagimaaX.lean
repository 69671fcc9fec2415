/- The document's Orders. -/
import Derived.Test.YthffdkoncagimaaV
set_option linter.unusedVariables false
set_option linter.unusedSimpArgs false
namespace Go.Proofs.Ythffdkoncagimaa
open Go.RowKit Go.Shelf
set_option maxRecDepth 100000 in
set_option maxHeartbeats 1000000 in
theorem rorders_no (A : Option Addr) (c : Nat) (R : List (List Int)) (w : World) (hf : fitB R = false) (hl : R.length ≤ 1000) (hr : ∀ k, k < R.length → (rowI R k).length ≤ 1000) (hM : Mat w w.heap.size A R) :
    Calls Try.prog 11 #[.slice A R.length c] w fun e w' => e = .returned (.tuple #[.int .i64 0, .int .i64 3]) ∧ Below w.heap.size w w' := by
  have HF := fits_any A c R w hl hr hM
  rw [hf] at HF
  have HR := Lib.hid HF
  clear hM hr hf HF
  go_enter Try.func11, Try.ntmps11
  go_wp2_with (go_at_call 22; (with_reducible refine HR.out.mono ?_); rintro e w4 ⟨rfl, rfl⟩)
  go_ret2
  exact ⟨rfl, Below.refl _ _⟩
theorem zero_cell (w : World) (N : Nat) (hN : 0 < N) : (w.alloc (.cells (intsV (List.replicate N 0)).toArray 3)).cell? ⟨w.heap.size, 0, none⟩ = some (.int .i64 0) := by
  have b1 := BlkIs.new w 3 (intsV (List.replicate N 0)).toArray
  rw [BlkIs.cell b1 0, intsV_at (by simpa using hN), nth_lt (by simpa using hN)]
  simp
theorem ways_new (w : World) (N : Nat) : BlkIs (w.alloc (.cells ((intsV (List.replicate N 0)).set 0 (.int .i64 1)).toArray 3)) w.heap.size 3 (intsV (ord0 N)) := by
  have b1 := BlkIs.new w 3 ((intsV (List.replicate N 0)).set 0 (.int .i64 1)).toArray
  rw [intsV_set] at b1 ⊢
  exact b1
theorem i_subE (x s : Nat) (hx : x < 16384) (hs : s < 16384) : (bits .and .i64 (x : Int) (s : Int) == (x : Int)) = subS x s := by
  have h := i_sub x s hx hs
  unfold bne at h
  simpa using congrArg not h
theorem bit_at_i0 (s k : Nat) (hs : s < 2 ^ 63) : (bits .and .i64 ((s : Int) / 2 ^ k) 1 == 0) = !s.testBit k := by
  have e : (s : Int) / 2 ^ k = ((s / 2 ^ k : Nat) : Int) := by rw [Int.natCast_ediv]; simp
  have e1 : (1 : Int) = ((1 : Nat) : Int) := rfl
  have hl : s / 2 ^ k < 2 ^ 63 := Nat.lt_of_le_of_lt (Nat.div_le_self _ _) hs
  rw [e, e1, i_and _ _ hl (by decide), Nat.and_one_is_mod, Nat.testBit_eq_decide_div_mod_eq]
  by_cases h : s / 2 ^ k % 2 = 1
  · rw [h]; rfl
  · have : s / 2 ^ k % 2 = 0 := by omega
    rw [this]; rfl
set_option maxRecDepth 100000 in
set_option maxHeartbeats 2000000 in
theorem rorders_yes (A : Option Addr) (c : Nat) (D : List (List Nat)) (w : World) (hD : Sm D) (hO : OkD D) (hM : Mat w w.heap.size A (rowsI D)) :
    Calls Try.prog 11 #[.slice A D.length c] w fun e w' => e = .returned (.tuple #[.int .i64 (orders (needsL D)), .int .i64 0]) ∧ Below w.heap.size w w' := by
  have hn := hD.n
  have HF := fits_any A c (rowsI D) w (by rw [length_rowsI]; omega) (fun k _ => by rw [rowI_rowsI, length_natsI]; have := hO.len k; omega) hM
  have hfb : fitB (rowsI D) = true := by unfold fitB; rw [length_rowsI, decide_eq_true hn, okB_of hO]; rfl
  rw [hfb, length_rowsI] at HF
  have HR := Lib.hid HF
  have HN := Lib.hid (rneeds_any A c D w hD hO.len hM)
  have HL := Lib.hid (lok_needs hD)
  have hll := length_needsL D
  have hp := wrap_pow hn
  have hpl := pow_len hn
  have hni : (D.length : Int) < 64 := by omega
  have hn0 : (0 : Int) ≤ (D.length : Int) := by omega
  clear hM HF hfb
  have Hor := Lib.hid (orders_all (needsL D))
  rw [hll] at Hor
  have hNp : 0 < 2 ^ D.length := Nat.two_pow_pos _
  generalize hNN : 2 ^ D.length = N at *
  have HNN := Lib.hid hNN
  have hmk : ∀ W : World, (Instr.makeSlice 35 (.int .i64 (N : Int)) (.int .i64 (N : Int))).run Try.prog W = .ok (.slice (some ⟨W.heap.size, 0, none⟩) N N) (W.alloc (.cells (intsV (List.replicate N 0)).toArray 3)) := fun W => by
    have := run_make_row' (P := Try.prog) 35 3 (.int .i64 0) 8 Try.underlying35 info3 rfl .i64 .i64 N (by omega) (by omega) W
    rwa [made_ints] at this
  have hNi : (0 : Int) < (N : Int) := by omega
  clear hNN hD hO
  generalize needsL D = L at *
  generalize orders L = vv at *
  go_enter Try.func11, Try.ntmps11
  go_wp2_with (first
    | (go_at_call 22; (with_reducible refine HR.out.mono ?_); rintro e w4 ⟨rfl, rfl⟩)
    | (go_at_call 23; (with_reducible refine HN.out.mono ?_); rintro e w5 ⟨A5, c5, rfl, r5, b5⟩; rw [length_natsI]; have c3 := zero_cell w5 N hNp; have I5 := Lib.hid r5.ints; have B5 := Lib.hid b5; clear r5 b5))
  clear c3 hmk HR HN
  have hW0 := ways_new w5 N
  have hB0 : Below w5.heap.size w5 (w5.alloc (.cells ((intsV (List.replicate N 0)).set 0 (.int .i64 1)).toArray 3)) := (Below.refl _ _).alloc (Nat.le_refl _) _
  have HLl := Lib.hid hll
  clear hll
  go_loopw [6] (fun i wr => ∃ k : Nat, k ≤ N ∧ i = .int .i64 k ∧ Hid (BlkIs wr w5.heap.size 3 (intsV (ordL L (List.range k) (ord0 N)))) ∧ Hid (Below w5.heap.size w5 wr)) (fun i _ => N - (intOf i).toNat)
  case atStart => exact ⟨0, Nat.zero_le _, rfl, hW0, hB0⟩
  case round =>
    obtain ⟨k, hk, rfl, HW, HB⟩ := hrel
    rename World => wr
    have hk0 : (0 : Int) ≤ (k : Int) := by omega
    by_cases hlt : k < N
    · have hki : (k : Int) < (N : Int) := by omega
      have HQ : Hid (ordL L (List.range (k + 1)) (ord0 N) = ordK L k (ordL L (List.range k) (ord0 N)) D.length) := by
        unfold Hid; rw [List.range_succ, ordL_snoc, HLl.out]
      have HOl : Hid ((ordL L (List.range k) (ord0 N)).length = N) := by unfold Hid; rw [length_ordL]; simp [ord0]
      generalize ordL L (List.range k) (ord0 N) = O at *
      go_wp2
      go_loopw [7] (fun j wr' => ∃ q : Nat, q ≤ D.length ∧ j = .int .i64 q ∧ Hid (BlkIs wr' w5.heap.size 3 (intsV (ordK L k O q))) ∧ Hid (Below w5.heap.size w5 wr')) (fun j _ => D.length - (intOf j).toNat)
      case atStart => exact ⟨0, Nat.zero_le _, rfl, HW.out, HB.out⟩
      case round =>
        obtain ⟨q, hq, rfl, HWq, HBq⟩ := hrel
        rename World => wq
        have hq0 : (0 : Int) ≤ (q : Int) := by omega
        by_cases hqt : q < D.length
        · have hqi : (q : Int) < (D.length : Int) := by omega
          have hq6 : (q : Int) < 64 := by omega
          obtain ⟨b1, o1, rfl, l1, c1⟩ := (I5.out.below HBq.out).at_ (k := q) (by rw [length_natsI, HLl.out]; exact hqt)
          rw [nth_nats _ _ (by rw [HLl.out]; exact hqt)] at c1
          have hel : el L q = nd L q := rfl
          rw [hel] at c1
          clear hel
          have X0 : Hid (wq.drew.cell? ⟨b1, o1 + q, none⟩ = some (.int .i64 ((nd L q : Nat) : Int))) := c1
          have hbit := bit_at_i0 k q (by omega)
          have hsub := i_subE (nd L q) k (HL.out.b q (by rw [HLl.out]; exact hqt)) (by omega)
          cases hb : k.testBit q with
          | true =>
            have HV : Hid (ordK L k O (q + 1) = ordK L k O q) := by
              unfold Hid; show ordN L k q _ = _; unfold ordN; rw [if_neg (fun r => by rw [hb] at r; cases r.1)]
            rw [hb] at hbit
            clear hb c1 hsub
            go_wp2
            go_quiet (fail)
            go_wp2
            go_roundw
            case rel => exact ⟨q + 1, by omega, by go_num, by rw [HV.out]; exact HWq.out, bdn HBq.out _⟩
            case measure => simp [intOf]; omega
          | false =>
            cases hs : subS (nd L q) k with
            | false =>
              have HV : Hid (ordK L k O (q + 1) = ordK L k O q) := by
                unfold Hid; show ordN L k q _ = _; unfold ordN; rw [if_neg (fun r => by rw [hs] at r; cases r.2)]
              rw [hb] at hbit
              rw [hs] at hsub
              clear hb c1 hs
              go_wp2
              go_region_held3 (fun V => V.cell? ⟨b1, o1 + q, none⟩ = some (.int .i64 ((nd L q : Nat) : Int))) (exact X0.out) (fail)
              go_wp2
              go_roundw
              case rel => exact ⟨q + 1, by omega, by go_num, by rw [HV.out]; exact HWq.out, bdn HBq.out _⟩
              case measure => simp [intOf]; omega
            | true =>
              have HV : Hid (ordK L k O (q + 1) = (ordK L k O q).set (k ||| 2 ^ q) (wrap64 (nth (ordK L k O q) (k ||| 2 ^ q) + nth (ordK L k O q) k))) := by
                unfold Hid; show ordN L k q _ = _; unfold ordN; rw [if_pos ⟨hb, hs⟩]
              have hset : k ||| 2 ^ q < N := set_lt HNN.out.symm hlt hqt
              have hOl : (ordK L k O q).length = N := by rw [length_ordK]; exact HOl.out
              have hor : bits .or .i64 (k : Int) (wrap64 (2 ^ q)) = ((k ||| 2 ^ q : Nat) : Int) := by
                rw [← IntWalk.i64_left]; exact i_shor k q (by omega) (by omega)
              have hor2 : bits .or .i64 (k : Int) (IntKind.i64.wrap (2 ^ q)) = ((k ||| 2 ^ q : Nat) : Int) := i_shor k q (by omega) (by omega)
              have cO := HWq.out.cell (k ||| 2 ^ q)
              rw [intsV_at (by rw [hOl]; exact hset)] at cO
              have cS := HWq.out.cell k
              rw [intsV_at (by rw [hOl]; exact hlt)] at cS
              have fO := HWq.out.frozen (k ||| 2 ^ q)
              have HIs : Hid (BlkIs (wq.drew.drew.setCell ⟨w5.heap.size, k ||| 2 ^ q, none⟩ (.int .i64 (wrap64 (nth (ordK L k O q) (k ||| 2 ^ q) + nth (ordK L k O q) k)))) w5.heap.size 3 (intsV (ordK L k O (q + 1)))) := by
                unfold Hid; rw [HV.out, ← intsV_set]
                exact BlkIs.set_ (w := wq.drew.drew) HWq.out _ _
              have HBs : Hid (Below w5.heap.size w5 (wq.drew.drew.setCell ⟨w5.heap.size, k ||| 2 ^ q, none⟩ (.int .i64 (wrap64 (nth (ordK L k O q) (k ||| 2 ^ q) + nth (ordK L k O q) k))))) := (HBq.out.drew.drew).setCell (p := ⟨w5.heap.size, k ||| 2 ^ q, none⟩) (Nat.le_refl _) _
              have hsi : ((k ||| 2 ^ q : Nat) : Int) < (N : Int) := by omega
              have hsi0 : (0 : Int) ≤ ((k ||| 2 ^ q : Nat) : Int) := by omega
              rw [hb] at hbit
              rw [hs] at hsub
              clear hset hb hs
              generalize nth (ordK L k O q) (k ||| 2 ^ q) = p1 at *
              generalize nth (ordK L k O q) k = p2 at *
              generalize hy : k ||| 2 ^ q = y at *
              clear hy
              go_wp2
              go_region_held3 (fun V => V.cell? ⟨b1, o1 + q, none⟩ = some (.int .i64 ((nd L q : Nat) : Int))) (exact X0.out) (fail)
              go_wp2
              go_region
              go_wp2
              go_roundw
              case rel => exact ⟨q + 1, by omega, by go_num, HIs.out, HBs.out⟩
              case measure => simp [intOf]; omega
        · obtain rfl : q = D.length := by omega
          have hqi : ¬ (D.length : Int) < (D.length : Int) := by omega
          go_wp2
          go_roundw
          case rel => exact ⟨k + 1, by omega, by go_num, by rw [HQ.out]; exact HWq.out, HBq.out⟩
          case measure => simp [intOf]; omega
    · obtain rfl : k = N := by omega
      have hki : ¬ (k : Int) < (k : Int) := by omega
      have cl := HW.out.cell (k - 1)
      rw [intsV_at (by rw [length_ordL]; simp [ord0]; omega), Hor.out] at cl
      have hN1 : ((k : Int) - 1).toNat = k - 1 := by omega
      have hN2 : (0 : Int) ≤ (k : Int) - 1 := by omega
      have hN3 : (k : Int) - 1 < (k : Int) := by omega
      go_wp2
      go_ret2
      exact ⟨rfl, B5.out.trans (HB.out.mono B5.out.size)⟩
end Go.Proofs.Ythffdkoncagimaa
