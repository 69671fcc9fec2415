/- needsOf; the document's Count. -/
import Derived.Test.YthffdkoncagimaaE
set_option linter.unusedVariables false
set_option linter.unusedSimpArgs false
namespace Go.Proofs.Ythffdkoncagimaa
open Go.RowKit
def wordsV (L : List Nat) : List Value := L.map fun s => Value.int .u64 ((s : Nat) : Int)
theorem length_wordsV (L : List Nat) : (wordsV L).length = L.length := by simp [wordsV]
theorem made_words (n : Nat) : madeCells #[Value.int .u64 0] n = (wordsV (List.replicate n 0)).toArray := by
  apply Array.ext
  · simp [size_madeCells, wordsV]
  · intro i h1 h2; simp [madeCells, wordsV, Nat.mod_one]
theorem wordsV_at {L : List Nat} {k : Nat} (h : k < L.length) : (wordsV L)[k]? = some (.int .u64 ((nd L k : Nat) : Int)) := by
  unfold wordsV; rw [List.getElem?_map, List.getElem?_eq_getElem h, nd_lt h]; rfl
theorem infoS : (Try.prog.info? 48).map (fun i => (i.zero, i.size, i.bytes)) = some (some (.int .u64 0), 1, 8) := by kernel_rfl
/-- the needs that stand so far: k rows and q numbers of the next one -/
def partL (D : List (List Nat)) (k q : Nat) : List Nat := (List.range D.length).map fun j => if j < k then needN (rowN D j) else if j = k then needN ((rowN D k).take q) else 0
theorem length_partL (D : List (List Nat)) (k q : Nat) : (partL D k q).length = D.length := by simp [partL]
theorem nd_part {D : List (List Nat)} {k q j : Nat} (h : j < D.length) : nd (partL D k q) j = if j < k then needN (rowN D j) else if j = k then needN ((rowN D k).take q) else 0 := by
  rw [nd_lt (by rw [length_partL]; exact h)]; simp [partL]
theorem nd_ext {L M : List Nat} (hl : L.length = M.length) (h : ∀ j, j < L.length → nd L j = nd M j) : L = M := by
  refine List.ext_getElem hl fun j h1 h2 => ?_
  have := h j h1
  rwa [nd_lt h1, nd_lt h2] at this
theorem part_zero (D : List (List Nat)) : partL D 0 0 = List.replicate D.length 0 := by
  refine nd_ext (by simp [partL]) fun j hj => ?_
  rw [length_partL] at hj
  rw [nd_part hj, nd_lt (by simpa using hj)]
  simp [needN]
theorem part_next {D : List (List Nat)} {k q : Nat} (hk : k < D.length) (hq : q < (rowN D k).length) : partL D k (q + 1) = (partL D k q).set k (nd (partL D k q) k ||| 2 ^ el (rowN D k) q) := by
  refine nd_ext (by simp [partL]) fun j hj => ?_
  rw [length_partL] at hj
  have h2 : nd ((partL D k q).set k (nd (partL D k q) k ||| 2 ^ el (rowN D k) q)) j = if j = k then nd (partL D k q) k ||| 2 ^ el (rowN D k) q else nd (partL D k q) j := by
    rw [nd_lt (by rw [List.length_set, length_partL]; exact hj), List.getElem_set]
    by_cases e : k = j
    · subst e; simp
    · rw [if_neg e, if_neg (fun h => e h.symm)]; exact (nd_lt (L := partL D k q) (by rw [length_partL]; exact hj)).symm
  rw [h2, nd_part hj, nd_part hk]
  by_cases e : j = k
  · subst e
    rw [if_pos rfl, if_neg (Nat.lt_irrefl _), if_neg (Nat.lt_irrefl _), if_pos rfl, if_pos rfl, take_el _ _ hq, needN_snoc]
  · rw [if_neg e, if_neg e, nd_part hj, if_neg e]
theorem part_row {D : List (List Nat)} {k : Nat} : partL D k (rowN D k).length = partL D (k + 1) 0 := by
  refine nd_ext (by simp [partL]) fun j hj => ?_
  rw [length_partL] at hj
  rw [nd_part hj, nd_part hj, List.take_length]
  by_cases h1 : j < k
  · rw [if_pos h1, if_pos (by omega)]
  · rw [if_neg h1]
    by_cases h2 : j = k
    · subst h2; rw [if_pos rfl, if_pos (by omega)]
    · rw [if_neg h2, if_neg (by omega)]
      by_cases h3 : j = k + 1
      · rw [if_pos h3]; simp [needN]
      · rw [if_neg h3]
theorem part_all (D : List (List Nat)) : partL D D.length 0 = needsL D := by
  refine nd_ext (by simp [partL, needsL]) fun j hj => ?_
  rw [length_partL] at hj
  rw [nd_part hj, if_pos hj, nd_needs hj]
theorem wordsV_set (L : List Nat) (k v : Nat) : (wordsV L).set k (.int .u64 ((v : Nat) : Int)) = wordsV (L.set k v) := by simp [wordsV, List.map_set]
theorem BlkIs.words {w : World} {g B : Nat} {t : TypeId} {L : List Nat} (h : BlkIs w g t (wordsV L)) (hB : g < B) : Words w B (some ⟨g, 0, none⟩) L := fun _ =>
  ⟨g, 0, rfl, hB, fun j hj => by rw [Nat.zero_add, h.cell, wordsV_at hj]⟩
/-- the needs came back -/
def GivesN (w : World) (L : List Nat) (e : Ending) (w' : World) : Prop := ∃ A c, e = .returned (.tuple #[.slice A L.length c, .int .i64 0]) ∧ Words w' w'.heap.size A L ∧ Below w.heap.size w w'
set_option maxRecDepth 100000 in
set_option maxHeartbeats 1000000 in
theorem needsOf_no (A : Option Addr) (c : Nat) (R : List (List Int)) (w : World) (hf : fitB R = false) (hl : R.length ≤ 1000) (hr : ∀ k, k < R.length → (rowI R k).length ≤ 1000) (hM : Mat w w.heap.size A R) :
    Calls Try.prog 20 #[.slice A R.length c] w fun e w' => e = .returned (.tuple #[.slice none 0 0, .int .i64 3]) ∧ w = w' := by
  have HR := Lib.hid (right_any A c R w hl hr hM)
  clear hM hr
  by_cases h14 : R.length ≤ 14
  · have hi : (R.length : Int) ≤ 14 := by omega
    have hb : okB R = false := by unfold fitB at hf; rw [decide_eq_true h14] at hf; simpa using hf
    rw [hb] at HR
    clear hf hb
    go_enter Try.func20, Try.ntmps20
    go_wp2_with (go_at_call 34; (with_reducible refine HR.out.mono ?_); rintro e w4 ⟨rfl, rfl⟩)
    go_ret2
    exact ⟨rfl, rfl⟩
  · have hi : ¬ (R.length : Int) ≤ 14 := by omega
    clear hf
    go_enter Try.func20, Try.ntmps20
    go_wp2_with fail
    go_ret2
    exact ⟨rfl, rfl⟩
set_option maxRecDepth 100000 in
set_option maxHeartbeats 2000000 in
theorem needsOf_yes (A : Option Addr) (c : Nat) (D : List (List Nat)) (w : World) (hD : Sm D) (hO : OkD D) (hM : Mat w w.heap.size A (rowsI D)) :
    Calls Try.prog 20 #[.slice A D.length c] w (GivesN w (needsL D)) := by
  have HR := Lib.hid (right_yes A c D.length D rfl hO w hM)
  have HM := Lib.hid hM
  have HD := Lib.hid hD
  have HO := Lib.hid hO
  have hn := hD.n
  have hni : (D.length : Int) ≤ 14 := by omega
  have hmk := run_make_row' (P := Try.prog) 38 48 (.int .u64 0) 8 Try.underlying38 infoS rfl .i64 .i64 D.length (by omega) (by omega) w
  rw [made_words] at hmk
  have HG0 : Hid (BlkIs (w.alloc (.cells (wordsV (List.replicate D.length 0)).toArray 48)) w.heap.size 48 (wordsV (partL D 0 0))) := by rw [part_zero]; exact heap_alloc_new w _
  have HB0 : Hid (Below w.heap.size w (w.alloc (.cells (wordsV (List.replicate D.length 0)).toArray 48))) := (Below.refl _ _).alloc (Nat.le_refl _) _
  clear hM hD hO
  go_enter Try.func20, Try.ntmps20
  go_wp2_with (go_at_call 34; (with_reducible refine HR.out.mono ?_); rintro e w4 ⟨rfl, rfl⟩)
  clear hmk HR
  go_loopw [22] (fun i wr => ∃ k : Nat, k ≤ D.length ∧ i = .int .i64 k ∧ Hid (BlkIs wr w.heap.size 48 (wordsV (partL D k 0))) ∧ Hid (Below w.heap.size w wr)) (fun i _ => D.length - (intOf i).toNat)
  case atStart => exact ⟨0, Nat.zero_le _, rfl, HG0.out, HB0.out⟩
  case round =>
    obtain ⟨k, hk, rfl, hG, hB⟩ := hrel
    rename World => wr
    have hk0 : (0 : Int) ≤ (k : Int) := by omega
    by_cases hlt : k < D.length
    · have hki : (k : Int) < (D.length : Int) := by omega
      obtain ⟨b1, o1, A1, c1, rfl, l1, x0, hI⟩ := HM.out.at_ (k := k) (by rw [length_rowsI]; exact hlt)
      rw [rowI_rowsI, length_natsI] at x0
      rw [rowI_rowsI] at hI
      have x1 := (hB.out.cell (p := ⟨b1, o1 + k, none⟩) l1).trans x0
      clear x0
      have hrl := HO.out.len k
      have HI := Lib.hid hI
      have HR : Hid (∀ d ∈ rowN D k, d < 14) := fun d hd => by have := HD.out.r k d hd; omega
      have Hrow : Hid (partL D k (rowN D k).length = partL D (k + 1) 0) := part_row
      have Hnx : Hid (∀ q, q < (rowN D k).length → partL D k (q + 1) = (partL D k q).set k (nd (partL D k q) k ||| 2 ^ el (rowN D k) q)) := fun q hq => part_next hlt hq
      have Hlt : Hid (∀ q, nd (partL D k q) k < 16384) := fun q => by
        rw [nd_part hlt, if_neg (Nat.lt_irrefl _), if_pos rfl]
        exact needN_lt fun d h => HR.out d (List.mem_of_mem_take h)
      have Hlen : Hid (∀ q, (partL D k q).length = D.length) := fun q => length_partL D k q
      clear hI
      generalize hrr : rowN D k = r at *
      clear hrr
      go_wp2
      go_loopw [29] (fun j wr' => ∃ q : Nat, q ≤ r.length ∧ j = .int .i64 q ∧ Hid (BlkIs wr' w.heap.size 48 (wordsV (partL D k q))) ∧ Hid (Below w.heap.size w wr')) (fun j _ => r.length - (intOf j).toNat)
      case atStart => exact ⟨0, Nat.zero_le _, rfl, hG.out, hB.out⟩
      case round =>
        obtain ⟨q, hq, rfl, hG2, hB2⟩ := hrel
        rename World => wq
        have hq0 : (0 : Int) ≤ (q : Int) := by omega
        by_cases hqt : q < r.length
        · have hqi : (q : Int) < (r.length : Int) := by omega
          obtain ⟨b2, o2, rfl, l2, c2⟩ := (HI.out.below hB2.out).at_ (k := q) (by rw [length_natsI]; exact hqt)
          rw [nth_nats _ _ hqt] at c2
          have hc := hG2.out.cell k
          rw [wordsV_at (by rw [Hlen.out]; exact hlt)] at hc
          have hfz := hG2.out.frozen k
          have hgl := BlkIs.lt hG2.out
          have HW := Lib.hid (with_any (nd (partL D k q) k) (el r q) wq (Hlt.out q) (HR.out _ (el_mem hqt)))
          have HG3 : Hid (BlkIs (wq.setCell ⟨w.heap.size, k, none⟩ (.int .u64 ((nd (partL D k q) k ||| 2 ^ el r q : Nat) : Int))) w.heap.size 48 (wordsV (partL D k (q + 1)))) := by
            rw [Hnx.out q hqt, ← wordsV_set]; exact hG2.out.set_ k _
          have HB3 : Hid (Below w.heap.size w (wq.setCell ⟨w.heap.size, k, none⟩ (.int .u64 ((nd (partL D k q) k ||| 2 ^ el r q : Nat) : Int)))) := hB2.out.setCell (p := ⟨w.heap.size, k, none⟩) (Nat.le_refl _) _
          generalize nd (partL D k q) k ||| 2 ^ el r q = v at *
          generalize nd (partL D k q) k = x at *
          generalize el r q = d at *
          go_wp2_with (go_at_call 28; (with_reducible refine HW.out.mono ?_); rintro e w5 ⟨rfl, rfl⟩)
          go_roundw
          case rel => exact ⟨q + 1, by omega, by go_num, HG3.out, HB3.out⟩
          case measure => simp [intOf]; omega
        · obtain rfl : q = r.length := by omega
          have hqi : ¬ (r.length : Int) < (r.length : Int) := by omega
          go_wp2
          go_roundw
          case rel => exact ⟨k + 1, by omega, by go_num, by rw [← Hrow.out]; exact hG2.out, hB2.out⟩
          case measure => simp [intOf]; omega
    · obtain rfl : k = D.length := by omega
      have hki : ¬ (D.length : Int) < (D.length : Int) := by omega
      have hG2 : BlkIs wr w.heap.size 48 (wordsV (needsL D)) := by rw [← part_all]; exact hG.out
      have HW := Lib.hid (hG2.words (BlkIs.lt hG2))
      clear hG2
      go_wp2
      go_ret2
      exact ⟨_, _, by rw [length_needsL]; rfl, HW.out, hB.out⟩
def countE (R : List (List Int)) : Int := if fitB R = true then 0 else 3
set_option maxRecDepth 100000 in
set_option maxHeartbeats 1000000 in
theorem rcount_no (A : Option Addr) (c : Nat) (R : List (List Int)) (w : World) (hf : fitB R = false) (hl : R.length ≤ 1000) (hr : ∀ k, k < R.length → (rowI R k).length ≤ 1000) (hM : Mat w w.heap.size A R) :
    Calls Try.prog 9 #[.slice A R.length c] w fun e w' => e = .returned (.tuple #[.int .i64 0, .int .i64 3]) ∧ w = w' := by
  have HF := fits_any A c R w hl hr hM
  rw [hf] at HF
  have HR := Lib.hid HF
  clear hM hr HF hf
  go_enter Try.func9, Try.ntmps9
  go_wp2_with (go_at_call 22; (with_reducible refine HR.out.mono ?_); rintro e w4 ⟨rfl, rfl⟩)
  go_ret2
  exact ⟨rfl, rfl⟩
theorem pow_len {n : Nat} (h : n ≤ 14) : 2 ^ n ≤ 16384 := by
  show 2 ^ n ≤ 2 ^ 14
  exact Nat.pow_le_pow_right (by decide) h
theorem wrap_pow {n : Nat} (h : n ≤ 14) : wrap64 (2 ^ n) = ((2 ^ n : Nat) : Int) := by
  have hp := pow_len h
  have e : (2 : Int) ^ n = ((2 ^ n : Nat) : Int) := by simp
  rw [← IntWalk.i64_left, e]
  exact wraps_i64 _ (Int.natCast_nonneg _) (by omega)
set_option maxRecDepth 100000 in
set_option maxHeartbeats 1000000 in
theorem rcount_yes (A : Option Addr) (c : Nat) (D : List (List Nat)) (w : World) (hD : Sm D) (hO : OkD D) (hM : Mat w w.heap.size A (rowsI D)) :
    Calls Try.prog 9 #[.slice A D.length c] w fun e w' => e = .returned (.tuple #[.int .i64 ((countL (needsL D) : Nat) : Int), .int .i64 0]) ∧ Below w.heap.size w w' := by
  have hn := hD.n
  have HF := fits_any A c (rowsI D) w (by rw [length_rowsI]; omega) (fun k _ => by rw [rowI_rowsI, length_natsI]; have := hO.len k; omega) hM
  have hfb : fitB (rowsI D) = true := by unfold fitB; rw [length_rowsI, decide_eq_true hn, okB_of hO]; rfl
  rw [hfb, length_rowsI] at HF
  have HR := Lib.hid HF
  have HN := Lib.hid (rneeds_any A c D w hD hO.len hM)
  have HL := Lib.hid (lok_needs hD)
  have hll := length_needsL D
  have hp := wrap_pow hn
  have hpl := pow_len hn
  have hni : (D.length : Int) < 64 := by omega
  have hn0 : (0 : Int) ≤ (D.length : Int) := by omega
  clear hM HF hfb
  have Hcnt : Hid (countL (needsL D) = (cloTo (needsL D) (2 ^ D.length)).length) := by unfold Hid countL; rw [length_needsL]
  generalize hNN : 2 ^ D.length = N at *
  have Hp := Lib.hid hp
  clear hp hNN
  go_enter Try.func9, Try.ntmps9
  rw [← hll] at HN
  generalize needsL D = L at *
  have HN2 : Hid (Calls Try.prog 23 #[.slice A D.length c] w (GivesM w (natsI L))) := by rw [← hll]; exact HN.out
  clear HN
  have Hll := Lib.hid hll
  clear hll
  go_wp2_with (first
    | (go_at_call 22; (with_reducible refine HR.out.mono ?_); rintro e w4 ⟨rfl, rfl⟩)
    | (go_at_call 23; (with_reducible refine HN2.out.mono ?_); rintro e w5 ⟨A5, c5, rfl, r5, b5⟩; have I5 := Lib.hid r5.ints; have B5 := Lib.hid b5; clear r5 b5))
  rw [length_natsI]
  go_loopw [4, 6] (fun m i wr => ∃ k : Nat, k ≤ N ∧ m = .int .i64 (((cloTo L k).length : Nat) : Int) ∧ i = .int .i64 k ∧ Hid (Below w5.heap.size w5 wr)) (fun _ i _ => N - (intOf i).toNat)
  case atStart => exact ⟨0, Nat.zero_le _, rfl, rfl, Below.refl _ _⟩
  case round =>
    obtain ⟨k, hk, rfl, rfl, hB⟩ := hrel
    rename World => wr
    have hk0 : (0 : Int) ≤ (k : Int) := by omega
    have hcl := cloTo_len L k
    have hwp := Hp.out
    by_cases hlt : k < N
    · have hki : (k : Int) < (N : Int) := by omega
      have HC := Lib.hid (rclosed_any A5 c5 L k wr HL.out (by omega) ((I5.out.below hB.out).more hB.out.size))
      have hsc := cloTo_succ L k
      cases hb : clo L k with
      | true =>
        have Hs : Hid ((cloTo L (k + 1)).length = (cloTo L k).length + 1) := by unfold Hid; rw [hsc, if_pos hb, List.length_append]; rfl
        rw [hb] at HC
        clear hb hsc
        generalize (cloTo L k).length = m at *
        go_wp2_with (go_at_call 24; (with_reducible refine HC.out.mono ?_); rintro e w6 ⟨rfl, b6⟩; have B6 := Lib.hid (hB.out.trans (b6.mono hB.out.size)); clear b6)
        go_roundw
        case rel => exact ⟨k + 1, by omega, by rw [Hs.out]; go_num, by go_num, B6.out⟩
        case measure => simp [intOf]; omega
      | false =>
        have Hs : Hid ((cloTo L (k + 1)).length = (cloTo L k).length) := by unfold Hid; rw [hsc, if_neg (by rw [hb]; simp), List.append_nil]
        rw [hb] at HC
        clear hb hsc
        generalize (cloTo L k).length = m at *
        go_wp2_with (go_at_call 24; (with_reducible refine HC.out.mono ?_); rintro e w6 ⟨rfl, b6⟩; have B6 := Lib.hid (hB.out.trans (b6.mono hB.out.size)); clear b6)
        go_roundw
        case rel => exact ⟨k + 1, by omega, by rw [Hs.out], by go_num, B6.out⟩
        case measure => simp [intOf]; omega
    · obtain rfl : k = N := by omega
      have hki : ¬ (k : Int) < (k : Int) := by omega
      go_wp2
      go_ret2
      exact ⟨by rw [Hcnt.out]; rfl, B5.out.trans (hB.out.mono B5.out.size)⟩
end Go.Proofs.Ythffdkoncagimaa
