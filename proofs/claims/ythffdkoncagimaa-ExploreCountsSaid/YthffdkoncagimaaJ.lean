/- The most that can come at once: Widest. -/
import Derived.Test.YthffdkoncagimaaJ1
set_option linter.unusedVariables false
set_option linter.unusedSimpArgs false
namespace Go.Proofs.Ythffdkoncagimaa
open Go.RowKit Go.Shelf
attribute [local go_sem] Oper.semAt_some
/-- of a set those that come ahead of none of them: how many -/
def topN (L : List Nat) (s : Nat) : Nat := (memb (dif s (ahead L s))).length
def widTo (L : List Nat) (xs : List Nat) : Nat := xs.foldl (fun m s => max m (topN L s)) 0
def widest (L : List Nat) : Nat := widTo L (cloTo L (2 ^ L.length))
theorem widTo_snoc (L xs : List Nat) (x : Nat) : widTo L (xs ++ [x]) = max (widTo L xs) (topN L x) := by simp [widTo]
theorem topN_le (L : List Nat) (s : Nat) : topN L s ≤ 14 := membTo_len _ 14
theorem widTo_le (L : List Nat) : ∀ xs : List Nat, widTo L xs ≤ 14 := fun xs => by
  unfold widTo
  have : ∀ (xs : List Nat) (m : Nat), m ≤ 14 → xs.foldl (fun m s => max m (topN L s)) m ≤ 14 := by
    intro xs
    induction xs with
    | nil => exact fun m h => h
    | cons x xs ih => exact fun m h => ih _ (Nat.max_le.2 ⟨h, topN_le L x⟩)
  exact this xs 0 (by omega)
theorem dif_lt {a b : Nat} (ha : a < 2 ^ 14) (hb : b < 2 ^ 63) : dif a b < 2 ^ 14 := Nat.lt_pow_two_of_testBit _ fun i hi => by
  rw [dif_bit a b i (by omega) hb, Nat.testBit_lt_two_pow (Nat.lt_of_lt_of_le ha (Nat.pow_le_pow_right (by decide) hi))]; rfl
set_option maxRecDepth 100000 in
set_option maxHeartbeats 4000000 in
theorem widest_in (n : Nat) (hn : 4 ≤ n) (A : Option Addr) (c : Nat) (D : List (List Nat)) (w0 : World) (hD : Sm D) (hO : OkD D) (hM : Mat w0 w0.heap.size A (rowsI D)) :
    CallsIn Fence.wide n Try.prog 12 #[.slice A D.length c] w0 fun e W' => e = .returned (.tuple #[.int .i64 ((widest (needsL D) : Nat) : Int), .int .i64 0]) ∧ Below w0.heap.size w0 W' := by
  have h1 : 1 ≤ n := by omega
  have HN := Lib.hid (needsOf_yes A c D w0 hD hO hM)
  have HL := Lib.hid (lok_needs hD)
  have hln := (lok_needs hD).n
  clear hM
  generalize needsL D = L at *
  refine callsIn_of_wp_marks Try.func12 rfl trivial ?_ rfl
  simp only [Try.ntmps12, List.size_toArray, List.length_cons, List.length_nil, Nat.reduceAdd, Nat.reduceSub, Array.replicate_succ, Array.replicate_zero, List.push_toArray, List.append_toArray, List.nil_append, List.cons_append]
  gi_wp2_with (first
    | (refine ⟨trivial, ?_⟩; gi_at_call 20; refine (callsIn_wide.2 HN.out).mono ?_; rintro e w ⟨A4, c4, rfl, t4, b4⟩; have B4 := Lib.hid b4; have T4 := Lib.hid t4; clear t4 b4)
    | (refine ⟨trivial, ?_⟩; gi_at_call 25; refine (closedMake_in _ A4 L.length c4 _).mono ?_; rintro e w' ⟨rfl, rfl⟩))
  obtain ⟨W0, hW0⟩ : ∃ W0, W0 = ((w.alloc (.cells #[.slice A4 L.length c4] 38)).alloc (.cells #[.int .i64 0] 3)).alloc (.cells #[.slice A4 L.length c4] 38) := ⟨_, rfl⟩
  have b0 := ((Boxed.new w 38 (.slice A4 L.length c4)).alloc (.cells #[.int .i64 0] 3)).alloc (.cells #[.slice A4 L.length c4] 38)
  have b1 := (Boxed.new (w.alloc (.cells #[.slice A4 L.length c4] 38)) 3 (.int .i64 0)).alloc (.cells #[.slice A4 L.length c4] 38)
  have b2 := Boxed.new ((w.alloc (.cells #[.slice A4 L.length c4] 38)).alloc (.cells #[.int .i64 0] 3)) 38 (.slice A4 L.length c4)
  simp only [World.size_alloc] at b1 b2
  have hB0 : Below w.heap.size w W0 := by
    rw [hW0]
    exact (((Below.refl _ w).alloc (Nat.le_refl _) _).alloc (by simp) _).alloc (by simp; omega) _
  have hs0 : W0.heap.size = w.heap.size + 3 := by rw [hW0]; simp
  rw [← hW0] at b0 b1 b2 ⊢
  clear hW0 HN
  obtain ⟨I, hIe⟩ : ∃ I : List Nat → World → Prop, I = fun pre W => Boxed W (w.heap.size + 1) 3 (.int .i64 ((widTo L pre : Nat) : Int)) ∧ Boxed W w.heap.size 38 (.slice A4 L.length c4) ∧ Boxed W (w.heap.size + 2) 38 (.slice A4 L.length c4) ∧ Below w.heap.size w W := ⟨_, rfl⟩
  refine range_runs (α := Nat) rfl h1 (gf := 39) (lb := #[.pointer (some ⟨w.heap.size + 1 + 1, 0, none⟩)]) rfl trivial (enters_of Try.func39 (by kernel_rfl) rfl)
    (encs := fun x => #[.int .u64 ((x : Nat) : Int)]) (fun _ => rfl) I
    (fun pre x => x < 2 ^ L.length ∧ pre = cloTo L x ∧ clo L x = true) (fun ys => ys = cloTo L (2 ^ L.length)) ?own
    (by rw [hIe]; exact ⟨b1, b0, b2, hB0⟩)
    (fun x => { tmps := #[.slice A D.length c, undef, .int .i64 0, .int .i64 0, .pointer (some ⟨w.heap.size, 0, none⟩), .int .i64 0, .pointer (some ⟨w.heap.size + 1, 0, none⟩), .int .u64 ((x : Nat) : Int), .tuple #[.slice A4 L.length c4, .int .i64 0], .slice A D.length c, .tuple #[.slice A4 L.length c4, .int .i64 0], .slice A4 L.length c4, .int .i64 0, .int .i64 0, .bool false, undef, .slice A4 L.length c4, .func (.func 39) #[] #[.pointer (some ⟨w.heap.size + 1 + 1, 0, none⟩)], .int .u64 ((x : Nat) : Int), undef, undef, undef, undef, undef, undef, undef, undef, undef], defers := [] }) ?assign ?body ?iter ?done
  case own =>
    rw [hIe]
    exact OwnFrom.and (Own.from (boxed_own (w.heap.size + 1) 3 (fun pre : List Nat => .int .i64 ((widTo L pre : Nat) : Int))) _) (OwnFrom.and (Own.from (boxed_own w.heap.size 38 (fun _ => _)) _) (OwnFrom.and (Own.from (boxed_own (w.heap.size + 2) 38 (fun _ => _)) _) (ownFrom_below (Nat.le_refl _) (by omega))))
  case assign =>
    intro l x W K hK
    gi_wp2
    exact hK
  case iter =>
    intro l J W1 hJI hY h0
    exact closed_iter (n - 1) (by omega) l (w.heap.size + 1 + 1) A4 c4 L HL.out J (fun pre W h => by
      have := hJI pre W h
      rw [hIe] at this
      exact ⟨this.2.2.1.cell, (T4.out.below this.2.2.2).more this.2.2.2.size⟩) hY W1 h0
  case body =>
    rintro l pre x W hi ⟨hx1, hx2, hx3⟩
    rw [hIe] at hi
    obtain ⟨hb1, hb0, hb2, hB⟩ := hi
    have hx : x < 2 ^ 14 := Nat.lt_of_lt_of_le hx1 (Nat.pow_le_pow_right (by decide) hln)
    have hal : ahead L x < 2 ^ 14 := HL.out.ahead x L.length (Nat.le_refl _)
    have hm := widTo_le L pre
    have ht := topN_le L x
    have c1 := hb1.cell
    have f1 := hb1.frozen
    have c0 := hb0.cell
    have hg := grownBy_set W.drew (w.heap.size + 1) 0 (.int .i64 ((widTo L (pre ++ [x]) : Nat) : Int))
    have HK : Hid (KeepsFrom (w.heap.size + 3) W (W.drew.setCell ⟨w.heap.size + 1, 0, none⟩ (.int .i64 ((widTo L (pre ++ [x]) : Nat) : Int)))) := ((KeepsOthers.drew W).from _ |>.trans (grown_keeps hg (by omega)))
    have hb1' : Boxed W.drew (w.heap.size + 1) 3 (.int .i64 ((widTo L pre : Nat) : Int)) := hb1
    have hb0' : Boxed W.drew w.heap.size 38 (.slice A4 L.length c4) := hb0
    have hb2' : Boxed W.drew (w.heap.size + 2) 38 (.slice A4 L.length c4) := hb2
    have HIs : Hid (I (pre ++ [x]) (W.drew.setCell ⟨w.heap.size + 1, 0, none⟩ (.int .i64 ((widTo L (pre ++ [x]) : Nat) : Int)))) := by
      unfold Hid
      rw [hIe]
      exact ⟨hb1'.set _, hb0'.kept hg (fun e => by injection e with e; omega), hb2'.kept hg (fun e => by injection e with e; omega), hB.drew.setCell (p := ⟨w.heap.size + 1, 0, none⟩) (by show w.heap.size ≤ w.heap.size + 1; omega) _⟩
    have HA : Hid (Calls Try.prog 30 #[.slice A4 L.length c4, .int .u64 (x : Int)] W.drew fun e w' => e = .returned (.int .u64 ((ahead L x : Nat) : Int)) ∧ W.drew = w') := ahead_any A4 c4 L x W.drew HL.out hx (show Words W.drew W.heap.size A4 L from ((T4.out.below hB.drew).more hB.size))
    have hO := ones_any (dif x (ahead L x)) W.drew (dif_lt hx (by omega))
    rw [← u_dif x (ahead L x) (by omega) (by omega)] at hO
    have HO : Hid (Calls Try.prog 29 #[.int .u64 (bits .andNot .u64 (x : Int) ((ahead L x : Nat) : Int))] W.drew fun e w' => e = .returned (.int .i64 ((topN L x : Nat) : Int)) ∧ W.drew = w') := hO
    have d1 : W.drew.cell? ⟨w.heap.size + 1, 0, none⟩ = some (.int .i64 ((widTo L pre : Nat) : Int)) := c1
    have e1 : W.drew.frozen? ⟨w.heap.size + 1, 0, none⟩ = false := f1
    have d0 : W.drew.cell? ⟨w.heap.size, 0, none⟩ = some (.slice A4 L.length c4) := c0
    have Hsn : Hid (widTo L (pre ++ [x]) = max (widTo L pre) (topN L x)) := widTo_snoc L pre x
    clear hO hg hb1' hb0' hb2' hb1 hb0 hb2 hB hIe hx1 hx2 hx3 hal hx
    generalize widTo L (pre ++ [x]) = m' at *
    generalize widTo L pre = m at *
    generalize topN L x = q at *
    generalize ahead L x = a at *
    have HKI : Hid (∀ v : Int, v = ((m' : Nat) : Int) → KeepsFrom W0.heap.size W (W.drew.setCell ⟨w.heap.size + 1, 0, none⟩ (.int .i64 v)) ∧ I (pre ++ [x]) (W.drew.setCell ⟨w.heap.size + 1, 0, none⟩ (.int .i64 v))) := fun v hv => by
      rw [hv, hs0]; exact ⟨HK.out, HIs.out⟩
    gi_wp2_with fail
    refine wpIn_region_any (by kernel_rfl) (wpAnyIn_round l (by kernel_rfl) _ _ _ _ ?_)
    (try change wpAnyIn _ _ _ _ _ _ _ _ _ (World.drew _))
    refine wpAnyIn_take (i := 1) (v := .int .u64 ((x : Nat) : Int)) rfl rfl (by kernel_rfl) (by kernel_rfl) (by kernel_rfl) (fun _ _ _ h => h) ⟨Or.inl ⟨by rfl, fun w => by go_simp <;> (try exact IntWalk.i64_left _)⟩, fun _ => rfl⟩ ?_
    (try simp only [Act.put, List.setIfInBounds_toArray, List.set_cons_zero, List.set_cons_succ])
    refine wpAnyIn_take (i := 3) (v := .int .u64 ((x : Nat) : Int)) rfl rfl (by kernel_rfl) (by kernel_rfl) (by kernel_rfl) (fun _ _ _ h => h) ⟨Or.inl ⟨by rfl, fun w => by go_simp <;> (try exact IntWalk.i64_left _)⟩, fun _ => rfl⟩ ?_
    (try simp only [Act.put, List.setIfInBounds_toArray, List.set_cons_zero, List.set_cons_succ])
    refine wpAnyIn_ready (rs := [0, 2]) (by kernel_rfl) (by simp) ?_
    refine AllReadyIn.cons rfl (fun K hK => ?_) (AllReadyIn.cons rfl (fun K hK => ?_) AllReadyIn.nil)
    · go_simp
      first | (refine hK _ _ ?_; clear hK K) | skip
      (try simp only [Act.put, List.setIfInBounds_toArray, List.set_cons_zero, List.set_cons_succ])
      refine wpAnyIn_ready (rs := [2]) (by kernel_rfl) (by simp) ?_
      refine AllReadyIn.cons rfl (fun K hK => ?_) AllReadyIn.nil
      go_simp
      first | (refine hK _ _ ?_; clear hK K) | skip
      (try simp only [Act.put, List.setIfInBounds_toArray, List.set_cons_zero, List.set_cons_succ])
      refine wpAnyIn_ready (rs := [4]) (by kernel_rfl) (by simp) ?_
      refine AllReadyIn.cons rfl (fun K hK => ?_) AllReadyIn.nil
      go_simp
      gi_wp2_with (refine ⟨trivial, wide_depth, ?_⟩; gi_at_call 30; refine (callsIn_wide.2 HA.out).mono ?_; rintro e w' ⟨rfl, rfl⟩)
      first | (refine hK _ _ ?_; clear hK K) | skip
      (try simp only [Act.put, List.setIfInBounds_toArray, List.set_cons_zero, List.set_cons_succ])
      refine wpAnyIn_ready (rs := [5]) (by kernel_rfl) (by simp) ?_
      refine AllReadyIn.cons rfl (fun K hK => ?_) AllReadyIn.nil
      go_simp
      first | (refine hK _ _ ?_; clear hK K) | skip
      (try simp only [Act.put, List.setIfInBounds_toArray, List.set_cons_zero, List.set_cons_succ])
      refine wpAnyIn_ready (rs := [6]) (by kernel_rfl) (by simp) ?_
      refine AllReadyIn.cons rfl (fun K hK => ?_) AllReadyIn.nil
      go_simp
      gi_wp2_with (refine ⟨trivial, wide_depth, ?_⟩; gi_at_call 29; refine (callsIn_wide.2 HO.out).mono ?_; rintro e w' ⟨rfl, rfl⟩)
      first | (refine hK _ _ ?_; clear hK K) | skip
      (try simp only [Act.put, List.setIfInBounds_toArray, List.set_cons_zero, List.set_cons_succ])
      refine wpAnyIn_ready (rs := [7]) (by kernel_rfl) (by simp) ?_
      refine AllReadyIn.cons rfl (fun K hK => ?_) AllReadyIn.nil
      go_simp
      first | (refine hK _ _ ?_; clear hK K) | skip
      (try simp only [Act.put, List.setIfInBounds_toArray, List.set_cons_zero, List.set_cons_succ])
      refine wpAnyIn_ready (rs := [8]) (by kernel_rfl) (by simp) ?_
      refine AllReadyIn.cons rfl (fun K hK => ?_) AllReadyIn.nil
      go_simp
      first | (refine hK _ _ ?_; clear hK K) | skip
      (try simp only [Act.put, List.setIfInBounds_toArray, List.set_cons_zero, List.set_cons_succ])
      refine wpAnyIn_done (by kernel_rfl) ?_ _
      exact HKI.out _ (by rw [Hsn.out]; split <;> omega)
    · go_simp
      first | (refine hK _ _ ?_; clear hK K) | skip
      (try simp only [Act.put, List.setIfInBounds_toArray, List.set_cons_zero, List.set_cons_succ])
      refine wpAnyIn_ready (rs := [0, 4]) (by kernel_rfl) (by simp) ?_
      refine AllReadyIn.cons rfl (fun K hK => ?_) (AllReadyIn.cons rfl (fun K hK => ?_) AllReadyIn.nil)
      · go_simp
        first | (refine hK _ _ ?_; clear hK K) | skip
        (try simp only [Act.put, List.setIfInBounds_toArray, List.set_cons_zero, List.set_cons_succ])
        refine wpAnyIn_ready (rs := [4]) (by kernel_rfl) (by simp) ?_
        refine AllReadyIn.cons rfl (fun K hK => ?_) AllReadyIn.nil
        go_simp
        gi_wp2_with (refine ⟨trivial, wide_depth, ?_⟩; gi_at_call 30; refine (callsIn_wide.2 HA.out).mono ?_; rintro e w' ⟨rfl, rfl⟩)
        first | (refine hK _ _ ?_; clear hK K) | skip
        (try simp only [Act.put, List.setIfInBounds_toArray, List.set_cons_zero, List.set_cons_succ])
        refine wpAnyIn_ready (rs := [5]) (by kernel_rfl) (by simp) ?_
        refine AllReadyIn.cons rfl (fun K hK => ?_) AllReadyIn.nil
        go_simp
        first | (refine hK _ _ ?_; clear hK K) | skip
        (try simp only [Act.put, List.setIfInBounds_toArray, List.set_cons_zero, List.set_cons_succ])
        refine wpAnyIn_ready (rs := [6]) (by kernel_rfl) (by simp) ?_
        refine AllReadyIn.cons rfl (fun K hK => ?_) AllReadyIn.nil
        go_simp
        gi_wp2_with (refine ⟨trivial, wide_depth, ?_⟩; gi_at_call 29; refine (callsIn_wide.2 HO.out).mono ?_; rintro e w' ⟨rfl, rfl⟩)
        first | (refine hK _ _ ?_; clear hK K) | skip
        (try simp only [Act.put, List.setIfInBounds_toArray, List.set_cons_zero, List.set_cons_succ])
        refine wpAnyIn_ready (rs := [7]) (by kernel_rfl) (by simp) ?_
        refine AllReadyIn.cons rfl (fun K hK => ?_) AllReadyIn.nil
        go_simp
        first | (refine hK _ _ ?_; clear hK K) | skip
        (try simp only [Act.put, List.setIfInBounds_toArray, List.set_cons_zero, List.set_cons_succ])
        refine wpAnyIn_ready (rs := [8]) (by kernel_rfl) (by simp) ?_
        refine AllReadyIn.cons rfl (fun K hK => ?_) AllReadyIn.nil
        go_simp
        first | (refine hK _ _ ?_; clear hK K) | skip
        (try simp only [Act.put, List.setIfInBounds_toArray, List.set_cons_zero, List.set_cons_succ])
        refine wpAnyIn_done (by kernel_rfl) ?_ _
        exact HKI.out _ (by rw [Hsn.out]; split <;> omega)
      · go_simp
        gi_wp2_with (refine ⟨trivial, wide_depth, ?_⟩; gi_at_call 30; refine (callsIn_wide.2 HA.out).mono ?_; rintro e w' ⟨rfl, rfl⟩)
        first | (refine hK _ _ ?_; clear hK K) | skip
        (try simp only [Act.put, List.setIfInBounds_toArray, List.set_cons_zero, List.set_cons_succ])
        refine wpAnyIn_ready (rs := [0, 5]) (by kernel_rfl) (by simp) ?_
        refine AllReadyIn.cons rfl (fun K hK => ?_) (AllReadyIn.cons rfl (fun K hK => ?_) AllReadyIn.nil)
        · go_simp
          first | (refine hK _ _ ?_; clear hK K) | skip
          (try simp only [Act.put, List.setIfInBounds_toArray, List.set_cons_zero, List.set_cons_succ])
          refine wpAnyIn_ready (rs := [5]) (by kernel_rfl) (by simp) ?_
          refine AllReadyIn.cons rfl (fun K hK => ?_) AllReadyIn.nil
          go_simp
          first | (refine hK _ _ ?_; clear hK K) | skip
          (try simp only [Act.put, List.setIfInBounds_toArray, List.set_cons_zero, List.set_cons_succ])
          refine wpAnyIn_ready (rs := [6]) (by kernel_rfl) (by simp) ?_
          refine AllReadyIn.cons rfl (fun K hK => ?_) AllReadyIn.nil
          go_simp
          gi_wp2_with (refine ⟨trivial, wide_depth, ?_⟩; gi_at_call 29; refine (callsIn_wide.2 HO.out).mono ?_; rintro e w' ⟨rfl, rfl⟩)
          first | (refine hK _ _ ?_; clear hK K) | skip
          (try simp only [Act.put, List.setIfInBounds_toArray, List.set_cons_zero, List.set_cons_succ])
          refine wpAnyIn_ready (rs := [7]) (by kernel_rfl) (by simp) ?_
          refine AllReadyIn.cons rfl (fun K hK => ?_) AllReadyIn.nil
          go_simp
          first | (refine hK _ _ ?_; clear hK K) | skip
          (try simp only [Act.put, List.setIfInBounds_toArray, List.set_cons_zero, List.set_cons_succ])
          refine wpAnyIn_ready (rs := [8]) (by kernel_rfl) (by simp) ?_
          refine AllReadyIn.cons rfl (fun K hK => ?_) AllReadyIn.nil
          go_simp
          first | (refine hK _ _ ?_; clear hK K) | skip
          (try simp only [Act.put, List.setIfInBounds_toArray, List.set_cons_zero, List.set_cons_succ])
          refine wpAnyIn_done (by kernel_rfl) ?_ _
          exact HKI.out _ (by rw [Hsn.out]; split <;> omega)
        · go_simp
          first | (refine hK _ _ ?_; clear hK K) | skip
          (try simp only [Act.put, List.setIfInBounds_toArray, List.set_cons_zero, List.set_cons_succ])
          refine wpAnyIn_ready (rs := [0, 6]) (by kernel_rfl) (by simp) ?_
          refine AllReadyIn.cons rfl (fun K hK => ?_) (AllReadyIn.cons rfl (fun K hK => ?_) AllReadyIn.nil)
          · go_simp
            first | (refine hK _ _ ?_; clear hK K) | skip
            (try simp only [Act.put, List.setIfInBounds_toArray, List.set_cons_zero, List.set_cons_succ])
            refine wpAnyIn_ready (rs := [6]) (by kernel_rfl) (by simp) ?_
            refine AllReadyIn.cons rfl (fun K hK => ?_) AllReadyIn.nil
            go_simp
            gi_wp2_with (refine ⟨trivial, wide_depth, ?_⟩; gi_at_call 29; refine (callsIn_wide.2 HO.out).mono ?_; rintro e w' ⟨rfl, rfl⟩)
            first | (refine hK _ _ ?_; clear hK K) | skip
            (try simp only [Act.put, List.setIfInBounds_toArray, List.set_cons_zero, List.set_cons_succ])
            refine wpAnyIn_ready (rs := [7]) (by kernel_rfl) (by simp) ?_
            refine AllReadyIn.cons rfl (fun K hK => ?_) AllReadyIn.nil
            go_simp
            first | (refine hK _ _ ?_; clear hK K) | skip
            (try simp only [Act.put, List.setIfInBounds_toArray, List.set_cons_zero, List.set_cons_succ])
            refine wpAnyIn_ready (rs := [8]) (by kernel_rfl) (by simp) ?_
            refine AllReadyIn.cons rfl (fun K hK => ?_) AllReadyIn.nil
            go_simp
            first | (refine hK _ _ ?_; clear hK K) | skip
            (try simp only [Act.put, List.setIfInBounds_toArray, List.set_cons_zero, List.set_cons_succ])
            refine wpAnyIn_done (by kernel_rfl) ?_ _
            exact HKI.out _ (by rw [Hsn.out]; split <;> omega)
          · go_simp
            gi_wp2_with (refine ⟨trivial, wide_depth, ?_⟩; gi_at_call 29; refine (callsIn_wide.2 HO.out).mono ?_; rintro e w' ⟨rfl, rfl⟩)
            first | (refine hK _ _ ?_; clear hK K) | skip
            (try simp only [Act.put, List.setIfInBounds_toArray, List.set_cons_zero, List.set_cons_succ])
            refine wpAnyIn_ready (rs := [0]) (by kernel_rfl) (by simp) ?_
            refine AllReadyIn.cons rfl (fun K hK => ?_) AllReadyIn.nil
            go_simp
            first | (refine hK _ _ ?_; clear hK K) | skip
            (try simp only [Act.put, List.setIfInBounds_toArray, List.set_cons_zero, List.set_cons_succ])
            refine wpAnyIn_ready (rs := [7]) (by kernel_rfl) (by simp) ?_
            refine AllReadyIn.cons rfl (fun K hK => ?_) AllReadyIn.nil
            go_simp
            first | (refine hK _ _ ?_; clear hK K) | skip
            (try simp only [Act.put, List.setIfInBounds_toArray, List.set_cons_zero, List.set_cons_succ])
            refine wpAnyIn_ready (rs := [8]) (by kernel_rfl) (by simp) ?_
            refine AllReadyIn.cons rfl (fun K hK => ?_) AllReadyIn.nil
            go_simp
            first | (refine hK _ _ ?_; clear hK K) | skip
            (try simp only [Act.put, List.setIfInBounds_toArray, List.set_cons_zero, List.set_cons_succ])
            refine wpAnyIn_done (by kernel_rfl) ?_ _
            exact HKI.out _ (by rw [Hsn.out]; split <;> omega)
  case done =>
    rintro D' ys W hD' hys hi hK
    rw [hIe] at hi
    obtain ⟨hb1, hb0, hb2, hB⟩ := hi
    have c1 := hb1.cell
    have Hy : Hid (widTo L ys = widest L) := by unfold Hid widest; rw [hys]
    clear hb1 hb0 hb2 hys
    gi_wp2
    refine ⟨by simp, .inl ⟨_, _, rfl, run_takeDeferred hK, ?_⟩⟩
    exact ⟨_, results_tmp2 rfl _ _ _, by rw [← Hy.out]; rfl, B4.out.trans ((hB.trans (belowK_b (w := w) (Nat.le_refl _) W D' _ _ (by omega) hK rfl rfl)).mono B4.out.size)⟩
theorem pwidest_yes (A : Option Addr) (c : Nat) (D : List (List Nat)) (w0 : World) (hD : Sm D) (hO : OkD D) (hM : Mat w0 w0.heap.size A (rowsI D)) :
    Calls Try.prog 12 #[.slice A D.length c] w0 fun e W' => e = .returned (.tuple #[.int .i64 ((widest (needsL D) : Nat) : Int), .int .i64 0]) ∧ Below w0.heap.size w0 W' :=
  (callsIn_wide (n := 4)).1 (widest_in 4 (Nat.le_refl _) A c D w0 hD hO hM)
set_option maxRecDepth 100000 in
set_option maxHeartbeats 1000000 in
theorem pwidest_no (A : Option Addr) (c : Nat) (R : List (List Int)) (w : World) (hf : fitB R = false) (hl : R.length ≤ 1000) (hr : ∀ k, k < R.length → (rowI R k).length ≤ 1000) (hM : Mat w w.heap.size A R) :
    Calls Try.prog 12 #[.slice A R.length c] w fun e w' => e = .returned (.tuple #[.int .i64 0, .int .i64 3]) ∧ Below w.heap.size w w' := by
  have HR := Lib.hid (needsOf_no A c R w hf hl hr hM)
  clear hM hr hf
  have HB : Hid (Below w.heap.size w (w.alloc (.cells #[.slice none 0 0] 38))) := (Below.refl _ _).alloc (Nat.le_refl _) _
  go_enter Try.func12, Try.ntmps12
  go_wp2_with (go_at_call 20; (with_reducible refine HR.out.mono ?_); rintro e w4 ⟨rfl, rfl⟩)
  go_ret2
  exact ⟨rfl, HB.out⟩
end Go.Proofs.Ythffdkoncagimaa
