/- The closed sets, one after the other: the loop over a function; count. -/
import Derived.Test.YthffdkoncagimaaF
import Derived.Stop.RegionWithIn
set_option linter.unusedVariables false
set_option linter.unusedSimpArgs false
namespace Go.Proofs.Ythffdkoncagimaa
open Go.RowKit Go.Shelf
attribute [local go_sem] Oper.semAt_some
set_option maxRecDepth 100000 in
set_option maxHeartbeats 2000000 in
theorem closed_iter (n : Nat) (hn : 1 ≤ n) (l Bn : Nat) (A : Option Addr) (c : Nat) (L : List Nat) (hL : Lok L) (J : List Nat → World → Prop)
    (hJ : ∀ pre W, J pre W → W.cell? ⟨Bn, 0, none⟩ = some (.slice A L.length c) ∧ Words W W.heap.size A L)
    (hY : ∀ pre x W, J pre W → (x < 2 ^ L.length ∧ pre = cloTo L x ∧ clo L x = true) → YieldAt Fence.wide (n - 1) Try.prog l #[.int .u64 ((x : Nat) : Int)] W fun e W' => e = .returned (.bool true) ∧ J (pre ++ [x]) W')
    (W : World) (h0 : J [] W) :
    CallsIn Fence.wide n Try.prog 39 #[.func (.yield l) #[] #[], .pointer (some ⟨Bn, 0, none⟩)] W fun e W' => (∃ v, e = .returned v) ∧ ∃ xs, xs = cloTo L (2 ^ L.length) ∧ J xs W' := by
  have hln := hL.n
  have HL := Lib.hid hL
  have HJ := Lib.hid hJ
  have HY := Lib.hid hY
  have hpl := pow_len hln
  have hn6 : (L.length : Int) < 64 := by omega
  have hn0 : (0 : Int) ≤ (L.length : Int) := by omega
  have hp : IntKind.u64.wrap (2 ^ L.length) = ((2 ^ L.length : Nat) : Int) := by
    have e : (2 : Int) ^ L.length = ((2 ^ L.length : Nat) : Int) := by simp
    rw [e]; exact wraps_u64 _ (Int.natCast_nonneg _) (by omega)
  obtain ⟨c0, _⟩ := hJ [] W h0
  clear hL hJ hY
  generalize hNN : 2 ^ L.length = N at *
  have HN := Lib.hid hNN
  clear hNN
  refine callsIn_of_wp Try.func39 rfl trivial ?_ rfl
  simp only [Try.ntmps39, List.size_toArray, List.length_cons, List.length_nil, Nat.reduceAdd, Nat.reduceSub, Array.replicate_succ, Array.replicate_zero, List.push_toArray, List.append_toArray, List.nil_append, List.cons_append]
  gi_wp2
  gi_loopw [7] (fun i wr => ∃ k : Nat, k ≤ N ∧ i = .int .u64 k ∧ J (cloTo L k) wr) (fun i _ => N - (intOf i).toNat)
  case atStart => exact ⟨0, Nat.zero_le _, rfl, h0⟩
  case round =>
    obtain ⟨k, hk, rfl, hJk⟩ := hrel
    rename World => wr
    have hk0 : (0 : Int) ≤ (k : Int) := by omega
    obtain ⟨cB, hW⟩ := HJ.out _ _ hJk
    by_cases hlt : k < N
    · have hki : (k : Int) < (N : Int) := by omega
      have HA := Lib.hid (ahead_any A c L k wr HL.out (by omega) hW)
      have HI := Lib.hid (within_any (ahead L k) k wr (HL.out.ahead k _ (Nat.le_refl _)) (by omega))
      have hcl : subS (ahead L k) k = clo L k := rfl
      rw [hcl] at HI
      have hsc := cloTo_succ L k
      cases hb : clo L k with
      | false =>
        have Hs : Hid (cloTo L (k + 1) = cloTo L k) := by unfold Hid; rw [hsc, if_neg (by rw [hb]; simp), List.append_nil]
        rw [hb] at HI
        clear hb hsc hcl hW
        generalize ahead L k = a at *
        gi_wp2_with (first
          | (refine ⟨trivial, ?_⟩; gi_at_call 30; refine (callsIn_wide.2 HA.out).mono ?_; rintro e w' ⟨rfl, rfl⟩)
          | (refine ⟨trivial, ?_⟩; gi_at_call 27; refine (callsIn_wide.2 HI.out).mono ?_; rintro e w' ⟨rfl, rfl⟩))
        refine ⟨fun _ h => (by cases h), ?_⟩
        gi_wp2
        go_roundw
        case rel => exact ⟨k + 1, by omega, by go_num, by rw [Hs.out]; exact hJk⟩
        case measure => simp [intOf]; omega
      | true =>
        have Hs : Hid (cloTo L (k + 1) = cloTo L k ++ [k]) := by unfold Hid; rw [hsc, if_pos hb]
        obtain ⟨fn, tmps, assign, body, hy, hR⟩ := HY.out _ k wr hJk ⟨hlt, rfl, hb⟩
        have HR := Lib.hid hR
        rw [hb] at HI
        clear hb hsc hcl hW hR HY
        generalize ahead L k = a at *
        gi_wp2_with (first
          | (refine ⟨trivial, ?_⟩; gi_at_call 30; refine (callsIn_wide.2 HA.out).mono ?_; rintro e w' ⟨rfl, rfl⟩)
          | (refine ⟨trivial, ?_⟩; gi_at_call 27; refine (callsIn_wide.2 HI.out).mono ?_; rintro e w' ⟨rfl, rfl⟩))
        refine HR.out.mono ?_
        rintro e W3 ⟨rfl, hJ3⟩
        gi_wp2
        go_roundw
        case rel => exact ⟨k + 1, by omega, by go_num, by rw [Hs.out]; exact hJ3⟩
        case measure => simp [intOf]; omega
    · obtain rfl : k = N := by omega
      have hki : ¬ (k : Int) < (k : Int) := by omega
      gi_wp2
      go_end0
      exact ⟨⟨_, rfl⟩, hJk⟩
theorem closedMake_in (n : Nat) (A : Option Addr) (m c : Nat) (w : World) :
    CallsIn Fence.wide n Try.prog 25 #[.slice A m c] w fun e w' => e = .returned (.func (.func 39) #[] #[.pointer (some ⟨w.heap.size, 0, none⟩)]) ∧ w' = w.alloc (.cells #[.slice A m c] 38) := by
  refine callsIn_of_wp Try.func25 rfl trivial ?_ rfl
  simp only [Try.ntmps25, List.size_toArray, List.length_cons, List.length_nil, Nat.reduceAdd, Nat.reduceSub, Array.replicate_succ, Array.replicate_zero, List.push_toArray, List.append_toArray, List.nil_append, List.cons_append]
  gi_wp2
  go_ret
  exact ⟨rfl, rfl⟩
set_option maxRecDepth 100000 in
set_option maxHeartbeats 2000000 in
theorem count_in (n : Nat) (hn : 3 ≤ n) (A : Option Addr) (c : Nat) (L : List Nat) (w : World) (hL : Lok L) (hW : Words w w.heap.size A L) :
    CallsIn Fence.wide n Try.prog 21 #[.slice A L.length c] w fun e W' => e = .returned (.int .i64 ((countL L : Nat) : Int)) ∧ Below w.heap.size w W' := by
  have h1 : 1 ≤ n := by omega
  have hln := hL.n
  have hpl := pow_len hln
  refine callsIn_of_wp_marks Try.func21 rfl trivial ?_ rfl
  simp only [Try.ntmps21, List.size_toArray, List.length_cons, List.length_nil, Nat.reduceAdd, Nat.reduceSub, Array.replicate_succ, Array.replicate_zero, List.push_toArray, List.append_toArray, List.nil_append, List.cons_append]
  gi_wp2_with (refine ⟨trivial, ?_⟩; gi_at_call 25; refine (closedMake_in (n - 1) A L.length c _).mono ?_; rintro e w' ⟨rfl, rfl⟩)
  have b0 := (Boxed.new w 3 (.int .i64 0)).alloc (.cells #[.slice A L.length c] 38)
  have b1 := Boxed.new (w.alloc (.cells #[.int .i64 0] 3)) 38 (.slice A L.length c)
  simp only [World.size_alloc] at b0 b1
  have hB0 : Below w.heap.size w ((w.alloc (.cells #[.int .i64 0] 3)).alloc (.cells #[.slice A L.length c] 38)) := ((Below.refl _ w).alloc (Nat.le_refl _) _).alloc (by simp) _
  have hs0 : ((w.alloc (.cells #[.int .i64 0] 3)).alloc (.cells #[.slice A L.length c] 38)).heap.size = w.heap.size + 2 := by simp
  generalize ((w.alloc (.cells #[.int .i64 0] 3)).alloc (.cells #[.slice A L.length c] 38)) = W0 at b0 b1 hB0 hs0 ⊢
  obtain ⟨I, hIe⟩ : ∃ I : List Nat → World → Prop, I = fun pre W => Boxed W w.heap.size 3 (.int .i64 ((pre.length : Nat) : Int)) ∧ Boxed W (w.heap.size + 1) 38 (.slice A L.length c) ∧ Below w.heap.size w W := ⟨_, rfl⟩
  refine range_runs (α := Nat) rfl h1 (gf := 39) (lb := #[.pointer (some ⟨w.heap.size + 1, 0, none⟩)]) rfl trivial (enters_of Try.func39 (by kernel_rfl) rfl)
    (encs := fun x => #[.int .u64 ((x : Nat) : Int)]) (fun _ => rfl) I
    (fun pre x => x < 2 ^ L.length ∧ pre = cloTo L x ∧ clo L x = true) (fun ys => ys = cloTo L (2 ^ L.length)) ?own
    (by rw [hIe]; exact ⟨b0, b1, hB0⟩)
    (fun x => { tmps := #[.slice A L.length c, undef, .int .i64 0, .pointer (some ⟨w.heap.size, 0, none⟩), .slice A L.length c, .func (.func 39) #[] #[.pointer (some ⟨w.heap.size + 1, 0, none⟩)], .int .u64 ((x : Nat) : Int), undef, undef, undef], defers := [] }) ?assign ?body ?iter ?done
  case own =>
    rw [hIe]
    exact OwnFrom.and (Own.from (boxed_own w.heap.size 3 (fun pre : List Nat => .int .i64 ((pre.length : Nat) : Int))) _) (OwnFrom.and (Own.from (boxed_own (w.heap.size + 1) 38 (fun _ => _)) _) (ownFrom_below (Nat.le_refl _) (by omega)))
  case assign =>
    intro l x W K hK
    gi_wp2
    simpa using hK
  case iter =>
    intro l J W1 hJI hY h0
    exact closed_iter (n - 1) (by omega) l (w.heap.size + 1) A c L hL J (fun pre W h => by
      have := hJI pre W h
      rw [hIe] at this
      exact ⟨this.2.1.cell, (hW.below this.2.2).more this.2.2.size⟩) hY W1 h0
  case body =>
    rintro l pre x W hi ⟨hx1, hx2, hx3⟩
    rw [hIe] at hi
    obtain ⟨hb0, hb1, hB⟩ := hi
    have hcl := cloTo_len L x
    rw [← hx2] at hcl
    have hpm : pre.length < 20000 := by omega
    have c0 := hb0.cell
    have f0 := hb0.frozen
    have Hb0 := Lib.hid hb0
    have Hb1 := Lib.hid hb1
    have HB := Lib.hid hB
    have HI := Lib.hid hIe
    have Hl : Hid ((pre ++ [x]).length = pre.length + 1) := by unfold Hid; simp
    clear hb0 hb1 hB hx1 hx2 hx3 hcl hIe
    generalize hpp : pre.length = m at *
    gi_wp2
    refine ⟨grown_keeps (grownBy_set W w.heap.size 0 _) (by omega), ?_⟩
    rw [HI.out]
    refine ⟨?_, Hb1.out.kept (grownBy_set W w.heap.size 0 _) (fun e => by injection e with e; omega), HB.out.setCell (p := ⟨w.heap.size, 0, none⟩) (Nat.le_refl _) _⟩
    have := Hb0.out.set (.int .i64 ((m : Int) + 1))
    rw [Hl.out]
    exact this
  case done =>
    rintro D ys W hD hys hi hK
    rw [hIe] at hi
    obtain ⟨hb0, hb1, hB⟩ := hi
    have c0 := hb0.cell
    have Hy : Hid (ys.length = countL L) := by unfold Hid countL; rw [hys]
    clear hb1 hys
    gi_wp2
    refine ⟨by simp, .inl ⟨_, _, rfl, run_takeDeferred hK, ?_⟩⟩
    exact ⟨_, results_tmp rfl _ _ _, by rw [← Hy.out]; rfl, hB.trans (belowK_b (w := w) (Nat.le_refl _) W D _ _ (by omega) hK rfl rfl)⟩
theorem count_any (A : Option Addr) (c : Nat) (L : List Nat) (w : World) (hL : Lok L) (hW : Words w w.heap.size A L) :
    Calls Try.prog 21 #[.slice A L.length c] w fun e W' => e = .returned (.int .i64 ((countL L : Nat) : Int)) ∧ Below w.heap.size w W' :=
  (callsIn_wide (n := 3)).1 (count_in 3 (Nat.le_refl _) A c L w hL hW)
end Go.Proofs.Ythffdkoncagimaa
