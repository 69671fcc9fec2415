/- In how many orders all can come: Orders. -/
import Derived.Test.YthffdkoncagimaaI0
set_option linter.unusedVariables false
set_option linter.unusedSimpArgs false
namespace Go.Proofs.Ythffdkoncagimaa
open Go.RowKit Go.Shelf
attribute [local go_sem] Oper.semAt_some
/-- one number that may come next -/
def ordN (L : List Nat) (s k : Nat) (O : List Int) : List Int :=
  if s.testBit k = false ∧ subS (nd L k) s = true then O.set (s ||| 2 ^ k) (wrap64 (nth O (s ||| 2 ^ k) + nth O s)) else O
def ordK (L : List Nat) (s : Nat) (O : List Int) : Nat → List Int
  | 0 => O
  | k + 1 => ordN L s k (ordK L s O k)
def ordL (L : List Nat) (xs : List Nat) (O : List Int) : List Int := xs.foldl (fun O s => ordK L s O L.length) O
theorem ordL_snoc (L xs : List Nat) (x : Nat) (O : List Int) : ordL L (xs ++ [x]) O = ordK L x (ordL L xs O) L.length := by simp [ordL]
theorem length_ordN (L : List Nat) (s k : Nat) (O : List Int) : (ordN L s k O).length = O.length := by unfold ordN; split <;> simp
theorem length_ordK (L : List Nat) (s : Nat) (O : List Int) : ∀ k, (ordK L s O k).length = O.length
  | 0 => rfl
  | k + 1 => by show (ordN _ _ _ _).length = _; rw [length_ordN, length_ordK L s O k]
theorem length_ordL (L : List Nat) (O : List Int) : ∀ xs : List Nat, (ordL L xs O).length = O.length := fun xs => by
  unfold ordL
  induction xs generalizing O with
  | nil => rfl
  | cons x xs ih => rw [List.foldl_cons, ih, length_ordK]
def ord0 (N : Nat) : List Int := (List.replicate N 0).set 0 1
def orders (L : List Nat) : Int := nth (ordL L (cloTo L (2 ^ L.length)) (ord0 (2 ^ L.length))) (2 ^ L.length - 1)
theorem made_ints (n : Nat) : madeCells #[Value.int .i64 0] n = (intsV (List.replicate n 0)).toArray := by
  apply Array.ext
  · simp [size_madeCells, intsV]
  · intro i h1 h2; simp [madeCells, intsV, Nat.mod_one]
theorem intsV_set (l : List Int) (k : Nat) (v : Int) : (intsV l).set k (.int .i64 v) = intsV (l.set k v) := by simp [intsV, List.map_set]
theorem set_lt {N s k n : Nat} (hN : N = 2 ^ n) (hs : s < N) (hk : k < n) : s ||| 2 ^ k < N := by
  subst hN
  exact Nat.or_lt_two_pow hs (Nat.pow_lt_pow_right (by decide) hk)
def OrdI (w : World) (A : Option Addr) (c : Nat) (L : List Nat) (N : Nat) (O : List Int) (W : World) : Prop :=
  Boxed W (w.heap.size + 2) 35 (.slice (some ⟨w.heap.size + 1, 0, none⟩) N N) ∧ BlkIs W (w.heap.size + 1) 3 (intsV O) ∧ Boxed W w.heap.size 38 (.slice A L.length c) ∧ Boxed W (w.heap.size + 3) 38 (.slice A L.length c) ∧ Below w.heap.size w W
theorem blk_own {β : Type} (B : Nat) (t : TypeId) (f : β → List Value) : Own (fun s W => BlkIs W B t (f s)) := fun s X Y row hs hg hrow =>
  BlkIs.kept hs hg fun e => by
    obtain ⟨o, ho, hc⟩ := hrow B e.symm
    rw [show X.heap[B]? = _ from hs] at ho; cases ho; cases hc
theorem OrdI.set {w W : World} {A : Option Addr} {c N : Nat} {L : List Nat} {O : List Int} (h : OrdI w A c L N O W) (k : Nat) (v : Int) : OrdI w A c L N (O.set k v) (W.setCell ⟨w.heap.size + 1, k, none⟩ (.int .i64 v)) := by
  obtain ⟨h1, h2, h3, h4, h5⟩ := h
  have hg := grownBy_set W (w.heap.size + 1) k (.int .i64 v)
  exact ⟨h1.kept hg (fun e => by injection e with e; omega), by rw [← intsV_set]; exact h2.set_ k _, h3.kept hg (fun e => by injection e with e; omega), h4.kept hg (fun e => by injection e with e; omega), h5.setCell (p := ⟨w.heap.size + 1, k, none⟩) (by show w.heap.size ≤ w.heap.size + 1; omega) _⟩
/-- the world in which Orders' loop begins -/
def ordW (w : World) (A : Option Addr) (m c N : Nat) : World := (((w.alloc (.cells #[.slice A m c] 38)).alloc (.cells ((intsV (List.replicate N 0)).set 0 (.int .i64 1)).toArray 3)).alloc (.cells #[.slice (some ⟨w.heap.size + 1, 0, none⟩) N N] 35)).alloc (.cells #[.slice A m c] 38)
theorem ordW_facts (w : World) (A : Option Addr) (c N : Nat) (L : List Nat) : OrdI w A c L N (ord0 N) (ordW w A L.length c N) ∧ (ordW w A L.length c N).heap.size = w.heap.size + 4 := by
  unfold ordW OrdI
  obtain ⟨o1, h1⟩ : ∃ o1, o1 = (Obj.cells ((intsV (List.replicate N 0)).set 0 (.int .i64 1)).toArray 3) := ⟨_, rfl⟩
  obtain ⟨o2, h2⟩ : ∃ o2, o2 = (Obj.cells #[.slice (some ⟨w.heap.size + 1, 0, none⟩) N N] 35) := ⟨_, rfl⟩
  have b0 := (((Boxed.new w 38 (.slice A L.length c)).alloc o1).alloc o2).alloc (.cells #[.slice A L.length c] 38)
  have b1 := ((BlkIs.new (w.alloc (.cells #[.slice A L.length c] 38)) 3 ((intsV (List.replicate N 0)).set 0 (.int .i64 1)).toArray).alloc o2).alloc (.cells #[.slice A L.length c] 38)
  have b2 := (Boxed.new ((w.alloc (.cells #[.slice A L.length c] 38)).alloc o1) 35 (.slice (some ⟨w.heap.size + 1, 0, none⟩) N N)).alloc (.cells #[.slice A L.length c] 38)
  have b3 := Boxed.new (((w.alloc (.cells #[.slice A L.length c] 38)).alloc o1).alloc o2) 38 (.slice A L.length c)
  simp only [World.size_alloc] at b1 b2 b3
  have e : (intsV (List.replicate N 0)).set 0 (.int .i64 1) = intsV (ord0 N) := by unfold ord0; rw [← intsV_set]
  rw [e] at b1
  rw [e]
  rw [e] at h1
  subst h1 h2
  exact ⟨⟨b2, b1, b0, b3, (((((Below.refl _ w).alloc (Nat.le_refl _) _).alloc (by simp) _).alloc (by simp; omega) _).alloc (by simp; omega) _)⟩, by simp⟩
theorem ordW1_cell (w : World) (A : Option Addr) (m c N : Nat) (hN : 0 < N) : (((w.alloc (.cells #[.slice A m c] 38)).alloc (.cells (intsV (List.replicate N 0)).toArray 3)).alloc (.cells #[.slice (some ⟨w.heap.size + 1, 0, none⟩) N N] 35)).cell? ⟨w.heap.size + 1, 0, none⟩ = some (.int .i64 0) := by
  have b1 := (BlkIs.new (w.alloc (.cells #[.slice A m c] 38)) 3 (intsV (List.replicate N 0)).toArray).alloc (.cells #[.slice (some ⟨w.heap.size + 1, 0, none⟩) N N] 35)
  simp only [World.size_alloc] at b1
  rw [BlkIs.cell b1 0, intsV_at (by simpa using hN), nth_lt (by simpa using hN)]
  simp
theorem OrdI.own {w : World} {A : Option Addr} {c N : Nat} {L : List Nat} (f : List Nat → List Int) (B : Nat) (hB : w.heap.size ≤ B) : OwnFrom B (fun pre W => OrdI w A c L N (f pre) W) :=
  OwnFrom.and (Own.from (boxed_own (w.heap.size + 2) 35 (fun _ => _)) _) (OwnFrom.and (Own.from (blk_own (w.heap.size + 1) 3 (fun pre => intsV (f pre))) _) (OwnFrom.and (Own.from (boxed_own w.heap.size 38 (fun _ => _)) _) (OwnFrom.and (Own.from (boxed_own (w.heap.size + 3) 38 (fun _ => _)) _) (ownFrom_below (Nat.le_refl _) hB))))
set_option maxRecDepth 100000 in
set_option maxHeartbeats 4000000 in
theorem orders_in (n : Nat) (hn : 4 ≤ n) (A : Option Addr) (c : Nat) (D : List (List Nat)) (w0 : World) (hD : Sm D) (hO : OkD D) (hM : Mat w0 w0.heap.size A (rowsI D)) :
    CallsIn Fence.wide n Try.prog 10 #[.slice A D.length c] w0 fun e W' => e = .returned (.tuple #[.int .i64 (orders (needsL D)), .int .i64 0]) ∧ Below w0.heap.size w0 W' := by
  have h1 : 1 ≤ n := by omega
  have HN := Lib.hid (needsOf_yes A c D w0 hD hO hM)
  have HL := Lib.hid (lok_needs hD)
  have hln := (lok_needs hD).n
  have hpl := pow_len hln
  have hwp := wrap_pow hln
  have hni : ((needsL D).length : Int) < 64 := by omega
  have hn0 : (0 : Int) ≤ ((needsL D).length : Int) := by omega
  clear hM
  generalize needsL D = L at *
  have hNp : 0 < 2 ^ L.length := Nat.two_pow_pos _
  obtain ⟨N, hN⟩ : ∃ N, N = 2 ^ L.length := ⟨_, rfl⟩
  rw [← hN] at hwp hpl hNp
  have HNN := Lib.hid hN
  clear hN
  have hmk : ∀ W : World, (Instr.makeSlice 35 (.int .i64 (N : Int)) (.int .i64 (N : Int))).run Try.prog W = .ok (.slice (some ⟨W.heap.size, 0, none⟩) N N) (W.alloc (.cells (intsV (List.replicate N 0)).toArray 3)) := fun W => by
    have := run_make_row' (P := Try.prog) 35 3 (.int .i64 0) 8 Try.underlying35 info3 rfl .i64 .i64 N (by omega) (by omega) W
    rwa [made_ints] at this
  have hNi : (0 : Int) < (N : Int) := by omega
  refine callsIn_of_wp_marks Try.func10 rfl trivial ?_ rfl
  simp only [Try.ntmps10, List.size_toArray, List.length_cons, List.length_nil, Nat.reduceAdd, Nat.reduceSub, Array.replicate_succ, Array.replicate_zero, List.push_toArray, List.append_toArray, List.nil_append, List.cons_append]
  gi_wp2_with (first
    | (refine ⟨trivial, ?_⟩; gi_at_call 20; refine (callsIn_wide.2 HN.out).mono ?_; rintro e w ⟨A4, c4, rfl, t4, b4⟩; have B4 := Lib.hid b4; have T4 := Lib.hid t4; have c3 := ordW1_cell w A4 L.length c4 N hNp; clear t4 b4)
    | (refine ⟨trivial, ?_⟩; gi_at_call 25; refine (closedMake_in _ A4 L.length c4 _).mono ?_; rintro e w' ⟨rfl, rfl⟩))
  clear c3 hmk HN
  have hI0 := (ordW_facts w A4 c4 N L).1
  have hs0 := (ordW_facts w A4 c4 N L).2
  unfold ordW at hI0 hs0
  generalize (((w.alloc (.cells #[.slice A4 L.length c4] 38)).alloc (.cells ((intsV (List.replicate N 0)).set 0 (.int .i64 1)).toArray 3)).alloc (.cells #[.slice (some ⟨w.heap.size + 1, 0, none⟩) N N] 35)).alloc (.cells #[.slice A4 L.length c4] 38) = W0 at hI0 hs0 ⊢
  obtain ⟨I, hIe⟩ : ∃ I : List Nat → World → Prop, I = fun pre W => OrdI w A4 c4 L N (ordL L pre (ord0 N)) W := ⟨_, rfl⟩
  refine range_runs (α := Nat) rfl h1 (gf := 39) (lb := #[.pointer (some ⟨w.heap.size + 1 + 1 + 1, 0, none⟩)]) rfl trivial (enters_of Try.func39 (by kernel_rfl) rfl)
    (encs := fun x => #[.int .u64 ((x : Nat) : Int)]) (fun _ => rfl) I
    (fun pre x => x < 2 ^ L.length ∧ pre = cloTo L x ∧ clo L x = true) (fun ys => ys = cloTo L (2 ^ L.length)) ?own
    (by rw [hIe]; exact hI0)
    (fun x => { tmps := #[.slice A D.length c, undef, .int .i64 0, .int .i64 0, .pointer (some ⟨w.heap.size, 0, none⟩), .int .i64 0, .pointer (some ⟨w.heap.size + 1 + 1, 0, none⟩), .int .u64 ((x : Nat) : Int), undef, undef, .tuple #[.slice A4 L.length c4, .int .i64 0], .slice A D.length c, .tuple #[.slice A4 L.length c4, .int .i64 0], .slice A4 L.length c4, .int .i64 0, .int .i64 0, .bool false, undef, .slice A4 L.length c4, .int .i64 ((L.length : Nat) : Int), .int .i64 (N : Int), .slice (some ⟨w.heap.size + 1, 0, none⟩) N N, .slice (some ⟨w.heap.size + 1, 0, none⟩) N N, .pointer (some ⟨w.heap.size + 1, 0, none⟩), .slice A4 L.length c4, .func (.func 39) #[] #[.pointer (some ⟨w.heap.size + 1 + 1 + 1, 0, none⟩)], .int .u64 ((x : Nat) : Int), undef, undef, undef, undef, undef, undef, undef, undef, undef, undef, undef, undef, undef, undef, undef, undef, undef, undef, undef, undef, undef, undef, undef, undef, undef, undef, undef, undef, undef, undef, undef, undef, undef, undef, undef], defers := [] }) ?assign ?body ?iter ?done
  case own =>
    rw [hIe]
    exact OrdI.own (fun pre => ordL L pre (ord0 N)) _ (by omega)
  case assign =>
    intro l x W K hK
    gi_wp2
    exact hK
  case iter =>
    intro l J W1 hJI hY h0
    exact closed_iter (n - 1) (by omega) l (w.heap.size + 1 + 1 + 1) A4 c4 L HL.out J (fun pre W h => by
      have := hJI pre W h
      rw [hIe] at this
      exact ⟨this.2.2.2.1.cell, (T4.out.below this.2.2.2.2).more this.2.2.2.2.size⟩) hY W1 h0
  case body =>
    rintro l pre x W hi ⟨hx1, hx2, hx3⟩
    have HI := Lib.hid hIe
    rw [hIe] at hi
    have hO0 : (ordL L pre (ord0 N)).length = N := by rw [length_ordL]; simp [ord0]
    have HO := Lib.hid hi
    have cb := hi.2.2.1.cell
    have HQ : Hid (∀ W', OrdI w A4 c4 L N (ordK L x (ordL L pre (ord0 N)) L.length) W' → I (pre ++ [x]) W') := fun W' h => by
      rw [hIe]; show OrdI w A4 c4 L N (ordL L (pre ++ [x]) (ord0 N)) W'; rw [ordL_snoc]; exact h
    have hx : x < N := by rw [HNN.out]; exact hx1
    have HT : Hid (∀ V, Below w.heap.size w V → Words V V.heap.size A4 L) := fun V h => (T4.out.below h).more h.size
    clear hi hx1 hx2 hx3 hIe
    generalize ordL L pre (ord0 N) = O at *
    have HOl := Lib.hid hO0
    clear hO0
    gi_wp2
    gi_loopw [29] (fun i wr => ∃ k : Nat, k ≤ L.length ∧ i = .int .i64 k ∧ Hid (OrdI w A4 c4 L N (ordK L x O k) wr) ∧ Hid (KeepsFrom (w.heap.size + 4) W wr)) (fun i _ => L.length - (intOf i).toNat)
    case atStart => exact ⟨0, Nat.zero_le _, rfl, HO.out, KeepsFrom.refl _ _⟩
    case round =>
      obtain ⟨k, hk, rfl, hI, hKp⟩ := hrel
      rename World => wr
      have hk0 : (0 : Int) ≤ (k : Int) := by omega
      by_cases hlt : k < L.length
      · have hki : (k : Int) < (L.length : Int) := by omega
        obtain ⟨b1, o1, rfl, l1, c1⟩ := (HT.out wr hI.out.2.2.2.2).at_ hlt
        have HHk := Lib.hid (has_any x k wr (by omega) (by omega))
        have HWk := Lib.hid (within_any (nd L k) x wr (HL.out.b k hlt) (by omega))
        by_cases hgo : x.testBit k = false ∧ subS (nd L k) x = true
        · have HV : Hid (ordK L x O (k + 1) = (ordK L x O k).set (x ||| 2 ^ k) (wrap64 (nth (ordK L x O k) (x ||| 2 ^ k) + nth (ordK L x O k) x))) := by
            unfold Hid; show ordN L x k _ = _; unfold ordN; rw [if_pos hgo]
          have hset : x ||| 2 ^ k < N := set_lt HNN.out hx hlt
          have hOl : (ordK L x O k).length = N := by rw [length_ordK]; exact HOl.out
          rw [hgo.1] at HHk
          rw [hgo.2] at HWk
          have cO := hI.out.2.1.cell (x ||| 2 ^ k)
          rw [intsV_at (by rw [hOl]; exact hset)] at cO
          have cS := hI.out.2.1.cell x
          rw [intsV_at (by rw [hOl]; exact hx)] at cS
          have fO := hI.out.2.1.frozen (x ||| 2 ^ k)
          have cB := hI.out.1.cell
          have HIs := Lib.hid (OrdI.set (W := wr.drew) (show OrdI w _ c4 L N (ordK L x O k) wr.drew from ⟨hI.out.1, hI.out.2.1, hI.out.2.2.1, hI.out.2.2.2.1, hI.out.2.2.2.2.drew⟩) (x ||| 2 ^ k) (wrap64 (nth (ordK L x O k) (x ||| 2 ^ k) + nth (ordK L x O k) x)))
          have HWi := Lib.hid (with_any x k wr.drew (by omega) (by omega))
          have dO : wr.drew.cell? ⟨w.heap.size + 1, x ||| 2 ^ k, none⟩ = some (.int .i64 (nth (ordK L x O k) (x ||| 2 ^ k))) := cO
          have dS : wr.drew.cell? ⟨w.heap.size + 1, x, none⟩ = some (.int .i64 (nth (ordK L x O k) x)) := cS
          have dF : wr.drew.frozen? ⟨w.heap.size + 1, x ||| 2 ^ k, none⟩ = false := fO
          have dB : wr.drew.cell? ⟨w.heap.size + 1 + 1, 0, none⟩ = some (.slice (some ⟨w.heap.size + 1, 0, none⟩) N N) := cB
          have HKs : Hid (KeepsFrom (w.heap.size + 4) W (wr.drew.setCell ⟨w.heap.size + 1, x ||| 2 ^ k, none⟩ (.int .i64 (wrap64 (nth (ordK L x O k) (x ||| 2 ^ k) + nth (ordK L x O k) x))))) := hKp.out.trans ((KeepsOthers.drew wr).from _ |>.trans (grown_keeps (grownBy_set wr.drew (w.heap.size + 1) _ _) (by omega)))
          have hsi : ((x ||| 2 ^ k : Nat) : Int) < (N : Int) := by omega
          have hsi0 : (0 : Int) ≤ ((x ||| 2 ^ k : Nat) : Int) := by omega
          have hxi : (x : Int) < (N : Int) := by omega
          clear hgo hset
          generalize nth (ordK L x O k) (x ||| 2 ^ k) = p at *
          generalize nth (ordK L x O k) x = q at *
          generalize hy : x ||| 2 ^ k = y at *
          have Hy := Lib.hid hy
          clear hy
          generalize nd L k = need at *
          gi_wp2_with (first
            | (refine ⟨trivial, wide_depth, ?_⟩; gi_at_call 26; refine (CallsIn.inRound l (callsIn_wide.2 HHk.out)).mono ?_; rintro e w' ⟨rfl, rfl⟩)
            | (refine ⟨trivial, wide_depth, ?_⟩; gi_at_call 27; refine (CallsIn.inRound l (callsIn_wide.2 HWk.out)).mono ?_; rintro e w' ⟨rfl, rfl⟩))
          refine wpIn_region_any (by kernel_rfl) (wpAnyIn_round l (by kernel_rfl) _ _ _ _ ?_)
          (try change wpAnyIn _ _ _ _ _ _ _ _ _ (World.drew _))
          refine wpAnyIn_take (i := 1) (v := .int .u64 ((x : Nat) : Int)) rfl rfl (by kernel_rfl) (by kernel_rfl) (by kernel_rfl) (fun _ _ _ h => h) ⟨Or.inl ⟨by rfl, fun w => by go_simp <;> (try exact IntWalk.i64_left _)⟩, fun _ => rfl⟩ ?_
          (try simp only [Act.put, List.setIfInBounds_toArray, List.set_cons_zero, List.set_cons_succ])
          refine wpAnyIn_take (i := 2) (v := .int .i64 ((k : Nat) : Int)) rfl rfl (by kernel_rfl) (by kernel_rfl) (by kernel_rfl) (fun _ _ _ h => h) ⟨Or.inl ⟨by rfl, fun w => by go_simp <;> (try exact IntWalk.i64_left _)⟩, fun _ => rfl⟩ ?_
          (try simp only [Act.put, List.setIfInBounds_toArray, List.set_cons_zero, List.set_cons_succ])
          refine wpAnyIn_take (i := 7) (v := .int .u64 ((x : Nat) : Int)) rfl rfl (by kernel_rfl) (by kernel_rfl) (by kernel_rfl) (fun _ _ _ h => h) ⟨Or.inl ⟨by rfl, fun w => by go_simp <;> (try exact IntWalk.i64_left _)⟩, fun _ => rfl⟩ ?_
          (try simp only [Act.put, List.setIfInBounds_toArray, List.set_cons_zero, List.set_cons_succ])
          refine wpAnyIn_ready (rs := [0, 3, 6]) (by kernel_rfl) (by simp) ?_
          refine AllReadyIn.cons rfl (fun K hK => ?_) (AllReadyIn.cons rfl (fun K hK => ?_) (AllReadyIn.cons rfl (fun K hK => ?_) AllReadyIn.nil))
          · go_simp
            first | (refine hK _ _ ?_; clear hK K) | skip
            (try simp only [Act.put, List.setIfInBounds_toArray, List.set_cons_zero, List.set_cons_succ])
            refine wpAnyIn_ready (rs := [3, 6]) (by kernel_rfl) (by simp) ?_
            refine AllReadyIn.cons rfl (fun K hK => ?_) (AllReadyIn.cons rfl (fun K hK => ?_) AllReadyIn.nil)
            · go_simp
              gi_wp2_with (refine ⟨trivial, wide_depth, ?_⟩; gi_at_call 28; refine (callsIn_wide.2 HWi.out).mono ?_; rintro e w' ⟨rfl, rfl⟩)
              first | (refine hK _ _ ?_; clear hK K) | skip
              (try simp only [Act.put, List.setIfInBounds_toArray, List.set_cons_zero, List.set_cons_succ])
              refine wpAnyIn_take (i := 4) (v := .pointer (some ⟨w.heap.size + 1, y, none⟩)) rfl rfl (by kernel_rfl) (by kernel_rfl) (by kernel_rfl) (fun _ _ _ h => h) ⟨Or.inl ⟨by rfl, fun w => by go_simp <;> (try exact IntWalk.i64_left _)⟩, fun _ => rfl⟩ ?_
              (try simp only [Act.put, List.setIfInBounds_toArray, List.set_cons_zero, List.set_cons_succ])
              refine wpAnyIn_ready (rs := [5, 6]) (by kernel_rfl) (by simp) ?_
              refine AllReadyIn.cons rfl (fun K hK => ?_) (AllReadyIn.cons rfl (fun K hK => ?_) AllReadyIn.nil)
              · go_simp
                first | (refine hK _ _ ?_; clear hK K) | skip
                (try simp only [Act.put, List.setIfInBounds_toArray, List.set_cons_zero, List.set_cons_succ])
                refine wpAnyIn_ready (rs := [6]) (by kernel_rfl) (by simp) ?_
                refine AllReadyIn.cons rfl (fun K hK => ?_) AllReadyIn.nil
                go_simp
                first | (refine hK _ _ ?_; clear hK K) | skip
                (try simp only [Act.put, List.setIfInBounds_toArray, List.set_cons_zero, List.set_cons_succ])
                refine wpAnyIn_take (i := 8) (v := .pointer (some ⟨w.heap.size + 1, x, none⟩)) rfl rfl (by kernel_rfl) (by kernel_rfl) (by kernel_rfl) (fun _ _ _ h => h) ⟨Or.inl ⟨by rfl, fun w => by go_simp <;> (try exact IntWalk.i64_left _)⟩, fun _ => rfl⟩ ?_
                (try simp only [Act.put, List.setIfInBounds_toArray, List.set_cons_zero, List.set_cons_succ])
                refine wpAnyIn_ready (rs := [9]) (by kernel_rfl) (by simp) ?_
                refine AllReadyIn.cons rfl (fun K hK => ?_) AllReadyIn.nil
                go_simp
                first | (refine hK _ _ ?_; clear hK K) | skip
                (try simp only [Act.put, List.setIfInBounds_toArray, List.set_cons_zero, List.set_cons_succ])
                refine wpAnyIn_take (i := 10) (v := .int .i64 (wrap64 (p + q))) rfl rfl (by kernel_rfl) (by kernel_rfl) (by kernel_rfl) (fun _ _ _ h => h) ⟨Or.inl ⟨by rfl, fun w => by go_simp <;> (try exact IntWalk.i64_left _)⟩, fun _ => rfl⟩ ?_
                (try simp only [Act.put, List.setIfInBounds_toArray, List.set_cons_zero, List.set_cons_succ])
                refine wpAnyIn_take (i := 11) (v := .pointer (some ⟨w.heap.size + 1, y, none⟩)) rfl rfl (by kernel_rfl) (by kernel_rfl) (by kernel_rfl) (fun _ _ _ h => h) ⟨Or.inl ⟨by rfl, fun w => by go_simp <;> (try exact IntWalk.i64_left _)⟩, fun _ => rfl⟩ ?_
                (try simp only [Act.put, List.setIfInBounds_toArray, List.set_cons_zero, List.set_cons_succ])
                refine wpAnyIn_ready (rs := [12]) (by kernel_rfl) (by simp) ?_
                refine AllReadyIn.cons rfl (fun K hK => ?_) AllReadyIn.nil
                go_simp
                first | (refine hK _ _ ?_; clear hK K) | skip
                (try simp only [Act.put, List.setIfInBounds_toArray, List.set_cons_zero, List.set_cons_succ])
                refine wpAnyIn_done (by kernel_rfl) ?_ _
                gi_wp2
                go_roundw
                case rel => exact ⟨k + 1, by omega, by go_num, by rw [HV.out]; exact HIs.out, HKs.out⟩
                case measure => simp [intOf]; omega
              · go_simp
                first | (refine hK _ _ ?_; clear hK K) | skip
                (try simp only [Act.put, List.setIfInBounds_toArray, List.set_cons_zero, List.set_cons_succ])
                refine wpAnyIn_take (i := 8) (v := .pointer (some ⟨w.heap.size + 1, x, none⟩)) rfl rfl (by kernel_rfl) (by kernel_rfl) (by kernel_rfl) (fun _ _ _ h => h) ⟨Or.inl ⟨by rfl, fun w => by go_simp <;> (try exact IntWalk.i64_left _)⟩, fun _ => rfl⟩ ?_
                (try simp only [Act.put, List.setIfInBounds_toArray, List.set_cons_zero, List.set_cons_succ])
                refine wpAnyIn_ready (rs := [5, 9]) (by kernel_rfl) (by simp) ?_
                refine AllReadyIn.cons rfl (fun K hK => ?_) (AllReadyIn.cons rfl (fun K hK => ?_) AllReadyIn.nil)
                · go_simp
                  first | (refine hK _ _ ?_; clear hK K) | skip
                  (try simp only [Act.put, List.setIfInBounds_toArray, List.set_cons_zero, List.set_cons_succ])
                  refine wpAnyIn_ready (rs := [9]) (by kernel_rfl) (by simp) ?_
                  refine AllReadyIn.cons rfl (fun K hK => ?_) AllReadyIn.nil
                  go_simp
                  first | (refine hK _ _ ?_; clear hK K) | skip
                  (try simp only [Act.put, List.setIfInBounds_toArray, List.set_cons_zero, List.set_cons_succ])
                  refine wpAnyIn_take (i := 10) (v := .int .i64 (wrap64 (p + q))) rfl rfl (by kernel_rfl) (by kernel_rfl) (by kernel_rfl) (fun _ _ _ h => h) ⟨Or.inl ⟨by rfl, fun w => by go_simp <;> (try exact IntWalk.i64_left _)⟩, fun _ => rfl⟩ ?_
                  (try simp only [Act.put, List.setIfInBounds_toArray, List.set_cons_zero, List.set_cons_succ])
                  refine wpAnyIn_take (i := 11) (v := .pointer (some ⟨w.heap.size + 1, y, none⟩)) rfl rfl (by kernel_rfl) (by kernel_rfl) (by kernel_rfl) (fun _ _ _ h => h) ⟨Or.inl ⟨by rfl, fun w => by go_simp <;> (try exact IntWalk.i64_left _)⟩, fun _ => rfl⟩ ?_
                  (try simp only [Act.put, List.setIfInBounds_toArray, List.set_cons_zero, List.set_cons_succ])
                  refine wpAnyIn_ready (rs := [12]) (by kernel_rfl) (by simp) ?_
                  refine AllReadyIn.cons rfl (fun K hK => ?_) AllReadyIn.nil
                  go_simp
                  first | (refine hK _ _ ?_; clear hK K) | skip
                  (try simp only [Act.put, List.setIfInBounds_toArray, List.set_cons_zero, List.set_cons_succ])
                  refine wpAnyIn_done (by kernel_rfl) ?_ _
                  gi_wp2
                  go_roundw
                  case rel => exact ⟨k + 1, by omega, by go_num, by rw [HV.out]; exact HIs.out, HKs.out⟩
                  case measure => simp [intOf]; omega
                · go_simp
                  first | (refine hK _ _ ?_; clear hK K) | skip
                  (try simp only [Act.put, List.setIfInBounds_toArray, List.set_cons_zero, List.set_cons_succ])
                  refine wpAnyIn_ready (rs := [5]) (by kernel_rfl) (by simp) ?_
                  refine AllReadyIn.cons rfl (fun K hK => ?_) AllReadyIn.nil
                  go_simp
                  first | (refine hK _ _ ?_; clear hK K) | skip
                  (try simp only [Act.put, List.setIfInBounds_toArray, List.set_cons_zero, List.set_cons_succ])
                  refine wpAnyIn_take (i := 10) (v := .int .i64 (wrap64 (p + q))) rfl rfl (by kernel_rfl) (by kernel_rfl) (by kernel_rfl) (fun _ _ _ h => h) ⟨Or.inl ⟨by rfl, fun w => by go_simp <;> (try exact IntWalk.i64_left _)⟩, fun _ => rfl⟩ ?_
                  (try simp only [Act.put, List.setIfInBounds_toArray, List.set_cons_zero, List.set_cons_succ])
                  refine wpAnyIn_take (i := 11) (v := .pointer (some ⟨w.heap.size + 1, y, none⟩)) rfl rfl (by kernel_rfl) (by kernel_rfl) (by kernel_rfl) (fun _ _ _ h => h) ⟨Or.inl ⟨by rfl, fun w => by go_simp <;> (try exact IntWalk.i64_left _)⟩, fun _ => rfl⟩ ?_
                  (try simp only [Act.put, List.setIfInBounds_toArray, List.set_cons_zero, List.set_cons_succ])
                  refine wpAnyIn_ready (rs := [12]) (by kernel_rfl) (by simp) ?_
                  refine AllReadyIn.cons rfl (fun K hK => ?_) AllReadyIn.nil
                  go_simp
                  first | (refine hK _ _ ?_; clear hK K) | skip
                  (try simp only [Act.put, List.setIfInBounds_toArray, List.set_cons_zero, List.set_cons_succ])
                  refine wpAnyIn_done (by kernel_rfl) ?_ _
                  gi_wp2
                  go_roundw
                  case rel => exact ⟨k + 1, by omega, by go_num, by rw [HV.out]; exact HIs.out, HKs.out⟩
                  case measure => simp [intOf]; omega
            · go_simp
              first | (refine hK _ _ ?_; clear hK K) | skip
              (try simp only [Act.put, List.setIfInBounds_toArray, List.set_cons_zero, List.set_cons_succ])
              refine wpAnyIn_take (i := 8) (v := .pointer (some ⟨w.heap.size + 1, x, none⟩)) rfl rfl (by kernel_rfl) (by kernel_rfl) (by kernel_rfl) (fun _ _ _ h => h) ⟨Or.inl ⟨by rfl, fun w => by go_simp <;> (try exact IntWalk.i64_left _)⟩, fun _ => rfl⟩ ?_
              (try simp only [Act.put, List.setIfInBounds_toArray, List.set_cons_zero, List.set_cons_succ])
              refine wpAnyIn_ready (rs := [3, 9]) (by kernel_rfl) (by simp) ?_
              refine AllReadyIn.cons rfl (fun K hK => ?_) (AllReadyIn.cons rfl (fun K hK => ?_) AllReadyIn.nil)
              · go_simp
                gi_wp2_with (refine ⟨trivial, wide_depth, ?_⟩; gi_at_call 28; refine (callsIn_wide.2 HWi.out).mono ?_; rintro e w' ⟨rfl, rfl⟩)
                first | (refine hK _ _ ?_; clear hK K) | skip
                (try simp only [Act.put, List.setIfInBounds_toArray, List.set_cons_zero, List.set_cons_succ])
                refine wpAnyIn_take (i := 4) (v := .pointer (some ⟨w.heap.size + 1, y, none⟩)) rfl rfl (by kernel_rfl) (by kernel_rfl) (by kernel_rfl) (fun _ _ _ h => h) ⟨Or.inl ⟨by rfl, fun w => by go_simp <;> (try exact IntWalk.i64_left _)⟩, fun _ => rfl⟩ ?_
                (try simp only [Act.put, List.setIfInBounds_toArray, List.set_cons_zero, List.set_cons_succ])
                refine wpAnyIn_ready (rs := [5, 9]) (by kernel_rfl) (by simp) ?_
                refine AllReadyIn.cons rfl (fun K hK => ?_) (AllReadyIn.cons rfl (fun K hK => ?_) AllReadyIn.nil)
                · go_simp
                  first | (refine hK _ _ ?_; clear hK K) | skip
                  (try simp only [Act.put, List.setIfInBounds_toArray, List.set_cons_zero, List.set_cons_succ])
                  refine wpAnyIn_ready (rs := [9]) (by kernel_rfl) (by simp) ?_
                  refine AllReadyIn.cons rfl (fun K hK => ?_) AllReadyIn.nil
                  go_simp
                  first | (refine hK _ _ ?_; clear hK K) | skip
                  (try simp only [Act.put, List.setIfInBounds_toArray, List.set_cons_zero, List.set_cons_succ])
                  refine wpAnyIn_take (i := 10) (v := .int .i64 (wrap64 (p + q))) rfl rfl (by kernel_rfl) (by kernel_rfl) (by kernel_rfl) (fun _ _ _ h => h) ⟨Or.inl ⟨by rfl, fun w => by go_simp <;> (try exact IntWalk.i64_left _)⟩, fun _ => rfl⟩ ?_
                  (try simp only [Act.put, List.setIfInBounds_toArray, List.set_cons_zero, List.set_cons_succ])
                  refine wpAnyIn_take (i := 11) (v := .pointer (some ⟨w.heap.size + 1, y, none⟩)) rfl rfl (by kernel_rfl) (by kernel_rfl) (by kernel_rfl) (fun _ _ _ h => h) ⟨Or.inl ⟨by rfl, fun w => by go_simp <;> (try exact IntWalk.i64_left _)⟩, fun _ => rfl⟩ ?_
                  (try simp only [Act.put, List.setIfInBounds_toArray, List.set_cons_zero, List.set_cons_succ])
                  refine wpAnyIn_ready (rs := [12]) (by kernel_rfl) (by simp) ?_
                  refine AllReadyIn.cons rfl (fun K hK => ?_) AllReadyIn.nil
                  go_simp
                  first | (refine hK _ _ ?_; clear hK K) | skip
                  (try simp only [Act.put, List.setIfInBounds_toArray, List.set_cons_zero, List.set_cons_succ])
                  refine wpAnyIn_done (by kernel_rfl) ?_ _
                  gi_wp2
                  go_roundw
                  case rel => exact ⟨k + 1, by omega, by go_num, by rw [HV.out]; exact HIs.out, HKs.out⟩
                  case measure => simp [intOf]; omega
                · go_simp
                  first | (refine hK _ _ ?_; clear hK K) | skip
                  (try simp only [Act.put, List.setIfInBounds_toArray, List.set_cons_zero, List.set_cons_succ])
                  refine wpAnyIn_ready (rs := [5]) (by kernel_rfl) (by simp) ?_
                  refine AllReadyIn.cons rfl (fun K hK => ?_) AllReadyIn.nil
                  go_simp
                  first | (refine hK _ _ ?_; clear hK K) | skip
                  (try simp only [Act.put, List.setIfInBounds_toArray, List.set_cons_zero, List.set_cons_succ])
                  refine wpAnyIn_take (i := 10) (v := .int .i64 (wrap64 (p + q))) rfl rfl (by kernel_rfl) (by kernel_rfl) (by kernel_rfl) (fun _ _ _ h => h) ⟨Or.inl ⟨by rfl, fun w => by go_simp <;> (try exact IntWalk.i64_left _)⟩, fun _ => rfl⟩ ?_
                  (try simp only [Act.put, List.setIfInBounds_toArray, List.set_cons_zero, List.set_cons_succ])
                  refine wpAnyIn_take (i := 11) (v := .pointer (some ⟨w.heap.size + 1, y, none⟩)) rfl rfl (by kernel_rfl) (by kernel_rfl) (by kernel_rfl) (fun _ _ _ h => h) ⟨Or.inl ⟨by rfl, fun w => by go_simp <;> (try exact IntWalk.i64_left _)⟩, fun _ => rfl⟩ ?_
                  (try simp only [Act.put, List.setIfInBounds_toArray, List.set_cons_zero, List.set_cons_succ])
                  refine wpAnyIn_ready (rs := [12]) (by kernel_rfl) (by simp) ?_
                  refine AllReadyIn.cons rfl (fun K hK => ?_) AllReadyIn.nil
                  go_simp
                  first | (refine hK _ _ ?_; clear hK K) | skip
                  (try simp only [Act.put, List.setIfInBounds_toArray, List.set_cons_zero, List.set_cons_succ])
                  refine wpAnyIn_done (by kernel_rfl) ?_ _
                  gi_wp2
                  go_roundw
                  case rel => exact ⟨k + 1, by omega, by go_num, by rw [HV.out]; exact HIs.out, HKs.out⟩
                  case measure => simp [intOf]; omega
              · go_simp
                first | (refine hK _ _ ?_; clear hK K) | skip
                (try simp only [Act.put, List.setIfInBounds_toArray, List.set_cons_zero, List.set_cons_succ])
                refine wpAnyIn_ready (rs := [3]) (by kernel_rfl) (by simp) ?_
                refine AllReadyIn.cons rfl (fun K hK => ?_) AllReadyIn.nil
                go_simp
                gi_wp2_with (refine ⟨trivial, wide_depth, ?_⟩; gi_at_call 28; refine (callsIn_wide.2 HWi.out).mono ?_; rintro e w' ⟨rfl, rfl⟩)
                first | (refine hK _ _ ?_; clear hK K) | skip
                (try simp only [Act.put, List.setIfInBounds_toArray, List.set_cons_zero, List.set_cons_succ])
                refine wpAnyIn_take (i := 4) (v := .pointer (some ⟨w.heap.size + 1, y, none⟩)) rfl rfl (by kernel_rfl) (by kernel_rfl) (by kernel_rfl) (fun _ _ _ h => h) ⟨Or.inl ⟨by rfl, fun w => by go_simp <;> (try exact IntWalk.i64_left _)⟩, fun _ => rfl⟩ ?_
                (try simp only [Act.put, List.setIfInBounds_toArray, List.set_cons_zero, List.set_cons_succ])
                refine wpAnyIn_ready (rs := [5]) (by kernel_rfl) (by simp) ?_
                refine AllReadyIn.cons rfl (fun K hK => ?_) AllReadyIn.nil
                go_simp
                first | (refine hK _ _ ?_; clear hK K) | skip
                (try simp only [Act.put, List.setIfInBounds_toArray, List.set_cons_zero, List.set_cons_succ])
                refine wpAnyIn_take (i := 10) (v := .int .i64 (wrap64 (p + q))) rfl rfl (by kernel_rfl) (by kernel_rfl) (by kernel_rfl) (fun _ _ _ h => h) ⟨Or.inl ⟨by rfl, fun w => by go_simp <;> (try exact IntWalk.i64_left _)⟩, fun _ => rfl⟩ ?_
                (try simp only [Act.put, List.setIfInBounds_toArray, List.set_cons_zero, List.set_cons_succ])
                refine wpAnyIn_take (i := 11) (v := .pointer (some ⟨w.heap.size + 1, y, none⟩)) rfl rfl (by kernel_rfl) (by kernel_rfl) (by kernel_rfl) (fun _ _ _ h => h) ⟨Or.inl ⟨by rfl, fun w => by go_simp <;> (try exact IntWalk.i64_left _)⟩, fun _ => rfl⟩ ?_
                (try simp only [Act.put, List.setIfInBounds_toArray, List.set_cons_zero, List.set_cons_succ])
                refine wpAnyIn_ready (rs := [12]) (by kernel_rfl) (by simp) ?_
                refine AllReadyIn.cons rfl (fun K hK => ?_) AllReadyIn.nil
                go_simp
                first | (refine hK _ _ ?_; clear hK K) | skip
                (try simp only [Act.put, List.setIfInBounds_toArray, List.set_cons_zero, List.set_cons_succ])
                refine wpAnyIn_done (by kernel_rfl) ?_ _
                gi_wp2
                go_roundw
                case rel => exact ⟨k + 1, by omega, by go_num, by rw [HV.out]; exact HIs.out, HKs.out⟩
                case measure => simp [intOf]; omega
          · go_simp
            gi_wp2_with (refine ⟨trivial, wide_depth, ?_⟩; gi_at_call 28; refine (callsIn_wide.2 HWi.out).mono ?_; rintro e w' ⟨rfl, rfl⟩)
            first | (refine hK _ _ ?_; clear hK K) | skip
            (try simp only [Act.put, List.setIfInBounds_toArray, List.set_cons_zero, List.set_cons_succ])
            refine wpAnyIn_ready (rs := [0, 6]) (by kernel_rfl) (by simp) ?_
            refine AllReadyIn.cons rfl (fun K hK => ?_) (AllReadyIn.cons rfl (fun K hK => ?_) AllReadyIn.nil)
            · go_simp
              first | (refine hK _ _ ?_; clear hK K) | skip
              (try simp only [Act.put, List.setIfInBounds_toArray, List.set_cons_zero, List.set_cons_succ])
              refine wpAnyIn_take (i := 4) (v := .pointer (some ⟨w.heap.size + 1, y, none⟩)) rfl rfl (by kernel_rfl) (by kernel_rfl) (by kernel_rfl) (fun _ _ _ h => h) ⟨Or.inl ⟨by rfl, fun w => by go_simp <;> (try exact IntWalk.i64_left _)⟩, fun _ => rfl⟩ ?_
              (try simp only [Act.put, List.setIfInBounds_toArray, List.set_cons_zero, List.set_cons_succ])
              refine wpAnyIn_ready (rs := [5, 6]) (by kernel_rfl) (by simp) ?_
              refine AllReadyIn.cons rfl (fun K hK => ?_) (AllReadyIn.cons rfl (fun K hK => ?_) AllReadyIn.nil)
              · go_simp
                first | (refine hK _ _ ?_; clear hK K) | skip
                (try simp only [Act.put, List.setIfInBounds_toArray, List.set_cons_zero, List.set_cons_succ])
                refine wpAnyIn_ready (rs := [6]) (by kernel_rfl) (by simp) ?_
                refine AllReadyIn.cons rfl (fun K hK => ?_) AllReadyIn.nil
                go_simp
                first | (refine hK _ _ ?_; clear hK K) | skip
                (try simp only [Act.put, List.setIfInBounds_toArray, List.set_cons_zero, List.set_cons_succ])
                refine wpAnyIn_take (i := 8) (v := .pointer (some ⟨w.heap.size + 1, x, none⟩)) rfl rfl (by kernel_rfl) (by kernel_rfl) (by kernel_rfl) (fun _ _ _ h => h) ⟨Or.inl ⟨by rfl, fun w => by go_simp <;> (try exact IntWalk.i64_left _)⟩, fun _ => rfl⟩ ?_
                (try simp only [Act.put, List.setIfInBounds_toArray, List.set_cons_zero, List.set_cons_succ])
                refine wpAnyIn_ready (rs := [9]) (by kernel_rfl) (by simp) ?_
                refine AllReadyIn.cons rfl (fun K hK => ?_) AllReadyIn.nil
                go_simp
                first | (refine hK _ _ ?_; clear hK K) | skip
                (try simp only [Act.put, List.setIfInBounds_toArray, List.set_cons_zero, List.set_cons_succ])
                refine wpAnyIn_take (i := 10) (v := .int .i64 (wrap64 (p + q))) rfl rfl (by kernel_rfl) (by kernel_rfl) (by kernel_rfl) (fun _ _ _ h => h) ⟨Or.inl ⟨by rfl, fun w => by go_simp <;> (try exact IntWalk.i64_left _)⟩, fun _ => rfl⟩ ?_
                (try simp only [Act.put, List.setIfInBounds_toArray, List.set_cons_zero, List.set_cons_succ])
                refine wpAnyIn_take (i := 11) (v := .pointer (some ⟨w.heap.size + 1, y, none⟩)) rfl rfl (by kernel_rfl) (by kernel_rfl) (by kernel_rfl) (fun _ _ _ h => h) ⟨Or.inl ⟨by rfl, fun w => by go_simp <;> (try exact IntWalk.i64_left _)⟩, fun _ => rfl⟩ ?_
                (try simp only [Act.put, List.setIfInBounds_toArray, List.set_cons_zero, List.set_cons_succ])
                refine wpAnyIn_ready (rs := [12]) (by kernel_rfl) (by simp) ?_
                refine AllReadyIn.cons rfl (fun K hK => ?_) AllReadyIn.nil
                go_simp
                first | (refine hK _ _ ?_; clear hK K) | skip
                (try simp only [Act.put, List.setIfInBounds_toArray, List.set_cons_zero, List.set_cons_succ])
                refine wpAnyIn_done (by kernel_rfl) ?_ _
                gi_wp2
                go_roundw
                case rel => exact ⟨k + 1, by omega, by go_num, by rw [HV.out]; exact HIs.out, HKs.out⟩
                case measure => simp [intOf]; omega
              · go_simp
                first | (refine hK _ _ ?_; clear hK K) | skip
                (try simp only [Act.put, List.setIfInBounds_toArray, List.set_cons_zero, List.set_cons_succ])
                refine wpAnyIn_take (i := 8) (v := .pointer (some ⟨w.heap.size + 1, x, none⟩)) rfl rfl (by kernel_rfl) (by kernel_rfl) (by kernel_rfl) (fun _ _ _ h => h) ⟨Or.inl ⟨by rfl, fun w => by go_simp <;> (try exact IntWalk.i64_left _)⟩, fun _ => rfl⟩ ?_
                (try simp only [Act.put, List.setIfInBounds_toArray, List.set_cons_zero, List.set_cons_succ])
                refine wpAnyIn_ready (rs := [5, 9]) (by kernel_rfl) (by simp) ?_
                refine AllReadyIn.cons rfl (fun K hK => ?_) (AllReadyIn.cons rfl (fun K hK => ?_) AllReadyIn.nil)
                · go_simp
                  first | (refine hK _ _ ?_; clear hK K) | skip
                  (try simp only [Act.put, List.setIfInBounds_toArray, List.set_cons_zero, List.set_cons_succ])
                  refine wpAnyIn_ready (rs := [9]) (by kernel_rfl) (by simp) ?_
                  refine AllReadyIn.cons rfl (fun K hK => ?_) AllReadyIn.nil
                  go_simp
                  first | (refine hK _ _ ?_; clear hK K) | skip
                  (try simp only [Act.put, List.setIfInBounds_toArray, List.set_cons_zero, List.set_cons_succ])
                  refine wpAnyIn_take (i := 10) (v := .int .i64 (wrap64 (p + q))) rfl rfl (by kernel_rfl) (by kernel_rfl) (by kernel_rfl) (fun _ _ _ h => h) ⟨Or.inl ⟨by rfl, fun w => by go_simp <;> (try exact IntWalk.i64_left _)⟩, fun _ => rfl⟩ ?_
                  (try simp only [Act.put, List.setIfInBounds_toArray, List.set_cons_zero, List.set_cons_succ])
                  refine wpAnyIn_take (i := 11) (v := .pointer (some ⟨w.heap.size + 1, y, none⟩)) rfl rfl (by kernel_rfl) (by kernel_rfl) (by kernel_rfl) (fun _ _ _ h => h) ⟨Or.inl ⟨by rfl, fun w => by go_simp <;> (try exact IntWalk.i64_left _)⟩, fun _ => rfl⟩ ?_
                  (try simp only [Act.put, List.setIfInBounds_toArray, List.set_cons_zero, List.set_cons_succ])
                  refine wpAnyIn_ready (rs := [12]) (by kernel_rfl) (by simp) ?_
                  refine AllReadyIn.cons rfl (fun K hK => ?_) AllReadyIn.nil
                  go_simp
                  first | (refine hK _ _ ?_; clear hK K) | skip
                  (try simp only [Act.put, List.setIfInBounds_toArray, List.set_cons_zero, List.set_cons_succ])
                  refine wpAnyIn_done (by kernel_rfl) ?_ _
                  gi_wp2
                  go_roundw
                  case rel => exact ⟨k + 1, by omega, by go_num, by rw [HV.out]; exact HIs.out, HKs.out⟩
                  case measure => simp [intOf]; omega
                · go_simp
                  first | (refine hK _ _ ?_; clear hK K) | skip
                  (try simp only [Act.put, List.setIfInBounds_toArray, List.set_cons_zero, List.set_cons_succ])
                  refine wpAnyIn_ready (rs := [5]) (by kernel_rfl) (by simp) ?_
                  refine AllReadyIn.cons rfl (fun K hK => ?_) AllReadyIn.nil
                  go_simp
                  first | (refine hK _ _ ?_; clear hK K) | skip
                  (try simp only [Act.put, List.setIfInBounds_toArray, List.set_cons_zero, List.set_cons_succ])
                  refine wpAnyIn_take (i := 10) (v := .int .i64 (wrap64 (p + q))) rfl rfl (by kernel_rfl) (by kernel_rfl) (by kernel_rfl) (fun _ _ _ h => h) ⟨Or.inl ⟨by rfl, fun w => by go_simp <;> (try exact IntWalk.i64_left _)⟩, fun _ => rfl⟩ ?_
                  (try simp only [Act.put, List.setIfInBounds_toArray, List.set_cons_zero, List.set_cons_succ])
                  refine wpAnyIn_take (i := 11) (v := .pointer (some ⟨w.heap.size + 1, y, none⟩)) rfl rfl (by kernel_rfl) (by kernel_rfl) (by kernel_rfl) (fun _ _ _ h => h) ⟨Or.inl ⟨by rfl, fun w => by go_simp <;> (try exact IntWalk.i64_left _)⟩, fun _ => rfl⟩ ?_
                  (try simp only [Act.put, List.setIfInBounds_toArray, List.set_cons_zero, List.set_cons_succ])
                  refine wpAnyIn_ready (rs := [12]) (by kernel_rfl) (by simp) ?_
                  refine AllReadyIn.cons rfl (fun K hK => ?_) AllReadyIn.nil
                  go_simp
                  first | (refine hK _ _ ?_; clear hK K) | skip
                  (try simp only [Act.put, List.setIfInBounds_toArray, List.set_cons_zero, List.set_cons_succ])
                  refine wpAnyIn_done (by kernel_rfl) ?_ _
                  gi_wp2
                  go_roundw
                  case rel => exact ⟨k + 1, by omega, by go_num, by rw [HV.out]; exact HIs.out, HKs.out⟩
                  case measure => simp [intOf]; omega
            · go_simp
              first | (refine hK _ _ ?_; clear hK K) | skip
              (try simp only [Act.put, List.setIfInBounds_toArray, List.set_cons_zero, List.set_cons_succ])
              refine wpAnyIn_take (i := 8) (v := .pointer (some ⟨w.heap.size + 1, x, none⟩)) rfl rfl (by kernel_rfl) (by kernel_rfl) (by kernel_rfl) (fun _ _ _ h => h) ⟨Or.inl ⟨by rfl, fun w => by go_simp <;> (try exact IntWalk.i64_left _)⟩, fun _ => rfl⟩ ?_
              (try simp only [Act.put, List.setIfInBounds_toArray, List.set_cons_zero, List.set_cons_succ])
              refine wpAnyIn_ready (rs := [0, 9]) (by kernel_rfl) (by simp) ?_
              refine AllReadyIn.cons rfl (fun K hK => ?_) (AllReadyIn.cons rfl (fun K hK => ?_) AllReadyIn.nil)
              · go_simp
                first | (refine hK _ _ ?_; clear hK K) | skip
                (try simp only [Act.put, List.setIfInBounds_toArray, List.set_cons_zero, List.set_cons_succ])
                refine wpAnyIn_take (i := 4) (v := .pointer (some ⟨w.heap.size + 1, y, none⟩)) rfl rfl (by kernel_rfl) (by kernel_rfl) (by kernel_rfl) (fun _ _ _ h => h) ⟨Or.inl ⟨by rfl, fun w => by go_simp <;> (try exact IntWalk.i64_left _)⟩, fun _ => rfl⟩ ?_
                (try simp only [Act.put, List.setIfInBounds_toArray, List.set_cons_zero, List.set_cons_succ])
                refine wpAnyIn_ready (rs := [5, 9]) (by kernel_rfl) (by simp) ?_
                refine AllReadyIn.cons rfl (fun K hK => ?_) (AllReadyIn.cons rfl (fun K hK => ?_) AllReadyIn.nil)
                · go_simp
                  first | (refine hK _ _ ?_; clear hK K) | skip
                  (try simp only [Act.put, List.setIfInBounds_toArray, List.set_cons_zero, List.set_cons_succ])
                  refine wpAnyIn_ready (rs := [9]) (by kernel_rfl) (by simp) ?_
                  refine AllReadyIn.cons rfl (fun K hK => ?_) AllReadyIn.nil
                  go_simp
                  first | (refine hK _ _ ?_; clear hK K) | skip
                  (try simp only [Act.put, List.setIfInBounds_toArray, List.set_cons_zero, List.set_cons_succ])
                  refine wpAnyIn_take (i := 10) (v := .int .i64 (wrap64 (p + q))) rfl rfl (by kernel_rfl) (by kernel_rfl) (by kernel_rfl) (fun _ _ _ h => h) ⟨Or.inl ⟨by rfl, fun w => by go_simp <;> (try exact IntWalk.i64_left _)⟩, fun _ => rfl⟩ ?_
                  (try simp only [Act.put, List.setIfInBounds_toArray, List.set_cons_zero, List.set_cons_succ])
                  refine wpAnyIn_take (i := 11) (v := .pointer (some ⟨w.heap.size + 1, y, none⟩)) rfl rfl (by kernel_rfl) (by kernel_rfl) (by kernel_rfl) (fun _ _ _ h => h) ⟨Or.inl ⟨by rfl, fun w => by go_simp <;> (try exact IntWalk.i64_left _)⟩, fun _ => rfl⟩ ?_
                  (try simp only [Act.put, List.setIfInBounds_toArray, List.set_cons_zero, List.set_cons_succ])
                  refine wpAnyIn_ready (rs := [12]) (by kernel_rfl) (by simp) ?_
                  refine AllReadyIn.cons rfl (fun K hK => ?_) AllReadyIn.nil
                  go_simp
                  first | (refine hK _ _ ?_; clear hK K) | skip
                  (try simp only [Act.put, List.setIfInBounds_toArray, List.set_cons_zero, List.set_cons_succ])
                  refine wpAnyIn_done (by kernel_rfl) ?_ _
                  gi_wp2
                  go_roundw
                  case rel => exact ⟨k + 1, by omega, by go_num, by rw [HV.out]; exact HIs.out, HKs.out⟩
                  case measure => simp [intOf]; omega
                · go_simp
                  first | (refine hK _ _ ?_; clear hK K) | skip
                  (try simp only [Act.put, List.setIfInBounds_toArray, List.set_cons_zero, List.set_cons_succ])
                  refine wpAnyIn_ready (rs := [5]) (by kernel_rfl) (by simp) ?_
                  refine AllReadyIn.cons rfl (fun K hK => ?_) AllReadyIn.nil
                  go_simp
                  first | (refine hK _ _ ?_; clear hK K) | skip
                  (try simp only [Act.put, List.setIfInBounds_toArray, List.set_cons_zero, List.set_cons_succ])
                  refine wpAnyIn_take (i := 10) (v := .int .i64 (wrap64 (p + q))) rfl rfl (by kernel_rfl) (by kernel_rfl) (by kernel_rfl) (fun _ _ _ h => h) ⟨Or.inl ⟨by rfl, fun w => by go_simp <;> (try exact IntWalk.i64_left _)⟩, fun _ => rfl⟩ ?_
                  (try simp only [Act.put, List.setIfInBounds_toArray, List.set_cons_zero, List.set_cons_succ])
                  refine wpAnyIn_take (i := 11) (v := .pointer (some ⟨w.heap.size + 1, y, none⟩)) rfl rfl (by kernel_rfl) (by kernel_rfl) (by kernel_rfl) (fun _ _ _ h => h) ⟨Or.inl ⟨by rfl, fun w => by go_simp <;> (try exact IntWalk.i64_left _)⟩, fun _ => rfl⟩ ?_
                  (try simp only [Act.put, List.setIfInBounds_toArray, List.set_cons_zero, List.set_cons_succ])
                  refine wpAnyIn_ready (rs := [12]) (by kernel_rfl) (by simp) ?_
                  refine AllReadyIn.cons rfl (fun K hK => ?_) AllReadyIn.nil
                  go_simp
                  first | (refine hK _ _ ?_; clear hK K) | skip
                  (try simp only [Act.put, List.setIfInBounds_toArray, List.set_cons_zero, List.set_cons_succ])
                  refine wpAnyIn_done (by kernel_rfl) ?_ _
                  gi_wp2
                  go_roundw
                  case rel => exact ⟨k + 1, by omega, by go_num, by rw [HV.out]; exact HIs.out, HKs.out⟩
                  case measure => simp [intOf]; omega
              · go_simp
                first | (refine hK _ _ ?_; clear hK K) | skip
                (try simp only [Act.put, List.setIfInBounds_toArray, List.set_cons_zero, List.set_cons_succ])
                refine wpAnyIn_ready (rs := [0]) (by kernel_rfl) (by simp) ?_
                refine AllReadyIn.cons rfl (fun K hK => ?_) AllReadyIn.nil
                go_simp
                first | (refine hK _ _ ?_; clear hK K) | skip
                (try simp only [Act.put, List.setIfInBounds_toArray, List.set_cons_zero, List.set_cons_succ])
                refine wpAnyIn_take (i := 4) (v := .pointer (some ⟨w.heap.size + 1, y, none⟩)) rfl rfl (by kernel_rfl) (by kernel_rfl) (by kernel_rfl) (fun _ _ _ h => h) ⟨Or.inl ⟨by rfl, fun w => by go_simp <;> (try exact IntWalk.i64_left _)⟩, fun _ => rfl⟩ ?_
                (try simp only [Act.put, List.setIfInBounds_toArray, List.set_cons_zero, List.set_cons_succ])
                refine wpAnyIn_ready (rs := [5]) (by kernel_rfl) (by simp) ?_
                refine AllReadyIn.cons rfl (fun K hK => ?_) AllReadyIn.nil
                go_simp
                first | (refine hK _ _ ?_; clear hK K) | skip
                (try simp only [Act.put, List.setIfInBounds_toArray, List.set_cons_zero, List.set_cons_succ])
                refine wpAnyIn_take (i := 10) (v := .int .i64 (wrap64 (p + q))) rfl rfl (by kernel_rfl) (by kernel_rfl) (by kernel_rfl) (fun _ _ _ h => h) ⟨Or.inl ⟨by rfl, fun w => by go_simp <;> (try exact IntWalk.i64_left _)⟩, fun _ => rfl⟩ ?_
                (try simp only [Act.put, List.setIfInBounds_toArray, List.set_cons_zero, List.set_cons_succ])
                refine wpAnyIn_take (i := 11) (v := .pointer (some ⟨w.heap.size + 1, y, none⟩)) rfl rfl (by kernel_rfl) (by kernel_rfl) (by kernel_rfl) (fun _ _ _ h => h) ⟨Or.inl ⟨by rfl, fun w => by go_simp <;> (try exact IntWalk.i64_left _)⟩, fun _ => rfl⟩ ?_
                (try simp only [Act.put, List.setIfInBounds_toArray, List.set_cons_zero, List.set_cons_succ])
                refine wpAnyIn_ready (rs := [12]) (by kernel_rfl) (by simp) ?_
                refine AllReadyIn.cons rfl (fun K hK => ?_) AllReadyIn.nil
                go_simp
                first | (refine hK _ _ ?_; clear hK K) | skip
                (try simp only [Act.put, List.setIfInBounds_toArray, List.set_cons_zero, List.set_cons_succ])
                refine wpAnyIn_done (by kernel_rfl) ?_ _
                gi_wp2
                go_roundw
                case rel => exact ⟨k + 1, by omega, by go_num, by rw [HV.out]; exact HIs.out, HKs.out⟩
                case measure => simp [intOf]; omega
          · go_simp
            first | (refine hK _ _ ?_; clear hK K) | skip
            (try simp only [Act.put, List.setIfInBounds_toArray, List.set_cons_zero, List.set_cons_succ])
            refine wpAnyIn_take (i := 8) (v := .pointer (some ⟨w.heap.size + 1, x, none⟩)) rfl rfl (by kernel_rfl) (by kernel_rfl) (by kernel_rfl) (fun _ _ _ h => h) ⟨Or.inl ⟨by rfl, fun w => by go_simp <;> (try exact IntWalk.i64_left _)⟩, fun _ => rfl⟩ ?_
            (try simp only [Act.put, List.setIfInBounds_toArray, List.set_cons_zero, List.set_cons_succ])
            refine wpAnyIn_ready (rs := [0, 3, 9]) (by kernel_rfl) (by simp) ?_
            refine AllReadyIn.cons rfl (fun K hK => ?_) (AllReadyIn.cons rfl (fun K hK => ?_) (AllReadyIn.cons rfl (fun K hK => ?_) AllReadyIn.nil))
            · go_simp
              first | (refine hK _ _ ?_; clear hK K) | skip
              (try simp only [Act.put, List.setIfInBounds_toArray, List.set_cons_zero, List.set_cons_succ])
              refine wpAnyIn_ready (rs := [3, 9]) (by kernel_rfl) (by simp) ?_
              refine AllReadyIn.cons rfl (fun K hK => ?_) (AllReadyIn.cons rfl (fun K hK => ?_) AllReadyIn.nil)
              · go_simp
                gi_wp2_with (refine ⟨trivial, wide_depth, ?_⟩; gi_at_call 28; refine (callsIn_wide.2 HWi.out).mono ?_; rintro e w' ⟨rfl, rfl⟩)
                first | (refine hK _ _ ?_; clear hK K) | skip
                (try simp only [Act.put, List.setIfInBounds_toArray, List.set_cons_zero, List.set_cons_succ])
                refine wpAnyIn_take (i := 4) (v := .pointer (some ⟨w.heap.size + 1, y, none⟩)) rfl rfl (by kernel_rfl) (by kernel_rfl) (by kernel_rfl) (fun _ _ _ h => h) ⟨Or.inl ⟨by rfl, fun w => by go_simp <;> (try exact IntWalk.i64_left _)⟩, fun _ => rfl⟩ ?_
                (try simp only [Act.put, List.setIfInBounds_toArray, List.set_cons_zero, List.set_cons_succ])
                refine wpAnyIn_ready (rs := [5, 9]) (by kernel_rfl) (by simp) ?_
                refine AllReadyIn.cons rfl (fun K hK => ?_) (AllReadyIn.cons rfl (fun K hK => ?_) AllReadyIn.nil)
                · go_simp
                  first | (refine hK _ _ ?_; clear hK K) | skip
                  (try simp only [Act.put, List.setIfInBounds_toArray, List.set_cons_zero, List.set_cons_succ])
                  refine wpAnyIn_ready (rs := [9]) (by kernel_rfl) (by simp) ?_
                  refine AllReadyIn.cons rfl (fun K hK => ?_) AllReadyIn.nil
                  go_simp
                  first | (refine hK _ _ ?_; clear hK K) | skip
                  (try simp only [Act.put, List.setIfInBounds_toArray, List.set_cons_zero, List.set_cons_succ])
                  refine wpAnyIn_take (i := 10) (v := .int .i64 (wrap64 (p + q))) rfl rfl (by kernel_rfl) (by kernel_rfl) (by kernel_rfl) (fun _ _ _ h => h) ⟨Or.inl ⟨by rfl, fun w => by go_simp <;> (try exact IntWalk.i64_left _)⟩, fun _ => rfl⟩ ?_
                  (try simp only [Act.put, List.setIfInBounds_toArray, List.set_cons_zero, List.set_cons_succ])
                  refine wpAnyIn_take (i := 11) (v := .pointer (some ⟨w.heap.size + 1, y, none⟩)) rfl rfl (by kernel_rfl) (by kernel_rfl) (by kernel_rfl) (fun _ _ _ h => h) ⟨Or.inl ⟨by rfl, fun w => by go_simp <;> (try exact IntWalk.i64_left _)⟩, fun _ => rfl⟩ ?_
                  (try simp only [Act.put, List.setIfInBounds_toArray, List.set_cons_zero, List.set_cons_succ])
                  refine wpAnyIn_ready (rs := [12]) (by kernel_rfl) (by simp) ?_
                  refine AllReadyIn.cons rfl (fun K hK => ?_) AllReadyIn.nil
                  go_simp
                  first | (refine hK _ _ ?_; clear hK K) | skip
                  (try simp only [Act.put, List.setIfInBounds_toArray, List.set_cons_zero, List.set_cons_succ])
                  refine wpAnyIn_done (by kernel_rfl) ?_ _
                  gi_wp2
                  go_roundw
                  case rel => exact ⟨k + 1, by omega, by go_num, by rw [HV.out]; exact HIs.out, HKs.out⟩
                  case measure => simp [intOf]; omega
                · go_simp
                  first | (refine hK _ _ ?_; clear hK K) | skip
                  (try simp only [Act.put, List.setIfInBounds_toArray, List.set_cons_zero, List.set_cons_succ])
                  refine wpAnyIn_ready (rs := [5]) (by kernel_rfl) (by simp) ?_
                  refine AllReadyIn.cons rfl (fun K hK => ?_) AllReadyIn.nil
                  go_simp
                  first | (refine hK _ _ ?_; clear hK K) | skip
                  (try simp only [Act.put, List.setIfInBounds_toArray, List.set_cons_zero, List.set_cons_succ])
                  refine wpAnyIn_take (i := 10) (v := .int .i64 (wrap64 (p + q))) rfl rfl (by kernel_rfl) (by kernel_rfl) (by kernel_rfl) (fun _ _ _ h => h) ⟨Or.inl ⟨by rfl, fun w => by go_simp <;> (try exact IntWalk.i64_left _)⟩, fun _ => rfl⟩ ?_
                  (try simp only [Act.put, List.setIfInBounds_toArray, List.set_cons_zero, List.set_cons_succ])
                  refine wpAnyIn_take (i := 11) (v := .pointer (some ⟨w.heap.size + 1, y, none⟩)) rfl rfl (by kernel_rfl) (by kernel_rfl) (by kernel_rfl) (fun _ _ _ h => h) ⟨Or.inl ⟨by rfl, fun w => by go_simp <;> (try exact IntWalk.i64_left _)⟩, fun _ => rfl⟩ ?_
                  (try simp only [Act.put, List.setIfInBounds_toArray, List.set_cons_zero, List.set_cons_succ])
                  refine wpAnyIn_ready (rs := [12]) (by kernel_rfl) (by simp) ?_
                  refine AllReadyIn.cons rfl (fun K hK => ?_) AllReadyIn.nil
                  go_simp
                  first | (refine hK _ _ ?_; clear hK K) | skip
                  (try simp only [Act.put, List.setIfInBounds_toArray, List.set_cons_zero, List.set_cons_succ])
                  refine wpAnyIn_done (by kernel_rfl) ?_ _
                  gi_wp2
                  go_roundw
                  case rel => exact ⟨k + 1, by omega, by go_num, by rw [HV.out]; exact HIs.out, HKs.out⟩
                  case measure => simp [intOf]; omega
              · go_simp
                first | (refine hK _ _ ?_; clear hK K) | skip
                (try simp only [Act.put, List.setIfInBounds_toArray, List.set_cons_zero, List.set_cons_succ])
                refine wpAnyIn_ready (rs := [3]) (by kernel_rfl) (by simp) ?_
                refine AllReadyIn.cons rfl (fun K hK => ?_) AllReadyIn.nil
                go_simp
                gi_wp2_with (refine ⟨trivial, wide_depth, ?_⟩; gi_at_call 28; refine (callsIn_wide.2 HWi.out).mono ?_; rintro e w' ⟨rfl, rfl⟩)
                first | (refine hK _ _ ?_; clear hK K) | skip
                (try simp only [Act.put, List.setIfInBounds_toArray, List.set_cons_zero, List.set_cons_succ])
                refine wpAnyIn_take (i := 4) (v := .pointer (some ⟨w.heap.size + 1, y, none⟩)) rfl rfl (by kernel_rfl) (by kernel_rfl) (by kernel_rfl) (fun _ _ _ h => h) ⟨Or.inl ⟨by rfl, fun w => by go_simp <;> (try exact IntWalk.i64_left _)⟩, fun _ => rfl⟩ ?_
                (try simp only [Act.put, List.setIfInBounds_toArray, List.set_cons_zero, List.set_cons_succ])
                refine wpAnyIn_ready (rs := [5]) (by kernel_rfl) (by simp) ?_
                refine AllReadyIn.cons rfl (fun K hK => ?_) AllReadyIn.nil
                go_simp
                first | (refine hK _ _ ?_; clear hK K) | skip
                (try simp only [Act.put, List.setIfInBounds_toArray, List.set_cons_zero, List.set_cons_succ])
                refine wpAnyIn_take (i := 10) (v := .int .i64 (wrap64 (p + q))) rfl rfl (by kernel_rfl) (by kernel_rfl) (by kernel_rfl) (fun _ _ _ h => h) ⟨Or.inl ⟨by rfl, fun w => by go_simp <;> (try exact IntWalk.i64_left _)⟩, fun _ => rfl⟩ ?_
                (try simp only [Act.put, List.setIfInBounds_toArray, List.set_cons_zero, List.set_cons_succ])
                refine wpAnyIn_take (i := 11) (v := .pointer (some ⟨w.heap.size + 1, y, none⟩)) rfl rfl (by kernel_rfl) (by kernel_rfl) (by kernel_rfl) (fun _ _ _ h => h) ⟨Or.inl ⟨by rfl, fun w => by go_simp <;> (try exact IntWalk.i64_left _)⟩, fun _ => rfl⟩ ?_
                (try simp only [Act.put, List.setIfInBounds_toArray, List.set_cons_zero, List.set_cons_succ])
                refine wpAnyIn_ready (rs := [12]) (by kernel_rfl) (by simp) ?_
                refine AllReadyIn.cons rfl (fun K hK => ?_) AllReadyIn.nil
                go_simp
                first | (refine hK _ _ ?_; clear hK K) | skip
                (try simp only [Act.put, List.setIfInBounds_toArray, List.set_cons_zero, List.set_cons_succ])
                refine wpAnyIn_done (by kernel_rfl) ?_ _
                gi_wp2
                go_roundw
                case rel => exact ⟨k + 1, by omega, by go_num, by rw [HV.out]; exact HIs.out, HKs.out⟩
                case measure => simp [intOf]; omega
            · go_simp
              gi_wp2_with (refine ⟨trivial, wide_depth, ?_⟩; gi_at_call 28; refine (callsIn_wide.2 HWi.out).mono ?_; rintro e w' ⟨rfl, rfl⟩)
              first | (refine hK _ _ ?_; clear hK K) | skip
              (try simp only [Act.put, List.setIfInBounds_toArray, List.set_cons_zero, List.set_cons_succ])
              refine wpAnyIn_ready (rs := [0, 9]) (by kernel_rfl) (by simp) ?_
              refine AllReadyIn.cons rfl (fun K hK => ?_) (AllReadyIn.cons rfl (fun K hK => ?_) AllReadyIn.nil)
              · go_simp
                first | (refine hK _ _ ?_; clear hK K) | skip
                (try simp only [Act.put, List.setIfInBounds_toArray, List.set_cons_zero, List.set_cons_succ])
                refine wpAnyIn_take (i := 4) (v := .pointer (some ⟨w.heap.size + 1, y, none⟩)) rfl rfl (by kernel_rfl) (by kernel_rfl) (by kernel_rfl) (fun _ _ _ h => h) ⟨Or.inl ⟨by rfl, fun w => by go_simp <;> (try exact IntWalk.i64_left _)⟩, fun _ => rfl⟩ ?_
                (try simp only [Act.put, List.setIfInBounds_toArray, List.set_cons_zero, List.set_cons_succ])
                refine wpAnyIn_ready (rs := [5, 9]) (by kernel_rfl) (by simp) ?_
                refine AllReadyIn.cons rfl (fun K hK => ?_) (AllReadyIn.cons rfl (fun K hK => ?_) AllReadyIn.nil)
                · go_simp
                  first | (refine hK _ _ ?_; clear hK K) | skip
                  (try simp only [Act.put, List.setIfInBounds_toArray, List.set_cons_zero, List.set_cons_succ])
                  refine wpAnyIn_ready (rs := [9]) (by kernel_rfl) (by simp) ?_
                  refine AllReadyIn.cons rfl (fun K hK => ?_) AllReadyIn.nil
                  go_simp
                  first | (refine hK _ _ ?_; clear hK K) | skip
                  (try simp only [Act.put, List.setIfInBounds_toArray, List.set_cons_zero, List.set_cons_succ])
                  refine wpAnyIn_take (i := 10) (v := .int .i64 (wrap64 (p + q))) rfl rfl (by kernel_rfl) (by kernel_rfl) (by kernel_rfl) (fun _ _ _ h => h) ⟨Or.inl ⟨by rfl, fun w => by go_simp <;> (try exact IntWalk.i64_left _)⟩, fun _ => rfl⟩ ?_
                  (try simp only [Act.put, List.setIfInBounds_toArray, List.set_cons_zero, List.set_cons_succ])
                  refine wpAnyIn_take (i := 11) (v := .pointer (some ⟨w.heap.size + 1, y, none⟩)) rfl rfl (by kernel_rfl) (by kernel_rfl) (by kernel_rfl) (fun _ _ _ h => h) ⟨Or.inl ⟨by rfl, fun w => by go_simp <;> (try exact IntWalk.i64_left _)⟩, fun _ => rfl⟩ ?_
                  (try simp only [Act.put, List.setIfInBounds_toArray, List.set_cons_zero, List.set_cons_succ])
                  refine wpAnyIn_ready (rs := [12]) (by kernel_rfl) (by simp) ?_
                  refine AllReadyIn.cons rfl (fun K hK => ?_) AllReadyIn.nil
                  go_simp
                  first | (refine hK _ _ ?_; clear hK K) | skip
                  (try simp only [Act.put, List.setIfInBounds_toArray, List.set_cons_zero, List.set_cons_succ])
                  refine wpAnyIn_done (by kernel_rfl) ?_ _
                  gi_wp2
                  go_roundw
                  case rel => exact ⟨k + 1, by omega, by go_num, by rw [HV.out]; exact HIs.out, HKs.out⟩
                  case measure => simp [intOf]; omega
                · go_simp
                  first | (refine hK _ _ ?_; clear hK K) | skip
                  (try simp only [Act.put, List.setIfInBounds_toArray, List.set_cons_zero, List.set_cons_succ])
                  refine wpAnyIn_ready (rs := [5]) (by kernel_rfl) (by simp) ?_
                  refine AllReadyIn.cons rfl (fun K hK => ?_) AllReadyIn.nil
                  go_simp
                  first | (refine hK _ _ ?_; clear hK K) | skip
                  (try simp only [Act.put, List.setIfInBounds_toArray, List.set_cons_zero, List.set_cons_succ])
                  refine wpAnyIn_take (i := 10) (v := .int .i64 (wrap64 (p + q))) rfl rfl (by kernel_rfl) (by kernel_rfl) (by kernel_rfl) (fun _ _ _ h => h) ⟨Or.inl ⟨by rfl, fun w => by go_simp <;> (try exact IntWalk.i64_left _)⟩, fun _ => rfl⟩ ?_
                  (try simp only [Act.put, List.setIfInBounds_toArray, List.set_cons_zero, List.set_cons_succ])
                  refine wpAnyIn_take (i := 11) (v := .pointer (some ⟨w.heap.size + 1, y, none⟩)) rfl rfl (by kernel_rfl) (by kernel_rfl) (by kernel_rfl) (fun _ _ _ h => h) ⟨Or.inl ⟨by rfl, fun w => by go_simp <;> (try exact IntWalk.i64_left _)⟩, fun _ => rfl⟩ ?_
                  (try simp only [Act.put, List.setIfInBounds_toArray, List.set_cons_zero, List.set_cons_succ])
                  refine wpAnyIn_ready (rs := [12]) (by kernel_rfl) (by simp) ?_
                  refine AllReadyIn.cons rfl (fun K hK => ?_) AllReadyIn.nil
                  go_simp
                  first | (refine hK _ _ ?_; clear hK K) | skip
                  (try simp only [Act.put, List.setIfInBounds_toArray, List.set_cons_zero, List.set_cons_succ])
                  refine wpAnyIn_done (by kernel_rfl) ?_ _
                  gi_wp2
                  go_roundw
                  case rel => exact ⟨k + 1, by omega, by go_num, by rw [HV.out]; exact HIs.out, HKs.out⟩
                  case measure => simp [intOf]; omega
              · go_simp
                first | (refine hK _ _ ?_; clear hK K) | skip
                (try simp only [Act.put, List.setIfInBounds_toArray, List.set_cons_zero, List.set_cons_succ])
                refine wpAnyIn_ready (rs := [0]) (by kernel_rfl) (by simp) ?_
                refine AllReadyIn.cons rfl (fun K hK => ?_) AllReadyIn.nil
                go_simp
                first | (refine hK _ _ ?_; clear hK K) | skip
                (try simp only [Act.put, List.setIfInBounds_toArray, List.set_cons_zero, List.set_cons_succ])
                refine wpAnyIn_take (i := 4) (v := .pointer (some ⟨w.heap.size + 1, y, none⟩)) rfl rfl (by kernel_rfl) (by kernel_rfl) (by kernel_rfl) (fun _ _ _ h => h) ⟨Or.inl ⟨by rfl, fun w => by go_simp <;> (try exact IntWalk.i64_left _)⟩, fun _ => rfl⟩ ?_
                (try simp only [Act.put, List.setIfInBounds_toArray, List.set_cons_zero, List.set_cons_succ])
                refine wpAnyIn_ready (rs := [5]) (by kernel_rfl) (by simp) ?_
                refine AllReadyIn.cons rfl (fun K hK => ?_) AllReadyIn.nil
                go_simp
                first | (refine hK _ _ ?_; clear hK K) | skip
                (try simp only [Act.put, List.setIfInBounds_toArray, List.set_cons_zero, List.set_cons_succ])
                refine wpAnyIn_take (i := 10) (v := .int .i64 (wrap64 (p + q))) rfl rfl (by kernel_rfl) (by kernel_rfl) (by kernel_rfl) (fun _ _ _ h => h) ⟨Or.inl ⟨by rfl, fun w => by go_simp <;> (try exact IntWalk.i64_left _)⟩, fun _ => rfl⟩ ?_
                (try simp only [Act.put, List.setIfInBounds_toArray, List.set_cons_zero, List.set_cons_succ])
                refine wpAnyIn_take (i := 11) (v := .pointer (some ⟨w.heap.size + 1, y, none⟩)) rfl rfl (by kernel_rfl) (by kernel_rfl) (by kernel_rfl) (fun _ _ _ h => h) ⟨Or.inl ⟨by rfl, fun w => by go_simp <;> (try exact IntWalk.i64_left _)⟩, fun _ => rfl⟩ ?_
                (try simp only [Act.put, List.setIfInBounds_toArray, List.set_cons_zero, List.set_cons_succ])
                refine wpAnyIn_ready (rs := [12]) (by kernel_rfl) (by simp) ?_
                refine AllReadyIn.cons rfl (fun K hK => ?_) AllReadyIn.nil
                go_simp
                first | (refine hK _ _ ?_; clear hK K) | skip
                (try simp only [Act.put, List.setIfInBounds_toArray, List.set_cons_zero, List.set_cons_succ])
                refine wpAnyIn_done (by kernel_rfl) ?_ _
                gi_wp2
                go_roundw
                case rel => exact ⟨k + 1, by omega, by go_num, by rw [HV.out]; exact HIs.out, HKs.out⟩
                case measure => simp [intOf]; omega
            · go_simp
              first | (refine hK _ _ ?_; clear hK K) | skip
              (try simp only [Act.put, List.setIfInBounds_toArray, List.set_cons_zero, List.set_cons_succ])
              refine wpAnyIn_ready (rs := [0, 3]) (by kernel_rfl) (by simp) ?_
              refine AllReadyIn.cons rfl (fun K hK => ?_) (AllReadyIn.cons rfl (fun K hK => ?_) AllReadyIn.nil)
              · go_simp
                first | (refine hK _ _ ?_; clear hK K) | skip
                (try simp only [Act.put, List.setIfInBounds_toArray, List.set_cons_zero, List.set_cons_succ])
                refine wpAnyIn_ready (rs := [3]) (by kernel_rfl) (by simp) ?_
                refine AllReadyIn.cons rfl (fun K hK => ?_) AllReadyIn.nil
                go_simp
                gi_wp2_with (refine ⟨trivial, wide_depth, ?_⟩; gi_at_call 28; refine (callsIn_wide.2 HWi.out).mono ?_; rintro e w' ⟨rfl, rfl⟩)
                first | (refine hK _ _ ?_; clear hK K) | skip
                (try simp only [Act.put, List.setIfInBounds_toArray, List.set_cons_zero, List.set_cons_succ])
                refine wpAnyIn_take (i := 4) (v := .pointer (some ⟨w.heap.size + 1, y, none⟩)) rfl rfl (by kernel_rfl) (by kernel_rfl) (by kernel_rfl) (fun _ _ _ h => h) ⟨Or.inl ⟨by rfl, fun w => by go_simp <;> (try exact IntWalk.i64_left _)⟩, fun _ => rfl⟩ ?_
                (try simp only [Act.put, List.setIfInBounds_toArray, List.set_cons_zero, List.set_cons_succ])
                refine wpAnyIn_ready (rs := [5]) (by kernel_rfl) (by simp) ?_
                refine AllReadyIn.cons rfl (fun K hK => ?_) AllReadyIn.nil
                go_simp
                first | (refine hK _ _ ?_; clear hK K) | skip
                (try simp only [Act.put, List.setIfInBounds_toArray, List.set_cons_zero, List.set_cons_succ])
                refine wpAnyIn_take (i := 10) (v := .int .i64 (wrap64 (p + q))) rfl rfl (by kernel_rfl) (by kernel_rfl) (by kernel_rfl) (fun _ _ _ h => h) ⟨Or.inl ⟨by rfl, fun w => by go_simp <;> (try exact IntWalk.i64_left _)⟩, fun _ => rfl⟩ ?_
                (try simp only [Act.put, List.setIfInBounds_toArray, List.set_cons_zero, List.set_cons_succ])
                refine wpAnyIn_take (i := 11) (v := .pointer (some ⟨w.heap.size + 1, y, none⟩)) rfl rfl (by kernel_rfl) (by kernel_rfl) (by kernel_rfl) (fun _ _ _ h => h) ⟨Or.inl ⟨by rfl, fun w => by go_simp <;> (try exact IntWalk.i64_left _)⟩, fun _ => rfl⟩ ?_
                (try simp only [Act.put, List.setIfInBounds_toArray, List.set_cons_zero, List.set_cons_succ])
                refine wpAnyIn_ready (rs := [12]) (by kernel_rfl) (by simp) ?_
                refine AllReadyIn.cons rfl (fun K hK => ?_) AllReadyIn.nil
                go_simp
                first | (refine hK _ _ ?_; clear hK K) | skip
                (try simp only [Act.put, List.setIfInBounds_toArray, List.set_cons_zero, List.set_cons_succ])
                refine wpAnyIn_done (by kernel_rfl) ?_ _
                gi_wp2
                go_roundw
                case rel => exact ⟨k + 1, by omega, by go_num, by rw [HV.out]; exact HIs.out, HKs.out⟩
                case measure => simp [intOf]; omega
              · go_simp
                gi_wp2_with (refine ⟨trivial, wide_depth, ?_⟩; gi_at_call 28; refine (callsIn_wide.2 HWi.out).mono ?_; rintro e w' ⟨rfl, rfl⟩)
                first | (refine hK _ _ ?_; clear hK K) | skip
                (try simp only [Act.put, List.setIfInBounds_toArray, List.set_cons_zero, List.set_cons_succ])
                refine wpAnyIn_ready (rs := [0]) (by kernel_rfl) (by simp) ?_
                refine AllReadyIn.cons rfl (fun K hK => ?_) AllReadyIn.nil
                go_simp
                first | (refine hK _ _ ?_; clear hK K) | skip
                (try simp only [Act.put, List.setIfInBounds_toArray, List.set_cons_zero, List.set_cons_succ])
                refine wpAnyIn_take (i := 4) (v := .pointer (some ⟨w.heap.size + 1, y, none⟩)) rfl rfl (by kernel_rfl) (by kernel_rfl) (by kernel_rfl) (fun _ _ _ h => h) ⟨Or.inl ⟨by rfl, fun w => by go_simp <;> (try exact IntWalk.i64_left _)⟩, fun _ => rfl⟩ ?_
                (try simp only [Act.put, List.setIfInBounds_toArray, List.set_cons_zero, List.set_cons_succ])
                refine wpAnyIn_ready (rs := [5]) (by kernel_rfl) (by simp) ?_
                refine AllReadyIn.cons rfl (fun K hK => ?_) AllReadyIn.nil
                go_simp
                first | (refine hK _ _ ?_; clear hK K) | skip
                (try simp only [Act.put, List.setIfInBounds_toArray, List.set_cons_zero, List.set_cons_succ])
                refine wpAnyIn_take (i := 10) (v := .int .i64 (wrap64 (p + q))) rfl rfl (by kernel_rfl) (by kernel_rfl) (by kernel_rfl) (fun _ _ _ h => h) ⟨Or.inl ⟨by rfl, fun w => by go_simp <;> (try exact IntWalk.i64_left _)⟩, fun _ => rfl⟩ ?_
                (try simp only [Act.put, List.setIfInBounds_toArray, List.set_cons_zero, List.set_cons_succ])
                refine wpAnyIn_take (i := 11) (v := .pointer (some ⟨w.heap.size + 1, y, none⟩)) rfl rfl (by kernel_rfl) (by kernel_rfl) (by kernel_rfl) (fun _ _ _ h => h) ⟨Or.inl ⟨by rfl, fun w => by go_simp <;> (try exact IntWalk.i64_left _)⟩, fun _ => rfl⟩ ?_
                (try simp only [Act.put, List.setIfInBounds_toArray, List.set_cons_zero, List.set_cons_succ])
                refine wpAnyIn_ready (rs := [12]) (by kernel_rfl) (by simp) ?_
                refine AllReadyIn.cons rfl (fun K hK => ?_) AllReadyIn.nil
                go_simp
                first | (refine hK _ _ ?_; clear hK K) | skip
                (try simp only [Act.put, List.setIfInBounds_toArray, List.set_cons_zero, List.set_cons_succ])
                refine wpAnyIn_done (by kernel_rfl) ?_ _
                gi_wp2
                go_roundw
                case rel => exact ⟨k + 1, by omega, by go_num, by rw [HV.out]; exact HIs.out, HKs.out⟩
                case measure => simp [intOf]; omega
        · have HV : Hid (ordK L x O (k + 1) = ordK L x O k) := by
            unfold Hid; show ordN L x k _ = _; unfold ordN; rw [if_neg hgo]
          cases hb : x.testBit k with
          | true =>
            rw [hb] at HHk
            clear hgo hb
            generalize nd L k = need at *
            gi_wp2_with (first
              | (refine ⟨trivial, wide_depth, ?_⟩; gi_at_call 26; refine (CallsIn.inRound l (callsIn_wide.2 HHk.out)).mono ?_; rintro e w' ⟨rfl, rfl⟩))
            refine ⟨trivial, ?_⟩
            gi_wp2
            go_roundw
            case rel => exact ⟨k + 1, by omega, by go_num, by rw [HV.out]; exact hI.out, hKp.out⟩
            case measure => simp [intOf]; omega
          | false =>
            have hq : subS (nd L k) x = false := by
              cases r : subS (nd L k) x
              · rfl
              · exact absurd ⟨hb, r⟩ hgo
            rw [hb] at HHk
            rw [hq] at HWk
            clear hgo hb hq
            generalize nd L k = need at *
            gi_wp2_with (first
              | (refine ⟨trivial, wide_depth, ?_⟩; gi_at_call 26; refine (CallsIn.inRound l (callsIn_wide.2 HHk.out)).mono ?_; rintro e w' ⟨rfl, rfl⟩)
              | (refine ⟨trivial, wide_depth, ?_⟩; gi_at_call 27; refine (CallsIn.inRound l (callsIn_wide.2 HWk.out)).mono ?_; rintro e w' ⟨rfl, rfl⟩))
            go_roundw
            case rel => exact ⟨k + 1, by omega, by go_num, by rw [HV.out]; exact hI.out, hKp.out⟩
            case measure => simp [intOf]; omega
      · obtain rfl : k = L.length := by omega
        have hki : ¬ (L.length : Int) < (L.length : Int) := by omega
        gi_wp2
        exact ⟨hKp.out, HQ.out wr hI.out⟩
  case done =>
    rintro D' ys W hD' hys hi hK
    rw [hIe] at hi
    obtain ⟨hb2, hg, hb0, hb3, hB⟩ := hi
    have c0 := hb2.cell
    have hOl : (ordL L ys (ord0 N)).length = N := by rw [length_ordL]; simp [ord0]
    have cl := hg.cell (N - 1)
    rw [intsV_at (by rw [hOl]; omega)] at cl
    have Hv : Hid (nth (ordL L ys (ord0 N)) (N - 1) = orders L) := by unfold Hid orders; rw [hys, HNN.out]
    have hN1 : ((N : Int) - 1).toNat = N - 1 := by omega
    have hN2 : (0 : Int) ≤ (N : Int) - 1 := by omega
    have hN3 : (N : Int) - 1 < (N : Int) := by omega
    clear hb0 hb3 hys hOl hb2 hg
    generalize nth (ordL L ys (ord0 N)) (N - 1) = v at *
    gi_wp2
    refine ⟨by simp, .inl ⟨_, _, rfl, run_takeDeferred hK, ?_⟩⟩
    exact ⟨_, results_tmp2 rfl _ _ _, by rw [← Hv.out]; rfl, B4.out.trans ((hB.trans (belowK_b (w := w) (Nat.le_refl _) W D' _ _ (by omega) hK rfl rfl)).mono B4.out.size)⟩
theorem porders_yes (A : Option Addr) (c : Nat) (D : List (List Nat)) (w0 : World) (hD : Sm D) (hO : OkD D) (hM : Mat w0 w0.heap.size A (rowsI D)) :
    Calls Try.prog 10 #[.slice A D.length c] w0 fun e W' => e = .returned (.tuple #[.int .i64 (orders (needsL D)), .int .i64 0]) ∧ Below w0.heap.size w0 W' :=
  (callsIn_wide (n := 4)).1 (orders_in 4 (Nat.le_refl _) A c D w0 hD hO hM)
set_option maxRecDepth 100000 in
set_option maxHeartbeats 1000000 in
theorem porders_no (A : Option Addr) (c : Nat) (R : List (List Int)) (w : World) (hf : fitB R = false) (hl : R.length ≤ 1000) (hr : ∀ k, k < R.length → (rowI R k).length ≤ 1000) (hM : Mat w w.heap.size A R) :
    Calls Try.prog 10 #[.slice A R.length c] w fun e w' => e = .returned (.tuple #[.int .i64 0, .int .i64 3]) ∧ Below w.heap.size w w' := by
  have HR := Lib.hid (needsOf_no A c R w hf hl hr hM)
  clear hM hr hf
  have HB : Hid (Below w.heap.size w (w.alloc (.cells #[.slice none 0 0] 38))) := (Below.refl _ _).alloc (Nat.le_refl _) _
  go_enter Try.func10, Try.ntmps10
  go_wp2_with (go_at_call 20; (with_reducible refine HR.out.mono ?_); rintro e w4 ⟨rfl, rfl⟩)
  go_ret2
  exact ⟨rfl, HB.out⟩
end Go.Proofs.Ythffdkoncagimaa
