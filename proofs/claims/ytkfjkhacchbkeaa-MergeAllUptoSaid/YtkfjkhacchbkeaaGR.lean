/- What was done and what is asked are marked, in whatever order; contract of Ready. -/
import Derived.Test.YtkfjkhacchbkeaaGP
import Derived.WalkMore
namespace Go.Proofs.Ytkfjkhacchbkeaa
set_option linter.unusedVariables false
set_option linter.unusedSimpArgs false
open Go.RowKit Go.Shelf

attribute [local go_sem] Oper.semAt_some
section
variable {P : Program} {ops : Array Oper} {Q : Exit → Act → World → Prop} {md : Region.Mode} {S : World → Prop}
/-- take one operation of a drawn region, the slot that it fills written out -/
theorem takeH {i : Nat} {oi : Oper} (d : Option Tmp) {v : Value} {fuel : Nat} {listed : Array Bool} {a : Act} {w : World} (hi : ops[i]? = some oi) (hd : oi.dst = d)
    (hs : Region.noSelect ops = true) (hf : Region.free md ops listed i = true) (hr : (Region.ready md ops listed).contains i = true)
    (hQ : ∀ c a w, Q (.panic c) (a.put d v) w → Q (.panic c) a w) (hw : Region.wanted oi (yielded ops a.tmps) = true) (hy : ∀ w, S w → (execOp a.eval oi).run P w = .ok (.value v) w) (hS : S w)
    (h : wpAnyH P md ops Q S fuel (listed.setIfInBounds i true) (a.put d v) w) : wpAnyH P md ops Q S (fuel + 1) listed a w := by
  subst hd
  exact wpAnyH_take hi hs hf hr hQ (Or.inl ⟨hw, hy⟩) hS h
end
theorem step_of {P : Program} {ops : Array Oper} {o : Oper} {a : Act} {w : World} {K : Act → World → Prop} {Q : Exit → Act → World → Prop} {E : Prop} (hg : o.guard = none) (h : Oper.wp P o a w K Q) : if Region.wanted o (yielded ops a.tmps) = true then Oper.wp P o a w K Q else E := by
  rw [if_pos (by simp [Region.wanted, hg])]
  exact h
/-- what lies in memory behind the marking -/
def RdPost (W : World) (m7 m8 : Nat → Bool) (F : Nat → Nat → Act) (e : Exit) (a : Act) (w' : World) : Prop :=
  e = .normal ∧ ∃ g7 g8, a = F g7 g8 ∧ g7 ≠ g8 ∧ W.heap.size ≤ g7 ∧ W.heap.size ≤ g8 ∧ Marks w' g7 m7 ∧ Marks w' g8 m8 ∧ Below W.heap.size W w'

/-- the frame behind it -/
def rdF (w : World) (A A2 A3 : Option Addr) (c c2 c3 : Nat) (D : List (List Nat)) (l k : List Int) (T7 T8 : Array Value) (g7 g8 : Nat) : Act := { tmps := ((.slice A D.length c) :: (.slice A2 l.length c2) :: (.slice A3 k.length c3) :: (.pointer (some ⟨w.heap.size, 0, none⟩)) :: (undef) :: (undef) :: (.slice none 0 0) :: (.pointer (some ⟨g7, 0, none⟩)) :: (.pointer (some ⟨g8, 0, none⟩)) :: (undef) :: (undef) :: (undef) :: (undef) :: (.slice A D.length c) :: (.bool true) :: (.bool false) :: (.slice A D.length c) :: (.slice A2 l.length c2) :: (.agg T7) :: (.slice A D.length c) :: (.slice A3 k.length c3) :: (.agg T8) :: (undef) :: (undef) :: (undef) :: (undef) :: (undef) :: (undef) :: (undef) :: (undef) :: (undef) :: (undef) :: (undef) :: (undef) :: (undef) :: (undef) :: (undef) :: (undef) :: (undef) :: (undef) :: (undef) :: (undef) :: (undef) :: (undef) :: (undef) :: (undef) :: (undef) :: (undef) :: []).toArray, defers := [] }

def rdStep (D : List (List Nat)) (s : (Nat → Bool) × List Nat) (n : Nat) : (Nat → Bool) × List Nat :=
  if s.1 n then s else if (rowN D n).all s.1 then (fun x => s.1 x || x == n, s.2 ++ [n]) else s
def rdFold (D : List (List Nat)) (m : Nat → Bool) (pre : List Nat) : (Nat → Bool) × List Nat := pre.foldl (rdStep D) (m, [])
theorem rdFold_snoc (D : List (List Nat)) (m : Nat → Bool) (pre : List Nat) (n : Nat) : rdFold D m (pre ++ [n]) = rdStep D (rdFold D m pre) n := by simp [rdFold]
theorem rdFold_len (D : List (List Nat)) (m : Nat → Bool) (pre : List Nat) : (rdFold D m pre).2.length ≤ pre.length := by
  have key : ∀ (pre : List Nat) (s : (Nat → Bool) × List Nat), (pre.foldl (rdStep D) s).2.length ≤ s.2.length + pre.length := by
    intro pre
    induction pre with
    | nil => intro s; simp
    | cons n pre ih =>
      intro s
      have := ih (rdStep D s n)
      have h2 : (rdStep D s n).2.length ≤ s.2.length + 1 := by
        unfold rdStep
        split
        · omega
        · split
          · simp
          · omega
      simp only [List.foldl_cons, List.length_cons]
      omega
  have := key pre (m, [])
  simpa [rdFold] using this
/-- Ready -/
def readyL (D : List (List Nat)) (l k : List Int) : List Nat := (rdFold D (markI D.length l) (listM 256 (markI D.length k))).2
def ReadySays (w : World) (D : List (List Nat)) (l k : List Int) (e : Ending) (w' : World) : Prop :=
  ∃ v, e = .returned v ∧ w'.ownsRow w.heap.size 3 1 v (readyL D l k).length (natsV (readyL D l k)) ∧ Below w.heap.size w w'

theorem blk_not_row {W : World} {g : Nat} {t e : TypeId} {L : List Value} (h : BlkIs W g t L) (hte : t ≠ e) {base size k : Nat} {v : Value} {xs : List Value} (hr : W.ownsRow base e size v k xs) : v.ownBlock = none ∨ v.ownBlock ≠ some g := by
  rcases hr.2 with ⟨rfl, _⟩ | ⟨g', cap, cur, rfl, _, hgb, _⟩
  · exact .inl rfl
  · refine .inr fun e' => ?_
    obtain rfl : g' = g := by simpa [Value.ownBlock] using e'
    have := (show W.heap[g']? = _ from h).symm.trans hgb
    simp at this
    exact hte this.2

theorem BlkIs.appended_other {W w5 : World} {g B base k : Nat} {t : TypeId} {L : List Value} {v u : Value} {xs : List Value} {tmp : Obj} (h : BlkIs W g t L) (hte : t ≠ 3) (hr : W.ownsRow base 3 1 v k xs) (hg : (W.alloc tmp).grownBy w5 v.ownBlock) (hne : g ≠ B) : BlkIs (w5.setCell ⟨B, 0, none⟩ u) g t L := by
  refine BlkIs.other ((h.alloc tmp).kept hg (fun e => ?_)) hne u
  rcases blk_not_row h hte hr with h1 | h1
  · rw [h1] at e; cases e
  · exact h1 e.symm

set_option linter.unusedSimpArgs false in
set_option maxRecDepth 100000 in
set_option maxHeartbeats 4000000 in
theorem ready_in (n : Nat) (hn : 4 ≤ n) (A : Option Addr) (c kD : Nat) (D : List (List Nat)) (hkD : kD = D.length) (hD : OkD D) (A2 : Option Addr) (c2 k2 : Nat) (l : List Int) (hk2 : k2 = l.length) (hl : l.length ≤ 100000)
    (A3 : Option Addr) (c3 k3 : Nat) (k : List Int) (hk3 : k3 = k.length) (hk : k.length ≤ 100000) (w : World)
    (hM : Mat w w.heap.size A (rowsI D)) (hI : Ints w w.heap.size A2 l) (hI3 : Ints w w.heap.size A3 k) :
    CallsIn Fence.wide n Try.prog 39 #[.slice A kD c, .slice A2 k2 c2, .slice A3 k3 c3] w (ReadySays w D l k) := by
  have h1 : 1 ≤ n := by omega
  subst hk2 hk3 hkD
  have hw0 : Below w.heap.size w (w.alloc (.cells #[.slice A D.length c] 27)) := (Below.refl _ _).alloc (Nat.le_refl _) _
  have hb0 := Boxed.new w 27 (.slice A D.length c)
  have hs0 : (w.alloc (.cells #[.slice A D.length c] 27)).heap.size = w.heap.size + 1 := by simp
  refine callsIn_of_wp_marks Try.func39 rfl trivial ?_ rfl
  simp only [Try.ntmps39, List.size_toArray, List.length_cons, List.length_nil, Nat.reduceAdd, Nat.reduceSub, Array.replicate_succ, Array.replicate_zero, List.push_toArray, List.append_toArray, List.nil_append, List.cons_append]
  have HR := Lib.hid (right_yes A c D.length D rfl hD (w.alloc (.cells #[.slice A D.length c] 27)) ((hM.below hw0).more (by simp)))
  have HDo := Lib.hid hD
  have HM := Lib.hid hM
  have HI := Lib.hid hI
  have HI3 := Lib.hid hI3
  have Hw0 := Lib.hid hw0
  have Hb0 := Lib.hid hb0
  have Hs0 := Lib.hid hs0
  clear hD hM hI hI3 hw0 hb0 hs0
  gi_wp2_with fail
  refine wpIn_wide.2 (wp_scope_straight ((wpIn_wide (n := n)).1 ?_))
  gi_wp2_with (refine ⟨trivial, ?_⟩; gi_at_call 33; refine (callsIn_wide.2 HR.out).mono ?_; rintro e w' ⟨rfl, rfl⟩)
  generalize (w.alloc (Obj.cells #[.slice A D.length c] 27)) = W at Hw0 Hb0 Hs0 ⊢
  clear HR
  obtain ⟨hz, hs⟩ := zero_of_info (P := Try.prog) info71
  obtain ⟨Z, hZ⟩ : ∃ Z, Z = zero71 := ⟨_, rfl⟩
  rw [← hZ] at hz
  have hcM : ∀ W', Below W.heap.size W W' → Ints W' W'.heap.size A2 l ∧ Ints W' W'.heap.size A3 k := fun W' hb => by
    have h2 := Hw0.out.trans (hb.mono Hw0.out.size)
    exact ⟨(HI.out.below h2).more h2.size, (HI3.out.below h2).more h2.size⟩
  have HMk : Hid (∀ W', Below W.heap.size W W' → Calls Try.prog 56 #[.slice A D.length c, .slice A2 l.length c2] W' fun e w' => e = .returned (.agg (marksV (markI D.length l)).toArray) ∧ Below W'.heap.size W' w') := fun W' hb => mark_any A D.length c A2 c2 l.length l W' rfl HDo.out.right.1 hl (hcM W' hb).1
  have HMk3 : Hid (∀ W', Below W.heap.size W W' → Calls Try.prog 56 #[.slice A D.length c, .slice A3 k.length c3] W' fun e w' => e = .returned (.agg (marksV (markI D.length k)).toArray) ∧ Below W'.heap.size W' w') := fun W' hb => mark_any A D.length c A3 c3 k.length k W' rfl HDo.out.right.1 hk (hcM W' hb).2
  obtain ⟨m7, hm7⟩ : ∃ m, m = markI D.length l := ⟨_, rfl⟩
  obtain ⟨m8, hm8⟩ : ∃ m, m = markI D.length k := ⟨_, rfl⟩
  rw [← hm7] at HMk
  rw [← hm8] at HMk3
  have Hm7 := Lib.hid hm7
  have Hm8 := Lib.hid hm8
  obtain ⟨T7, hT7⟩ : ∃ T, T = (marksV m7).toArray := ⟨_, rfl⟩
  obtain ⟨T8, hT8⟩ : ∃ T, T = (marksV m8).toArray := ⟨_, rfl⟩
  have hs7 : T7.size = 256 := by rw [hT7]; simp [length_marksV]
  have hs8 : T8.size = 256 := by rw [hT8]; simp [length_marksV]
  have H17 : Hid (∀ v ∈ T7.toList, v.oneCell' = true) := by unfold Hid; rw [hT7]; exact marksV_one _
  have H18 : Hid (∀ v ∈ T8.toList, v.oneCell' = true) := by unfold Hid; rw [hT8]; exact marksV_one _
  have Hi7 : Hid ((Try.prog.info? 71).map (·.size) = some T7.size) := by unfold Hid; rw [hs, hs7]
  have Hi8 : Hid ((Try.prog.info? 71).map (·.size) = some T8.size) := by unfold Hid; rw [hs, hs8]
  have HZ7 : Hid (Z.toList.length = T7.size) := by unfold Hid; rw [hs7, hZ]; rfl
  have HZ8 : Hid (Z.toList.length = T8.size) := by unfold Hid; rw [hs8, hZ]; rfl
  have HT7 := Lib.hid hT7
  have HT8 := Lib.hid hT8
  rw [← hT7] at HMk
  rw [← hT8] at HMk3
  clear hZ hs hm7 hm8 hT7 hT8 hs7 hs8 hcM
  gi_wp2_with fail
  refine wpIn_mono (Q := RdPost W m7 m8 (rdF w A A2 A3 c c2 c3 D l k T7 T8)) (wpIn_wide.2 ?reg) ?rest
  case reg =>
    have hc0 := Hb0.out.cell
    have hBr : Below W.heap.size W W.drew := (Below.refl _ W).drew
    refine wp_region_held_drew (S := fun w' => w'.cell? ⟨w.heap.size, 0, none⟩ = some (.slice A D.length c)) (by kernel_rfl) (by show W.drew.cell? _ = _; exact hc0) (fun hHeld => ?_)
    refine takeH (i := 0) (some 16) (v := ?_) rfl rfl (by kernel_rfl) (by kernel_rfl) (by kernel_rfl) (fun _ _ _ h => by cases h.1) (by rfl) ?_ (by assumption) ?_
    rotate_left
    · (intro w hSw; (try dsimp only at hSw); go_simp; try with_reducible rfl)
    simp only [Act.put, List.setIfInBounds_toArray, List.set_cons_zero, List.set_cons_succ]
    refine takeH (i := 1) (some 17) (v := ?_) rfl rfl (by kernel_rfl) (by kernel_rfl) (by kernel_rfl) (fun _ _ _ h => by cases h.1) (by rfl) ?_ (by assumption) ?_
    rotate_left
    · (intro w hSw; (try dsimp only at hSw); go_simp; try with_reducible rfl)
    simp only [Act.put, List.setIfInBounds_toArray, List.set_cons_zero, List.set_cons_succ]
    refine takeH (i := 3) (some 19) (v := ?_) rfl rfl (by kernel_rfl) (by kernel_rfl) (by kernel_rfl) (fun _ _ _ h => by cases h.1) (by rfl) ?_ (by assumption) ?_
    rotate_left
    · (intro w hSw; (try dsimp only at hSw); go_simp; try with_reducible rfl)
    simp only [Act.put, List.setIfInBounds_toArray, List.set_cons_zero, List.set_cons_succ]
    refine takeH (i := 4) (some 20) (v := ?_) rfl rfl (by kernel_rfl) (by kernel_rfl) (by kernel_rfl) (fun _ _ _ h => by cases h.1) (by rfl) ?_ (by assumption) ?_
    rotate_left
    · (intro w hSw; (try dsimp only at hSw); go_simp; try with_reducible rfl)
    simp only [Act.put, List.setIfInBounds_toArray, List.set_cons_zero, List.set_cons_succ]
    obtain ⟨W0, hW0⟩ : ∃ W0, W0 = W.drew := ⟨_, rfl⟩
    rw [← hW0] at hBr hHeld ⊢
    have B0 := Lib.hid hBr
    clear hBr hW0
    refine wpAnyH_ready (rs := [2, 6, 7]) (by kernel_rfl) (by simp) ?_
    refine AllReadyH.cons rfl (fun K hK => ?r0_2) (AllReadyH.cons rfl (fun K hK => ?r0_6) (AllReadyH.cons rfl (fun K hK => ?r0_7) (AllReadyH.nil)))
    case r0_2 =>
      go_simp
      ((with_reducible refine (HMk.out _ B0.out).mono ?_); rintro e v0_2 ⟨rfl, hBn⟩)
      have B0_2 := Lib.hid (B0.out.trans (hBn.mono B0.out.size))
      clear hBn
      refine hK _ _ (by have hb := B0_2.out; show World.cell? _ _ = _; exact (Below.cell hb (p := ⟨w.heap.size, 0, none⟩) (by show w.heap.size < W.heap.size; have := Hs0.out; omega)).trans hc0) (fun hHeld => ?_)
      clear hK K
      try simp only [Act.put, List.setIfInBounds_toArray, List.set_cons_zero, List.set_cons_succ]
      refine wpAnyH_ready (rs := [5, 6, 7]) (by kernel_rfl) (by simp) ?_
      refine AllReadyH.cons rfl (fun K hK => ?r1_5) (AllReadyH.cons rfl (fun K hK => ?r1_6) (AllReadyH.cons rfl (fun K hK => ?r1_7) (AllReadyH.nil)))
      case r1_5 =>
        go_simp
        ((with_reducible refine (HMk3.out _ B0_2.out).mono ?_); rintro e v1_5 ⟨rfl, hBn⟩)
        have B1_5 := Lib.hid (B0_2.out.trans (hBn.mono B0_2.out.size))
        clear hBn
        refine hK _ _ (by have hb := B1_5.out; show World.cell? _ _ = _; exact (Below.cell hb (p := ⟨w.heap.size, 0, none⟩) (by show w.heap.size < W.heap.size; have := Hs0.out; omega)).trans hc0) (fun hHeld => ?_)
        clear hK K
        try simp only [Act.put, List.setIfInBounds_toArray, List.set_cons_zero, List.set_cons_succ]
        refine wpAnyH_ready (rs := [6, 7]) (by kernel_rfl) (by simp) ?_
        refine AllReadyH.cons rfl (fun K hK => ?r2_6) (AllReadyH.cons rfl (fun K hK => ?r2_7) (AllReadyH.nil))
        case r2_6 =>
          go_simp
          obtain ⟨v2_6, hv2_6⟩ : ∃ v2_6, v2_6 = v1_5.alloc (.cells Z 71) := ⟨_, rfl⟩
          have hnew := BlkIs.new v1_5 71 Z
          have hBn : Below v1_5.heap.size v1_5 (v1_5.alloc (.cells Z 71)) := (Below.refl _ _).alloc (Nat.le_refl _) _
          rw [← hv2_6] at hnew hBn ⊢
          have B2_6 := Lib.hid (B1_5.out.trans (hBn.mono B1_5.out.size))
          have K2_6_7 := Lib.hid hnew
          have hge7 : W.heap.size ≤ v1_5.heap.size := B1_5.out.size
          obtain ⟨g7, hg7⟩ : ∃ g, g = v1_5.heap.size := ⟨_, rfl⟩
          rw [← hg7] at K2_6_7 hge7 ⊢
          clear hnew hBn hv2_6 hg7
          refine hK _ _ (by have hb := B2_6.out; show World.cell? _ _ = _; exact (Below.cell hb (p := ⟨w.heap.size, 0, none⟩) (by show w.heap.size < W.heap.size; have := Hs0.out; omega)).trans hc0) (fun hHeld => ?_)
          clear hK K
          try simp only [Act.put, List.setIfInBounds_toArray, List.set_cons_zero, List.set_cons_succ]
          refine wpAnyH_ready (rs := [7]) (by kernel_rfl) (by simp) ?_
          refine AllReadyH.cons rfl (fun K hK => ?r3_7) (AllReadyH.nil)
          case r3_7 =>
            go_simp
            obtain ⟨v3_7, hv3_7⟩ : ∃ v3_7, v3_7 = v2_6.alloc (.cells Z 71) := ⟨_, rfl⟩
            have hnew := BlkIs.new v2_6 71 Z
            have hBn : Below v2_6.heap.size v2_6 (v2_6.alloc (.cells Z 71)) := (Below.refl _ _).alloc (Nat.le_refl _) _
            rw [← hv3_7] at hnew hBn ⊢
            have B3_7 := Lib.hid (B2_6.out.trans (hBn.mono B2_6.out.size))
            have K3_7_7 := Lib.hid (K2_6_7.out.below hBn (BlkIs.lt K2_6_7.out))
            have hne : g7 ≠ v2_6.heap.size := by have := BlkIs.lt K2_6_7.out; omega
            have K3_7_8 := Lib.hid hnew
            have hge8 : W.heap.size ≤ v2_6.heap.size := B2_6.out.size
            obtain ⟨g8, hg8⟩ : ∃ g, g = v2_6.heap.size := ⟨_, rfl⟩
            rw [← hg8] at K3_7_8 hge8 ⊢
            rw [← hg8] at hne
            clear hnew hBn hv3_7 hg8
            refine hK _ _ (by have hb := B3_7.out; show World.cell? _ _ = _; exact (Below.cell hb (p := ⟨w.heap.size, 0, none⟩) (by show w.heap.size < W.heap.size; have := Hs0.out; omega)).trans hc0) (fun hHeld => ?_)
            clear hK K
            try simp only [Act.put, List.setIfInBounds_toArray, List.set_cons_zero, List.set_cons_succ]
            have hne' : g7 ≠ g8 := by first | exact hne | exact Ne.symm hne
            refine wpAnyH_ready (rs := [8]) (by kernel_rfl) (by simp) ?_
            refine AllReadyH.cons rfl (fun K hK => ?_) AllReadyH.nil
            refine step_of rfl (wp_store_row 71 (.tmp 7) (.tmp 18) rfl g7 T7 rfl rfl Z.toList 71 K3_7_7.out Hi7.out HZ7.out H17.out ?_)
            have a7 := Lib.hid (K3_7_7.out.row T7)
            have a8 := Lib.hid (K3_7_8.out.kept (grownBy_setRow v3_7 g7 T7) (fun e => by injection e with e; exact hne' e.symm))
            have ab := Lib.hid (B3_7.out.grown (grownBy_setRow v3_7 g7 T7) B3_7.out.size (fun j e => by injection e with e; omega))
            obtain ⟨x7, hx7⟩ : ∃ x7, x7 = v3_7.setRow g7 T7 := ⟨_, rfl⟩
            rw [← hx7] at a7 a8 ab ⊢
            clear hx7
            refine hK _ _ (by have hb := ab.out; show World.cell? _ _ = _; exact (Below.cell hb (p := ⟨w.heap.size, 0, none⟩) (by show w.heap.size < W.heap.size; have := Hs0.out; omega)).trans hc0) (fun hHeld => ?_)
            clear hK K
            try simp only [Act.put, List.setIfInBounds_toArray, List.set_cons_zero, List.set_cons_succ]
            refine wpAnyH_ready (rs := [9]) (by kernel_rfl) (by simp) ?_
            refine AllReadyH.cons rfl (fun K hK => ?_) AllReadyH.nil
            refine step_of rfl (wp_store_row 71 (.tmp 8) (.tmp 21) rfl g8 T8 rfl rfl Z.toList 71 a8.out Hi8.out HZ8.out H18.out ?_)
            have c7 := Lib.hid (a7.out.kept (grownBy_setRow x7 g8 T8) (fun e => by injection e with e; exact hne' e))
            have c8 := Lib.hid (a8.out.row T8)
            have cb := Lib.hid (ab.out.grown (grownBy_setRow x7 g8 T8) ab.out.size (fun j e => by injection e with e; omega))
            refine hK _ _ (by have hb := cb.out; show World.cell? _ _ = _; exact (Below.cell hb (p := ⟨w.heap.size, 0, none⟩) (by show w.heap.size < W.heap.size; have := Hs0.out; omega)).trans hc0) (fun hHeld => ?_)
            clear hK K
            try simp only [Act.put, List.setIfInBounds_toArray, List.set_cons_zero, List.set_cons_succ]
            refine wpAnyH_done (by kernel_rfl) ?_ _
            exact ⟨rfl, g7, g8, rfl, hne', hge7, hge8, by unfold Marks; have := c7.out; rw [show T7.toList = marksV m7 from by rw [HT7.out]] at this; exact this, by unfold Marks; have := c8.out; rw [show T8.toList = marksV m8 from by rw [HT8.out]] at this; exact this, cb.out⟩
        case r2_7 =>
          go_simp
          obtain ⟨v2_7, hv2_7⟩ : ∃ v2_7, v2_7 = v1_5.alloc (.cells Z 71) := ⟨_, rfl⟩
          have hnew := BlkIs.new v1_5 71 Z
          have hBn : Below v1_5.heap.size v1_5 (v1_5.alloc (.cells Z 71)) := (Below.refl _ _).alloc (Nat.le_refl _) _
          rw [← hv2_7] at hnew hBn ⊢
          have B2_7 := Lib.hid (B1_5.out.trans (hBn.mono B1_5.out.size))
          have K2_7_8 := Lib.hid hnew
          have hge8 : W.heap.size ≤ v1_5.heap.size := B1_5.out.size
          obtain ⟨g8, hg8⟩ : ∃ g, g = v1_5.heap.size := ⟨_, rfl⟩
          rw [← hg8] at K2_7_8 hge8 ⊢
          clear hnew hBn hv2_7 hg8
          refine hK _ _ (by have hb := B2_7.out; show World.cell? _ _ = _; exact (Below.cell hb (p := ⟨w.heap.size, 0, none⟩) (by show w.heap.size < W.heap.size; have := Hs0.out; omega)).trans hc0) (fun hHeld => ?_)
          clear hK K
          try simp only [Act.put, List.setIfInBounds_toArray, List.set_cons_zero, List.set_cons_succ]
          refine wpAnyH_ready (rs := [6]) (by kernel_rfl) (by simp) ?_
          refine AllReadyH.cons rfl (fun K hK => ?r4_6) (AllReadyH.nil)
          case r4_6 =>
            go_simp
            obtain ⟨v4_6, hv4_6⟩ : ∃ v4_6, v4_6 = v2_7.alloc (.cells Z 71) := ⟨_, rfl⟩
            have hnew := BlkIs.new v2_7 71 Z
            have hBn : Below v2_7.heap.size v2_7 (v2_7.alloc (.cells Z 71)) := (Below.refl _ _).alloc (Nat.le_refl _) _
            rw [← hv4_6] at hnew hBn ⊢
            have B4_6 := Lib.hid (B2_7.out.trans (hBn.mono B2_7.out.size))
            have K4_6_8 := Lib.hid (K2_7_8.out.below hBn (BlkIs.lt K2_7_8.out))
            have hne : g8 ≠ v2_7.heap.size := by have := BlkIs.lt K2_7_8.out; omega
            have K4_6_7 := Lib.hid hnew
            have hge7 : W.heap.size ≤ v2_7.heap.size := B2_7.out.size
            obtain ⟨g7, hg7⟩ : ∃ g, g = v2_7.heap.size := ⟨_, rfl⟩
            rw [← hg7] at K4_6_7 hge7 ⊢
            rw [← hg7] at hne
            clear hnew hBn hv4_6 hg7
            refine hK _ _ (by have hb := B4_6.out; show World.cell? _ _ = _; exact (Below.cell hb (p := ⟨w.heap.size, 0, none⟩) (by show w.heap.size < W.heap.size; have := Hs0.out; omega)).trans hc0) (fun hHeld => ?_)
            clear hK K
            try simp only [Act.put, List.setIfInBounds_toArray, List.set_cons_zero, List.set_cons_succ]
            have hne' : g7 ≠ g8 := by first | exact hne | exact Ne.symm hne
            refine wpAnyH_ready (rs := [8]) (by kernel_rfl) (by simp) ?_
            refine AllReadyH.cons rfl (fun K hK => ?_) AllReadyH.nil
            refine step_of rfl (wp_store_row 71 (.tmp 7) (.tmp 18) rfl g7 T7 rfl rfl Z.toList 71 K4_6_7.out Hi7.out HZ7.out H17.out ?_)
            have a7 := Lib.hid (K4_6_7.out.row T7)
            have a8 := Lib.hid (K4_6_8.out.kept (grownBy_setRow v4_6 g7 T7) (fun e => by injection e with e; exact hne' e.symm))
            have ab := Lib.hid (B4_6.out.grown (grownBy_setRow v4_6 g7 T7) B4_6.out.size (fun j e => by injection e with e; omega))
            obtain ⟨x7, hx7⟩ : ∃ x7, x7 = v4_6.setRow g7 T7 := ⟨_, rfl⟩
            rw [← hx7] at a7 a8 ab ⊢
            clear hx7
            refine hK _ _ (by have hb := ab.out; show World.cell? _ _ = _; exact (Below.cell hb (p := ⟨w.heap.size, 0, none⟩) (by show w.heap.size < W.heap.size; have := Hs0.out; omega)).trans hc0) (fun hHeld => ?_)
            clear hK K
            try simp only [Act.put, List.setIfInBounds_toArray, List.set_cons_zero, List.set_cons_succ]
            refine wpAnyH_ready (rs := [9]) (by kernel_rfl) (by simp) ?_
            refine AllReadyH.cons rfl (fun K hK => ?_) AllReadyH.nil
            refine step_of rfl (wp_store_row 71 (.tmp 8) (.tmp 21) rfl g8 T8 rfl rfl Z.toList 71 a8.out Hi8.out HZ8.out H18.out ?_)
            have c7 := Lib.hid (a7.out.kept (grownBy_setRow x7 g8 T8) (fun e => by injection e with e; exact hne' e))
            have c8 := Lib.hid (a8.out.row T8)
            have cb := Lib.hid (ab.out.grown (grownBy_setRow x7 g8 T8) ab.out.size (fun j e => by injection e with e; omega))
            refine hK _ _ (by have hb := cb.out; show World.cell? _ _ = _; exact (Below.cell hb (p := ⟨w.heap.size, 0, none⟩) (by show w.heap.size < W.heap.size; have := Hs0.out; omega)).trans hc0) (fun hHeld => ?_)
            clear hK K
            try simp only [Act.put, List.setIfInBounds_toArray, List.set_cons_zero, List.set_cons_succ]
            refine wpAnyH_done (by kernel_rfl) ?_ _
            exact ⟨rfl, g7, g8, rfl, hne', hge7, hge8, by unfold Marks; have := c7.out; rw [show T7.toList = marksV m7 from by rw [HT7.out]] at this; exact this, by unfold Marks; have := c8.out; rw [show T8.toList = marksV m8 from by rw [HT8.out]] at this; exact this, cb.out⟩
      case r1_6 =>
        go_simp
        obtain ⟨v1_6, hv1_6⟩ : ∃ v1_6, v1_6 = v0_2.alloc (.cells Z 71) := ⟨_, rfl⟩
        have hnew := BlkIs.new v0_2 71 Z
        have hBn : Below v0_2.heap.size v0_2 (v0_2.alloc (.cells Z 71)) := (Below.refl _ _).alloc (Nat.le_refl _) _
        rw [← hv1_6] at hnew hBn ⊢
        have B1_6 := Lib.hid (B0_2.out.trans (hBn.mono B0_2.out.size))
        have K1_6_7 := Lib.hid hnew
        have hge7 : W.heap.size ≤ v0_2.heap.size := B0_2.out.size
        obtain ⟨g7, hg7⟩ : ∃ g, g = v0_2.heap.size := ⟨_, rfl⟩
        rw [← hg7] at K1_6_7 hge7 ⊢
        clear hnew hBn hv1_6 hg7
        refine hK _ _ (by have hb := B1_6.out; show World.cell? _ _ = _; exact (Below.cell hb (p := ⟨w.heap.size, 0, none⟩) (by show w.heap.size < W.heap.size; have := Hs0.out; omega)).trans hc0) (fun hHeld => ?_)
        clear hK K
        try simp only [Act.put, List.setIfInBounds_toArray, List.set_cons_zero, List.set_cons_succ]
        refine wpAnyH_ready (rs := [5, 7]) (by kernel_rfl) (by simp) ?_
        refine AllReadyH.cons rfl (fun K hK => ?r5_5) (AllReadyH.cons rfl (fun K hK => ?r5_7) (AllReadyH.nil))
        case r5_5 =>
          go_simp
          ((with_reducible refine (HMk3.out _ B1_6.out).mono ?_); rintro e v5_5 ⟨rfl, hBn⟩)
          have B5_5 := Lib.hid (B1_6.out.trans (hBn.mono B1_6.out.size))
          have K5_5_7 := Lib.hid (K1_6_7.out.below hBn (BlkIs.lt K1_6_7.out))
          clear hBn
          refine hK _ _ (by have hb := B5_5.out; show World.cell? _ _ = _; exact (Below.cell hb (p := ⟨w.heap.size, 0, none⟩) (by show w.heap.size < W.heap.size; have := Hs0.out; omega)).trans hc0) (fun hHeld => ?_)
          clear hK K
          try simp only [Act.put, List.setIfInBounds_toArray, List.set_cons_zero, List.set_cons_succ]
          refine wpAnyH_ready (rs := [7]) (by kernel_rfl) (by simp) ?_
          refine AllReadyH.cons rfl (fun K hK => ?r6_7) (AllReadyH.nil)
          case r6_7 =>
            go_simp
            obtain ⟨v6_7, hv6_7⟩ : ∃ v6_7, v6_7 = v5_5.alloc (.cells Z 71) := ⟨_, rfl⟩
            have hnew := BlkIs.new v5_5 71 Z
            have hBn : Below v5_5.heap.size v5_5 (v5_5.alloc (.cells Z 71)) := (Below.refl _ _).alloc (Nat.le_refl _) _
            rw [← hv6_7] at hnew hBn ⊢
            have B6_7 := Lib.hid (B5_5.out.trans (hBn.mono B5_5.out.size))
            have K6_7_7 := Lib.hid (K5_5_7.out.below hBn (BlkIs.lt K5_5_7.out))
            have hne : g7 ≠ v5_5.heap.size := by have := BlkIs.lt K5_5_7.out; omega
            have K6_7_8 := Lib.hid hnew
            have hge8 : W.heap.size ≤ v5_5.heap.size := B5_5.out.size
            obtain ⟨g8, hg8⟩ : ∃ g, g = v5_5.heap.size := ⟨_, rfl⟩
            rw [← hg8] at K6_7_8 hge8 ⊢
            rw [← hg8] at hne
            clear hnew hBn hv6_7 hg8
            refine hK _ _ (by have hb := B6_7.out; show World.cell? _ _ = _; exact (Below.cell hb (p := ⟨w.heap.size, 0, none⟩) (by show w.heap.size < W.heap.size; have := Hs0.out; omega)).trans hc0) (fun hHeld => ?_)
            clear hK K
            try simp only [Act.put, List.setIfInBounds_toArray, List.set_cons_zero, List.set_cons_succ]
            have hne' : g7 ≠ g8 := by first | exact hne | exact Ne.symm hne
            refine wpAnyH_ready (rs := [8]) (by kernel_rfl) (by simp) ?_
            refine AllReadyH.cons rfl (fun K hK => ?_) AllReadyH.nil
            refine step_of rfl (wp_store_row 71 (.tmp 7) (.tmp 18) rfl g7 T7 rfl rfl Z.toList 71 K6_7_7.out Hi7.out HZ7.out H17.out ?_)
            have a7 := Lib.hid (K6_7_7.out.row T7)
            have a8 := Lib.hid (K6_7_8.out.kept (grownBy_setRow v6_7 g7 T7) (fun e => by injection e with e; exact hne' e.symm))
            have ab := Lib.hid (B6_7.out.grown (grownBy_setRow v6_7 g7 T7) B6_7.out.size (fun j e => by injection e with e; omega))
            obtain ⟨x7, hx7⟩ : ∃ x7, x7 = v6_7.setRow g7 T7 := ⟨_, rfl⟩
            rw [← hx7] at a7 a8 ab ⊢
            clear hx7
            refine hK _ _ (by have hb := ab.out; show World.cell? _ _ = _; exact (Below.cell hb (p := ⟨w.heap.size, 0, none⟩) (by show w.heap.size < W.heap.size; have := Hs0.out; omega)).trans hc0) (fun hHeld => ?_)
            clear hK K
            try simp only [Act.put, List.setIfInBounds_toArray, List.set_cons_zero, List.set_cons_succ]
            refine wpAnyH_ready (rs := [9]) (by kernel_rfl) (by simp) ?_
            refine AllReadyH.cons rfl (fun K hK => ?_) AllReadyH.nil
            refine step_of rfl (wp_store_row 71 (.tmp 8) (.tmp 21) rfl g8 T8 rfl rfl Z.toList 71 a8.out Hi8.out HZ8.out H18.out ?_)
            have c7 := Lib.hid (a7.out.kept (grownBy_setRow x7 g8 T8) (fun e => by injection e with e; exact hne' e))
            have c8 := Lib.hid (a8.out.row T8)
            have cb := Lib.hid (ab.out.grown (grownBy_setRow x7 g8 T8) ab.out.size (fun j e => by injection e with e; omega))
            refine hK _ _ (by have hb := cb.out; show World.cell? _ _ = _; exact (Below.cell hb (p := ⟨w.heap.size, 0, none⟩) (by show w.heap.size < W.heap.size; have := Hs0.out; omega)).trans hc0) (fun hHeld => ?_)
            clear hK K
            try simp only [Act.put, List.setIfInBounds_toArray, List.set_cons_zero, List.set_cons_succ]
            refine wpAnyH_done (by kernel_rfl) ?_ _
            exact ⟨rfl, g7, g8, rfl, hne', hge7, hge8, by unfold Marks; have := c7.out; rw [show T7.toList = marksV m7 from by rw [HT7.out]] at this; exact this, by unfold Marks; have := c8.out; rw [show T8.toList = marksV m8 from by rw [HT8.out]] at this; exact this, cb.out⟩
        case r5_7 =>
          go_simp
          obtain ⟨v5_7, hv5_7⟩ : ∃ v5_7, v5_7 = v1_6.alloc (.cells Z 71) := ⟨_, rfl⟩
          have hnew := BlkIs.new v1_6 71 Z
          have hBn : Below v1_6.heap.size v1_6 (v1_6.alloc (.cells Z 71)) := (Below.refl _ _).alloc (Nat.le_refl _) _
          rw [← hv5_7] at hnew hBn ⊢
          have B5_7 := Lib.hid (B1_6.out.trans (hBn.mono B1_6.out.size))
          have K5_7_7 := Lib.hid (K1_6_7.out.below hBn (BlkIs.lt K1_6_7.out))
          have hne : g7 ≠ v1_6.heap.size := by have := BlkIs.lt K1_6_7.out; omega
          have K5_7_8 := Lib.hid hnew
          have hge8 : W.heap.size ≤ v1_6.heap.size := B1_6.out.size
          obtain ⟨g8, hg8⟩ : ∃ g, g = v1_6.heap.size := ⟨_, rfl⟩
          rw [← hg8] at K5_7_8 hge8 ⊢
          rw [← hg8] at hne
          clear hnew hBn hv5_7 hg8
          refine hK _ _ (by have hb := B5_7.out; show World.cell? _ _ = _; exact (Below.cell hb (p := ⟨w.heap.size, 0, none⟩) (by show w.heap.size < W.heap.size; have := Hs0.out; omega)).trans hc0) (fun hHeld => ?_)
          clear hK K
          try simp only [Act.put, List.setIfInBounds_toArray, List.set_cons_zero, List.set_cons_succ]
          refine wpAnyH_ready (rs := [5]) (by kernel_rfl) (by simp) ?_
          refine AllReadyH.cons rfl (fun K hK => ?r7_5) (AllReadyH.nil)
          case r7_5 =>
            go_simp
            ((with_reducible refine (HMk3.out _ B5_7.out).mono ?_); rintro e v7_5 ⟨rfl, hBn⟩)
            have B7_5 := Lib.hid (B5_7.out.trans (hBn.mono B5_7.out.size))
            have K7_5_7 := Lib.hid (K5_7_7.out.below hBn (BlkIs.lt K5_7_7.out))
            have K7_5_8 := Lib.hid (K5_7_8.out.below hBn (BlkIs.lt K5_7_8.out))
            clear hBn
            refine hK _ _ (by have hb := B7_5.out; show World.cell? _ _ = _; exact (Below.cell hb (p := ⟨w.heap.size, 0, none⟩) (by show w.heap.size < W.heap.size; have := Hs0.out; omega)).trans hc0) (fun hHeld => ?_)
            clear hK K
            try simp only [Act.put, List.setIfInBounds_toArray, List.set_cons_zero, List.set_cons_succ]
            have hne' : g7 ≠ g8 := by first | exact hne | exact Ne.symm hne
            refine wpAnyH_ready (rs := [8]) (by kernel_rfl) (by simp) ?_
            refine AllReadyH.cons rfl (fun K hK => ?_) AllReadyH.nil
            refine step_of rfl (wp_store_row 71 (.tmp 7) (.tmp 18) rfl g7 T7 rfl rfl Z.toList 71 K7_5_7.out Hi7.out HZ7.out H17.out ?_)
            have a7 := Lib.hid (K7_5_7.out.row T7)
            have a8 := Lib.hid (K7_5_8.out.kept (grownBy_setRow v7_5 g7 T7) (fun e => by injection e with e; exact hne' e.symm))
            have ab := Lib.hid (B7_5.out.grown (grownBy_setRow v7_5 g7 T7) B7_5.out.size (fun j e => by injection e with e; omega))
            obtain ⟨x7, hx7⟩ : ∃ x7, x7 = v7_5.setRow g7 T7 := ⟨_, rfl⟩
            rw [← hx7] at a7 a8 ab ⊢
            clear hx7
            refine hK _ _ (by have hb := ab.out; show World.cell? _ _ = _; exact (Below.cell hb (p := ⟨w.heap.size, 0, none⟩) (by show w.heap.size < W.heap.size; have := Hs0.out; omega)).trans hc0) (fun hHeld => ?_)
            clear hK K
            try simp only [Act.put, List.setIfInBounds_toArray, List.set_cons_zero, List.set_cons_succ]
            refine wpAnyH_ready (rs := [9]) (by kernel_rfl) (by simp) ?_
            refine AllReadyH.cons rfl (fun K hK => ?_) AllReadyH.nil
            refine step_of rfl (wp_store_row 71 (.tmp 8) (.tmp 21) rfl g8 T8 rfl rfl Z.toList 71 a8.out Hi8.out HZ8.out H18.out ?_)
            have c7 := Lib.hid (a7.out.kept (grownBy_setRow x7 g8 T8) (fun e => by injection e with e; exact hne' e))
            have c8 := Lib.hid (a8.out.row T8)
            have cb := Lib.hid (ab.out.grown (grownBy_setRow x7 g8 T8) ab.out.size (fun j e => by injection e with e; omega))
            refine hK _ _ (by have hb := cb.out; show World.cell? _ _ = _; exact (Below.cell hb (p := ⟨w.heap.size, 0, none⟩) (by show w.heap.size < W.heap.size; have := Hs0.out; omega)).trans hc0) (fun hHeld => ?_)
            clear hK K
            try simp only [Act.put, List.setIfInBounds_toArray, List.set_cons_zero, List.set_cons_succ]
            refine wpAnyH_done (by kernel_rfl) ?_ _
            exact ⟨rfl, g7, g8, rfl, hne', hge7, hge8, by unfold Marks; have := c7.out; rw [show T7.toList = marksV m7 from by rw [HT7.out]] at this; exact this, by unfold Marks; have := c8.out; rw [show T8.toList = marksV m8 from by rw [HT8.out]] at this; exact this, cb.out⟩
      case r1_7 =>
        go_simp
        obtain ⟨v1_7, hv1_7⟩ : ∃ v1_7, v1_7 = v0_2.alloc (.cells Z 71) := ⟨_, rfl⟩
        have hnew := BlkIs.new v0_2 71 Z
        have hBn : Below v0_2.heap.size v0_2 (v0_2.alloc (.cells Z 71)) := (Below.refl _ _).alloc (Nat.le_refl _) _
        rw [← hv1_7] at hnew hBn ⊢
        have B1_7 := Lib.hid (B0_2.out.trans (hBn.mono B0_2.out.size))
        have K1_7_8 := Lib.hid hnew
        have hge8 : W.heap.size ≤ v0_2.heap.size := B0_2.out.size
        obtain ⟨g8, hg8⟩ : ∃ g, g = v0_2.heap.size := ⟨_, rfl⟩
        rw [← hg8] at K1_7_8 hge8 ⊢
        clear hnew hBn hv1_7 hg8
        refine hK _ _ (by have hb := B1_7.out; show World.cell? _ _ = _; exact (Below.cell hb (p := ⟨w.heap.size, 0, none⟩) (by show w.heap.size < W.heap.size; have := Hs0.out; omega)).trans hc0) (fun hHeld => ?_)
        clear hK K
        try simp only [Act.put, List.setIfInBounds_toArray, List.set_cons_zero, List.set_cons_succ]
        refine wpAnyH_ready (rs := [5, 6]) (by kernel_rfl) (by simp) ?_
        refine AllReadyH.cons rfl (fun K hK => ?r8_5) (AllReadyH.cons rfl (fun K hK => ?r8_6) (AllReadyH.nil))
        case r8_5 =>
          go_simp
          ((with_reducible refine (HMk3.out _ B1_7.out).mono ?_); rintro e v8_5 ⟨rfl, hBn⟩)
          have B8_5 := Lib.hid (B1_7.out.trans (hBn.mono B1_7.out.size))
          have K8_5_8 := Lib.hid (K1_7_8.out.below hBn (BlkIs.lt K1_7_8.out))
          clear hBn
          refine hK _ _ (by have hb := B8_5.out; show World.cell? _ _ = _; exact (Below.cell hb (p := ⟨w.heap.size, 0, none⟩) (by show w.heap.size < W.heap.size; have := Hs0.out; omega)).trans hc0) (fun hHeld => ?_)
          clear hK K
          try simp only [Act.put, List.setIfInBounds_toArray, List.set_cons_zero, List.set_cons_succ]
          refine wpAnyH_ready (rs := [6]) (by kernel_rfl) (by simp) ?_
          refine AllReadyH.cons rfl (fun K hK => ?r9_6) (AllReadyH.nil)
          case r9_6 =>
            go_simp
            obtain ⟨v9_6, hv9_6⟩ : ∃ v9_6, v9_6 = v8_5.alloc (.cells Z 71) := ⟨_, rfl⟩
            have hnew := BlkIs.new v8_5 71 Z
            have hBn : Below v8_5.heap.size v8_5 (v8_5.alloc (.cells Z 71)) := (Below.refl _ _).alloc (Nat.le_refl _) _
            rw [← hv9_6] at hnew hBn ⊢
            have B9_6 := Lib.hid (B8_5.out.trans (hBn.mono B8_5.out.size))
            have K9_6_8 := Lib.hid (K8_5_8.out.below hBn (BlkIs.lt K8_5_8.out))
            have hne : g8 ≠ v8_5.heap.size := by have := BlkIs.lt K8_5_8.out; omega
            have K9_6_7 := Lib.hid hnew
            have hge7 : W.heap.size ≤ v8_5.heap.size := B8_5.out.size
            obtain ⟨g7, hg7⟩ : ∃ g, g = v8_5.heap.size := ⟨_, rfl⟩
            rw [← hg7] at K9_6_7 hge7 ⊢
            rw [← hg7] at hne
            clear hnew hBn hv9_6 hg7
            refine hK _ _ (by have hb := B9_6.out; show World.cell? _ _ = _; exact (Below.cell hb (p := ⟨w.heap.size, 0, none⟩) (by show w.heap.size < W.heap.size; have := Hs0.out; omega)).trans hc0) (fun hHeld => ?_)
            clear hK K
            try simp only [Act.put, List.setIfInBounds_toArray, List.set_cons_zero, List.set_cons_succ]
            have hne' : g7 ≠ g8 := by first | exact hne | exact Ne.symm hne
            refine wpAnyH_ready (rs := [8]) (by kernel_rfl) (by simp) ?_
            refine AllReadyH.cons rfl (fun K hK => ?_) AllReadyH.nil
            refine step_of rfl (wp_store_row 71 (.tmp 7) (.tmp 18) rfl g7 T7 rfl rfl Z.toList 71 K9_6_7.out Hi7.out HZ7.out H17.out ?_)
            have a7 := Lib.hid (K9_6_7.out.row T7)
            have a8 := Lib.hid (K9_6_8.out.kept (grownBy_setRow v9_6 g7 T7) (fun e => by injection e with e; exact hne' e.symm))
            have ab := Lib.hid (B9_6.out.grown (grownBy_setRow v9_6 g7 T7) B9_6.out.size (fun j e => by injection e with e; omega))
            obtain ⟨x7, hx7⟩ : ∃ x7, x7 = v9_6.setRow g7 T7 := ⟨_, rfl⟩
            rw [← hx7] at a7 a8 ab ⊢
            clear hx7
            refine hK _ _ (by have hb := ab.out; show World.cell? _ _ = _; exact (Below.cell hb (p := ⟨w.heap.size, 0, none⟩) (by show w.heap.size < W.heap.size; have := Hs0.out; omega)).trans hc0) (fun hHeld => ?_)
            clear hK K
            try simp only [Act.put, List.setIfInBounds_toArray, List.set_cons_zero, List.set_cons_succ]
            refine wpAnyH_ready (rs := [9]) (by kernel_rfl) (by simp) ?_
            refine AllReadyH.cons rfl (fun K hK => ?_) AllReadyH.nil
            refine step_of rfl (wp_store_row 71 (.tmp 8) (.tmp 21) rfl g8 T8 rfl rfl Z.toList 71 a8.out Hi8.out HZ8.out H18.out ?_)
            have c7 := Lib.hid (a7.out.kept (grownBy_setRow x7 g8 T8) (fun e => by injection e with e; exact hne' e))
            have c8 := Lib.hid (a8.out.row T8)
            have cb := Lib.hid (ab.out.grown (grownBy_setRow x7 g8 T8) ab.out.size (fun j e => by injection e with e; omega))
            refine hK _ _ (by have hb := cb.out; show World.cell? _ _ = _; exact (Below.cell hb (p := ⟨w.heap.size, 0, none⟩) (by show w.heap.size < W.heap.size; have := Hs0.out; omega)).trans hc0) (fun hHeld => ?_)
            clear hK K
            try simp only [Act.put, List.setIfInBounds_toArray, List.set_cons_zero, List.set_cons_succ]
            refine wpAnyH_done (by kernel_rfl) ?_ _
            exact ⟨rfl, g7, g8, rfl, hne', hge7, hge8, by unfold Marks; have := c7.out; rw [show T7.toList = marksV m7 from by rw [HT7.out]] at this; exact this, by unfold Marks; have := c8.out; rw [show T8.toList = marksV m8 from by rw [HT8.out]] at this; exact this, cb.out⟩
        case r8_6 =>
          go_simp
          obtain ⟨v8_6, hv8_6⟩ : ∃ v8_6, v8_6 = v1_7.alloc (.cells Z 71) := ⟨_, rfl⟩
          have hnew := BlkIs.new v1_7 71 Z
          have hBn : Below v1_7.heap.size v1_7 (v1_7.alloc (.cells Z 71)) := (Below.refl _ _).alloc (Nat.le_refl _) _
          rw [← hv8_6] at hnew hBn ⊢
          have B8_6 := Lib.hid (B1_7.out.trans (hBn.mono B1_7.out.size))
          have K8_6_8 := Lib.hid (K1_7_8.out.below hBn (BlkIs.lt K1_7_8.out))
          have hne : g8 ≠ v1_7.heap.size := by have := BlkIs.lt K1_7_8.out; omega
          have K8_6_7 := Lib.hid hnew
          have hge7 : W.heap.size ≤ v1_7.heap.size := B1_7.out.size
          obtain ⟨g7, hg7⟩ : ∃ g, g = v1_7.heap.size := ⟨_, rfl⟩
          rw [← hg7] at K8_6_7 hge7 ⊢
          rw [← hg7] at hne
          clear hnew hBn hv8_6 hg7
          refine hK _ _ (by have hb := B8_6.out; show World.cell? _ _ = _; exact (Below.cell hb (p := ⟨w.heap.size, 0, none⟩) (by show w.heap.size < W.heap.size; have := Hs0.out; omega)).trans hc0) (fun hHeld => ?_)
          clear hK K
          try simp only [Act.put, List.setIfInBounds_toArray, List.set_cons_zero, List.set_cons_succ]
          refine wpAnyH_ready (rs := [5]) (by kernel_rfl) (by simp) ?_
          refine AllReadyH.cons rfl (fun K hK => ?r10_5) (AllReadyH.nil)
          case r10_5 =>
            go_simp
            ((with_reducible refine (HMk3.out _ B8_6.out).mono ?_); rintro e v10_5 ⟨rfl, hBn⟩)
            have B10_5 := Lib.hid (B8_6.out.trans (hBn.mono B8_6.out.size))
            have K10_5_8 := Lib.hid (K8_6_8.out.below hBn (BlkIs.lt K8_6_8.out))
            have K10_5_7 := Lib.hid (K8_6_7.out.below hBn (BlkIs.lt K8_6_7.out))
            clear hBn
            refine hK _ _ (by have hb := B10_5.out; show World.cell? _ _ = _; exact (Below.cell hb (p := ⟨w.heap.size, 0, none⟩) (by show w.heap.size < W.heap.size; have := Hs0.out; omega)).trans hc0) (fun hHeld => ?_)
            clear hK K
            try simp only [Act.put, List.setIfInBounds_toArray, List.set_cons_zero, List.set_cons_succ]
            have hne' : g7 ≠ g8 := by first | exact hne | exact Ne.symm hne
            refine wpAnyH_ready (rs := [8]) (by kernel_rfl) (by simp) ?_
            refine AllReadyH.cons rfl (fun K hK => ?_) AllReadyH.nil
            refine step_of rfl (wp_store_row 71 (.tmp 7) (.tmp 18) rfl g7 T7 rfl rfl Z.toList 71 K10_5_7.out Hi7.out HZ7.out H17.out ?_)
            have a7 := Lib.hid (K10_5_7.out.row T7)
            have a8 := Lib.hid (K10_5_8.out.kept (grownBy_setRow v10_5 g7 T7) (fun e => by injection e with e; exact hne' e.symm))
            have ab := Lib.hid (B10_5.out.grown (grownBy_setRow v10_5 g7 T7) B10_5.out.size (fun j e => by injection e with e; omega))
            obtain ⟨x7, hx7⟩ : ∃ x7, x7 = v10_5.setRow g7 T7 := ⟨_, rfl⟩
            rw [← hx7] at a7 a8 ab ⊢
            clear hx7
            refine hK _ _ (by have hb := ab.out; show World.cell? _ _ = _; exact (Below.cell hb (p := ⟨w.heap.size, 0, none⟩) (by show w.heap.size < W.heap.size; have := Hs0.out; omega)).trans hc0) (fun hHeld => ?_)
            clear hK K
            try simp only [Act.put, List.setIfInBounds_toArray, List.set_cons_zero, List.set_cons_succ]
            refine wpAnyH_ready (rs := [9]) (by kernel_rfl) (by simp) ?_
            refine AllReadyH.cons rfl (fun K hK => ?_) AllReadyH.nil
            refine step_of rfl (wp_store_row 71 (.tmp 8) (.tmp 21) rfl g8 T8 rfl rfl Z.toList 71 a8.out Hi8.out HZ8.out H18.out ?_)
            have c7 := Lib.hid (a7.out.kept (grownBy_setRow x7 g8 T8) (fun e => by injection e with e; exact hne' e))
            have c8 := Lib.hid (a8.out.row T8)
            have cb := Lib.hid (ab.out.grown (grownBy_setRow x7 g8 T8) ab.out.size (fun j e => by injection e with e; omega))
            refine hK _ _ (by have hb := cb.out; show World.cell? _ _ = _; exact (Below.cell hb (p := ⟨w.heap.size, 0, none⟩) (by show w.heap.size < W.heap.size; have := Hs0.out; omega)).trans hc0) (fun hHeld => ?_)
            clear hK K
            try simp only [Act.put, List.setIfInBounds_toArray, List.set_cons_zero, List.set_cons_succ]
            refine wpAnyH_done (by kernel_rfl) ?_ _
            exact ⟨rfl, g7, g8, rfl, hne', hge7, hge8, by unfold Marks; have := c7.out; rw [show T7.toList = marksV m7 from by rw [HT7.out]] at this; exact this, by unfold Marks; have := c8.out; rw [show T8.toList = marksV m8 from by rw [HT8.out]] at this; exact this, cb.out⟩
    case r0_6 =>
      go_simp
      obtain ⟨v0_6, hv0_6⟩ : ∃ v0_6, v0_6 = W0.alloc (.cells Z 71) := ⟨_, rfl⟩
      have hnew := BlkIs.new W0 71 Z
      have hBn : Below W0.heap.size W0 (W0.alloc (.cells Z 71)) := (Below.refl _ _).alloc (Nat.le_refl _) _
      rw [← hv0_6] at hnew hBn ⊢
      have B0_6 := Lib.hid (B0.out.trans (hBn.mono B0.out.size))
      have K0_6_7 := Lib.hid hnew
      have hge7 : W.heap.size ≤ W0.heap.size := B0.out.size
      obtain ⟨g7, hg7⟩ : ∃ g, g = W0.heap.size := ⟨_, rfl⟩
      rw [← hg7] at K0_6_7 hge7 ⊢
      clear hnew hBn hv0_6 hg7
      refine hK _ _ (by have hb := B0_6.out; show World.cell? _ _ = _; exact (Below.cell hb (p := ⟨w.heap.size, 0, none⟩) (by show w.heap.size < W.heap.size; have := Hs0.out; omega)).trans hc0) (fun hHeld => ?_)
      clear hK K
      try simp only [Act.put, List.setIfInBounds_toArray, List.set_cons_zero, List.set_cons_succ]
      refine wpAnyH_ready (rs := [2, 7]) (by kernel_rfl) (by simp) ?_
      refine AllReadyH.cons rfl (fun K hK => ?r11_2) (AllReadyH.cons rfl (fun K hK => ?r11_7) (AllReadyH.nil))
      case r11_2 =>
        go_simp
        ((with_reducible refine (HMk.out _ B0_6.out).mono ?_); rintro e v11_2 ⟨rfl, hBn⟩)
        have B11_2 := Lib.hid (B0_6.out.trans (hBn.mono B0_6.out.size))
        have K11_2_7 := Lib.hid (K0_6_7.out.below hBn (BlkIs.lt K0_6_7.out))
        clear hBn
        refine hK _ _ (by have hb := B11_2.out; show World.cell? _ _ = _; exact (Below.cell hb (p := ⟨w.heap.size, 0, none⟩) (by show w.heap.size < W.heap.size; have := Hs0.out; omega)).trans hc0) (fun hHeld => ?_)
        clear hK K
        try simp only [Act.put, List.setIfInBounds_toArray, List.set_cons_zero, List.set_cons_succ]
        refine wpAnyH_ready (rs := [5, 7]) (by kernel_rfl) (by simp) ?_
        refine AllReadyH.cons rfl (fun K hK => ?r12_5) (AllReadyH.cons rfl (fun K hK => ?r12_7) (AllReadyH.nil))
        case r12_5 =>
          go_simp
          ((with_reducible refine (HMk3.out _ B11_2.out).mono ?_); rintro e v12_5 ⟨rfl, hBn⟩)
          have B12_5 := Lib.hid (B11_2.out.trans (hBn.mono B11_2.out.size))
          have K12_5_7 := Lib.hid (K11_2_7.out.below hBn (BlkIs.lt K11_2_7.out))
          clear hBn
          refine hK _ _ (by have hb := B12_5.out; show World.cell? _ _ = _; exact (Below.cell hb (p := ⟨w.heap.size, 0, none⟩) (by show w.heap.size < W.heap.size; have := Hs0.out; omega)).trans hc0) (fun hHeld => ?_)
          clear hK K
          try simp only [Act.put, List.setIfInBounds_toArray, List.set_cons_zero, List.set_cons_succ]
          refine wpAnyH_ready (rs := [7]) (by kernel_rfl) (by simp) ?_
          refine AllReadyH.cons rfl (fun K hK => ?r13_7) (AllReadyH.nil)
          case r13_7 =>
            go_simp
            obtain ⟨v13_7, hv13_7⟩ : ∃ v13_7, v13_7 = v12_5.alloc (.cells Z 71) := ⟨_, rfl⟩
            have hnew := BlkIs.new v12_5 71 Z
            have hBn : Below v12_5.heap.size v12_5 (v12_5.alloc (.cells Z 71)) := (Below.refl _ _).alloc (Nat.le_refl _) _
            rw [← hv13_7] at hnew hBn ⊢
            have B13_7 := Lib.hid (B12_5.out.trans (hBn.mono B12_5.out.size))
            have K13_7_7 := Lib.hid (K12_5_7.out.below hBn (BlkIs.lt K12_5_7.out))
            have hne : g7 ≠ v12_5.heap.size := by have := BlkIs.lt K12_5_7.out; omega
            have K13_7_8 := Lib.hid hnew
            have hge8 : W.heap.size ≤ v12_5.heap.size := B12_5.out.size
            obtain ⟨g8, hg8⟩ : ∃ g, g = v12_5.heap.size := ⟨_, rfl⟩
            rw [← hg8] at K13_7_8 hge8 ⊢
            rw [← hg8] at hne
            clear hnew hBn hv13_7 hg8
            refine hK _ _ (by have hb := B13_7.out; show World.cell? _ _ = _; exact (Below.cell hb (p := ⟨w.heap.size, 0, none⟩) (by show w.heap.size < W.heap.size; have := Hs0.out; omega)).trans hc0) (fun hHeld => ?_)
            clear hK K
            try simp only [Act.put, List.setIfInBounds_toArray, List.set_cons_zero, List.set_cons_succ]
            have hne' : g7 ≠ g8 := by first | exact hne | exact Ne.symm hne
            refine wpAnyH_ready (rs := [8]) (by kernel_rfl) (by simp) ?_
            refine AllReadyH.cons rfl (fun K hK => ?_) AllReadyH.nil
            refine step_of rfl (wp_store_row 71 (.tmp 7) (.tmp 18) rfl g7 T7 rfl rfl Z.toList 71 K13_7_7.out Hi7.out HZ7.out H17.out ?_)
            have a7 := Lib.hid (K13_7_7.out.row T7)
            have a8 := Lib.hid (K13_7_8.out.kept (grownBy_setRow v13_7 g7 T7) (fun e => by injection e with e; exact hne' e.symm))
            have ab := Lib.hid (B13_7.out.grown (grownBy_setRow v13_7 g7 T7) B13_7.out.size (fun j e => by injection e with e; omega))
            obtain ⟨x7, hx7⟩ : ∃ x7, x7 = v13_7.setRow g7 T7 := ⟨_, rfl⟩
            rw [← hx7] at a7 a8 ab ⊢
            clear hx7
            refine hK _ _ (by have hb := ab.out; show World.cell? _ _ = _; exact (Below.cell hb (p := ⟨w.heap.size, 0, none⟩) (by show w.heap.size < W.heap.size; have := Hs0.out; omega)).trans hc0) (fun hHeld => ?_)
            clear hK K
            try simp only [Act.put, List.setIfInBounds_toArray, List.set_cons_zero, List.set_cons_succ]
            refine wpAnyH_ready (rs := [9]) (by kernel_rfl) (by simp) ?_
            refine AllReadyH.cons rfl (fun K hK => ?_) AllReadyH.nil
            refine step_of rfl (wp_store_row 71 (.tmp 8) (.tmp 21) rfl g8 T8 rfl rfl Z.toList 71 a8.out Hi8.out HZ8.out H18.out ?_)
            have c7 := Lib.hid (a7.out.kept (grownBy_setRow x7 g8 T8) (fun e => by injection e with e; exact hne' e))
            have c8 := Lib.hid (a8.out.row T8)
            have cb := Lib.hid (ab.out.grown (grownBy_setRow x7 g8 T8) ab.out.size (fun j e => by injection e with e; omega))
            refine hK _ _ (by have hb := cb.out; show World.cell? _ _ = _; exact (Below.cell hb (p := ⟨w.heap.size, 0, none⟩) (by show w.heap.size < W.heap.size; have := Hs0.out; omega)).trans hc0) (fun hHeld => ?_)
            clear hK K
            try simp only [Act.put, List.setIfInBounds_toArray, List.set_cons_zero, List.set_cons_succ]
            refine wpAnyH_done (by kernel_rfl) ?_ _
            exact ⟨rfl, g7, g8, rfl, hne', hge7, hge8, by unfold Marks; have := c7.out; rw [show T7.toList = marksV m7 from by rw [HT7.out]] at this; exact this, by unfold Marks; have := c8.out; rw [show T8.toList = marksV m8 from by rw [HT8.out]] at this; exact this, cb.out⟩
        case r12_7 =>
          go_simp
          obtain ⟨v12_7, hv12_7⟩ : ∃ v12_7, v12_7 = v11_2.alloc (.cells Z 71) := ⟨_, rfl⟩
          have hnew := BlkIs.new v11_2 71 Z
          have hBn : Below v11_2.heap.size v11_2 (v11_2.alloc (.cells Z 71)) := (Below.refl _ _).alloc (Nat.le_refl _) _
          rw [← hv12_7] at hnew hBn ⊢
          have B12_7 := Lib.hid (B11_2.out.trans (hBn.mono B11_2.out.size))
          have K12_7_7 := Lib.hid (K11_2_7.out.below hBn (BlkIs.lt K11_2_7.out))
          have hne : g7 ≠ v11_2.heap.size := by have := BlkIs.lt K11_2_7.out; omega
          have K12_7_8 := Lib.hid hnew
          have hge8 : W.heap.size ≤ v11_2.heap.size := B11_2.out.size
          obtain ⟨g8, hg8⟩ : ∃ g, g = v11_2.heap.size := ⟨_, rfl⟩
          rw [← hg8] at K12_7_8 hge8 ⊢
          rw [← hg8] at hne
          clear hnew hBn hv12_7 hg8
          refine hK _ _ (by have hb := B12_7.out; show World.cell? _ _ = _; exact (Below.cell hb (p := ⟨w.heap.size, 0, none⟩) (by show w.heap.size < W.heap.size; have := Hs0.out; omega)).trans hc0) (fun hHeld => ?_)
          clear hK K
          try simp only [Act.put, List.setIfInBounds_toArray, List.set_cons_zero, List.set_cons_succ]
          refine wpAnyH_ready (rs := [5]) (by kernel_rfl) (by simp) ?_
          refine AllReadyH.cons rfl (fun K hK => ?r14_5) (AllReadyH.nil)
          case r14_5 =>
            go_simp
            ((with_reducible refine (HMk3.out _ B12_7.out).mono ?_); rintro e v14_5 ⟨rfl, hBn⟩)
            have B14_5 := Lib.hid (B12_7.out.trans (hBn.mono B12_7.out.size))
            have K14_5_7 := Lib.hid (K12_7_7.out.below hBn (BlkIs.lt K12_7_7.out))
            have K14_5_8 := Lib.hid (K12_7_8.out.below hBn (BlkIs.lt K12_7_8.out))
            clear hBn
            refine hK _ _ (by have hb := B14_5.out; show World.cell? _ _ = _; exact (Below.cell hb (p := ⟨w.heap.size, 0, none⟩) (by show w.heap.size < W.heap.size; have := Hs0.out; omega)).trans hc0) (fun hHeld => ?_)
            clear hK K
            try simp only [Act.put, List.setIfInBounds_toArray, List.set_cons_zero, List.set_cons_succ]
            have hne' : g7 ≠ g8 := by first | exact hne | exact Ne.symm hne
            refine wpAnyH_ready (rs := [8]) (by kernel_rfl) (by simp) ?_
            refine AllReadyH.cons rfl (fun K hK => ?_) AllReadyH.nil
            refine step_of rfl (wp_store_row 71 (.tmp 7) (.tmp 18) rfl g7 T7 rfl rfl Z.toList 71 K14_5_7.out Hi7.out HZ7.out H17.out ?_)
            have a7 := Lib.hid (K14_5_7.out.row T7)
            have a8 := Lib.hid (K14_5_8.out.kept (grownBy_setRow v14_5 g7 T7) (fun e => by injection e with e; exact hne' e.symm))
            have ab := Lib.hid (B14_5.out.grown (grownBy_setRow v14_5 g7 T7) B14_5.out.size (fun j e => by injection e with e; omega))
            obtain ⟨x7, hx7⟩ : ∃ x7, x7 = v14_5.setRow g7 T7 := ⟨_, rfl⟩
            rw [← hx7] at a7 a8 ab ⊢
            clear hx7
            refine hK _ _ (by have hb := ab.out; show World.cell? _ _ = _; exact (Below.cell hb (p := ⟨w.heap.size, 0, none⟩) (by show w.heap.size < W.heap.size; have := Hs0.out; omega)).trans hc0) (fun hHeld => ?_)
            clear hK K
            try simp only [Act.put, List.setIfInBounds_toArray, List.set_cons_zero, List.set_cons_succ]
            refine wpAnyH_ready (rs := [9]) (by kernel_rfl) (by simp) ?_
            refine AllReadyH.cons rfl (fun K hK => ?_) AllReadyH.nil
            refine step_of rfl (wp_store_row 71 (.tmp 8) (.tmp 21) rfl g8 T8 rfl rfl Z.toList 71 a8.out Hi8.out HZ8.out H18.out ?_)
            have c7 := Lib.hid (a7.out.kept (grownBy_setRow x7 g8 T8) (fun e => by injection e with e; exact hne' e))
            have c8 := Lib.hid (a8.out.row T8)
            have cb := Lib.hid (ab.out.grown (grownBy_setRow x7 g8 T8) ab.out.size (fun j e => by injection e with e; omega))
            refine hK _ _ (by have hb := cb.out; show World.cell? _ _ = _; exact (Below.cell hb (p := ⟨w.heap.size, 0, none⟩) (by show w.heap.size < W.heap.size; have := Hs0.out; omega)).trans hc0) (fun hHeld => ?_)
            clear hK K
            try simp only [Act.put, List.setIfInBounds_toArray, List.set_cons_zero, List.set_cons_succ]
            refine wpAnyH_done (by kernel_rfl) ?_ _
            exact ⟨rfl, g7, g8, rfl, hne', hge7, hge8, by unfold Marks; have := c7.out; rw [show T7.toList = marksV m7 from by rw [HT7.out]] at this; exact this, by unfold Marks; have := c8.out; rw [show T8.toList = marksV m8 from by rw [HT8.out]] at this; exact this, cb.out⟩
      case r11_7 =>
        go_simp
        obtain ⟨v11_7, hv11_7⟩ : ∃ v11_7, v11_7 = v0_6.alloc (.cells Z 71) := ⟨_, rfl⟩
        have hnew := BlkIs.new v0_6 71 Z
        have hBn : Below v0_6.heap.size v0_6 (v0_6.alloc (.cells Z 71)) := (Below.refl _ _).alloc (Nat.le_refl _) _
        rw [← hv11_7] at hnew hBn ⊢
        have B11_7 := Lib.hid (B0_6.out.trans (hBn.mono B0_6.out.size))
        have K11_7_7 := Lib.hid (K0_6_7.out.below hBn (BlkIs.lt K0_6_7.out))
        have hne : g7 ≠ v0_6.heap.size := by have := BlkIs.lt K0_6_7.out; omega
        have K11_7_8 := Lib.hid hnew
        have hge8 : W.heap.size ≤ v0_6.heap.size := B0_6.out.size
        obtain ⟨g8, hg8⟩ : ∃ g, g = v0_6.heap.size := ⟨_, rfl⟩
        rw [← hg8] at K11_7_8 hge8 ⊢
        rw [← hg8] at hne
        clear hnew hBn hv11_7 hg8
        refine hK _ _ (by have hb := B11_7.out; show World.cell? _ _ = _; exact (Below.cell hb (p := ⟨w.heap.size, 0, none⟩) (by show w.heap.size < W.heap.size; have := Hs0.out; omega)).trans hc0) (fun hHeld => ?_)
        clear hK K
        try simp only [Act.put, List.setIfInBounds_toArray, List.set_cons_zero, List.set_cons_succ]
        refine wpAnyH_ready (rs := [2]) (by kernel_rfl) (by simp) ?_
        refine AllReadyH.cons rfl (fun K hK => ?r15_2) (AllReadyH.nil)
        case r15_2 =>
          go_simp
          ((with_reducible refine (HMk.out _ B11_7.out).mono ?_); rintro e v15_2 ⟨rfl, hBn⟩)
          have B15_2 := Lib.hid (B11_7.out.trans (hBn.mono B11_7.out.size))
          have K15_2_7 := Lib.hid (K11_7_7.out.below hBn (BlkIs.lt K11_7_7.out))
          have K15_2_8 := Lib.hid (K11_7_8.out.below hBn (BlkIs.lt K11_7_8.out))
          clear hBn
          refine hK _ _ (by have hb := B15_2.out; show World.cell? _ _ = _; exact (Below.cell hb (p := ⟨w.heap.size, 0, none⟩) (by show w.heap.size < W.heap.size; have := Hs0.out; omega)).trans hc0) (fun hHeld => ?_)
          clear hK K
          try simp only [Act.put, List.setIfInBounds_toArray, List.set_cons_zero, List.set_cons_succ]
          refine wpAnyH_ready (rs := [5]) (by kernel_rfl) (by simp) ?_
          refine AllReadyH.cons rfl (fun K hK => ?r16_5) (AllReadyH.nil)
          case r16_5 =>
            go_simp
            ((with_reducible refine (HMk3.out _ B15_2.out).mono ?_); rintro e v16_5 ⟨rfl, hBn⟩)
            have B16_5 := Lib.hid (B15_2.out.trans (hBn.mono B15_2.out.size))
            have K16_5_7 := Lib.hid (K15_2_7.out.below hBn (BlkIs.lt K15_2_7.out))
            have K16_5_8 := Lib.hid (K15_2_8.out.below hBn (BlkIs.lt K15_2_8.out))
            clear hBn
            refine hK _ _ (by have hb := B16_5.out; show World.cell? _ _ = _; exact (Below.cell hb (p := ⟨w.heap.size, 0, none⟩) (by show w.heap.size < W.heap.size; have := Hs0.out; omega)).trans hc0) (fun hHeld => ?_)
            clear hK K
            try simp only [Act.put, List.setIfInBounds_toArray, List.set_cons_zero, List.set_cons_succ]
            have hne' : g7 ≠ g8 := by first | exact hne | exact Ne.symm hne
            refine wpAnyH_ready (rs := [8]) (by kernel_rfl) (by simp) ?_
            refine AllReadyH.cons rfl (fun K hK => ?_) AllReadyH.nil
            refine step_of rfl (wp_store_row 71 (.tmp 7) (.tmp 18) rfl g7 T7 rfl rfl Z.toList 71 K16_5_7.out Hi7.out HZ7.out H17.out ?_)
            have a7 := Lib.hid (K16_5_7.out.row T7)
            have a8 := Lib.hid (K16_5_8.out.kept (grownBy_setRow v16_5 g7 T7) (fun e => by injection e with e; exact hne' e.symm))
            have ab := Lib.hid (B16_5.out.grown (grownBy_setRow v16_5 g7 T7) B16_5.out.size (fun j e => by injection e with e; omega))
            obtain ⟨x7, hx7⟩ : ∃ x7, x7 = v16_5.setRow g7 T7 := ⟨_, rfl⟩
            rw [← hx7] at a7 a8 ab ⊢
            clear hx7
            refine hK _ _ (by have hb := ab.out; show World.cell? _ _ = _; exact (Below.cell hb (p := ⟨w.heap.size, 0, none⟩) (by show w.heap.size < W.heap.size; have := Hs0.out; omega)).trans hc0) (fun hHeld => ?_)
            clear hK K
            try simp only [Act.put, List.setIfInBounds_toArray, List.set_cons_zero, List.set_cons_succ]
            refine wpAnyH_ready (rs := [9]) (by kernel_rfl) (by simp) ?_
            refine AllReadyH.cons rfl (fun K hK => ?_) AllReadyH.nil
            refine step_of rfl (wp_store_row 71 (.tmp 8) (.tmp 21) rfl g8 T8 rfl rfl Z.toList 71 a8.out Hi8.out HZ8.out H18.out ?_)
            have c7 := Lib.hid (a7.out.kept (grownBy_setRow x7 g8 T8) (fun e => by injection e with e; exact hne' e))
            have c8 := Lib.hid (a8.out.row T8)
            have cb := Lib.hid (ab.out.grown (grownBy_setRow x7 g8 T8) ab.out.size (fun j e => by injection e with e; omega))
            refine hK _ _ (by have hb := cb.out; show World.cell? _ _ = _; exact (Below.cell hb (p := ⟨w.heap.size, 0, none⟩) (by show w.heap.size < W.heap.size; have := Hs0.out; omega)).trans hc0) (fun hHeld => ?_)
            clear hK K
            try simp only [Act.put, List.setIfInBounds_toArray, List.set_cons_zero, List.set_cons_succ]
            refine wpAnyH_done (by kernel_rfl) ?_ _
            exact ⟨rfl, g7, g8, rfl, hne', hge7, hge8, by unfold Marks; have := c7.out; rw [show T7.toList = marksV m7 from by rw [HT7.out]] at this; exact this, by unfold Marks; have := c8.out; rw [show T8.toList = marksV m8 from by rw [HT8.out]] at this; exact this, cb.out⟩
    case r0_7 =>
      go_simp
      obtain ⟨v0_7, hv0_7⟩ : ∃ v0_7, v0_7 = W0.alloc (.cells Z 71) := ⟨_, rfl⟩
      have hnew := BlkIs.new W0 71 Z
      have hBn : Below W0.heap.size W0 (W0.alloc (.cells Z 71)) := (Below.refl _ _).alloc (Nat.le_refl _) _
      rw [← hv0_7] at hnew hBn ⊢
      have B0_7 := Lib.hid (B0.out.trans (hBn.mono B0.out.size))
      have K0_7_8 := Lib.hid hnew
      have hge8 : W.heap.size ≤ W0.heap.size := B0.out.size
      obtain ⟨g8, hg8⟩ : ∃ g, g = W0.heap.size := ⟨_, rfl⟩
      rw [← hg8] at K0_7_8 hge8 ⊢
      clear hnew hBn hv0_7 hg8
      refine hK _ _ (by have hb := B0_7.out; show World.cell? _ _ = _; exact (Below.cell hb (p := ⟨w.heap.size, 0, none⟩) (by show w.heap.size < W.heap.size; have := Hs0.out; omega)).trans hc0) (fun hHeld => ?_)
      clear hK K
      try simp only [Act.put, List.setIfInBounds_toArray, List.set_cons_zero, List.set_cons_succ]
      refine wpAnyH_ready (rs := [2, 6]) (by kernel_rfl) (by simp) ?_
      refine AllReadyH.cons rfl (fun K hK => ?r17_2) (AllReadyH.cons rfl (fun K hK => ?r17_6) (AllReadyH.nil))
      case r17_2 =>
        go_simp
        ((with_reducible refine (HMk.out _ B0_7.out).mono ?_); rintro e v17_2 ⟨rfl, hBn⟩)
        have B17_2 := Lib.hid (B0_7.out.trans (hBn.mono B0_7.out.size))
        have K17_2_8 := Lib.hid (K0_7_8.out.below hBn (BlkIs.lt K0_7_8.out))
        clear hBn
        refine hK _ _ (by have hb := B17_2.out; show World.cell? _ _ = _; exact (Below.cell hb (p := ⟨w.heap.size, 0, none⟩) (by show w.heap.size < W.heap.size; have := Hs0.out; omega)).trans hc0) (fun hHeld => ?_)
        clear hK K
        try simp only [Act.put, List.setIfInBounds_toArray, List.set_cons_zero, List.set_cons_succ]
        refine wpAnyH_ready (rs := [5, 6]) (by kernel_rfl) (by simp) ?_
        refine AllReadyH.cons rfl (fun K hK => ?r18_5) (AllReadyH.cons rfl (fun K hK => ?r18_6) (AllReadyH.nil))
        case r18_5 =>
          go_simp
          ((with_reducible refine (HMk3.out _ B17_2.out).mono ?_); rintro e v18_5 ⟨rfl, hBn⟩)
          have B18_5 := Lib.hid (B17_2.out.trans (hBn.mono B17_2.out.size))
          have K18_5_8 := Lib.hid (K17_2_8.out.below hBn (BlkIs.lt K17_2_8.out))
          clear hBn
          refine hK _ _ (by have hb := B18_5.out; show World.cell? _ _ = _; exact (Below.cell hb (p := ⟨w.heap.size, 0, none⟩) (by show w.heap.size < W.heap.size; have := Hs0.out; omega)).trans hc0) (fun hHeld => ?_)
          clear hK K
          try simp only [Act.put, List.setIfInBounds_toArray, List.set_cons_zero, List.set_cons_succ]
          refine wpAnyH_ready (rs := [6]) (by kernel_rfl) (by simp) ?_
          refine AllReadyH.cons rfl (fun K hK => ?r19_6) (AllReadyH.nil)
          case r19_6 =>
            go_simp
            obtain ⟨v19_6, hv19_6⟩ : ∃ v19_6, v19_6 = v18_5.alloc (.cells Z 71) := ⟨_, rfl⟩
            have hnew := BlkIs.new v18_5 71 Z
            have hBn : Below v18_5.heap.size v18_5 (v18_5.alloc (.cells Z 71)) := (Below.refl _ _).alloc (Nat.le_refl _) _
            rw [← hv19_6] at hnew hBn ⊢
            have B19_6 := Lib.hid (B18_5.out.trans (hBn.mono B18_5.out.size))
            have K19_6_8 := Lib.hid (K18_5_8.out.below hBn (BlkIs.lt K18_5_8.out))
            have hne : g8 ≠ v18_5.heap.size := by have := BlkIs.lt K18_5_8.out; omega
            have K19_6_7 := Lib.hid hnew
            have hge7 : W.heap.size ≤ v18_5.heap.size := B18_5.out.size
            obtain ⟨g7, hg7⟩ : ∃ g, g = v18_5.heap.size := ⟨_, rfl⟩
            rw [← hg7] at K19_6_7 hge7 ⊢
            rw [← hg7] at hne
            clear hnew hBn hv19_6 hg7
            refine hK _ _ (by have hb := B19_6.out; show World.cell? _ _ = _; exact (Below.cell hb (p := ⟨w.heap.size, 0, none⟩) (by show w.heap.size < W.heap.size; have := Hs0.out; omega)).trans hc0) (fun hHeld => ?_)
            clear hK K
            try simp only [Act.put, List.setIfInBounds_toArray, List.set_cons_zero, List.set_cons_succ]
            have hne' : g7 ≠ g8 := by first | exact hne | exact Ne.symm hne
            refine wpAnyH_ready (rs := [8]) (by kernel_rfl) (by simp) ?_
            refine AllReadyH.cons rfl (fun K hK => ?_) AllReadyH.nil
            refine step_of rfl (wp_store_row 71 (.tmp 7) (.tmp 18) rfl g7 T7 rfl rfl Z.toList 71 K19_6_7.out Hi7.out HZ7.out H17.out ?_)
            have a7 := Lib.hid (K19_6_7.out.row T7)
            have a8 := Lib.hid (K19_6_8.out.kept (grownBy_setRow v19_6 g7 T7) (fun e => by injection e with e; exact hne' e.symm))
            have ab := Lib.hid (B19_6.out.grown (grownBy_setRow v19_6 g7 T7) B19_6.out.size (fun j e => by injection e with e; omega))
            obtain ⟨x7, hx7⟩ : ∃ x7, x7 = v19_6.setRow g7 T7 := ⟨_, rfl⟩
            rw [← hx7] at a7 a8 ab ⊢
            clear hx7
            refine hK _ _ (by have hb := ab.out; show World.cell? _ _ = _; exact (Below.cell hb (p := ⟨w.heap.size, 0, none⟩) (by show w.heap.size < W.heap.size; have := Hs0.out; omega)).trans hc0) (fun hHeld => ?_)
            clear hK K
            try simp only [Act.put, List.setIfInBounds_toArray, List.set_cons_zero, List.set_cons_succ]
            refine wpAnyH_ready (rs := [9]) (by kernel_rfl) (by simp) ?_
            refine AllReadyH.cons rfl (fun K hK => ?_) AllReadyH.nil
            refine step_of rfl (wp_store_row 71 (.tmp 8) (.tmp 21) rfl g8 T8 rfl rfl Z.toList 71 a8.out Hi8.out HZ8.out H18.out ?_)
            have c7 := Lib.hid (a7.out.kept (grownBy_setRow x7 g8 T8) (fun e => by injection e with e; exact hne' e))
            have c8 := Lib.hid (a8.out.row T8)
            have cb := Lib.hid (ab.out.grown (grownBy_setRow x7 g8 T8) ab.out.size (fun j e => by injection e with e; omega))
            refine hK _ _ (by have hb := cb.out; show World.cell? _ _ = _; exact (Below.cell hb (p := ⟨w.heap.size, 0, none⟩) (by show w.heap.size < W.heap.size; have := Hs0.out; omega)).trans hc0) (fun hHeld => ?_)
            clear hK K
            try simp only [Act.put, List.setIfInBounds_toArray, List.set_cons_zero, List.set_cons_succ]
            refine wpAnyH_done (by kernel_rfl) ?_ _
            exact ⟨rfl, g7, g8, rfl, hne', hge7, hge8, by unfold Marks; have := c7.out; rw [show T7.toList = marksV m7 from by rw [HT7.out]] at this; exact this, by unfold Marks; have := c8.out; rw [show T8.toList = marksV m8 from by rw [HT8.out]] at this; exact this, cb.out⟩
        case r18_6 =>
          go_simp
          obtain ⟨v18_6, hv18_6⟩ : ∃ v18_6, v18_6 = v17_2.alloc (.cells Z 71) := ⟨_, rfl⟩
          have hnew := BlkIs.new v17_2 71 Z
          have hBn : Below v17_2.heap.size v17_2 (v17_2.alloc (.cells Z 71)) := (Below.refl _ _).alloc (Nat.le_refl _) _
          rw [← hv18_6] at hnew hBn ⊢
          have B18_6 := Lib.hid (B17_2.out.trans (hBn.mono B17_2.out.size))
          have K18_6_8 := Lib.hid (K17_2_8.out.below hBn (BlkIs.lt K17_2_8.out))
          have hne : g8 ≠ v17_2.heap.size := by have := BlkIs.lt K17_2_8.out; omega
          have K18_6_7 := Lib.hid hnew
          have hge7 : W.heap.size ≤ v17_2.heap.size := B17_2.out.size
          obtain ⟨g7, hg7⟩ : ∃ g, g = v17_2.heap.size := ⟨_, rfl⟩
          rw [← hg7] at K18_6_7 hge7 ⊢
          rw [← hg7] at hne
          clear hnew hBn hv18_6 hg7
          refine hK _ _ (by have hb := B18_6.out; show World.cell? _ _ = _; exact (Below.cell hb (p := ⟨w.heap.size, 0, none⟩) (by show w.heap.size < W.heap.size; have := Hs0.out; omega)).trans hc0) (fun hHeld => ?_)
          clear hK K
          try simp only [Act.put, List.setIfInBounds_toArray, List.set_cons_zero, List.set_cons_succ]
          refine wpAnyH_ready (rs := [5]) (by kernel_rfl) (by simp) ?_
          refine AllReadyH.cons rfl (fun K hK => ?r20_5) (AllReadyH.nil)
          case r20_5 =>
            go_simp
            ((with_reducible refine (HMk3.out _ B18_6.out).mono ?_); rintro e v20_5 ⟨rfl, hBn⟩)
            have B20_5 := Lib.hid (B18_6.out.trans (hBn.mono B18_6.out.size))
            have K20_5_8 := Lib.hid (K18_6_8.out.below hBn (BlkIs.lt K18_6_8.out))
            have K20_5_7 := Lib.hid (K18_6_7.out.below hBn (BlkIs.lt K18_6_7.out))
            clear hBn
            refine hK _ _ (by have hb := B20_5.out; show World.cell? _ _ = _; exact (Below.cell hb (p := ⟨w.heap.size, 0, none⟩) (by show w.heap.size < W.heap.size; have := Hs0.out; omega)).trans hc0) (fun hHeld => ?_)
            clear hK K
            try simp only [Act.put, List.setIfInBounds_toArray, List.set_cons_zero, List.set_cons_succ]
            have hne' : g7 ≠ g8 := by first | exact hne | exact Ne.symm hne
            refine wpAnyH_ready (rs := [8]) (by kernel_rfl) (by simp) ?_
            refine AllReadyH.cons rfl (fun K hK => ?_) AllReadyH.nil
            refine step_of rfl (wp_store_row 71 (.tmp 7) (.tmp 18) rfl g7 T7 rfl rfl Z.toList 71 K20_5_7.out Hi7.out HZ7.out H17.out ?_)
            have a7 := Lib.hid (K20_5_7.out.row T7)
            have a8 := Lib.hid (K20_5_8.out.kept (grownBy_setRow v20_5 g7 T7) (fun e => by injection e with e; exact hne' e.symm))
            have ab := Lib.hid (B20_5.out.grown (grownBy_setRow v20_5 g7 T7) B20_5.out.size (fun j e => by injection e with e; omega))
            obtain ⟨x7, hx7⟩ : ∃ x7, x7 = v20_5.setRow g7 T7 := ⟨_, rfl⟩
            rw [← hx7] at a7 a8 ab ⊢
            clear hx7
            refine hK _ _ (by have hb := ab.out; show World.cell? _ _ = _; exact (Below.cell hb (p := ⟨w.heap.size, 0, none⟩) (by show w.heap.size < W.heap.size; have := Hs0.out; omega)).trans hc0) (fun hHeld => ?_)
            clear hK K
            try simp only [Act.put, List.setIfInBounds_toArray, List.set_cons_zero, List.set_cons_succ]
            refine wpAnyH_ready (rs := [9]) (by kernel_rfl) (by simp) ?_
            refine AllReadyH.cons rfl (fun K hK => ?_) AllReadyH.nil
            refine step_of rfl (wp_store_row 71 (.tmp 8) (.tmp 21) rfl g8 T8 rfl rfl Z.toList 71 a8.out Hi8.out HZ8.out H18.out ?_)
            have c7 := Lib.hid (a7.out.kept (grownBy_setRow x7 g8 T8) (fun e => by injection e with e; exact hne' e))
            have c8 := Lib.hid (a8.out.row T8)
            have cb := Lib.hid (ab.out.grown (grownBy_setRow x7 g8 T8) ab.out.size (fun j e => by injection e with e; omega))
            refine hK _ _ (by have hb := cb.out; show World.cell? _ _ = _; exact (Below.cell hb (p := ⟨w.heap.size, 0, none⟩) (by show w.heap.size < W.heap.size; have := Hs0.out; omega)).trans hc0) (fun hHeld => ?_)
            clear hK K
            try simp only [Act.put, List.setIfInBounds_toArray, List.set_cons_zero, List.set_cons_succ]
            refine wpAnyH_done (by kernel_rfl) ?_ _
            exact ⟨rfl, g7, g8, rfl, hne', hge7, hge8, by unfold Marks; have := c7.out; rw [show T7.toList = marksV m7 from by rw [HT7.out]] at this; exact this, by unfold Marks; have := c8.out; rw [show T8.toList = marksV m8 from by rw [HT8.out]] at this; exact this, cb.out⟩
      case r17_6 =>
        go_simp
        obtain ⟨v17_6, hv17_6⟩ : ∃ v17_6, v17_6 = v0_7.alloc (.cells Z 71) := ⟨_, rfl⟩
        have hnew := BlkIs.new v0_7 71 Z
        have hBn : Below v0_7.heap.size v0_7 (v0_7.alloc (.cells Z 71)) := (Below.refl _ _).alloc (Nat.le_refl _) _
        rw [← hv17_6] at hnew hBn ⊢
        have B17_6 := Lib.hid (B0_7.out.trans (hBn.mono B0_7.out.size))
        have K17_6_8 := Lib.hid (K0_7_8.out.below hBn (BlkIs.lt K0_7_8.out))
        have hne : g8 ≠ v0_7.heap.size := by have := BlkIs.lt K0_7_8.out; omega
        have K17_6_7 := Lib.hid hnew
        have hge7 : W.heap.size ≤ v0_7.heap.size := B0_7.out.size
        obtain ⟨g7, hg7⟩ : ∃ g, g = v0_7.heap.size := ⟨_, rfl⟩
        rw [← hg7] at K17_6_7 hge7 ⊢
        rw [← hg7] at hne
        clear hnew hBn hv17_6 hg7
        refine hK _ _ (by have hb := B17_6.out; show World.cell? _ _ = _; exact (Below.cell hb (p := ⟨w.heap.size, 0, none⟩) (by show w.heap.size < W.heap.size; have := Hs0.out; omega)).trans hc0) (fun hHeld => ?_)
        clear hK K
        try simp only [Act.put, List.setIfInBounds_toArray, List.set_cons_zero, List.set_cons_succ]
        refine wpAnyH_ready (rs := [2]) (by kernel_rfl) (by simp) ?_
        refine AllReadyH.cons rfl (fun K hK => ?r21_2) (AllReadyH.nil)
        case r21_2 =>
          go_simp
          ((with_reducible refine (HMk.out _ B17_6.out).mono ?_); rintro e v21_2 ⟨rfl, hBn⟩)
          have B21_2 := Lib.hid (B17_6.out.trans (hBn.mono B17_6.out.size))
          have K21_2_8 := Lib.hid (K17_6_8.out.below hBn (BlkIs.lt K17_6_8.out))
          have K21_2_7 := Lib.hid (K17_6_7.out.below hBn (BlkIs.lt K17_6_7.out))
          clear hBn
          refine hK _ _ (by have hb := B21_2.out; show World.cell? _ _ = _; exact (Below.cell hb (p := ⟨w.heap.size, 0, none⟩) (by show w.heap.size < W.heap.size; have := Hs0.out; omega)).trans hc0) (fun hHeld => ?_)
          clear hK K
          try simp only [Act.put, List.setIfInBounds_toArray, List.set_cons_zero, List.set_cons_succ]
          refine wpAnyH_ready (rs := [5]) (by kernel_rfl) (by simp) ?_
          refine AllReadyH.cons rfl (fun K hK => ?r22_5) (AllReadyH.nil)
          case r22_5 =>
            go_simp
            ((with_reducible refine (HMk3.out _ B21_2.out).mono ?_); rintro e v22_5 ⟨rfl, hBn⟩)
            have B22_5 := Lib.hid (B21_2.out.trans (hBn.mono B21_2.out.size))
            have K22_5_8 := Lib.hid (K21_2_8.out.below hBn (BlkIs.lt K21_2_8.out))
            have K22_5_7 := Lib.hid (K21_2_7.out.below hBn (BlkIs.lt K21_2_7.out))
            clear hBn
            refine hK _ _ (by have hb := B22_5.out; show World.cell? _ _ = _; exact (Below.cell hb (p := ⟨w.heap.size, 0, none⟩) (by show w.heap.size < W.heap.size; have := Hs0.out; omega)).trans hc0) (fun hHeld => ?_)
            clear hK K
            try simp only [Act.put, List.setIfInBounds_toArray, List.set_cons_zero, List.set_cons_succ]
            have hne' : g7 ≠ g8 := by first | exact hne | exact Ne.symm hne
            refine wpAnyH_ready (rs := [8]) (by kernel_rfl) (by simp) ?_
            refine AllReadyH.cons rfl (fun K hK => ?_) AllReadyH.nil
            refine step_of rfl (wp_store_row 71 (.tmp 7) (.tmp 18) rfl g7 T7 rfl rfl Z.toList 71 K22_5_7.out Hi7.out HZ7.out H17.out ?_)
            have a7 := Lib.hid (K22_5_7.out.row T7)
            have a8 := Lib.hid (K22_5_8.out.kept (grownBy_setRow v22_5 g7 T7) (fun e => by injection e with e; exact hne' e.symm))
            have ab := Lib.hid (B22_5.out.grown (grownBy_setRow v22_5 g7 T7) B22_5.out.size (fun j e => by injection e with e; omega))
            obtain ⟨x7, hx7⟩ : ∃ x7, x7 = v22_5.setRow g7 T7 := ⟨_, rfl⟩
            rw [← hx7] at a7 a8 ab ⊢
            clear hx7
            refine hK _ _ (by have hb := ab.out; show World.cell? _ _ = _; exact (Below.cell hb (p := ⟨w.heap.size, 0, none⟩) (by show w.heap.size < W.heap.size; have := Hs0.out; omega)).trans hc0) (fun hHeld => ?_)
            clear hK K
            try simp only [Act.put, List.setIfInBounds_toArray, List.set_cons_zero, List.set_cons_succ]
            refine wpAnyH_ready (rs := [9]) (by kernel_rfl) (by simp) ?_
            refine AllReadyH.cons rfl (fun K hK => ?_) AllReadyH.nil
            refine step_of rfl (wp_store_row 71 (.tmp 8) (.tmp 21) rfl g8 T8 rfl rfl Z.toList 71 a8.out Hi8.out HZ8.out H18.out ?_)
            have c7 := Lib.hid (a7.out.kept (grownBy_setRow x7 g8 T8) (fun e => by injection e with e; exact hne' e))
            have c8 := Lib.hid (a8.out.row T8)
            have cb := Lib.hid (ab.out.grown (grownBy_setRow x7 g8 T8) ab.out.size (fun j e => by injection e with e; omega))
            refine hK _ _ (by have hb := cb.out; show World.cell? _ _ = _; exact (Below.cell hb (p := ⟨w.heap.size, 0, none⟩) (by show w.heap.size < W.heap.size; have := Hs0.out; omega)).trans hc0) (fun hHeld => ?_)
            clear hK K
            try simp only [Act.put, List.setIfInBounds_toArray, List.set_cons_zero, List.set_cons_succ]
            refine wpAnyH_done (by kernel_rfl) ?_ _
            exact ⟨rfl, g7, g8, rfl, hne', hge7, hge8, by unfold Marks; have := c7.out; rw [show T7.toList = marksV m7 from by rw [HT7.out]] at this; exact this, by unfold Marks; have := c8.out; rw [show T8.toList = marksV m8 from by rw [HT8.out]] at this; exact this, cb.out⟩
  case rest =>
    rintro e a w1 ⟨rfl, g7, g8, rfl, hne, h7, h8, hM7, hM8, hB⟩
    unfold rdF
    gi_wp2_with fail
    refine wpIn_label ?_
    gi_wp2_with (refine ⟨trivial, ?_⟩; gi_at_call 60; refine (riseMake_in (n - 1) _ _ g8 rfl).mono ?_; rintro e w' ⟨rfl, rfl⟩)
    have hl7 := BlkIs.lt hM7
    have hl8 := BlkIs.lt hM8
    have hsW := Hs0.out
    have hB1 : Below w.heap.size w ((w1.alloc (.cells #[.slice none 0 0] 29)).alloc (.cells #[.pointer (some ⟨g8, 0, none⟩)] 91)) :=
      ((Hw0.out.trans (hB.mono Hw0.out.size)).alloc (by have := hB.size; omega) _).alloc (by have := hB.size; simp; omega) _
    have hb1 : Boxed ((w1.alloc (.cells #[.slice none 0 0] 29)).alloc (.cells #[.pointer (some ⟨g8, 0, none⟩)] 91)) w.heap.size 27 (.slice A D.length c) := ((boxed_below Hb0.out hB (by omega)).alloc _).alloc _
    have hm71 : Marks ((w1.alloc (.cells #[.slice none 0 0] 29)).alloc (.cells #[.pointer (some ⟨g8, 0, none⟩)] 91)) g7 m7 := (BlkIs.alloc hM7 _).alloc _
    have hm81 : Marks ((w1.alloc (.cells #[.slice none 0 0] 29)).alloc (.cells #[.pointer (some ⟨g8, 0, none⟩)] 91)) g8 m8 := (BlkIs.alloc hM8 _).alloc _
    have hbo := (Boxed.new w1 29 (.slice none 0 0)).alloc (.cells #[.pointer (some ⟨g8, 0, none⟩)] 91)
    have hbn := Boxed.new (w1.alloc (.cells #[.slice none 0 0] 29)) 91 (.pointer (some ⟨g8, 0, none⟩))
    simp only [World.size_alloc] at hbn
    have hs1 : ((w1.alloc (.cells #[.slice none 0 0] 29)).alloc (.cells #[.pointer (some ⟨g8, 0, none⟩)] 91)).heap.size = w1.heap.size + 2 := by simp
    have hsB := hB.size
    have hwW : w.heap.size + 1 ≤ W.heap.size := by omega
    generalize ((w1.alloc (Obj.cells #[.slice none 0 0] 29)).alloc (.cells #[.pointer (some ⟨g8, 0, none⟩)] 91)) = W1 at hB1 hb1 hm71 hm81 hbo hbn hs1 ⊢
    have Hml8 : Hid (∀ x, m8 x = true → x < D.length) := fun x h => by rw [Hm8.out] at h; exact markI_lt h
    have hb1' := Lib.hid hb1
    have hm81' := Lib.hid hm81
    clear hM7 hM8 hB hsW HMk HMk3 hz H17 H18 Hi7 Hi8 HZ7 HZ8 HT7 HT8 hb1 hm81
    obtain ⟨i0, hi, hz0, hz1, hz2⟩ := info_parts info3
    obtain ⟨I, hIe⟩ : ∃ I : List (On m8) → World → Prop, I = fun pre W => (∃ v, Boxed W w1.heap.size 29 v ∧ W.ownsRow w.heap.size 3 1 v (rdFold D m7 (plainO pre)).2.length (natsV (rdFold D m7 (plainO pre)).2) ∧ True) ∧ Marks W g7 (rdFold D m7 (plainO pre)).1 ∧ Marks W g8 m8 ∧ Boxed W w.heap.size 27 (.slice A D.length c) ∧ Boxed W (w1.heap.size + 1) 91 (.pointer (some ⟨g8, 0, none⟩)) ∧ Below w.heap.size w W := ⟨_, rfl⟩
    have HIe := Lib.hid hIe
    refine wpIn_rangeFunc_ownG rfl h1 (gf := 72) (lb := #[.pointer (some ⟨w1.heap.size + 1, 0, none⟩)]) rfl trivial (enters_of Try.func72 (by kernel_rfl) rfl)
      (rise_stops (n - 1) (by omega) (w1.heap.size + 1) g8 w.heap.size m8 W1 (by omega) (by omega) hbn.cell hm81'.out) KeepsTwo.trans (keepsTwo_b (by omega) (by omega) (by omega)) (Below.refl _ _) (fun _ => rfl)
      I (fun _ _ _ => False) ?own (fun _ _ _ _ _ hs _ _ => hs)
      (by rw [hIe]; exact ⟨⟨_, hbo, World.ownsRow_nil _ _ _ _, trivial⟩, hm71, hm81'.out, hb1'.out, hbn, hB1⟩)
      ?a1 ?assign ?body ?done ?stop
    case own =>
      rw [hIe]
      exact OwnFrom.and (Own.from (holdsRow_own w.heap.size w1.heap.size 29 3 1 (fun pre : List (On m8) => (rdFold D m7 (plainO pre)).2.length) (fun pre => natsV (rdFold D m7 (plainO pre)).2) (fun _ _ => True)) _)
        (OwnFrom.and (Own.from (marks_own g7 (fun pre => (rdFold D m7 (plainO pre)).1)) _) (OwnFrom.and (Own.from (marks_own g8 (fun _ => m8)) _) (OwnFrom.and (Own.from (boxed_own w.heap.size 27 (fun _ => _)) _) (OwnFrom.and (Own.from (boxed_own (w1.heap.size + 1) 91 (fun _ => _)) _) (ownFrom_below (Nat.le_refl _) (by omega))))))
    case assign =>
      intro l x W K hK
      gi_wp2
      exact hK
    case stop =>
      rintro D c pre W _ _ h _
      exact h.elim
    case done =>
      rintro D1 ys W2 hD1 hys hi2 hK1
      rw [hIe, hys] at hi2
      obtain ⟨⟨v, hv, hrow, _⟩, _, _, _, _, hB2⟩ := hi2
      have HX : Hid (readyL D l k = (rdFold D m7 (listM 256 m8)).2) := by unfold Hid readyL; rw [Hm7.out, Hm8.out]
      have hc := hv.cell
      clear hIe HIe hv hm71 hbo hbn
      gi_wp2_with fail
      rw [Exit.noGoto_ret]
      refine ⟨by simp, .inl ⟨_, _, rfl, run_takeDeferred hK1, ?_⟩⟩
      exact ⟨_, results_tmp rfl _ _ _, v, rfl, by rw [HX.out]; exact ownsRow_putObj hrow _ hK1 rfl, hB2.trans (belowK_b (w := w) (Nat.le_refl _) W2 D1 _ _ (by omega) hK1 rfl rfl)⟩
    case body =>
      rintro lp pre x W2 hi2 hlt'
      rw [hIe] at hi2
      obtain ⟨⟨v, hv, hrow, _⟩, hM7, hM8, hbA, hbN, hB2⟩ := hi2
      have hxD := Hml8.out x.1 x.2.2
      have hx256 := x.2.1
      have hD256 := HDo.out.right.1
      have hxi : (x.1 : Int) < 256 := by omega
      have hxi2 : (x.1 : Int) < (D.length : Int) := by omega
      have hx0 : (0 : Int) ≤ (x.1 : Int) := by omega
      have hsnoc : rdFold D m7 (plainO (pre ++ [x])) = rdStep D (rdFold D m7 (plainO pre)) x.1 := by rw [plainO_snoc, rdFold_snoc]
      have hlenr := rdFold_len D m7 (plainO pre)
      rw [length_plainO] at hlenr
      obtain ⟨s, hs⟩ : ∃ s, s = rdFold D m7 (plainO pre) := ⟨_, rfl⟩
      rw [← hs] at hrow hM7 hsnoc hlenr
      have Hsnoc := Lib.hid hsnoc
      have hcell := hM7.cell hx256
      have hlen2 : s.2.length < 256 := by omega
      clear hs hsnoc hlenr hlt' hIe
      cases hcome : s.1 x.1 with
      | true =>
        rw [hcome] at hcell
        have Hst : Hid (rdStep D s x.1 = s) := by unfold Hid rdStep; rw [hcome]; rfl
        clear hcome
        have hQ : ownPostG W1.heap.size (KeepsTwo w.heap.size (w1.heap.size + 1) g8) I (fun _ _ _ => False) (pre ++ [x]) W2 Exit.normal { tmps := #[], defers := [] } W2 := by
          refine ⟨KeepsFrom.refl _ _, KeepsTwo.refl _ _ _ _, ?_⟩
          rw [HIe.out]
          simp only [Hsnoc.out, Hst.out]
          exact ⟨⟨v, hv, hrow, trivial⟩, hM7, hM8, hbA, hbN, hB2⟩
        have HQ := Lib.hid hQ
        clear hQ hv hrow hM7 hM8 hbA hbN hB2
        gi_wp2_with fail
        have := HQ.out
        rw [hs1] at this
        first | exact HQ.out | exact this
      | false =>
        rw [hcome] at hcell
        have hMW := HM.out.below hB2
        obtain ⟨bx, ox, Ax, cx, ex, hbx', hcx, hIx⟩ := hMW.at_ (k := x.1) (by rw [length_rowsI]; exact hxD)
        rw [rowI_rowsI, length_natsI] at hcx
        rw [rowI_rowsI] at hIx
        have hrl := HDo.out.len x.1
        have hrlt := HDo.out.right.row_lt x.1
        have hstep : rdStep D s x.1 = if (rowN D x.1).all s.1 then (fun y => s.1 y || y == x.1, s.2 ++ [x.1]) else s := by unfold rdStep; rw [hcome]; rfl
        obtain ⟨row, hrow2⟩ : ∃ row, row = rowN D x.1 := ⟨_, rfl⟩
        rw [← hrow2] at hcx hIx hrl hrlt hstep
        subst ex
        have cA := hbA.cell
        have Hstep := Lib.hid hstep
        have Hv := Lib.hid hv
        have Hrow := Lib.hid hrow
        have HM7 := Lib.hid hM7
        have HM8 := Lib.hid hM8
        have HbA := Lib.hid hbA
        have HbN := Lib.hid hbN
        have HB2 := Lib.hid hB2
        have HIx := Lib.hid hIx
        have Hrlt := Lib.hid hrlt
        clear hcome hMW hIx hrlt hstep hrow2 hv hrow hM7 hM8 hbA hbN hB2 hbo hbn hm71
        gi_wp2_with fail
        gi_loopw [32] (fun i w2 => ∃ j : Nat, j ≤ row.length ∧ i = .int .i64 j ∧ w2 = W2 ∧ ∀ d ∈ row.take j, s.1 d = true) (fun i _ => row.length - (intOf i).toNat)
        case atStart => exact ⟨0, Nat.zero_le _, rfl, rfl, fun x hx => by simp at hx⟩
        case round =>
          obtain ⟨j, hj, rfl, rfl, hrowok⟩ := hrel
          rename World => w2
          have Hro := Lib.hid hrowok
          clear hrowok
          by_cases hltj : j < row.length
          · have hltji : (j : Int) < (row.length : Int) := by omega
            have hj0 : (0 : Int) ≤ (j : Int) := by omega
            obtain ⟨bj, oj, rfl, hbj, hcj⟩ := HIx.out.at_ (k := j) (by rw [length_natsI]; exact hltj)
            rw [nth_nats row j hltj] at hcj
            have htk := take_el row j hltj
            have hdl := Hrlt.out (el row j) (by rw [el_lt hltj]; exact List.getElem_mem _)
            have hdm : el row j ∈ row := by rw [el_lt hltj]; exact List.getElem_mem _
            obtain ⟨d, hd⟩ : ∃ d, d = el row j := ⟨_, rfl⟩
            rw [← hd] at hcj htk hdl hdm
            have Htk := Lib.hid htk
            have Hdm := Lib.hid hdm
            have hdi : (d : Int) < 256 := by omega
            have hd0 : (0 : Int) ≤ (d : Int) := by omega
            have hcd := HM7.out.cell (x := d) (by omega)
            clear htk hd hdm
            cases hvd : s.1 d with
            | true =>
              have Hvd := Lib.hid hvd
              rw [hvd] at hcd
              clear hvd
              gi_wp2_with fail
              go_roundw
              case rel =>
                refine ⟨j + 1, by omega, by go_num, trivial, fun y hy => ?_⟩
                rw [Htk.out] at hy
                rcases List.mem_append.1 hy with hy | hy
                · exact Hro.out y hy
                · rw [List.mem_singleton.1 hy]; exact Hvd.out
              case measure => simp [intOf]; omega
            | false =>
              have hall : row.all s.1 = false := by
                rw [Bool.eq_false_iff]; intro h; have := List.all_eq_true.1 h d Hdm.out; rw [hvd] at this; cases this
              have Hst : Hid (rdStep D s x.1 = s) := by unfold Hid; rw [Hstep.out, hall]; rfl
              rw [hvd] at hcd
              have hQ : ownPostG W1.heap.size (KeepsTwo w.heap.size (w1.heap.size + 1) g8) I (fun _ _ _ => False) (pre ++ [x]) w2 Exit.normal { tmps := #[], defers := [] } w2 := by
                refine ⟨KeepsFrom.refl _ _, KeepsTwo.refl _ _ _ _, ?_⟩
                rw [HIe.out]
                simp only [Hsnoc.out, Hst.out]
                exact ⟨⟨v, Hv.out, Hrow.out, trivial⟩, HM7.out, HM8.out, HbA.out, HbN.out, HB2.out⟩
              have HQ := Lib.hid hQ
              clear hQ hvd hall
              gi_wp2_with fail
              have := HQ.out
              rw [hs1] at this
              first | exact HQ.out | exact this
          · have hltji : ¬ (j : Int) < (row.length : Int) := by omega
            obtain rfl : j = row.length := by omega
            have hall : row.all s.1 = true := by have := Hro.out; rw [List.take_length] at this; exact List.all_eq_true.2 this
            have Hst : Hid (rdStep D s x.1 = (fun y => s.1 y || y == x.1, s.2 ++ [x.1])) := by unfold Hid; rw [Hstep.out, hall]; rfl
            have hfr := BlkIs.frozen HM7.out x.1
            have hMa := HM7.out.set_ x.1
            have hGa := grownBy_set w2 g7 x.1 (.bool true)
            have hl2 := BlkIs.lt HM8.out
            have hlN := HbN.out.lt
            have hsz2 := HB2.out.size
            have hne7 : g7 ≠ w1.heap.size := by omega
            have hva : Boxed (w2.setCell ⟨g7, x.1, none⟩ (.bool true)) w1.heap.size 29 v := boxed_grown Hv.out hGa (by omega)
            have hrowa : (w2.setCell ⟨g7, x.1, none⟩ (.bool true)).ownsRow w.heap.size 3 1 v s.2.length (natsV s.2) := Hrow.out.kept hGa (blk_not_row HM7.out (by decide) Hrow.out)
            have hM8a : Marks (w2.setCell ⟨g7, x.1, none⟩ (.bool true)) g8 m8 := BlkIs.kept HM8.out hGa (fun e => by injection e with e; omega)
            have hbAa := boxed_grown HbA.out hGa (by omega)
            have hbNa := boxed_grown HbN.out hGa (by omega)
            have hBa : Below w.heap.size w (w2.setCell ⟨g7, x.1, none⟩ (.bool true)) := HB2.out.setCell (p := ⟨g7, x.1, none⟩) (by show w.heap.size ≤ g7; omega) _
            have hGk : KeepsTwo w.heap.size (w1.heap.size + 1) g8 w2 (w2.setCell ⟨g7, x.1, none⟩ (.bool true)) := ⟨(Below.refl _ w2).setCell (p := ⟨g7, x.1, none⟩) (by show w.heap.size ≤ g7; omega) _, hGa.block _ (by omega) (fun e => by injection e with e; omega), hGa.block _ (by omega) (fun e => by injection e with e; omega)⟩
            have hKa : KeepsOthers w2 (w2.setCell ⟨g7, x.1, none⟩ (.bool true)) := KeepsOthers.setCell _ _ _
            have hcva := hva.cell
            have hszA : (w2.setCell ⟨g7, x.1, none⟩ (.bool true)).heap.size = w2.heap.size := by simp [World.setCell]
            obtain ⟨Wa, hWa⟩ : ∃ Wa, Wa = w2.setCell ⟨g7, x.1, none⟩ (.bool true) := ⟨_, rfl⟩
            have HWa := Lib.hid hWa
            rw [← hWa] at hMa hva hrowa hM8a hbAa hbNa hBa hGk hKa hszA
            have HszA := Lib.hid hszA
            have HMa := Lib.hid hMa
            have HM8a := Lib.hid hM8a
            have HGk := Lib.hid hGk
            have HKa := Lib.hid hKa
            have HbAa := Lib.hid hbAa
            have HbNa := Lib.hid hbNa
            have HBa := Lib.hid hBa
            have hB3 := Lib.hid HBa.out.size
            clear hall hMa hM8a hGk hKa hbAa hbNa hBa hszA
            gi_wp2_with (first
              | (gi_at_builtin; rw [← HWa.out]; refine wpListIn_append_own _ rfl _ _ 29 rfl w.heap.size 3 i0 (.int .i64 0) 1 8 Try.underlying29 hi hz0 hz1 hz2 rfl (by decide) _ _ _ rfl (hrowa.alloc _) ⟨w2.heap.size, 0, none⟩ 1 1 [.int .i64 ((x.1 : Nat) : Int)] rfl rfl (by rw [← HszA.out]; exact cell_one_new _ _ _) (by simp [Value.oneCell']) (by unfold maxLen; omega) (by omega) (by have := hB3.out; simp; omega) ?_; intro v' w5 hown' hgrow _; obtain ⟨g', cap', rfl⟩ := ownsRow_succ hown'; obtain ⟨hv1, hv2, hr2, hk2, hb2⟩ := hva.appended (by decide) hrowa (by have := hB3.out; omega) (by omega) hown' hgrow; have hc1 := hv1.cell; have hf1 := hv1.frozen))
            have q7 := BlkIs.appended_other (u := .slice (some ⟨g', 0, none⟩) (s.2.length + 1) cap') HMa.out (by decide) hrowa hgrow hne7
            have q8 := BlkIs.appended_other (u := .slice (some ⟨g', 0, none⟩) (s.2.length + 1) cap') HM8a.out (by decide) hrowa hgrow (show g8 ≠ w1.heap.size by omega)
            have qA := ((HbAa.out.alloc (.cells #[.int .i64 ((x.1 : Nat) : Int)] 3)).kept hgrow (HbAa.out.not_row (by decide) hrowa)).other (show w.heap.size ≠ w1.heap.size by omega) (.slice (some ⟨g', 0, none⟩) (s.2.length + 1) cap')
            have qN := ((HbNa.out.alloc (.cells #[.int .i64 ((x.1 : Nat) : Int)] 3)).kept hgrow (HbNa.out.not_row (by decide) hrowa)).other (show w1.heap.size + 1 ≠ w1.heap.size by omega) (.slice (some ⟨g', 0, none⟩) (s.2.length + 1) cap')
            have hQ : ownPostG W1.heap.size (KeepsTwo w.heap.size (w1.heap.size + 1) g8) I (fun _ _ _ => False) (pre ++ [x]) w2 Exit.normal { tmps := #[], defers := [] } (w5.setCell ⟨w1.heap.size, 0, none⟩ (.slice (some ⟨g', 0, none⟩) (s.2.length + 1) cap')) := by
              refine ⟨(HKa.out.trans hk2).from _, ⟨HGk.out.1.trans hb2, ?_, ?_⟩, ?_⟩
              · exact Eq.trans (show _ = _ from qN) (show _ = _ from HbN.out).symm
              · exact Eq.trans (show _ = _ from q8) (show _ = _ from HM8.out).symm
              · rw [HIe.out]
                simp only [Hsnoc.out, Hst.out]
                exact ⟨⟨_, hv2, by simpa [natsV] using hr2, trivial⟩, q7, q8, qA, qN, HBa.out.trans hb2⟩
            have hQ' := hQ
            rw [hs1] at hQ'
            first | exact hQ | exact hQ'
end Go.Proofs.Ytkfjkhacchbkeaa
