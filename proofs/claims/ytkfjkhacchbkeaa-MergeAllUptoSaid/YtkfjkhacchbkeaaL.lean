/- Contract of gather, at the two functions of Groups. -/
import Derived.Test.YtkfjkhacchbkeaaK
import Derived.Test.YtkfjkhacchbkeaaC
namespace Go.Proofs.Ytkfjkhacchbkeaa
set_option linter.unusedVariables false
set_option linter.unusedSimpArgs false
open Go.RowKit

/-- what the two functions lean on -/
structure GaCtx (W : World) (n bI : Nat) (A : Option Addr) (c : Nat) (l : List It) (bD : Nat) (Ad : Option Addr) (cd : Nat) (D : List (List Nat)) (bf : Nat) : Prop where
  items : Items W W.heap.size A l
  boxI : W.cell? ⟨bI, 0, none⟩ = some (.slice A n c)
  mat : Mat W W.heap.size Ad (rowsI D)
  boxD : W.cell? ⟨bD, 0, none⟩ = some (.slice Ad n cd)
  fits : W.cell? ⟨bf, 0, none⟩ = some (.func (.func 44) #[] #[.pointer (some ⟨bD, 0, none⟩)])
theorem cell_below {W W' : World} {p : Addr} {v : Value} (h : W.cell? p = some v) (hb : Below W.heap.size W W') : W'.cell? p = some v := by
  rw [hb.cell (p := p) (World.block_lt_of_cell? W p h)]; exact h
theorem GaCtx.next {W W' : World} {n bI : Nat} {A : Option Addr} {c : Nat} {l : List It} {bD : Nat} {Ad : Option Addr} {cd : Nat} {D : List (List Nat)} {bf : Nat} (h : GaCtx W n bI A c l bD Ad cd D bf) (hb : Below W.heap.size W W') : GaCtx W' n bI A c l bD Ad cd D bf :=
  ⟨h.items.next hb, cell_below h.boxI hb, h.mat.next hb, cell_below h.boxD hb, cell_below h.fits hb⟩
def GroupsSays (w : World) (gs : List (List Nat)) (e : Ending) (w' : World) : Prop := ∃ A' c', e = .returned (.slice A' gs.length c') ∧ Mat w' w'.heap.size A' (rowsI gs) ∧ Below w.heap.size w w'
theorem GaSt.mat {w W : World} {n : Nat} {s : List (List Nat) × List Nat} {v : Value} {vs : Nat → Value} (h : GaSt w W n s v vs) : ∃ A c, v = .slice A s.1.length c ∧ Mat W W.heap.size A (rowsI s.1) := by
  obtain ⟨A, c, e, hout⟩ := own_slices h.grp
  refine ⟨A, c, e, fun h0 => ?_⟩
  rw [length_rowsI] at h0
  obtain ⟨g, rfl, hg, hcells⟩ := hout h0
  refine ⟨g, 0, rfl, hg, fun j hj => ?_⟩
  rw [length_rowsI] at hj
  have hr := h.rows j hj
  rw [natsV_intsV] at hr
  obtain ⟨Aj, cj, ej, _, _, hI⟩ := own_ints (n := (rowN s.1 j).length) hr
  refine ⟨Aj, cj, ?_, by rw [rowI_rowsI]; exact hI⟩
  rw [Nat.zero_add, hcells j hj, rowI_rowsI, ← ej]
  simp [hj]
theorem GaSt.form {w W : World} {n : Nat} {s : List (List Nat) × List Nat} {v : Value} {vs : Nat → Value} (h : GaSt w W n s v vs) (hl : 0 < s.1.length) : ∃ bG cap, v = .slice (some ⟨bG, 0, none⟩) s.1.length cap := by
  rcases h.grp.2 with ⟨_, e⟩ | ⟨g, cap, cur, e, _⟩
  · omega
  · exact ⟨g, cap, e⟩
theorem GaSt.rowForm {w W : World} {n g : Nat} {s : List (List Nat) × List Nat} {v : Value} {vs : Nat → Value} (h : GaSt w W n s v vs) (hg : g < s.1.length) : ∃ Ag cg, vs g = .slice Ag (rowN s.1 g).length cg ∧ Ints W W.heap.size Ag (natsI (rowN s.1 g)) := by
  have hr := h.rows g hg
  rw [natsV_intsV] at hr
  obtain ⟨Aj, cj, ej, _, _, hI⟩ := own_ints (n := (rowN s.1 g).length) hr
  exact ⟨Aj, cj, by rw [ej, length_natsI], hI⟩

theorem nodup_lt {n : Nat} {l : List Nat} (hr : l.Pairwise (· < ·)) (h : ∀ x ∈ l, x < n) : l.length ≤ n := by
  have key : ∀ (l : List Nat) (a : Nat), l.Pairwise (· < ·) → (∀ x ∈ l, a ≤ x ∧ x < n) → l.length ≤ n - a := by
    intro l
    induction l with
    | nil => intro a _ _; simp
    | cons x l ih =>
      intro a hp hb
      obtain ⟨h1, h2⟩ := List.pairwise_cons.1 hp
      have hx := hb x (by simp)
      have := ih (x + 1) h2 (fun y hy => ⟨h1 y hy, (hb y (List.mem_cons_of_mem _ hy)).2⟩)
      simp only [List.length_cons]; omega
  have := key l 0 hr (fun x hx => ⟨Nat.zero_le _, h x hx⟩)
  omega

set_option maxRecDepth 100000 in
set_option maxHeartbeats 8000000 in
theorem gather_any (n bI : Nat) (A : Option Addr) (c : Nat) (l : List It) (bD : Nat) (Ad : Option Addr) (cd : Nat) (D : List (List Nat)) (bf cf : Nat) (hn : n = l.length) (hnD : n = D.length) (hD : OkD D) (hn1 : n ≤ 64) (w : World) (hC : GaCtx w n bI A c l bD Ad cd D bf) :
    Calls Try.prog 48 #[.int .i64 n, .func (.func 43) #[] #[.pointer (some ⟨bI, 0, none⟩)], .slice (some ⟨bf, 0, none⟩) 1 cf] w (GroupsSays w (gatherG (blkOf l) D n).1) := by
  obtain ⟨M, hM, hmk⟩ := make_ofs n (by omega)
  have HM := Lib.hid hM
  have HC := Lib.hid hC
  have Hn := Lib.hid hn
  have HnD := Lib.hid hnD
  have HD := Lib.hid hD
  obtain ⟨i0, hi, hz0, hz1, hz2⟩ := info_parts info3
  obtain ⟨j0, hj0, hy0, hy1, hy2⟩ := info_parts info29
  clear hM hC hn hnD hD
  go_enter Try.func48, Try.ntmps48
  go_wp2_with fail
  clear hmk
  go_loopw [7, 16] (fun v i wr => ∃ (k : Nat) (vs : Nat → Value), k ≤ n ∧ i = .int .i64 k ∧ GaSt w wr n (gatherG (blkOf l) D k) v vs) (fun _ i _ => n - (intOf i).toNat)
  case atStart =>
    have h1 := BlkIs.new w 3 M
    rw [HM.out] at h1
    exact ⟨0, fun _ => undef, Nat.zero_le _, rfl, World.ownsRow_nil _ _ _ _, fun j hj => by simp [gatherG] at hj, h1, (Below.refl _ _).alloc (Nat.le_refl _) _, by simp⟩
  case round =>
    obtain ⟨k, vs, hk, rfl, hst⟩ := hrel
    rename World => wr
    by_cases hlt : k < n
    · have hlti : (k : Int) < (n : Int) := by omega
      have hk0 : (0 : Int) ≤ (k : Int) := by omega
      have hkD : k < D.length := by rw [← HnD.out]; exact hlt
      have hInv := inv_gather (bl := blkOf l) HD.out.right k (by omega)
      have hG : (gatherG (blkOf l) D (k + 1)) = stepS (blkOf l) D (gatherG (blkOf l) D k) k := rfl
      have Hctx := Lib.hid (HC.out.next hst.below)
      obtain ⟨s, hs⟩ : ∃ s, s = gatherG (blkOf l) D k := ⟨_, rfl⟩
      rw [← hs] at hst hInv hG
      have hlen := hInv.len
      have hfew := hInv.few
      have Hlen := Lib.hid hlen
      have HInv := Lib.hid hInv
      have HG := Lib.hid hG
      have hhome := home_any k bI A c n l Hn.out hlt (by omega) wr _ Hctx.out.items Hctx.out.boxI
      clear hlen hInv hG hs
      cases hh : homeN (blkOf l) k with
      | none =>
        rw [hh] at hhome
        have Hhome := Lib.hid hhome
        have Hstep : Hid (stepS (blkOf l) D s k = newS s k) := by unfold Hid stepS homeG; rw [hh]
        obtain ⟨Av, cv, rfl, _⟩ := hst.mat
        have HS := Lib.hid hst
        clear hh hhome hst
        go_wp2_with fail
        refine Hhome.out.mono ?_
        rintro e wq ⟨rfl, hq⟩
        have HSq := Lib.hid (HS.out.next hq.belowR)
        clear Hhome hq
        unfold homeV
        have hof : wq.cell? ⟨w.heap.size, k, none⟩ = some (.int .i64 (if k < s.2.length then ((el s.2 k : Nat) : Int) else 0)) := by rw [HSq.out.of.cell, ofV_at _ hlt]
        clear hof
        have hbase := HSq.out.size
        go_wp2_with (at_builtin; refine wpList_append_own _ rfl _ _ 27 rfl (w.heap.size + 1) 29 j0 (.slice none 0 0) 1 24 Try.underlying27 hj0 hy0 hy1 hy2 rfl (by decide) _ _ _ rfl ((HSq.out.grp.alloc _).alloc _) ⟨wq.heap.size + 1, 0, none⟩ 1 1 [.slice (some ⟨wq.heap.size, 0, none⟩) 1 1] rfl rfl (by have := cell_one_new (wq.alloc (.cells #[.int .i64 ((k : Nat) : Int)] 3)) (.slice (some ⟨wq.heap.size, 0, none⟩) 1 1) 29; simpa using this) (by simp [Value.oneCell']) (by unfold maxLen; omega) (by omega) (by simp; omega) ?_; intro v' w5 hown' hgrow _; obtain ⟨hof5, hst5⟩ := GaSt.newAt Hlen.out hlt HSq.out hown' hgrow; have hc5 := hof5.cell k; rw [ofV_at _ hlt] at hc5; have hf5 := hof5.frozen k; have Hst5 := Lib.hid hst5; clear hst5 hof5 hown' hgrow)
        go_roundw
        case rel => exact ⟨k + 1, _, by omega, by go_num, by rw [HG.out, Hstep.out]; exact Hst5.out⟩
        case measure => simp [intOf]; omega
      | some n0 =>
        rw [hh] at hhome
        have Hhome := Lib.hid hhome
        obtain ⟨hn0k, _, _⟩ := homeT_some hh
        have Hh := Lib.hid hh
        obtain ⟨g, hg⟩ : ∃ g, g = el s.2 n0 := ⟨_, rfl⟩
        have hgl : g < s.1.length := by rw [hg]; exact HInv.out.lt n0 hn0k
        obtain ⟨bG, cap, rfl⟩ := hst.form (by omega)
        have HS := Lib.hid hst
        have Hg := Lib.hid hg
        clear hh hhome hst hg
        go_wp2_with fail
        refine Hhome.out.mono ?_
        rintro e wq ⟨rfl, hq⟩
        have HSq := Lib.hid (HS.out.next hq.belowR)
        have Hctq := Lib.hid (Hctx.out.next hq.belowR)
        clear Hhome hq
        unfold homeV
        obtain ⟨Ag, cg, hvg, hIg⟩ := HSq.out.rowForm hgl
        have hn0n : (n0 : Int) < (n : Int) := by omega
        have hn00 : (0 : Int) ≤ (n0 : Int) := by omega
        have hgi : (g : Int) < (s.1.length : Int) := by omega
        have hg0 : (0 : Int) ≤ (g : Int) := by omega
        have hof : wq.cell? ⟨w.heap.size, n0, none⟩ = some (.int .i64 (g : Int)) := by rw [HSq.out.of.cell, ofV_at _ (by omega), if_pos (by rw [Hlen.out]; exact hn0k), Hg.out]
        have hgc : wq.cell? ⟨bG, g, none⟩ = some (.slice Ag (rowN s.1 g).length cg) := by rw [HSq.out.grp.cellAt g (by omega), ← hvg]; simp [hgl]
        have hgrl : (rowN s.1 g).length ≤ 100000 := by
          have h1 := nodup_lt (HInv.out.rise g) (fun m hm => ((HInv.out.mem g m hgl).1 hm).1)
          omega
        have Hla := Lib.hid (letsAll_any k Ag cg (rowN s.1 g).length (rowN s.1 g) bf cf bD Ad cd n D rfl HnD.out HD.out hkD hgrl wq Hctq.out.mat hIg Hctq.out.boxD Hctq.out.fits)
        have Hgrl := Lib.hid hgrl
        have Hvg := Lib.hid hvg
        obtain ⟨q, hq⟩ : ∃ q, q = rowN s.1 g := ⟨_, rfl⟩
        rw [← hq] at hgc Hla
        clear hIg hvg hgrl
        obtain ⟨fit, hfit⟩ : ∃ fit, fit = fitsB D k q := ⟨_, rfl⟩
        rw [← hfit] at Hla
        have Hfit : Hid (fitsB D k (rowN s.1 (el s.2 n0)) = fit) := by unfold Hid; rw [hfit, hq, Hg.out]
        have Hq := Lib.hid hq
        clear hfit hq
        go_wp2_with fail
        refine Hla.out.mono ?_
        rintro e w6 ⟨rfl, hB6⟩
        have HS6 := Lib.hid (HSq.out.next hB6)
        clear hof hgc hB6 Hla HSq HS
        cases fit with
        | false =>
          have Hstep : Hid (stepS (blkOf l) D s k = newS s k) := by unfold Hid stepS homeG; rw [Hh.out]; simp only; rw [Hfit.out]; rfl
          have HSq := HS6
          have hof : w6.cell? ⟨w.heap.size, k, none⟩ = some (.int .i64 (if k < s.2.length then ((el s.2 k : Nat) : Int) else 0)) := by rw [HSq.out.of.cell, ofV_at _ hlt]
          clear hof
          have hbase := HSq.out.size
          go_wp2_with (at_builtin; refine wpList_append_own _ rfl _ _ 27 rfl (w.heap.size + 1) 29 j0 (.slice none 0 0) 1 24 Try.underlying27 hj0 hy0 hy1 hy2 rfl (by decide) _ _ _ rfl ((HSq.out.grp.alloc _).alloc _) ⟨w6.heap.size + 1, 0, none⟩ 1 1 [.slice (some ⟨w6.heap.size, 0, none⟩) 1 1] rfl rfl (by have := cell_one_new (w6.alloc (.cells #[.int .i64 ((k : Nat) : Int)] 3)) (.slice (some ⟨w6.heap.size, 0, none⟩) 1 1) 29; simpa using this) (by simp [Value.oneCell']) (by unfold maxLen; omega) (by omega) (by simp; omega) ?_; intro v' w5 hown' hgrow _; obtain ⟨hof5, hst5⟩ := GaSt.newAt Hlen.out hlt HSq.out hown' hgrow; have hc5 := hof5.cell k; rw [ofV_at _ hlt] at hc5; have hf5 := hof5.frozen k; have Hst5 := Lib.hid hst5; clear hst5 hof5 hown' hgrow)
          go_roundw
          case rel => exact ⟨k + 1, _, by omega, by go_num, by rw [HG.out, Hstep.out]; exact Hst5.out⟩
          case measure => simp [intOf]; omega
        | true =>
          have Hstep : Hid (stepS (blkOf l) D s k = joinS s k g) := by unfold Hid stepS homeG; rw [Hh.out]; simp only; rw [Hfit.out, Hg.out]; rfl
          have hof : w6.cell? ⟨w.heap.size, n0, none⟩ = some (.int .i64 (g : Int)) := by rw [HS6.out.of.cell, ofV_at _ (by omega), if_pos (by rw [Hlen.out]; exact hn0k), Hg.out]
          have hgc : w6.cell? ⟨bG, g, none⟩ = some (.slice Ag q.length cg) := by rw [Hq.out, HS6.out.grp.cellAt g (by omega), ← Hvg.out]; simp [hgl]
          have hrow := HS6.out.rows g hgl
          rw [Hvg.out, ← Hq.out] at hrow
          have hqn : q.length ≤ 100000 := by rw [Hq.out]; exact Hgrl.out
          have hJ := fun v5 w5 t => @GaSt.joinAt w w6 n k s vs (blkOf l) D Hlen.out hlt g bG cap hgl HInv.out HS6.out v5 w5 t
          rw [Hvg.out, ← Hq.out] at hJ
          have HJ := Lib.hid hJ
          have hbase := HS6.out.size
          clear hJ
          go_wp2_with (at_builtin; refine wpList_append_own _ rfl _ _ 29 rfl (w.heap.size + 1) 3 i0 (.int .i64 0) 1 8 Try.underlying29 hi hz0 hz1 hz2 rfl (by decide) _ _ _ rfl (hrow.alloc _) ⟨w6.heap.size, 0, none⟩ 1 1 [.int .i64 ((k : Nat) : Int)] rfl rfl (cell_one_new _ _ _) (by simp [Value.oneCell']) (by unfold maxLen; omega) (by omega) (by simp; omega) ?_; intro v' w5 hown' hgrow _; obtain ⟨g', cap', rfl⟩ := ownsRow_succ hown'; obtain ⟨hc5, hf5, hof5, hst5⟩ := HJ.out _ w5 _ hown' hgrow; have hc6 := hof5.cell k; rw [ofV_at _ hlt] at hc6; have hf6 := hof5.frozen k; have Hst5 := Lib.hid hst5; clear hst5 hof5 hown' hgrow)
          go_roundw
          case rel => exact ⟨k + 1, _, by omega, by go_num, by rw [HG.out, Hstep.out]; exact Hst5.out⟩
          case measure => simp [intOf]; omega
    · have hlti : ¬ (k : Int) < (n : Int) := by omega
      obtain rfl : k = n := by omega
      obtain ⟨Av, cv, rfl, hm⟩ := hst.mat
      have Hm := Lib.hid hm
      have HB := Lib.hid hst.below
      clear hst hm
      go_wp2_with fail
      go_ret
      exact ⟨Av, cv, rfl, Hm.out, HB.out⟩
end Go.Proofs.Ytkfjkhacchbkeaa
