/- Contract of the document's Groups. -/
import Derived.Test.YtkfjkhacchbkeaaBB
namespace Go.Proofs.Ytkfjkhacchbkeaa
set_option linter.unusedVariables false
set_option linter.unusedSimpArgs false
open Go.RowKit

theorem gs_rise (l : List It) (g : Nat) : (rowN (groupsL l) g).Pairwise (· < ·) := by
  unfold groupsL
  by_cases h : rightL l = true
  · rw [if_pos h]; exact (groups_inv h).rise g
  · rw [if_neg h]; simp [rowN]
theorem gs_ne {l : List It} {g : Nat} (hg : g < (groupsL l).length) : 0 < (rowN (groupsL l) g).length := by
  have hr := groups_right hg
  rw [groupsL_eq hr] at hg ⊢
  exact (groups_inv hr).ne g hg
theorem gs_heads {l : List It} {g g' : Nat} (h : g < g') (hg : g' < (groupsL l).length) : el (rowN (groupsL l) g) 0 < el (rowN (groupsL l) g') 0 := by
  have hr := groups_right hg
  rw [groupsL_eq hr] at hg ⊢
  exact (groups_inv hr).heads g g' h hg
theorem rise_head {q : List Nat} (h : q.Pairwise (· < ·)) {x : Nat} (hx : x ∈ q) : el q 0 ≤ x := by
  cases q with
  | nil => cases hx
  | cons y q =>
    show y ≤ x
    rcases List.mem_cons.1 hx with rfl | hx
    · exact Nat.le_refl _
    · exact Nat.le_of_lt ((List.pairwise_cons.1 h).1 x hx)
theorem head_mem {q : List Nat} (h : 0 < q.length) : el q 0 ∈ q := by rw [el_lt h]; exact List.getElem_mem _
/-- the first one of an item's group -/
theorem foL_head {l : List It} (hr : rightL l = true) (i : Nat) : foL l i = el (rowN (groupsL l) (el (ofL l) i)) 0 := by rw [groupsL_eq hr]; rfl
theorem foL_iff {l : List It} {g x : Nat} (hg : g < (groupsL l).length) (hx : x < l.length) : foL l x = el (rowN (groupsL l) g) 0 ↔ el (ofL l) x = g := by
  have hr := groups_right hg
  rw [foL_head hr]
  have hlt := of_lt hr hx
  constructor
  · intro h
    rcases Nat.lt_trichotomy (el (ofL l) x) g with h1 | h1 | h1
    · have := gs_heads h1 hg; omega
    · exact h1
    · have := gs_heads h1 hlt; omega
  · intro h; rw [h]
def membT (l : List It) (i k : Nat) : List Nat := (List.range k).filter fun x => decide (i ≤ x) && (foL l x == i)
def firstsT (l : List It) (k : Nat) : List Nat := (List.range k).filter fun i => foL l i == i
def rgT (l : List It) (k : Nat) : List (List Nat) := (firstsT l k).map fun i => membT l i l.length
theorem membT_start (l : List It) (i : Nat) : membT l i i = [] := by
  unfold membT
  rw [List.filter_eq_nil_iff]
  intro x hx
  have := List.mem_range.1 hx
  simp
  omega
theorem membT_hit {l : List It} {i k : Nat} (hik : i ≤ k) (h : foL l k = i) : membT l i (k + 1) = membT l i k ++ [k] := by
  unfold membT
  rw [List.range_succ, List.filter_append]
  simp [h, hik]
theorem membT_miss {l : List It} {i k : Nat} (h : foL l k ≠ i) : membT l i (k + 1) = membT l i k := by
  unfold membT
  rw [List.range_succ, List.filter_append]
  simp [h]
theorem membT_len (l : List It) (i k : Nat) : (membT l i k).length ≤ k := by
  unfold membT
  have h1 := List.length_filter_le (fun x => decide (i ≤ x) && (foL l x == i)) (List.range k)
  rw [List.length_range] at h1
  exact h1
theorem rgT_hit {l : List It} {k : Nat} (h : foL l k = k) : rgT l (k + 1) = rgT l k ++ [membT l k l.length] := by
  unfold rgT firstsT
  rw [List.range_succ, List.filter_append, List.map_append]
  simp [h]
theorem rgT_miss {l : List It} {k : Nat} (h : foL l k ≠ k) : rgT l (k + 1) = rgT l k := by
  unfold rgT firstsT
  rw [List.range_succ, List.filter_append]
  simp [h]
theorem rgT_len (l : List It) (k : Nat) : (rgT l k).length ≤ k := by
  unfold rgT firstsT
  have h1 := List.length_filter_le (fun i => foL l i == i) (List.range k)
  rw [List.length_range] at h1
  rw [List.length_map]
  exact h1
def headsL (l : List It) : List Nat := (groupsL l).map fun r => el r 0
theorem firsts_heads {l : List It} (hr : rightL l = true) : firstsT l l.length = headsL l := by
  refine rising_ext _ _ (List.pairwise_lt_range.filter _) ?_ (fun i => ?_)
  · unfold headsL
    rw [List.pairwise_iff_getElem]
    intro i j hi hj hij
    rw [List.length_map] at hi hj
    have := gs_heads hij hj
    rw [rowN_lt hi, rowN_lt hj] at this
    simpa using this
  · unfold firstsT headsL
    rw [List.mem_filter, List.mem_range, List.mem_map]
    constructor
    · rintro ⟨h1, h2⟩
      have h3 := of_lt hr h1
      refine ⟨rowN (groupsL l) (el (ofL l) i), ?_, ?_⟩
      · rw [rowN_lt h3]; exact List.getElem_mem _
      · rw [← foL_head hr]; simpa using h2
    · rintro ⟨r, h1, rfl⟩
      obtain ⟨g, hg, rfl⟩ := List.mem_iff_getElem.1 h1
      rw [← rowN_lt hg]
      have hm := (groups_mem hg).1 (head_mem (gs_ne hg))
      refine ⟨hm.1, ?_⟩
      have h2 := (foL_iff hg hm.1).2 hm.2
      simpa using h2
theorem memb_row {l : List It} {g : Nat} (hg : g < (groupsL l).length) : membT l (el (rowN (groupsL l) g) 0) l.length = rowN (groupsL l) g := by
  refine rising_ext _ _ (List.pairwise_lt_range.filter _) (gs_rise l g) (fun x => ?_)
  unfold membT
  rw [List.mem_filter, List.mem_range, groups_mem hg]
  simp only [Bool.and_eq_true, decide_eq_true_eq, beq_iff_eq]
  constructor
  · rintro ⟨h1, _, h2⟩; exact ⟨h1, (foL_iff hg h1).1 h2⟩
  · rintro ⟨h1, h2⟩; exact ⟨h1, rise_head (gs_rise l g) ((groups_mem hg).2 ⟨h1, h2⟩), (foL_iff hg h1).2 h2⟩
theorem rg_groups {l : List It} (hr : rightL l = true) : rgT l l.length = groupsL l := by
  unfold rgT
  rw [firsts_heads hr]
  unfold headsL
  rw [List.map_map]
  apply List.ext_getElem
  · simp
  · intro g h1 h2
    simp only [List.getElem_map, Function.comp]
    rw [← rowN_lt h2]
    exact memb_row h2

set_option maxRecDepth 100000 in
set_option maxHeartbeats 4000000 in
theorem refgroups_any (A : Option Addr) (c n : Nat) (l : List It) (hn : n = l.length) (w : World) (hl : l.length ≤ 1000) (hs : Small l) (hI : Items w w.heap.size A l) :
    Calls Try.prog 19 #[.slice A n c] w (GroupsSays w (groupsL l)) := by
  have HR := Lib.hid (refmright_any A c n l hn w hl hs hI)
  have HI := Lib.hid hI
  have Hn := Lib.hid hn
  obtain ⟨i0, hi, hz0, hz1, hz2⟩ := info_parts info3
  obtain ⟨j0, hj0, hy0, hy1, hy2⟩ := info_parts info29
  cases hr : rightL l with
  | false =>
    have Hg : Hid (groupsL l = []) := by unfold Hid groupsL; rw [hr]; rfl
    rw [hr] at HR
    clear hr hI hn hs hl
    go_enter Try.func19, Try.ntmps19
    go_wp2_with fail
    refine HR.out.mono ?_
    rintro e w1 ⟨rfl, hB1⟩
    have HB1 := Lib.hid hB1
    clear hB1 HR
    go_wp2_with fail
    go_ret
    unfold GroupsSays
    rw [Hg.out]
    exact ⟨none, 0, rfl, Mat.nil, HB1.out⟩
  | true =>
    have hn64 : n ≤ 64 := by have := (right_out hr).2.2; omega
    have Hrg : Hid (rgT l n = groupsL l) := by unfold Hid; rw [hn]; exact rg_groups hr
    have Hr := Lib.hid hr
    rw [hr] at HR
    clear hr hI hn hs hl
    go_enter Try.func19, Try.ntmps19
    go_wp2_with fail
    refine HR.out.mono ?_
    rintro e w1 ⟨rfl, hB1⟩
    have Hof := Lib.hid (of_any A c n l Hn.out w1 Hr.out (HI.out.next hB1))
    have HB1 := Lib.hid hB1
    clear hB1 HR
    go_wp2_with fail
    refine Hof.out.mono ?_
    rintro e w2 ⟨bo, rfl, hbo, _, hB2⟩
    rw [← Hn.out] at hbo ⊢
    have HF : Hid (∀ z, z < n → w2.cell? ⟨bo, z, none⟩ = some (.int .i64 ((foL l z : Nat) : Int))) := fun z hz => by rw [hbo.cell, numV_at _ hz]
    have hbl := hbo.lt
    have HB2 := Lib.hid (HB1.out.trans (hB2.mono HB1.out.size))
    obtain ⟨base, hbase⟩ : ∃ base, base = w2.heap.size := ⟨_, rfl⟩
    have Hbase := Lib.hid hbase
    rw [← hbase] at hbl
    clear hbo hB2 Hof HB1 HI hbase
    go_wp2_with fail
    go_loopw [3, 5] (fun v i wr => ∃ (k : Nat) (vs : Nat → Value), k ≤ n ∧ i = .int .i64 k ∧ RwSt base wr (rgT l k) v vs ∧ Below base w2 wr) (fun _ i _ => n - (intOf i).toNat)
    case atStart => exact ⟨0, _, Nat.zero_le _, rfl, RwSt.nil _ _, by rw [Hbase.out]; exact Below.refl _ _⟩
    case round =>
      obtain ⟨k, vs, hk, rfl, hst, hB⟩ := hrel
      rename World => wr
      have Hst := Lib.hid hst
      have HB := Lib.hid hB
      have hk0 : (0 : Int) ≤ (k : Int) := by omega
      by_cases hlt : k < n
      · have hlti : (k : Int) < (n : Int) := by omega
        have hck : wr.cell? ⟨bo, k, none⟩ = some (.int .i64 ((foL l k : Nat) : Int)) := (hB.cell (p := ⟨bo, k, none⟩) hbl).trans (HF.out k hlt)
        have Hhit := Lib.hid (@rgT_hit l k)
        have Hmiss := Lib.hid (@rgT_miss l k)
        have hrl := rgT_len l k
        obtain ⟨f, hf⟩ : ∃ f, f = foL l k := ⟨_, rfl⟩
        rw [← hf] at hck Hhit Hmiss
        clear hf hst
        by_cases hfk : f = k
        · have Hs := Lib.hid (Hhit.out hfk)
          subst hfk
          have hszR : base ≤ wr.heap.size := by rw [Hbase.out]; exact hB.size
          clear hB
          go_wp2_with fail
          go_loopw [6, 7] (fun v i w4 => ∃ j : Nat, f ≤ j ∧ j ≤ n ∧ i = .int .i64 j ∧ w4.ownsRow wr.heap.size 3 1 v (membT l f j).length (natsV (membT l f j)) ∧ Below wr.heap.size wr w4) (fun _ i _ => n - (intOf i).toNat)
          case atStart => exact ⟨f, Nat.le_refl _, hk, rfl, by rw [membT_start]; exact World.ownsRow_nil _ _ _ _, Below.refl _ _⟩
          case round =>
            obtain ⟨j, hfj, hj, rfl, hown, hB4⟩ := hrel
            rename World => w4
            have HB4 := Lib.hid hB4
            have Hown := Lib.hid hown
            have hsz := hB4.size
            have hjz : (0 : Int) ≤ (j : Int) := by omega
            by_cases hltj : j < n
            · have hltji : (j : Int) < (n : Int) := by omega
              have hcj : w4.cell? ⟨bo, j, none⟩ = some (.int .i64 ((foL l j : Nat) : Int)) := (hB4.cell (p := ⟨bo, j, none⟩) (by show bo < wr.heap.size; omega)).trans ((HB.out.cell (p := ⟨bo, j, none⟩) hbl).trans (HF.out j hltj))
              have Hh := Lib.hid (@membT_hit l f j hfj)
              have Hm := Lib.hid (@membT_miss l f j)
              have hql := membT_len l f j
              obtain ⟨q, hq⟩ : ∃ q, q = membT l f j := ⟨_, rfl⟩
              rw [← hq] at hown Hown Hh Hm hql
              obtain ⟨y, hy⟩ : ∃ y, y = foL l j := ⟨_, rfl⟩
              rw [← hy] at hcj Hh Hm
              clear hq hy hB4
              by_cases hyf : y = f
              · have Hs2 := Lib.hid (Hh.out hyf)
                subst hyf
                go_wp2_with (at_builtin; refine wpList_append_own _ rfl _ _ 29 rfl wr.heap.size 3 i0 (.int .i64 0) 1 8 Try.underlying29 hi hz0 hz1 hz2 rfl (by decide) _ _ _ rfl (hown.alloc _) ⟨w4.heap.size, 0, none⟩ 1 1 [.int .i64 ((j : Nat) : Int)] rfl rfl (cell_one_new _ _ _) (by simp [Value.oneCell']) (by unfold maxLen; omega) (by omega) (by simp; omega) ?_; intro v' w6 hown' hgrow _; have hB6 : Below wr.heap.size wr w6 := HB4.out.trans ((((Below.refl _ w4).alloc hsz _)).grown hgrow (by simp; omega) (fun j e => (hown.lt j e).1)); have Hown6 := Lib.hid hown'; have HB6 := Lib.hid hB6; clear hown' hB6 hgrow)
                go_roundw
                case rel =>
                  refine ⟨j + 1, by omega, by omega, by go_num, ?_, HB6.out⟩
                  rw [Hs2.out]
                  simpa [natsV] using Hown6.out
                case measure => simp [intOf]; omega
              · have Hs2 := Lib.hid (Hm.out hyf)
                have hb1 : (((y : Nat) : Int) == ((f : Nat) : Int)) = false := by simp; omega
                clear hyf hown
                go_wp2_with fail
                go_roundw
                case rel => exact ⟨j + 1, by omega, by omega, by go_num, by rw [Hs2.out]; exact Hown.out, HB4.out⟩
                case measure => simp [intOf]; omega
            · have hltji : ¬ (j : Int) < (n : Int) := by omega
              obtain rfl : j = n := by omega
              rw [← Hn.out] at Hs
              have hql := membT_len l f j
              obtain ⟨q, hq⟩ : ∃ q, q = membT l f j := ⟨_, rfl⟩
              rw [← hq] at hown Hs hql
              have Hst4 := Lib.hid (Hst.out.next hB4)
              have hsz4 : base ≤ w4.heap.size := by omega
              have Hrow := Lib.hid (own_mono hown (base' := base) hszR)
              obtain ⟨A7, c7, rfl, _⟩ := own_slice3 hown
              obtain ⟨gsx, hgsx⟩ : ∃ gsx, gsx = rgT l f := ⟨_, rfl⟩
              rw [← hgsx] at Hst4 Hs hrl
              have hgp := Hst4.out.grp
              have HBw : Hid (Below base w2 w4) := HB.out.trans (hB4.mono hszR)
              clear hq hown hB4 Hown hgsx
              go_wp2_with (at_builtin; refine wpList_append_own _ rfl _ _ 27 rfl base 29 j0 (.slice none 0 0) 1 24 Try.underlying27 hj0 hy0 hy1 hy2 rfl (by decide) _ _ _ rfl (hgp.alloc _) ⟨w4.heap.size, 0, none⟩ 1 1 [.slice A7 q.length c7] rfl rfl (cell_one_new _ _ _) (by simp [Value.oneCell']) (by unfold maxLen; omega) (by omega) (by simp; omega) ?_; intro v' w8 hown' hgrow _; have hpush := RwSt.push Hst4.out Hrow.out hown' hgrow; have hB8 : Below base w2 w8 := HBw.out.trans ((((Below.refl _ w4).alloc hsz4 _)).grown hgrow (by simp; omega) (fun j e => (hgp.lt j e).1)); have Hpush := Lib.hid hpush; have HB8 := Lib.hid hB8; clear hpush hB8 hown' hgrow)
              go_roundw
              case rel => exact ⟨f + 1, _, by omega, by go_num, by rw [Hs.out]; exact Hpush.out, HB8.out⟩
              case measure => simp [intOf]; omega
        · have Hs := Lib.hid (Hmiss.out hfk)
          have hb1 : (((f : Nat) : Int) == ((k : Nat) : Int)) = false := by simp; omega
          clear hfk hB
          go_wp2_with fail
          go_roundw
          case rel => exact ⟨k + 1, vs, by omega, by go_num, by rw [Hs.out]; exact Hst.out, HB.out⟩
          case measure => simp [intOf]; omega
      · have hlti : ¬ (k : Int) < (n : Int) := by omega
        obtain rfl : k = n := by omega
        rw [Hrg.out] at hst
        obtain ⟨Av, cv, rfl, hm⟩ := hst.mat
        have Hmm := Lib.hid hm
        have HBf := Lib.hid (HB2.out.trans (HB.out.mono (by rw [Hbase.out]; exact HB2.out.size)))
        clear hst hm hB Hst
        go_wp2_with fail
        go_ret
        exact ⟨Av, cv, rfl, Hmm.out, HBf.out⟩
end Go.Proofs.Ytkfjkhacchbkeaa
