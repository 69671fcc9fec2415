/- Contract of the document's Expand. -/
import Derived.Test.YtkfjkhacchbkeaaCC
namespace Go.Proofs.Ytkfjkhacchbkeaa
set_option linter.unusedVariables false
set_option linter.unusedSimpArgs false
open Go.RowKit

/-- is it in one of the groups asked for, among the first so many? -/
def inB (gs : List (List Nat)) (some : List Int) (x k : Nat) : Bool := (List.range k).any fun g => decide ((g : Int) ∈ some) && decide ((x : Int) ∈ natsI (rowN gs g))
theorem inB_succ (gs : List (List Nat)) (some : List Int) (x k : Nat) : inB gs some x (k + 1) = (inB gs some x k || (decide ((k : Int) ∈ some) && decide ((x : Int) ∈ natsI (rowN gs k)))) := by
  simp [inB, List.range_succ]
def outE (gs : List (List Nat)) (some : List Int) (k : Nat) : List Nat := (List.range k).filter fun x => inB gs some x gs.length
theorem outE_hit {gs : List (List Nat)} {some : List Int} {k : Nat} (h : inB gs some k gs.length = true) : outE gs some (k + 1) = outE gs some k ++ [k] := by
  unfold outE
  rw [List.range_succ, List.filter_append]
  simp [h]
theorem outE_miss {gs : List (List Nat)} {some : List Int} {k : Nat} (h : inB gs some k gs.length = false) : outE gs some (k + 1) = outE gs some k := by
  unfold outE
  rw [List.range_succ, List.filter_append]
  simp [h]
theorem outE_len (gs : List (List Nat)) (some : List Int) (k : Nat) : (outE gs some k).length ≤ k := by
  unfold outE
  have h1 := List.length_filter_le (fun x => inB gs some x gs.length) (List.range k)
  rw [List.length_range] at h1
  exact h1
theorem inB_iff {gs : List (List Nat)} {some : List Int} {x : Nat} : inB gs some x gs.length = true ↔ ∃ g : Nat, (g : Int) ∈ some ∧ x ∈ rowN gs g := by
  unfold inB
  rw [List.any_eq_true]
  simp only [List.mem_range, Bool.and_eq_true, decide_eq_true_eq, mem_natsI]
  constructor
  · rintro ⟨g, _, h1, h2⟩; exact ⟨g, h1, h2⟩
  · rintro ⟨g, h1, h2⟩; exact ⟨g, mem_row_lt h2, h1, h2⟩
theorem outE_expand (l : List It) (some : List Int) : outE (groupsL l) some l.length = expandL l some := by
  refine rising_ext _ _ (List.pairwise_lt_range.filter _) (expand_rising _ _) (fun x => ?_)
  unfold outE
  rw [List.mem_filter, List.mem_range, inB_iff, mem_expand]
  constructor
  · rintro ⟨_, h⟩; exact h
  · rintro ⟨g, h1, h2⟩; exact ⟨(groupsL_row h2).1, g, h1, h2⟩
theorem outE_not {l : List It} (h : rightL l = false) (some : List Int) (k : Nat) : outE (groupsL l) some k = expandL l some := by
  have hg : groupsL l = [] := by unfold groupsL; rw [h]; rfl
  refine rising_ext _ _ (List.pairwise_lt_range.filter _) (expand_rising _ _) (fun x => ?_)
  unfold outE
  rw [List.mem_filter, inB_iff, mem_expand, hg]
  constructor
  · rintro ⟨_, h⟩; exact h
  · rintro ⟨g, h1, h2⟩; simp [rowN] at h2

set_option maxRecDepth 100000 in
set_option maxHeartbeats 4000000 in
theorem refexpand_any (A : Option Addr) (c n : Nat) (l : List It) (A2 : Option Addr) (c2 n2 : Nat) (some : List Int) (hn : n = l.length) (hn2 : n2 = some.length) (w : World) (hl : l.length ≤ 1000) (hl2 : some.length ≤ 100000) (hs : Small l) (hI : Items w w.heap.size A l) (hI2 : Ints w w.heap.size A2 some) :
    Calls Try.prog 25 #[.slice A n c, .slice A2 n2 c2] w (IntsSays w (expandL l some)) := by
  have HG := Lib.hid (refgroups_any A c n l hn w hl hs hI)
  have HR := Lib.hid (fun W (h : Items W W.heap.size A l) => refmright_any A c n l hn W hl hs h)
  have HI := Lib.hid hI
  have HI2 := Lib.hid hI2
  have Hn2 := Lib.hid hn2
  have hn1 : n ≤ 1000 := by omega
  have HxT : Hid (outE (groupsL l) some n = expandL l some) := by unfold Hid; rw [hn]; exact outE_expand l some
  have HxF := Lib.hid (fun h => @outE_not l h some)
  obtain ⟨i0, hi, hz0, hz1, hz2⟩ := info_parts info3
  have hgl := (groupsL_len l).1
  have Hrl := Lib.hid (groupsL_rowlen l)
  obtain ⟨gs, hgs⟩ : ∃ gs, gs = groupsL l := ⟨_, rfl⟩
  rw [← hgs] at HG HxT HxF hgl Hrl
  obtain ⟨r, hr⟩ : ∃ r, r = rightL l := ⟨_, rfl⟩
  rw [← hr] at HR HxF
  have hl2' := hl2
  clear hI hI2 hn hn2 hgs hr hs hl
  go_enter Try.func25, Try.ntmps25
  go_wp2_with fail
  refine HG.out.mono ?_
  rintro e w1 ⟨Ag, cg, rfl, hM1, hB1⟩
  have HI1 := Lib.hid (HI.out.next hB1)
  have HI21 := Lib.hid (HI2.out.next hB1)
  have HM1 := Lib.hid hM1
  have HB1 := Lib.hid hB1
  clear hM1 hB1 HG HI HI2
  go_wp2_with fail
  go_loopw [6, 7] (fun v i wr => ∃ k : Nat, k ≤ n ∧ i = .int .i64 k ∧ wr.ownsRow w1.heap.size 3 1 v (outE gs some k).length (natsV (outE gs some k)) ∧ Below w1.heap.size w1 wr) (fun _ i _ => n - (intOf i).toNat)
  case atStart => exact ⟨0, Nat.zero_le _, rfl, World.ownsRow_nil _ _ _ _, Below.refl _ _⟩
  case round =>
    obtain ⟨k, hk, rfl, hown, hB⟩ := hrel
    rename World => wr
    have HB := Lib.hid hB
    have Hown := Lib.hid hown
    have hsz := hB.size
    have hk0 : (0 : Int) ≤ (k : Int) := by omega
    have Hrw := Lib.hid (HR.out wr (HI1.out.next hB))
    have hql := outE_len gs some k
    clear hB hown
    cases r with
    | false =>
      have Hx := Lib.hid (HxF.out rfl k)
      rw [Hx.out] at Hown hql
      obtain ⟨q, hq⟩ : ∃ q, q = expandL l some := ⟨_, rfl⟩
      rw [← hq] at Hown
      have ho := Hown.out
      rw [natsV_intsV] at ho
      obtain ⟨A5, c5, rfl, _, _, hI5⟩ := own_ints (n := q.length) ho
      have HI5 := Lib.hid hI5
      have Hq := Lib.hid hq
      clear hq ho hI5 Hown Hx HxF HxT hql HR
      go_wp2_with (go_at_call 16; refine Hrw.out.mono ?_; rintro e w2 ⟨rfl, hB2⟩; have HI6 := Lib.hid (HI5.out.next hB2); have HB2 := Lib.hid (HB1.out.trans ((HB.out.trans (hB2.mono hsz)).mono HB1.out.size)); clear hB2)
      go_ret
      unfold IntsSays
      rw [← Hq.out]
      exact ⟨A5, c5, (by rw [length_natsI]; rfl), HI6.out, HB2.out⟩
    | true =>
      by_cases hlt : k < n
      · have hlti : (k : Int) < (n : Int) := by omega
        have Hhit := Lib.hid (@outE_hit gs some k)
        have Hmiss := Lib.hid (@outE_miss gs some k)
        obtain ⟨q, hq⟩ : ∃ q, q = outE gs some k := ⟨_, rfl⟩
        rw [← hq] at Hown Hhit Hmiss hql
        clear hq HxF HxT HR
        go_wp2_with (go_at_call 16; refine Hrw.out.mono ?_; rintro e w2 ⟨rfl, hB2⟩; have HB2 := Lib.hid (HB.out.trans (hB2.mono hsz)); have Hown2 := Lib.hid (own_lay Hown.out hB2); have hsz2 := HB2.out.size; clear hB2)
        go_loopw [8, 9] (fun v8 v9 w4 => ∃ t : Nat, t ≤ gs.length ∧ v9 = .int .i64 t ∧ v8 = .bool (inB gs some k t) ∧ w4 = w2) (fun _ v9 _ => gs.length - (intOf v9).toNat)
        case atStart => exact ⟨0, Nat.zero_le _, rfl, by simp [inB], rfl⟩
        case round =>
          obtain ⟨t, ht, rfl, rfl, rfl⟩ := hrel
          rename World => w4
          have ht0 : (0 : Int) ≤ (t : Int) := by omega
          by_cases hltt : t < gs.length
          · have hltti : (t : Int) < (gs.length : Int) := by omega
            have Hs := Lib.hid (inB_succ gs some k t)
            have Hh1 := Lib.hid (has_any A2 c2 n2 some (t : Int) w4 w4.heap.size Hn2.out hl2 (HI21.out.next HB2.out))
            obtain ⟨b0, hb0⟩ : ∃ b0, b0 = inB gs some k t := ⟨_, rfl⟩
            obtain ⟨d1, hd1⟩ : ∃ d1, d1 = decide ((t : Int) ∈ some) := ⟨_, rfl⟩
            rw [← hb0, ← hd1] at Hs
            rw [← hb0]
            rw [← hd1] at Hh1
            clear hb0 hd1
            cases b0 with
            | true =>
              have Hs1 : Hid (inB gs some k (t + 1) = true) := by unfold Hid; rw [Hs.out]; rfl
              go_wp2_with fail
              go_roundw
              case rel => exact ⟨t + 1, by omega, by go_num, by rw [Hs1.out], trivial⟩
              case measure => simp [intOf]; omega
            | false =>
              cases d1 with
              | false =>
                have Hs1 : Hid (inB gs some k (t + 1) = false) := by unfold Hid; rw [Hs.out]; rfl
                go_wp2_with (go_at_call 51; refine Hh1.out.mono ?_; rintro e w5 ⟨rfl, rfl⟩)
                go_roundw
                case rel => exact ⟨t + 1, by omega, by go_num, by rw [Hs1.out], trivial⟩
                case measure => simp [intOf]; omega
              | true =>
                obtain ⟨b, off, Ax, cx, rfl, hbw, hcr, hIx⟩ := HM1.out.rowAt hltt
                have hcr2 : w4.cell? ⟨b, off + t, none⟩ = .some (.slice Ax (rowN gs t).length cx) := (HB2.out.cell (p := ⟨b, off + t, none⟩) hbw).trans hcr
                have hrl := Hrl.out t
                have Hh2 := Lib.hid (has_any Ax cx (rowN gs t).length (natsI (rowN gs t)) (k : Int) w4 _ (length_natsI _).symm (by rw [length_natsI]; omega) (hIx.below HB2.out))
                obtain ⟨d2, hd2⟩ : ∃ d2, d2 = decide ((k : Int) ∈ natsI (rowN gs t)) := ⟨_, rfl⟩
                rw [← hd2] at Hs Hh2
                have Hs1 : Hid (inB gs some k (t + 1) = d2) := by unfold Hid; rw [Hs.out]; rfl
                clear hcr hIx hd2 hbw
                go_wp2_with (first
                  | (go_at_call 51; refine Hh1.out.mono ?_; clear Hh1; rintro e w5 ⟨rfl, rfl⟩)
                  | (go_at_call 51; refine Hh2.out.mono ?_; rintro e w6 ⟨rfl, rfl⟩))
                go_roundw
                case rel => exact ⟨t + 1, by omega, by go_num, by rw [Hs1.out], trivial⟩
                case measure => simp [intOf]; omega
          · have hltti : ¬ (t : Int) < (gs.length : Int) := by omega
            obtain rfl : t = gs.length := by omega
            obtain ⟨b0, hb0⟩ : ∃ b0, b0 = inB gs some k gs.length := ⟨_, rfl⟩
            rw [← hb0] at Hhit Hmiss ⊢
            clear hb0
            cases b0 with
            | true =>
              have Hs := Lib.hid (Hhit.out rfl)
              have hown := Hown2.out
              go_wp2_with (at_builtin; refine wpList_append_own _ rfl _ _ 29 rfl w1.heap.size 3 i0 (.int .i64 0) 1 8 Try.underlying29 hi hz0 hz1 hz2 rfl (by decide) _ _ _ rfl (hown.alloc _) ⟨w4.heap.size, 0, none⟩ 1 1 [.int .i64 ((k : Nat) : Int)] rfl rfl (cell_one_new _ _ _) (by simp [Value.oneCell']) (by unfold maxLen; omega) (by omega) (by simp; omega) ?_; intro v' w6 hown' hgrow _; have hB6 : Below w1.heap.size w1 w6 := HB2.out.trans ((((Below.refl _ w4).alloc hsz2 _)).grown hgrow (by simp; omega) (fun j e => (hown.lt j e).1)); have Hown6 := Lib.hid hown'; have HB6 := Lib.hid hB6; clear hown' hB6 hgrow)
              go_roundw
              case rel =>
                refine ⟨k + 1, by omega, by go_num, ?_, HB6.out⟩
                rw [Hs.out]
                simpa [natsV] using Hown6.out
              case measure => simp [intOf]; omega
            | false =>
              have Hs := Lib.hid (Hmiss.out rfl)
              go_wp2_with fail
              go_roundw
              case rel => exact ⟨k + 1, by omega, by go_num, by rw [Hs.out]; exact Hown2.out, HB2.out⟩
              case measure => simp [intOf]; omega
      · have hlti : ¬ (k : Int) < (n : Int) := by omega
        obtain rfl : k = n := by omega
        rw [HxT.out] at Hown hql
        obtain ⟨q, hq⟩ : ∃ q, q = expandL l some := ⟨_, rfl⟩
        rw [← hq] at Hown
        have ho := Hown.out
        rw [natsV_intsV] at ho
        obtain ⟨A5, c5, rfl, _, _, hI5⟩ := own_ints (n := q.length) ho
        have HI5 := Lib.hid hI5
        have Hq := Lib.hid hq
        clear hq ho hI5 Hown HxF HxT hql HR
        go_wp2_with (go_at_call 16; refine Hrw.out.mono ?_; rintro e w2 ⟨rfl, hB2⟩; have HI6 := Lib.hid (HI5.out.next hB2); have HB2 := Lib.hid (HB1.out.trans ((HB.out.trans (hB2.mono hsz)).mono HB1.out.size)); clear hB2)
        go_ret
        unfold IntsSays
        rw [← Hq.out]
        exact ⟨A5, c5, (by rw [length_natsI]; rfl), HI6.out, HB2.out⟩
end Go.Proofs.Ytkfjkhacchbkeaa
