/- Contract of the document's Deps. -/
import Derived.Test.YtkfjkhacchbkeaaCC
import Derived.Deep.QuietTactic
import Derived.BigQuiet
namespace Go.Proofs.Ytkfjkhacchbkeaa
set_option linter.unusedVariables false
set_option linter.unusedSimpArgs false
open Go.RowKit

/-- does an item, do items, lean on one of a group? -/
def hitU (D : List (List Nat)) (gk : List Nat) (y t : Nat) : Bool := ((rowN D y).take t).any fun d => decide ((d : Int) ∈ natsI gk)
def hitT (D : List (List Nat)) (gk row : List Nat) (m : Nat) : Bool := (row.take m).any fun y => hitU D gk y (rowN D y).length
theorem hitU_succ {D : List (List Nat)} {gk : List Nat} {y t : Nat} (h : t < (rowN D y).length) : hitU D gk y (t + 1) = (hitU D gk y t || decide (((el (rowN D y) t : Nat) : Int) ∈ natsI gk)) := by
  unfold hitU
  rw [take_el _ _ h, List.any_append]
  simp
theorem hitT_succ {D : List (List Nat)} {gk row : List Nat} {m : Nat} (h : m < row.length) : hitT D gk row (m + 1) = (hitT D gk row m || hitU D gk (el row m) (rowN D (el row m)).length) := by
  unfold hitT
  rw [take_el _ _ h, List.any_append]
  simp
theorem hitT_iff {D : List (List Nat)} {gk row : List Nat} : hitT D gk row row.length = true ↔ ∃ y ∈ row, ∃ d ∈ rowN D y, d ∈ gk := by
  unfold hitT hitU
  simp only [List.take_length, List.any_eq_true, decide_eq_true_eq, mem_natsI]
def rowDT (gs D : List (List Nat)) (i k : Nat) : List Nat := (List.range k).filter fun x => hitT D (rowN gs x) (rowN gs i) (rowN gs i).length && (x != i)
theorem rowDT_hit {gs D : List (List Nat)} {i k : Nat} (h : hitT D (rowN gs k) (rowN gs i) (rowN gs i).length = true) (hk : k ≠ i) : rowDT gs D i (k + 1) = rowDT gs D i k ++ [k] := by
  unfold rowDT
  rw [List.range_succ, List.filter_append]
  simp [h, hk]
theorem rowDT_self (gs D : List (List Nat)) (i : Nat) : rowDT gs D i (i + 1) = rowDT gs D i i := by
  unfold rowDT
  rw [List.range_succ, List.filter_append]
  simp
theorem rowDT_miss {gs D : List (List Nat)} {i k : Nat} (h : hitT D (rowN gs k) (rowN gs i) (rowN gs i).length = false) : rowDT gs D i (k + 1) = rowDT gs D i k := by
  unfold rowDT
  rw [List.range_succ, List.filter_append]
  simp [h]
theorem rowDT_len (gs D : List (List Nat)) (i k : Nat) : (rowDT gs D i k).length ≤ k := by
  unfold rowDT
  have h1 := List.length_filter_le (fun x => hitT D (rowN gs x) (rowN gs i) (rowN gs i).length && (x != i)) (List.range k)
  rw [List.length_range] at h1
  exact h1
theorem rowDT_dep {l : List It} {i : Nat} (hi : i < (groupsL l).length) : rowDT (groupsL l) (depsN l) i (groupsL l).length = depG l i := by
  have hr := groups_right hi
  refine rising_ext _ _ (List.pairwise_lt_range.filter _) (by unfold depG; exact among_rising _ _) (fun x => ?_)
  have hm := @mem_mdeps l i x hi
  rw [rowN_mdeps hi] at hm
  rw [hm]
  unfold rowDT
  rw [List.mem_filter, List.mem_range, Bool.and_eq_true, hitT_iff]
  simp only [bne_iff_ne]
  constructor
  · rintro ⟨h1, ⟨y, hy, d, hd, hx⟩, h3⟩
    exact ⟨h1, h3, y, hy, d, hd, ((groups_mem h1).1 hx).2⟩
  · rintro ⟨h1, h3, y, hy, d, hd, hx⟩
    exact ⟨h1, ⟨y, hy, d, hd, (groups_mem h1).2 ⟨(dep_lt hr hd).1, hx⟩⟩, h3⟩

set_option maxRecDepth 100000 in
set_option maxHeartbeats 8000000 in
theorem refdeps_any (A : Option Addr) (c n : Nat) (l : List It) (hn : n = l.length) (w : World) (hl : l.length ≤ 1000) (hs : Small l) (hI : Items w w.heap.size A l) :
    Calls Try.prog 21 #[.slice A n c] w (GroupsSays w (mdepsL l)) := by
  have HG := Lib.hid (refgroups_any A c n l hn w hl hs hI)
  have HI := Lib.hid hI
  obtain ⟨i0, hi, hz0, hz1, hz2⟩ := info_parts info3
  obtain ⟨j0, hj0, hy0, hy1, hy2⟩ := info_parts info29
  have hgl := (groupsL_len l).1
  have Hrl := Lib.hid (groupsL_rowlen l)
  have Hmd : Hid ((mdepsL l).length = (groupsL l).length) := length_mdepsL l
  have Htk := Lib.hid (fun g h => @mdeps_take l g h)
  have Hdg := Lib.hid (fun g h => @rowDT_dep l g h)
  have Hmem : Hid (∀ g x, x ∈ rowN (groupsL l) g → x < n) := fun g x hx => by rw [hn]; exact (groupsL_row hx).1
  have Hitem : Hid (∀ g x, g < (groupsL l).length → x < n → (itN l x).d = natsI (rowN (depsN l) x)) := fun g x hg hx => item_row (groups_right hg) (by omega)
  have Hdl : Hid (∀ g x, g < (groupsL l).length → (rowN (depsN l) x).length ≤ 256) := fun g x hg => (right_out (groups_right hg)).2.1.len x
  have Hn := Lib.hid hn
  obtain ⟨gs, hgs⟩ : ∃ gs, gs = groupsL l := ⟨_, rfl⟩
  obtain ⟨D, hD⟩ : ∃ D, D = depsN l := ⟨_, rfl⟩
  rw [← hgs] at HG hgl Hrl Hmd Htk Hdg Hmem Hitem Hdl
  rw [← hD] at Hdg Hitem Hdl
  clear hI hn hl hs hgs hD
  go_enter Try.func21, Try.ntmps21
  go_wp2_with fail
  refine HG.out.mono ?_
  rintro e w1 ⟨Ag, cg, rfl, hM1, hB1⟩
  have HI1 := Lib.hid (HI.out.next hB1)
  have HM1 := Lib.hid hM1
  have HB1 := Lib.hid hB1
  obtain ⟨base, hbase⟩ : ∃ base, base = w1.heap.size := ⟨_, rfl⟩
  have Hbase := Lib.hid hbase
  clear hM1 hB1 HG HI hbase
  go_wp2_with fail
  go_loopw [4, 5] (fun v i wr => ∃ (g : Nat) (vs : Nat → Value), g ≤ gs.length ∧ i = .int .i64 g ∧ RwSt base wr ((mdepsL l).take g) v vs ∧ Below base w1 wr) (fun _ i _ => gs.length - (intOf i).toNat)
  case atStart => exact ⟨0, _, Nat.zero_le _, rfl, RwSt.nil _ _, by rw [Hbase.out]; exact Below.refl _ _⟩
  case round =>
    obtain ⟨g, vs, hg, rfl, hst, hB⟩ := hrel
    rename World => wr
    have Hst := Lib.hid hst
    have HB := Lib.hid hB
    have hg0 : (0 : Int) ≤ (g : Int) := by omega
    by_cases hlt : g < gs.length
    · have hlti : (g : Int) < (gs.length : Int) := by omega
      have hszR : base ≤ wr.heap.size := by rw [Hbase.out]; exact hB.size
      obtain ⟨b, off, Ax, cx, rfl, hbw, hcr, hIx⟩ := HM1.out.rowAt hlt
      have hbw2 : b < base := by rw [Hbase.out]; exact hbw
      have hrl := Hrl.out g
      have Htk1 := Lib.hid (Htk.out g hlt)
      have Hdg1 := Lib.hid (Hdg.out g hlt)
      have Hitem1 := Lib.hid (fun x => Hitem.out g x hlt)
      have Hdl1 := Lib.hid (fun x => Hdl.out g x hlt)
      have Hmem1 := Lib.hid (Hmem.out g)
      have hml : ((mdepsL l).take g).length = g := by rw [List.length_take, Hmd.out]; omega
      have Hml := Lib.hid hml
      have Hrow := Lib.hid (fun k => @rowDT_hit gs D g k)
      have Hrow2 := Lib.hid (fun k => @rowDT_miss gs D g k)
      have Hrow3 := Lib.hid (rowDT_self gs D g)
      obtain ⟨row, hre⟩ : ∃ row, row = rowN gs g := ⟨_, rfl⟩
      rw [← hre] at hcr hIx hrl Hmem1 Hrow Hrow2
      have HcI : Hid (∀ W', Below base w1 W' → W'.cell? ⟨b, off + g, none⟩ = some (.slice Ax row.length cx)) := fun W' hb => (hb.cell (p := ⟨b, off + g, none⟩) hbw2).trans hcr
      have HIx := Lib.hid hIx
      clear hst hB hbw hcr hIx hre hml
      go_wp2_with fail
      go_loopw [6, 7] (fun v i w3 => ∃ k : Nat, k ≤ gs.length ∧ i = .int .i64 k ∧ w3.ownsRow wr.heap.size 3 1 v (rowDT gs D g k).length (natsV (rowDT gs D g k)) ∧ Below wr.heap.size wr w3) (fun _ i _ => gs.length - (intOf i).toNat)
      case atStart => exact ⟨0, Nat.zero_le _, rfl, World.ownsRow_nil _ _ _ _, Below.refl _ _⟩
      case round =>
        obtain ⟨k, hk, rfl, hown, hB3⟩ := hrel
        rename World => w3
        have Hown := Lib.hid hown
        have HB3 := Lib.hid hB3
        have HBw : Hid (Below base w1 w3) := HB.out.trans (hB3.mono hszR)
        have hsz3 := hB3.size
        have hk0 : (0 : Int) ≤ (k : Int) := by omega
        have hql := rowDT_len gs D g k
        by_cases hltk : k < gs.length
        · have hltki : (k : Int) < (gs.length : Int) := by omega
          obtain ⟨b', off', Ak, ck, e', hbw', hcr', hIk⟩ := HM1.out.rowAt hltk
          cases e'
          have hgkl := Hrl.out k
          have Hrk := Lib.hid (Hrow.out k)
          have Hrk2 := Lib.hid (Hrow2.out k)
          obtain ⟨gk, hgk⟩ : ∃ gk, gk = rowN gs k := ⟨_, rfl⟩
          rw [← hgk] at hcr' hIk hgkl Hrk Hrk2
          have HcK : Hid (∀ W', Below base w1 W' → W'.cell? ⟨b, off + k, none⟩ = some (.slice Ak gk.length ck)) := fun W' hb => (hb.cell (p := ⟨b, off + k, none⟩) hbw2).trans hcr'
          have HIk := Lib.hid hIk
          obtain ⟨q, hq⟩ : ∃ q, q = rowDT gs D g k := ⟨_, rfl⟩
          have Hq := Lib.hid hq
          rw [← hq] at Hown Hrk Hrk2 hql
          clear hown hB3 hcr' hIk hgk hq
          go_wp2_with fail
          go_loopw [8, 9] (fun v8 v9 w4 => ∃ m : Nat, m ≤ row.length ∧ v9 = .int .i64 m ∧ v8 = .bool (hitT D gk row m) ∧ Quiet w3 w4) (fun _ v9 _ => row.length - (intOf v9).toNat)
          case atStart => exact ⟨0, Nat.zero_le _, rfl, by simp [hitT], Quiet.refl _⟩
          case round =>
            obtain ⟨m, hm, rfl, rfl, hq4⟩ := hrel
            rename World => w4
            have Hq4 := Lib.hid hq4
            have hm0 : (0 : Int) ≤ (m : Int) := by omega
            have hcI4 := HcI.out w4 (hq4.below HBw.out)
            by_cases hltm : m < row.length
            · have hltmi : (m : Int) < (row.length : Int) := by omega
              obtain ⟨br, or, rfl, hbr, hc⟩ := HIx.out.nat hltm
              have hc4 : w4.cell? ⟨br, or + m, none⟩ = some (.int .i64 ((el row m : Nat) : Int)) := ((hq4.below HBw.out).cell (p := ⟨br, or + m, none⟩) (by rw [Hbase.out]; exact hbr)).trans hc
              have hyr : el row m ∈ row := by rw [el_lt hltm]; exact List.getElem_mem _
              have Hts := Lib.hid (@hitT_succ D gk row m hltm)
              obtain ⟨y, hy⟩ : ∃ y, y = el row m := ⟨_, rfl⟩
              rw [← hy] at hc4 hyr Hts
              have hyn := Hmem1.out y hyr
              have hyi : (y : Int) < (n : Int) := by omega
              have hyz : (0 : Int) ≤ (y : Int) := by omega
              obtain ⟨bi, oi, Ad, cd, rfl, hbi, hIt⟩ := HI1.out.at_ (k := y) (by rw [← Hn.out]; exact hyn)
              have hc3 := hIt.c3
              have hIrow := hIt.row
              rw [Hitem1.out y hyn, length_natsI] at hc3
              rw [Hitem1.out y hyn] at hIrow
              have hc34 : w4.cell? ⟨bi, oi + y * 4 + 3, none⟩ = some (.slice Ad (rowN D y).length cd) := ((hq4.below HBw.out).cell (p := ⟨bi, oi + y * 4 + 3, none⟩) (by rw [Hbase.out]; exact hbi)).trans hc3
              have HIrow := Lib.hid hIrow
              have hdl := Hdl1.out y
              have Hus := Lib.hid (fun t h => @hitU_succ D gk y t h)
              have Hu0 : Hid (hitU D gk y 0 = false) := by unfold Hid; simp [hitU]
              obtain ⟨dr, hdr⟩ : ∃ dr, dr = rowN D y := ⟨_, rfl⟩
              rw [← hdr] at hc34 HIrow hdl Hus Hts
              obtain ⟨b0, hb0⟩ : ∃ b0, b0 = hitT D gk row m := ⟨_, rfl⟩
              rw [← hb0] at Hts ⊢
              clear hc hy hyr hIt hc3 hIrow hdr hb0 hq4
              go_wp2_with fail
              go_loopw [8, 11] (fun v8 v11 w5 => ∃ t : Nat, t ≤ dr.length ∧ v11 = .int .i64 t ∧ v8 = .bool (b0 || hitU D gk y t) ∧ Quiet w3 w5) (fun _ v11 _ => dr.length - (intOf v11).toNat)
              case atStart => exact ⟨0, Nat.zero_le _, rfl, by rw [Hu0.out, Bool.or_false], Hq4.out⟩
              case round =>
                obtain ⟨t, ht, rfl, rfl, hq5⟩ := hrel
                rename World => w5
                have Hq5 := Lib.hid hq5
                have ht0 : (0 : Int) ≤ (t : Int) := by omega
                by_cases hltt : t < dr.length
                · have hltti : (t : Int) < (dr.length : Int) := by omega
                  obtain ⟨bd, od, rfl, hbd, hc⟩ := HIrow.out.nat hltt
                  have HB5 : Hid (Below base w1 w5) := hq5.below HBw.out
                  have hc5 : w5.cell? ⟨bd, od + t, none⟩ = some (.int .i64 ((el dr t : Nat) : Int)) := (HB5.out.cell (p := ⟨bd, od + t, none⟩) (by rw [Hbase.out]; exact hbd)).trans hc
                  have hcK5 := HcK.out w5 HB5.out
                  have Hus1 := Lib.hid (Hus.out t hltt)
                  obtain ⟨d, hd⟩ : ∃ d, d = el dr t := ⟨_, rfl⟩
                  rw [← hd] at hc5 Hus1
                  have Hx : Hid (∀ W', Quiet w5 W' → Calls Try.prog 51 #[.slice Ak gk.length ck, .int .i64 ((d : Nat) : Int)] W' fun e w' => e = .returned (.bool (decide (((d : Nat) : Int) ∈ natsI gk))) ∧ w' = W') := fun W' hq' =>
                    (has_any Ak ck gk.length (natsI gk) ((d : Nat) : Int) W' _ (length_natsI _).symm (by rw [length_natsI]; omega) (HIk.out.below (hq'.below (by have := HB5.out; rw [Hbase.out] at this; exact this)))).mono fun _ _ ⟨e1, e2⟩ => ⟨e1, e2.symm⟩
                  obtain ⟨dd, hdd⟩ : ∃ dd, dd = decide (((d : Nat) : Int) ∈ natsI gk) := ⟨_, rfl⟩
                  rw [← hdd] at Hus1 Hx
                  obtain ⟨u0, hu0⟩ : ∃ u0, u0 = hitU D gk y t := ⟨_, rfl⟩
                  rw [← hu0] at Hus1 ⊢
                  have Hv : Hid ((b0 || hitU D gk y (t + 1)) = ((b0 || u0) || dd)) := by unfold Hid; rw [Hus1.out, Bool.or_assoc]
                  obtain ⟨b1, hb1⟩ : ∃ b1, b1 = (b0 || u0) := ⟨_, rfl⟩
                  rw [← hb1] at Hv ⊢
                  clear hc hd hdd hu0 hb1 hq5 Hus1
                  cases b1 with
                  | true =>
                    have Hv1 : Hid ((b0 || hitU D gk y (t + 1)) = true) := by unfold Hid; rw [Hv.out]; rfl
                    go_wp2_with fail
                    go_quiet (fail)
                    go_wp2
                    go_roundw
                    case rel => exact ⟨t + 1, by omega, by go_num, by rw [Hv1.out], Hq5.out.trans ⟨_, rfl⟩⟩
                    case measure => simp [intOf]; omega
                  | false =>
                    have Hv1 : Hid ((b0 || hitU D gk y (t + 1)) = dd) := by unfold Hid; rw [Hv.out]; rfl
                    go_wp2_with fail
                    go_quiet ((go_at_call 51; exact Calls.quiet_of_same (Hx.out _ ⟨_, rfl⟩)))
                    go_wp2
                    go_roundw
                    case rel => exact ⟨t + 1, by omega, by go_num, by rw [Hv1.out], Hq5.out.trans ⟨_, rfl⟩⟩
                    case measure => simp [intOf]; omega
                · have hltti : ¬ (t : Int) < (dr.length : Int) := by omega
                  obtain rfl : t = dr.length := by omega
                  have Hf : Hid ((b0 || hitU D gk y dr.length) = hitT D gk row (m + 1)) := Hts.out.symm
                  clear hq5
                  go_wp2_with fail
                  go_roundw
                  case rel => exact ⟨m + 1, by omega, by go_num, by rw [← Hf.out], Hq5.out⟩
                  case measure => simp [intOf]; omega
            · have hltmi : ¬ (m : Int) < (row.length : Int) := by omega
              obtain rfl : m = row.length := by omega
              have Hown4 : Hid (w4.ownsRow wr.heap.size 3 1 _ q.length (natsV q)) := own_lay Hown.out (hq4.belowR)
              have HB4 : Hid (Below wr.heap.size wr w4) := hq4.below HB3.out
              have hsz4 := HB4.out.size
              obtain ⟨b0, hb0⟩ : ∃ b0, b0 = hitT D gk row row.length := ⟨_, rfl⟩
              rw [← hb0] at Hrk Hrk2 ⊢
              clear hb0 hq4 Hown
              cases b0 with
              | false =>
                have Hs := Lib.hid (Hrk2.out rfl)
                go_wp2_with fail
                go_roundw
                case rel => exact ⟨k + 1, by omega, by go_num, by rw [Hs.out, ]; exact Hown4.out, HB4.out⟩
                case measure => simp [intOf]; omega
              | true =>
                by_cases hkg : k = g
                · subst hkg
                  have Hs : Hid (rowDT gs D k (k + 1) = q) := by unfold Hid; rw [Hrow3.out, ← Hq.out]
                  go_wp2_with fail
                  go_roundw
                  case rel => exact ⟨k + 1, by omega, by go_num, by rw [Hs.out]; exact Hown4.out, HB4.out⟩
                  case measure => simp [intOf]; omega
                · have Hs := Lib.hid (Hrk.out rfl hkg)
                  have hb1 : (((k : Nat) : Int) == ((g : Nat) : Int)) = false := by simp; omega
                  have hown := Hown4.out
                  clear hkg
                  go_wp2_with (at_builtin; refine wpList_append_own _ rfl _ _ 29 rfl wr.heap.size 3 i0 (.int .i64 0) 1 8 Try.underlying29 hi hz0 hz1 hz2 rfl (by decide) _ _ _ rfl (hown.alloc _) ⟨w4.heap.size, 0, none⟩ 1 1 [.int .i64 ((k : Nat) : Int)] rfl rfl (cell_one_new _ _ _) (by simp [Value.oneCell']) (by unfold maxLen; omega) (by omega) (by simp; omega) ?_; intro v' w6 hown' hgrow _; have hB6 : Below wr.heap.size wr w6 := HB4.out.trans ((((Below.refl _ w4).alloc hsz4 _)).grown hgrow (by simp; omega) (fun j e => (hown.lt j e).1)); have Hown6 := Lib.hid hown'; have HB6 := Lib.hid hB6; clear hown' hB6 hgrow)
                  go_roundw
                  case rel =>
                    refine ⟨k + 1, by omega, by go_num, ?_, HB6.out⟩
                    rw [Hs.out]
                    simpa [natsV] using Hown6.out
                  case measure => simp [intOf]; omega
        · have hltki : ¬ (k : Int) < (gs.length : Int) := by omega
          obtain rfl : k = gs.length := by omega
          rw [Hdg1.out] at hown hql Hown
          obtain ⟨q, hq⟩ : ∃ q, q = depG l g := ⟨_, rfl⟩
          rw [← hq] at hown hql Htk1
          have Hst4 := Lib.hid (Hst.out.next hB3)
          have hsz4 : base ≤ w3.heap.size := by omega
          have Hrw := Lib.hid (own_mono hown (base' := base) hszR)
          obtain ⟨A7, c7, rfl, _⟩ := own_slice3 hown
          have hgp := Hst4.out.grp
          rw [Hml.out] at hgp
          clear hq hown hB3 Hown
          go_wp2_with (at_builtin; refine wpList_append_own _ rfl _ _ 27 rfl base 29 j0 (.slice none 0 0) 1 24 Try.underlying27 hj0 hy0 hy1 hy2 rfl (by decide) _ _ _ rfl (hgp.alloc _) ⟨w3.heap.size, 0, none⟩ 1 1 [.slice A7 q.length c7] rfl rfl (cell_one_new _ _ _) (by simp [Value.oneCell']) (by unfold maxLen; omega) (by omega) (by simp; omega) ?_; intro v' w8 hown' hgrow _; have hpush := RwSt.push Hst4.out Hrw.out (by rw [Hml.out]; exact hown') hgrow; have hB8 : Below base w1 w8 := HBw.out.trans ((((Below.refl _ w3).alloc hsz4 _)).grown hgrow (by simp; omega) (fun j e => (hgp.lt j e).1)); have Hpush := Lib.hid hpush; have HB8 := Lib.hid hB8; clear hpush hB8 hown' hgrow)
          go_roundw
          case rel => exact ⟨g + 1, _, by omega, by go_num, by rw [Htk1.out]; exact Hpush.out, HB8.out⟩
          case measure => simp [intOf]; omega
    · have hlti : ¬ (g : Int) < (gs.length : Int) := by omega
      obtain rfl : g = gs.length := by omega
      have hall : (mdepsL l).take gs.length = mdepsL l := by rw [List.take_of_length_le]; rw [Hmd.out]; exact Nat.le_refl _
      rw [hall] at hst
      obtain ⟨Av, cv, rfl, hm⟩ := hst.mat
      have Hmm := Lib.hid hm
      have HBf := Lib.hid (HB1.out.trans (HB.out.mono (by rw [Hbase.out]; exact HB1.out.size)))
      clear hst hm hB Hst hall
      go_wp2_with fail
      go_ret
      exact ⟨Av, cv, rfl, Hmm.out, HBf.out⟩
end Go.Proofs.Ytkfjkhacchbkeaa
