/- MergeParts holds whatever comes in. Here: the walk of the law's text. -/
import Derived.Test.YtkfjkhacchbkeaaX
namespace Go.Proofs.Ytkfjkhacchbkeaa
set_option linter.unusedVariables false
set_option linter.unusedSimpArgs false
open Go.RowKit

def seenV (n : Nat) (m : Nat → Nat) : List Value := (List.range n).map fun i => .int .i64 ((m i : Nat) : Int)
theorem seenV_at {n i : Nat} (m : Nat → Nat) (h : i < n) : (seenV n m)[i]? = some (.int .i64 ((m i : Nat) : Int)) := by simp [seenV, h]
theorem seenV_set (n : Nat) (m : Nat → Nat) (x y : Nat) : (seenV n m).set x (.int .i64 ((y : Nat) : Int)) = seenV n fun z => if z = x then y else m z := by
  apply List.ext_getElem
  · simp [seenV]
  · intro i h1 h2
    rw [List.getElem_set]
    by_cases e : x = i
    · subst e; simp [seenV]
    · rw [if_neg e]
      have : ¬ i = x := fun h => e h.symm
      simp [seenV, this]
theorem seenV_zero (n : Nat) : ofV n [] = seenV n (fun _ => 0) := by
  apply List.ext_getElem
  · simp [ofV, seenV]
  · intro i h1 h2; simp [ofV, seenV]
theorem groups_not {l : List It} (h : rightL l = false) : groupsL l = [] := by unfold groupsL; rw [h]; rfl
theorem groups_blk {l : List It} {g x y : Nat} (hg : g < (groupsL l).length) (hx : x ∈ rowN (groupsL l) g) (hy : y ∈ rowN (groupsL l) g) : blkOf l x = blkOf l y := by
  have hr := groups_right hg
  obtain ⟨h1, h2⟩ := (groups_mem hg).1 hx
  obtain ⟨h3, h4⟩ := (groups_mem hg).1 hy
  exact (groups_inv hr).same x y h1 h3 (show el (ofL l) x = el (ofL l) y by rw [h2, h4])
theorem groups_rise {l : List It} (g : Nat) : (rowN (groupsL l) g).Pairwise (· < ·) := by
  unfold groupsL
  by_cases h : rightL l = true
  · rw [if_pos h]; exact (groups_inv h).rise g
  · rw [if_neg h]; simp [rowN]
theorem groups_ne {l : List It} {g : Nat} (hg : g < (groupsL l).length) : 0 < (rowN (groupsL l) g).length := by
  have hr := groups_right hg
  rw [groupsL_eq hr] at hg ⊢
  exact (groups_inv hr).ne g hg
theorem groups_heads {l : List It} {g g' : Nat} (h : g < g') (hg : g' < (groupsL l).length) : el (rowN (groupsL l) g) 0 < el (rowN (groupsL l) g') 0 := by
  have hr := groups_right hg
  rw [groupsL_eq hr] at hg ⊢
  exact (groups_inv hr).heads g g' h hg
theorem rise_lt {q : List Nat} (h : q.Pairwise (· < ·)) {i j : Nat} (hij : i < j) (hj : j < q.length) : el q i < el q j := by
  rw [el_lt hj, el_lt (by omega)]
  exact List.pairwise_iff_getElem.1 h i j (by omega) hj hij

/-- the groups, the items, and what was seen -/
structure PtSt (w W : World) (l : List It) (A Ag : Option Addr) (bS n : Nat) (m : Nat → Nat) : Prop where
  seen : BlkIs W bS 3 (seenV n m)
  below : Below w.heap.size w W
structure PtCx (w : World) (l : List It) (A Ag : Option Addr) : Prop where
  items : Items w w.heap.size A l
  mat : Mat w w.heap.size Ag (rowsI (groupsL l))

set_option maxRecDepth 100000 in
set_option maxHeartbeats 8000000 in
theorem MergeParts.walk (a0 : Option Addr) (len0 cap0 : Nat) (l0 : List It) (W : World) (h0 : IsItems W a0 len0 cap0 l0) :
    Calls Try.prog 7 #[.slice a0 len0 cap0] W fun e W' => e = .returned (.bool true) ∧ Below W.heap.size W W' := by
  have HF := Lib.hid (few_any a0 len0 cap0 l0 W h0)
  have HSm := Lib.hid (small_fewL h0)
  have hl24 := length_fewL l0
  unfold FewSays at HF
  obtain ⟨l, hl⟩ : ∃ l, l = fewL l0 := ⟨_, rfl⟩
  rw [← hl] at HF HSm hl24
  have hln : l.length ≤ 24 := by omega
  obtain ⟨n, hn⟩ : ∃ n, n = l.length := ⟨_, rfl⟩
  rw [← hn] at hln HF
  have Hn := Lib.hid hn
  have hgl := (groupsL_len l).1
  obtain ⟨ng, hng⟩ : ∃ ng, ng = (groupsL l).length := ⟨_, rfl⟩
  have Hng := Lib.hid hng
  have Hmd : Hid ((mdepsL l).length = ng) := by unfold Hid; rw [length_mdepsL, hng]
  rw [← hng] at hgl
  have Hgn := Lib.hid (@groups_not l)
  have Hokm := Lib.hid (@okD_mdeps l)
  clear hl hl24 hn h0 hng
  go_enter Try.func7, Try.ntmps7
  go_wp2_with fail
  refine HF.out.mono ?_
  rintro e w1 ⟨A, c, rfl, hI1, hB1⟩
  have HI1 := Lib.hid hI1
  have HB1 := Lib.hid hB1
  clear hI1 hB1 HF
  go_wp2_with fail
  refine (groups_any A c n l Hn.out w1 (by rw [← Hn.out]; omega) HSm.out HI1.out).mono ?_
  rintro e w2 ⟨Ag, cg, rfl, hM2, hB2⟩
  rw [← Hng.out]
  have HM2 := Lib.hid hM2
  have HI2 := Lib.hid (HI1.out.next hB2)
  have HB2 := Lib.hid (HB1.out.trans (hB2.mono HB1.out.size))
  clear hM2 hB2 HI1 HB1
  go_wp2_with fail
  refine (deps_any A c n l Hn.out w2 (by rw [← Hn.out]; omega) HSm.out HI2.out).mono ?_
  rintro e w3 ⟨Ad, cd, rfl, hM3, hB3⟩
  rw [Hmd.out]
  have HD3 := Lib.hid hM3
  have HM3 := Lib.hid (HM2.out.next hB3)
  have HI3 := Lib.hid (HI2.out.next hB3)
  have HB3 := Lib.hid (HB2.out.trans (hB3.mono HB2.out.size))
  clear hM3 hB3 HI2 HB2 HM2
  have hmr := mright_any A c n l Hn.out w3 (by rw [← Hn.out]; omega) HSm.out HI3.out
  cases hr : rightL l with
  | false =>
    rw [hr] at hmr
    have Hmr := Lib.hid hmr
    have hz : ng = 0 := by rw [Hng.out, Hgn.out hr]; rfl
    subst hz
    clear hmr hr
    go_wp2_with fail
    refine Hmr.out.mono ?_
    rintro e w4 ⟨rfl, hB4⟩
    have HB4 := Lib.hid (HB3.out.trans (hB4.mono HB3.out.size))
    clear hB4 Hmr
    go_wp2_with (go_at_call 14; refine (live_any _).mono ?_; rintro e w5 ⟨rfl, hB5⟩; have HB5 := Lib.hid (HB4.out.trans (hB5.mono HB4.out.size)); clear hB5)
    go_ret
    exact ⟨rfl, HB5.out⟩
  | true =>
    rw [hr] at hmr
    have Hmr := Lib.hid hmr
    have Hr := Lib.hid hr
    obtain ⟨M, hM, hmk⟩ := make_ofs n (by omega)
    have HMk := Lib.hid hM
    clear hmr hr hM
    go_wp2_with fail
    refine Hmr.out.mono ?_
    rintro e w4 ⟨rfl, hB4⟩
    have HD4 := Lib.hid (HD3.out.next hB4)
    have HM4 := Lib.hid (HM3.out.next hB4)
    have HI4 := Lib.hid (HI3.out.next hB4)
    have HB4 := Lib.hid (HB3.out.trans (hB4.mono HB3.out.size))
    clear hB4 Hmr HD3 HM3 HI3 HB3
    go_wp2_with fail
    clear hmk
    go_loopw [6] (fun v wr => ∃ (i : Nat) (m : Nat → Nat), i ≤ ng ∧ v = .int .i64 i ∧ BlkIs wr w4.heap.size 3 (seenV n m) ∧ (∀ x, x < n → m x = if el (ofL l) x < i then 1 else 0) ∧ Below w4.heap.size w4 wr) (fun v _ => ng - (intOf v).toNat)
    case atStart =>
      have h1 := BlkIs.new w4 3 M
      rw [HMk.out, seenV_zero] at h1
      exact ⟨0, _, Nat.zero_le _, rfl, h1, (fun x _ => by rw [if_neg (by omega)]), (Below.refl _ _).alloc (Nat.le_refl _) _⟩
    case round =>
      obtain ⟨i, m, hi, rfl, hseen, hm, hB⟩ := hrel
      rename World => wr
      have Hseen := Lib.hid hseen
      have Hm := Lib.hid hm
      have HB := Lib.hid hB
      clear hseen hm
      have hi0 : (0 : Int) ≤ (i : Int) := by omega
      by_cases hlt : i < ng
      · have hlti : (i : Int) < (ng : Int) := by omega
        have hgi : i < (groupsL l).length := by rw [← Hng.out]; exact hlt
        obtain ⟨b, off, Ax, cx, rfl, hbw, hcr, hIx⟩ := HM4.out.rowAt hgi
        have hcr1 : wr.cell? ⟨b, off + i, none⟩ = some (.slice Ax (rowN (groupsL l) i).length cx) := (hB.cell (p := ⟨b, off + i, none⟩) hbw).trans hcr
        have hne := groups_ne hgi
        obtain ⟨bx, ox, rfl, hbx, hcx⟩ := hIx.nat hne
        have hcx1 : wr.cell? ⟨bx, ox, none⟩ = some (.int .i64 ((el (rowN (groupsL l) i) 0 : Nat) : Int)) := (hB.cell (p := ⟨bx, ox, none⟩) hbx).trans hcx
        have Hcr := Lib.hid hcr
        have Hcx := Lib.hid hcx
        have HIx := Lib.hid hIx
        have Hmem : Hid (∀ x, x ∈ rowN (groupsL l) i ↔ x < n ∧ el (ofL l) x = i) := fun x => by rw [groups_mem hgi, Hn.out]
        have Hblk := Lib.hid (fun x y => @groups_blk l i x y hgi)
        have Hrise := Lib.hid (@groups_rise l i)
        have Hhd := Lib.hid (fun (h : 0 < i) => @groups_heads l (i - 1) i (by omega) hgi)
        have hrl := groupsL_rowlen l i
        obtain ⟨row, hrow⟩ : ∃ row, row = rowN (groupsL l) i := ⟨_, rfl⟩
        rw [← hrow] at hcr1 hne hcx1 Hcr Hcx HIx Hmem Hblk Hrise Hhd hrl
        have hlen0 : ¬ (row.length : Int) = 0 := by omega
        have hlenb : ((row.length : Int) == 0) = false := by rw [beq_eq_false_iff_ne]; exact hlen0
        have hrow0 : (0 : Int) < (row.length : Int) := by omega
        obtain ⟨h0, hh0⟩ : ∃ h0, h0 = el row 0 := ⟨_, rfl⟩
        rw [← hh0] at hcx1 Hcx Hhd
        have Hh0 := Lib.hid hh0
        clear hcr hIx hcx hgi hrow hh0
        rcases Nat.eq_zero_or_pos i with hz | hz
        · have g2 : decide ((0 : Int) < (i : Int)) = false := decide_eq_false (by omega)
          have g1 : ¬ 0 < i := by omega
          clear hz
          go_wp2_with fail
          go_quiet (fail)
          go_wp2
          clear hcr1 hcx1
          go_loopw [7] (fun v w5 => ∃ (k : Nat) (m5 : Nat → Nat), k ≤ row.length ∧ v = .int .i64 k ∧ BlkIs w5 w4.heap.size 3 (seenV n m5) ∧ (∀ x, x < n → m5 x = if el (ofL l) x < i ∨ (el (ofL l) x = i ∧ x ∈ row.take k) then 1 else 0) ∧ Below w4.heap.size w4 w5) (fun v _ => row.length - (intOf v).toNat)
          case atStart => exact ⟨0, m, Nat.zero_le _, rfl, Hseen.out, (fun x hx => by rw [Hm.out x hx]; simp), Quiet.below ⟨_, rfl⟩ HB.out⟩
          case round =>
            obtain ⟨k, m5, hk, rfl, hseen, hm5, hB5⟩ := hrel
            rename World => w5
            have Hseen5 := Lib.hid hseen
            have Hm5 := Lib.hid hm5
            have HB5 := Lib.hid hB5
            clear hm5
            have hk0 : (0 : Int) ≤ (k : Int) := by omega
            have hcr5 := (hB5.cell (p := ⟨b, off + i, none⟩) hbw).trans Hcr.out
            by_cases hltk : k < row.length
            · have hltki : (k : Int) < (row.length : Int) := by omega
              obtain ⟨by_, oy, e9, hby, hcy⟩ := HIx.out.nat hltk
              have hcy5 : w5.cell? ⟨by_, oy + k, none⟩ = some (.int .i64 ((el row k : Nat) : Int)) := (hB5.cell (p := ⟨by_, oy + k, none⟩) hby).trans hcy
              cases e9
              have hxr : el row k ∈ row := by rw [el_lt hltk]; exact List.getElem_mem _
              have h0r : el row 0 ∈ row := by rw [el_lt hne]; exact List.getElem_mem _
              rw [← Hh0.out] at h0r
              have hcx5 := (hB5.cell (p := ⟨bx, ox, none⟩) hbx).trans Hcx.out
              have Htk := Lib.hid (take_el row k hltk)
              have Hprev : Hid (∀ k0, k = k0 + 1 → el row k0 < el row k) := fun k0 e => rise_lt Hrise.out (by omega) hltk
              have Hnot : Hid (el row k ∉ row.take k) := fun h => by
                obtain ⟨j, hj, e⟩ := List.getElem_of_mem h
                rw [List.getElem_take] at e
                rw [List.length_take] at hj
                have := rise_lt Hrise.out (show j < k by omega) hltk
                rw [el_lt (show j < row.length by omega), e] at this
                omega
              have HIn := Lib.hid (fun j (hj : j < row.length) => HIx.out.nat hj)
              obtain ⟨x, hx⟩ : ∃ x, x = el row k := ⟨_, rfl⟩
              rw [← hx] at hcy5 hxr Htk Hprev Hnot
              obtain ⟨hxn, hxg⟩ := (Hmem.out x).1 hxr
              obtain ⟨h0n, h0g⟩ := (Hmem.out h0).1 h0r
              have hblk := Hblk.out x h0 hxr h0r
              obtain ⟨bi, oi, Ai, ci, rfl, hbi, hit⟩ := HI4.out.at_ (k := x) (by rw [← Hn.out]; exact hxn)
              obtain ⟨bi2, oi2, Ai2, ci2, e8, hbi2, hit2⟩ := HI4.out.at_ (k := h0) (by rw [← Hn.out]; exact h0n)
              cases e8
              have d1 : w5.cell? ⟨bi, oi + x * 4, none⟩ = some (.int .i64 (blkOf l x)) := (hB5.cell (p := ⟨bi, oi + x * 4, none⟩) hbi).trans hit.c0
              have d2 : w5.cell? ⟨bi, oi + h0 * 4, none⟩ = some (.int .i64 (blkOf l h0)) := (hB5.cell (p := ⟨bi, oi + h0 * 4, none⟩) hbi).trans hit2.c0
              rw [← hblk] at d2
              obtain ⟨bb, hbb⟩ : ∃ bb, bb = blkOf l x := ⟨_, rfl⟩
              rw [← hbb] at d1 d2
              have hx00 : (0 : Int) ≤ (x : Int) := by omega
              have h00 : (0 : Int) ≤ (h0 : Int) := by omega
              have hxni : (x : Int) < (n : Int) := by omega
              have h0ni : (h0 : Int) < (n : Int) := by omega
              have q1 : decide ((x : Int) < 0) = false := decide_eq_false (by omega)
              have q3 : decide ((n : Int) ≤ (x : Int)) = false := decide_eq_false (by omega)
              have q4 : ¬ n ≤ x := by omega
              have hsc : w5.cell? ⟨w4.heap.size, x, none⟩ = some (.int .i64 ((m5 x : Nat) : Int)) := by rw [hseen.cell, seenV_at _ hxn]
              have hsf := hseen.frozen x
              have hm0 : m5 x = 0 := by
                rw [Hm5.out x hxn, if_neg]
                rintro (h | ⟨_, h⟩)
                · omega
                · exact Hnot.out h
              rw [hm0] at hsc
              have Hxg := Lib.hid hxg
              clear hcy hxr h0r hx hxg h0g hblk hit hit2 hbb hseen hm0
              have Hxn := Lib.hid hxn
              have Hfin : Hid (∀ W6, W6 = w5 ∨ Quiet w5 W6 → BlkIs (W6.setCell ⟨w4.heap.size, x, none⟩ (.int .i64 1)) w4.heap.size 3 (seenV n fun z => if z = x then 1 else m5 z) ∧ Below w4.heap.size w4 (W6.setCell ⟨w4.heap.size, x, none⟩ (.int .i64 1)) ∧ W6.cell? ⟨w4.heap.size, x, none⟩ = some (.int .i64 0) ∧ W6.frozen? ⟨w4.heap.size, x, none⟩ = false) := fun W6 h => by
                have hq : Quiet w5 W6 := by rcases h with rfl | h; exact Quiet.refl _; exact h
                have hb6 : BlkIs W6 w4.heap.size 3 (seenV n m5) := by obtain ⟨q, rfl⟩ := hq; exact Hseen5.out
                have hB6 : Below w4.heap.size w4 W6 := hq.below HB5.out
                have hs := hb6.set_ x (.int .i64 ((1 : Nat) : Int))
                rw [seenV_set] at hs
                obtain ⟨q, rfl⟩ := hq
                exact ⟨hs, hB6.setCell (p := ⟨w4.heap.size, x, none⟩) (Nat.le_refl _) _, hsc, hsf⟩
              have Hstep : Hid (∀ z, z < n → (if z = x then 1 else m5 z) = if el (ofL l) z < i ∨ (el (ofL l) z = i ∧ z ∈ row.take (k + 1)) then 1 else 0) := fun z hz => by
                rw [Htk.out]
                by_cases e : z = x
                · subst e
                  rw [if_pos rfl, if_pos (.inr ⟨Hxg.out, by simp⟩)]
                · rw [if_neg e, Hm5.out z hz]
                  have : (z ∈ row.take k ++ [x]) ↔ z ∈ row.take k := by simp [e]
                  simp only [this]
              rcases Nat.eq_zero_or_pos k with hkz | hkz
              · have p2 : decide ((0 : Int) < (k : Int)) = false := decide_eq_false (by omega)
                have p1 : ¬ 0 < k := by omega
                clear hkz
                go_wp2_with fail
                go_quiet (fail)
                obtain ⟨hfb, hfB, hfc, hff⟩ := Hfin.out _ (.inr (⟨_, rfl⟩ : Quiet w5 _))
                have Hfb := Lib.hid hfb
                have HfB := Lib.hid hfB
                clear hfb hfB
                go_wp2
                go_roundw
                case rel => exact ⟨k + 1, _, by omega, by go_num, Hfb.out, Hstep.out, HfB.out⟩
                case measure => simp [intOf]; omega
              · have p1 : (0 : Int) < (k : Int) := by omega
                have p2 : decide ((0 : Int) < (k : Int)) = true := decide_eq_true p1
                obtain ⟨k0, hke⟩ : ∃ k0, k = k0 + 1 := ⟨k - 1, by omega⟩
                obtain ⟨b7, o7, e7, hb7, hc7⟩ := HIn.out k0 (by omega)
                cases e7
                have hc75 := (hB5.cell (p := ⟨bx, ox + k0, none⟩) hb7).trans hc7
                have hprev := Hprev.out k0 hke
                obtain ⟨y, hy⟩ : ∃ y, y = el row k0 := ⟨_, rfl⟩
                rw [← hy] at hc75 hprev
                have p3 : (y : Int) < (x : Int) := by omega
                have p4 : decide ((x : Int) ≤ (y : Int)) = false := decide_eq_false (by omega)
                have p5 : ¬ x ≤ y := by omega
                have hwk : IntKind.i64.wrap ((k : Int) - 1) = (k0 : Int) := by rw [IntKind.wrap_i64]; omega
                have hk00 : (0 : Int) ≤ (k0 : Int) := by omega
                have hk0l : (k0 : Int) < (row.length : Int) := by omega
                clear hc7 hy hke hprev
                go_wp2_with fail
                go_quiet (fail)
                obtain ⟨hfb, hfB, hfc, hff⟩ := Hfin.out _ (.inr (⟨_, rfl⟩ : Quiet w5 _))
                have Hfb := Lib.hid hfb
                have HfB := Lib.hid hfB
                clear hfb hfB
                go_wp2
                go_roundw
                case rel => exact ⟨k + 1, _, by omega, by go_num, Hfb.out, Hstep.out, HfB.out⟩
                case measure => simp [intOf]; omega
            · have hltki : ¬ (k : Int) < (row.length : Int) := by omega
              obtain rfl : k = row.length := by omega
              rw [List.take_length] at Hm5
              clear hseen
              go_wp2_with fail
              go_roundw
              case rel =>
                refine ⟨i + 1, m5, by omega, by go_num, Hseen5.out, fun x hx => ?_, HB5.out⟩
                rw [Hm5.out x hx]
                have : (el (ofL l) x < i ∨ (el (ofL l) x = i ∧ x ∈ row)) ↔ el (ofL l) x < i + 1 := by
                  constructor
                  · rintro (h | ⟨h, _⟩) <;> omega
                  · intro h
                    by_cases e : el (ofL l) x = i
                    · exact .inr ⟨e, (Hmem.out x).2 ⟨hx, e⟩⟩
                    · exact .inl (by omega)
                simp only [this]
              case measure => simp [intOf]; omega
        · have g1 : (0 : Int) < (i : Int) := by omega
          have g2 : decide ((0 : Int) < (i : Int)) = true := decide_eq_true g1
          obtain ⟨j, hje⟩ : ∃ j, i = j + 1 := ⟨i - 1, by omega⟩
          have hgj : j < (groupsL l).length := by rw [← Hng.out]; omega
          have hhd := Hhd.out hz
          have hnj := groups_ne hgj
          obtain ⟨b2, o2, Aj, cj, e2, hb2, hcj, hIj⟩ := HM4.out.rowAt hgj
          cases e2
          have hcj1 := (hB.cell (p := ⟨b, off + j, none⟩) hb2).trans hcj
          obtain ⟨bj, oj, rfl, hbj, hcj0⟩ := hIj.nat hnj
          have hcj2 : wr.cell? ⟨bj, oj, none⟩ = some (.int .i64 ((el (rowN (groupsL l) j) 0 : Nat) : Int)) := (hB.cell (p := ⟨bj, oj, none⟩) hbj).trans hcj0
          rw [show i - 1 = j by omega] at hhd
          obtain ⟨rj, hrj⟩ : ∃ rj, rj = rowN (groupsL l) j := ⟨_, rfl⟩
          rw [← hrj] at hcj1 hcj2 hhd hnj
          obtain ⟨hj0, hhj0⟩ : ∃ hj0, hj0 = el rj 0 := ⟨_, rfl⟩
          rw [← hhj0] at hcj2 hhd
          have g3 : (hj0 : Int) < (h0 : Int) := by omega
          have g4 : decide ((h0 : Int) ≤ (hj0 : Int)) = false := decide_eq_false (by omega)
          have hwj : IntKind.i64.wrap ((i : Int) - 1) = (j : Int) := by rw [IntKind.wrap_i64]; omega
          have hj00 : (0 : Int) ≤ (j : Int) := by omega
          have hjl : (j : Int) < (ng : Int) := by omega
          have hrj0 : (0 : Int) < (rj.length : Int) := by omega
          clear hje hgj hhd hcj hIj hcj0 hrj hhj0
          go_wp2_with fail
          go_quiet (fail)
          go_wp2
          clear hcr1 hcx1
          go_loopw [7] (fun v w5 => ∃ (k : Nat) (m5 : Nat → Nat), k ≤ row.length ∧ v = .int .i64 k ∧ BlkIs w5 w4.heap.size 3 (seenV n m5) ∧ (∀ x, x < n → m5 x = if el (ofL l) x < i ∨ (el (ofL l) x = i ∧ x ∈ row.take k) then 1 else 0) ∧ Below w4.heap.size w4 w5) (fun v _ => row.length - (intOf v).toNat)
          case atStart => exact ⟨0, m, Nat.zero_le _, rfl, Hseen.out, (fun x hx => by rw [Hm.out x hx]; simp), Quiet.below ⟨_, rfl⟩ HB.out⟩
          case round =>
            obtain ⟨k, m5, hk, rfl, hseen, hm5, hB5⟩ := hrel
            rename World => w5
            have Hseen5 := Lib.hid hseen
            have Hm5 := Lib.hid hm5
            have HB5 := Lib.hid hB5
            clear hm5
            have hk0 : (0 : Int) ≤ (k : Int) := by omega
            have hcr5 := (hB5.cell (p := ⟨b, off + i, none⟩) hbw).trans Hcr.out
            by_cases hltk : k < row.length
            · have hltki : (k : Int) < (row.length : Int) := by omega
              obtain ⟨by_, oy, e9, hby, hcy⟩ := HIx.out.nat hltk
              have hcy5 : w5.cell? ⟨by_, oy + k, none⟩ = some (.int .i64 ((el row k : Nat) : Int)) := (hB5.cell (p := ⟨by_, oy + k, none⟩) hby).trans hcy
              cases e9
              have hxr : el row k ∈ row := by rw [el_lt hltk]; exact List.getElem_mem _
              have h0r : el row 0 ∈ row := by rw [el_lt hne]; exact List.getElem_mem _
              rw [← Hh0.out] at h0r
              have hcx5 := (hB5.cell (p := ⟨bx, ox, none⟩) hbx).trans Hcx.out
              have Htk := Lib.hid (take_el row k hltk)
              have Hprev : Hid (∀ k0, k = k0 + 1 → el row k0 < el row k) := fun k0 e => rise_lt Hrise.out (by omega) hltk
              have Hnot : Hid (el row k ∉ row.take k) := fun h => by
                obtain ⟨j, hj, e⟩ := List.getElem_of_mem h
                rw [List.getElem_take] at e
                rw [List.length_take] at hj
                have := rise_lt Hrise.out (show j < k by omega) hltk
                rw [el_lt (show j < row.length by omega), e] at this
                omega
              have HIn := Lib.hid (fun j (hj : j < row.length) => HIx.out.nat hj)
              obtain ⟨x, hx⟩ : ∃ x, x = el row k := ⟨_, rfl⟩
              rw [← hx] at hcy5 hxr Htk Hprev Hnot
              obtain ⟨hxn, hxg⟩ := (Hmem.out x).1 hxr
              obtain ⟨h0n, h0g⟩ := (Hmem.out h0).1 h0r
              have hblk := Hblk.out x h0 hxr h0r
              obtain ⟨bi, oi, Ai, ci, rfl, hbi, hit⟩ := HI4.out.at_ (k := x) (by rw [← Hn.out]; exact hxn)
              obtain ⟨bi2, oi2, Ai2, ci2, e8, hbi2, hit2⟩ := HI4.out.at_ (k := h0) (by rw [← Hn.out]; exact h0n)
              cases e8
              have d1 : w5.cell? ⟨bi, oi + x * 4, none⟩ = some (.int .i64 (blkOf l x)) := (hB5.cell (p := ⟨bi, oi + x * 4, none⟩) hbi).trans hit.c0
              have d2 : w5.cell? ⟨bi, oi + h0 * 4, none⟩ = some (.int .i64 (blkOf l h0)) := (hB5.cell (p := ⟨bi, oi + h0 * 4, none⟩) hbi).trans hit2.c0
              rw [← hblk] at d2
              obtain ⟨bb, hbb⟩ : ∃ bb, bb = blkOf l x := ⟨_, rfl⟩
              rw [← hbb] at d1 d2
              have hx00 : (0 : Int) ≤ (x : Int) := by omega
              have h00 : (0 : Int) ≤ (h0 : Int) := by omega
              have hxni : (x : Int) < (n : Int) := by omega
              have h0ni : (h0 : Int) < (n : Int) := by omega
              have q1 : decide ((x : Int) < 0) = false := decide_eq_false (by omega)
              have q3 : decide ((n : Int) ≤ (x : Int)) = false := decide_eq_false (by omega)
              have q4 : ¬ n ≤ x := by omega
              have hsc : w5.cell? ⟨w4.heap.size, x, none⟩ = some (.int .i64 ((m5 x : Nat) : Int)) := by rw [hseen.cell, seenV_at _ hxn]
              have hsf := hseen.frozen x
              have hm0 : m5 x = 0 := by
                rw [Hm5.out x hxn, if_neg]
                rintro (h | ⟨_, h⟩)
                · omega
                · exact Hnot.out h
              rw [hm0] at hsc
              have Hxg := Lib.hid hxg
              clear hcy hxr h0r hx hxg h0g hblk hit hit2 hbb hseen hm0
              have Hxn := Lib.hid hxn
              have Hfin : Hid (∀ W6, W6 = w5 ∨ Quiet w5 W6 → BlkIs (W6.setCell ⟨w4.heap.size, x, none⟩ (.int .i64 1)) w4.heap.size 3 (seenV n fun z => if z = x then 1 else m5 z) ∧ Below w4.heap.size w4 (W6.setCell ⟨w4.heap.size, x, none⟩ (.int .i64 1)) ∧ W6.cell? ⟨w4.heap.size, x, none⟩ = some (.int .i64 0) ∧ W6.frozen? ⟨w4.heap.size, x, none⟩ = false) := fun W6 h => by
                have hq : Quiet w5 W6 := by rcases h with rfl | h; exact Quiet.refl _; exact h
                have hb6 : BlkIs W6 w4.heap.size 3 (seenV n m5) := by obtain ⟨q, rfl⟩ := hq; exact Hseen5.out
                have hB6 : Below w4.heap.size w4 W6 := hq.below HB5.out
                have hs := hb6.set_ x (.int .i64 ((1 : Nat) : Int))
                rw [seenV_set] at hs
                obtain ⟨q, rfl⟩ := hq
                exact ⟨hs, hB6.setCell (p := ⟨w4.heap.size, x, none⟩) (Nat.le_refl _) _, hsc, hsf⟩
              have Hstep : Hid (∀ z, z < n → (if z = x then 1 else m5 z) = if el (ofL l) z < i ∨ (el (ofL l) z = i ∧ z ∈ row.take (k + 1)) then 1 else 0) := fun z hz => by
                rw [Htk.out]
                by_cases e : z = x
                · subst e
                  rw [if_pos rfl, if_pos (.inr ⟨Hxg.out, by simp⟩)]
                · rw [if_neg e, Hm5.out z hz]
                  have : (z ∈ row.take k ++ [x]) ↔ z ∈ row.take k := by simp [e]
                  simp only [this]
              rcases Nat.eq_zero_or_pos k with hkz | hkz
              · have p2 : decide ((0 : Int) < (k : Int)) = false := decide_eq_false (by omega)
                have p1 : ¬ 0 < k := by omega
                clear hkz
                go_wp2_with fail
                go_quiet (fail)
                obtain ⟨hfb, hfB, hfc, hff⟩ := Hfin.out _ (.inr (⟨_, rfl⟩ : Quiet w5 _))
                have Hfb := Lib.hid hfb
                have HfB := Lib.hid hfB
                clear hfb hfB
                go_wp2
                go_roundw
                case rel => exact ⟨k + 1, _, by omega, by go_num, Hfb.out, Hstep.out, HfB.out⟩
                case measure => simp [intOf]; omega
              · have p1 : (0 : Int) < (k : Int) := by omega
                have p2 : decide ((0 : Int) < (k : Int)) = true := decide_eq_true p1
                obtain ⟨k0, hke⟩ : ∃ k0, k = k0 + 1 := ⟨k - 1, by omega⟩
                obtain ⟨b7, o7, e7, hb7, hc7⟩ := HIn.out k0 (by omega)
                cases e7
                have hc75 := (hB5.cell (p := ⟨bx, ox + k0, none⟩) hb7).trans hc7
                have hprev := Hprev.out k0 hke
                obtain ⟨y, hy⟩ : ∃ y, y = el row k0 := ⟨_, rfl⟩
                rw [← hy] at hc75 hprev
                have p3 : (y : Int) < (x : Int) := by omega
                have p4 : decide ((x : Int) ≤ (y : Int)) = false := decide_eq_false (by omega)
                have p5 : ¬ x ≤ y := by omega
                have hwk : IntKind.i64.wrap ((k : Int) - 1) = (k0 : Int) := by rw [IntKind.wrap_i64]; omega
                have hk00 : (0 : Int) ≤ (k0 : Int) := by omega
                have hk0l : (k0 : Int) < (row.length : Int) := by omega
                clear hc7 hy hke hprev
                go_wp2_with fail
                go_quiet (fail)
                obtain ⟨hfb, hfB, hfc, hff⟩ := Hfin.out _ (.inr (⟨_, rfl⟩ : Quiet w5 _))
                have Hfb := Lib.hid hfb
                have HfB := Lib.hid hfB
                clear hfb hfB
                go_wp2
                go_roundw
                case rel => exact ⟨k + 1, _, by omega, by go_num, Hfb.out, Hstep.out, HfB.out⟩
                case measure => simp [intOf]; omega
            · have hltki : ¬ (k : Int) < (row.length : Int) := by omega
              obtain rfl : k = row.length := by omega
              rw [List.take_length] at Hm5
              clear hseen
              go_wp2_with fail
              go_roundw
              case rel =>
                refine ⟨i + 1, m5, by omega, by go_num, Hseen5.out, fun x hx => ?_, HB5.out⟩
                rw [Hm5.out x hx]
                have : (el (ofL l) x < i ∨ (el (ofL l) x = i ∧ x ∈ row)) ↔ el (ofL l) x < i + 1 := by
                  constructor
                  · rintro (h | ⟨h, _⟩) <;> omega
                  · intro h
                    by_cases e : el (ofL l) x = i
                    · exact .inr ⟨e, (Hmem.out x).2 ⟨hx, e⟩⟩
                    · exact .inl (by omega)
                simp only [this]
              case measure => simp [intOf]; omega
      · have hlti : ¬ (i : Int) < (ng : Int) := by omega
        have Hm2 : Hid (∀ x, x < n → m x = 1) := fun x hx => by
          rw [Hm.out x hx, if_pos]
          have := of_lt Hr.out (i := x) (by rw [← Hn.out]; exact hx)
          rw [← Hng.out] at this; omega
        obtain rfl : i = ng := by omega
        go_wp2_with fail
        go_loopw [9] (fun v w5 => ∃ (k : Nat), k ≤ n ∧ v = .int .i64 k ∧ w5 = wr) (fun v _ => n - (intOf v).toNat)
        case atStart => exact ⟨0, Nat.zero_le _, rfl, rfl⟩
        case round =>
          obtain ⟨k, hk, rfl, rfl⟩ := hrel
          have hk0 : (0 : Int) ≤ (k : Int) := by omega
          by_cases hltk : k < n
          · have hltki : (k : Int) < (n : Int) := by omega
            have hsc := Hseen.out.cell k
            rw [seenV_at _ hltk, Hm2.out k hltk] at hsc
            go_wp2_with fail
            go_roundw
            case rel => exact ⟨k + 1, by omega, by go_num, by first | rfl | trivial⟩
            case measure => simp [intOf]; omega
          · have hltki : ¬ (k : Int) < (n : Int) := by omega
            have HD5 := Lib.hid (HD4.out.next hB)
            have HB5 := Lib.hid (HB4.out.trans (hB.mono HB4.out.size))
            clear hB
            go_wp2_with (first
              | (go_at_call 14; refine (live_any _).mono ?_; rintro e w6 ⟨rfl, hB6⟩; have HD6 := Lib.hid (HD5.out.next hB6); have HB6 := Lib.hid (HB5.out.trans (hB6.mono HB5.out.size)); clear hB6)
              | (go_at_call 33; refine (right_yes Ad cd i (mdepsL l) Hmd.out.symm (Hokm.out Hr.out) w6 HD6.out).mono ?_; rintro e w' ⟨rfl, rfl⟩))
            go_ret
            exact ⟨rfl, HB6.out⟩
end Go.Proofs.Ytkfjkhacchbkeaa
