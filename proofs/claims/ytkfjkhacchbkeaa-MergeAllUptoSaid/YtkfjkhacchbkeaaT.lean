/- Contract of Deps, the walk. -/
import Derived.Test.YtkfjkhacchbkeaaS
namespace Go.Proofs.Ytkfjkhacchbkeaa
set_option linter.unusedVariables false
set_option linter.unusedSimpArgs false
open Go.RowKit

theorem groups_right {l : List It} {g : Nat} (hg : g < (groupsL l).length) : rightL l = true := by
  cases h : rightL l with
  | true => rfl
  | false => unfold groupsL at hg; rw [h] at hg; simp at hg
theorem groupsL_eq {l : List It} (h : rightL l = true) : groupsL l = (gatherG (blkOf l) (depsN l) l.length).1 := by unfold groupsL; rw [if_pos h]
theorem groups_mem {l : List It} {g m : Nat} (hg : g < (groupsL l).length) : m ∈ rowN (groupsL l) g ↔ m < l.length ∧ el (ofL l) m = g := by
  have hr := groups_right hg
  rw [groupsL_eq hr] at hg ⊢
  exact (groups_inv hr).mem g m hg
theorem of_lt {l : List It} (hr : rightL l = true) {i : Nat} (hi : i < l.length) : el (ofL l) i < (groupsL l).length := by
  rw [groupsL_eq hr]; exact (groups_inv hr).lt i hi
theorem item_row {l : List It} (hr : rightL l = true) {i : Nat} (hi : i < l.length) : (itN l i).d = natsI (rowN (depsN l) i) := by
  have h := (right_out hr).1
  rw [← rowI_depsI hi, h, rowI_rowsI]
theorem dep_lt {l : List It} (hr : rightL l = true) {i d : Nat} (hd : d ∈ rowN (depsN l) i) : d < l.length ∧ d < 64 := by
  have h := right_out hr
  have h1 := h.2.1.right.row_lt i d hd
  rw [length_depsN] at h1
  exact ⟨h1, by have := h.2.2; omega⟩

theorem Mat.rowAt {W : World} {B : Nat} {A : Option Addr} {q : List (List Nat)} (h : Mat W B A (rowsI q)) {g : Nat} (hg : g < q.length) : ∃ b off Ax cx, A = some ⟨b, off, none⟩ ∧ b < B ∧ W.cell? ⟨b, off + g, none⟩ = some (.slice Ax (rowN q g).length cx) ∧ Ints W B Ax (natsI (rowN q g)) := by
  obtain ⟨bm, om, Ax, cx, e, hbm, hcm, hIx⟩ := h.at_ (k := g) (by rw [length_rowsI]; exact hg)
  rw [rowI_rowsI, length_natsI] at hcm
  rw [rowI_rowsI] at hIx
  exact ⟨bm, om, Ax, cx, e, hbm, hcm, hIx⟩
/-- what the walk leans on, while deps are made -/
structure DpCtx (W : World) (A : Option Addr) (l : List It) (Ag : Option Addr) (b64 : Nat) (m : Nat → Nat) : Prop where
  items : Items W W.heap.size A l
  mat : Mat W W.heap.size Ag (rowsI (groupsL l))
  arr : BlkIs W b64 64 (arrV m)
theorem DpCtx.next {W W' : World} {A Ag : Option Addr} {l : List It} {b64 : Nat} {m : Nat → Nat} (h : DpCtx W A l Ag b64 m) (hb : Below W.heap.size W W') : DpCtx W' A l Ag b64 m :=
  ⟨h.items.next hb, h.mat.next hb, h.arr.below hb h.arr.lt⟩
theorem Ints.nat {W : World} {B : Nat} {A : Option Addr} {q : List Nat} (h : Ints W B A (natsI q)) {j : Nat} (hj : j < q.length) : ∃ b off, A = some ⟨b, off, none⟩ ∧ b < B ∧ W.cell? ⟨b, off + j, none⟩ = some (.int .i64 ((el q j : Nat) : Int)) := by
  obtain ⟨b, off, e, hb, hc⟩ := h.at_ (k := j) (by rw [length_natsI]; exact hj)
  rw [nth_nats q j hj] at hc
  exact ⟨b, off, e, hb, hc⟩

theorem own_slice3 {w : World} {B : Nat} {v : Value} {n : Nat} {xs : List Value} (h : w.ownsRow B 3 1 v n xs) : ∃ A c, v = .slice A n c ∧ True := by
  rcases h.2 with ⟨rfl, rfl⟩ | ⟨g, cap, cur, rfl, _⟩
  · exact ⟨none, 0, rfl, trivial⟩
  · exact ⟨_, cap, rfl, trivial⟩

set_option maxRecDepth 100000 in
set_option maxHeartbeats 16000000 in
theorem deps_any (A : Option Addr) (c n : Nat) (l : List It) (hn : n = l.length) (w : World) (hl : l.length ≤ 1000) (hs : Small l) (hI : Items w w.heap.size A l) :
    Calls Try.prog 20 #[.slice A n c] w (GroupsSays w (mdepsL l)) := by
  have HGr := Lib.hid (groups_any A c n l hn w hl hs hI)
  have HI := Lib.hid hI
  have Hn := Lib.hid hn
  obtain ⟨i0, hi, hz0, hz1, hz2⟩ := info_parts info3
  obtain ⟨j0, hj0, hy0, hy1, hy2⟩ := info_parts info29
  obtain ⟨hz, hs64⟩ := zero_of_info (P := Try.prog) info64
  obtain ⟨Z, hZ⟩ : ∃ Z, Z = zero64 := ⟨_, rfl⟩
  rw [← hZ] at hz
  have HZ := Lib.hid hZ
  have hgl := (groupsL_len l).1
  obtain ⟨ng, hng⟩ : ∃ ng, ng = (groupsL l).length := ⟨_, rfl⟩
  have Hng := Lib.hid hng
  rw [← hng] at hgl
  clear hZ hs64 hI hn hng hs
  go_enter Try.func20, Try.ntmps20
  go_wp2_with fail
  refine HGr.out.mono ?_
  rintro e w1 ⟨Ag, cg, rfl, hM1, hB1⟩
  rw [← Hng.out]
  obtain ⟨b64, hb64⟩ : ∃ b64, b64 = w1.heap.size := ⟨_, rfl⟩
  have HI1 := Lib.hid (HI.out.next hB1)
  have HM1 := Lib.hid hM1
  have HB1 := Lib.hid hB1
  clear hM1 hB1 HGr HI
  go_wp2_with fail
  rw [← hb64]
  go_loopw [21] (fun v wr => ∃ (g : Nat) (m : Nat → Nat), g ≤ ng ∧ v = .int .i64 g ∧ BlkIs wr b64 64 (arrV m) ∧ (∀ i, i < n → el (ofL l) i < g → m i = el (ofL l) i) ∧ Below b64 w1 wr) (fun v _ => ng - (intOf v).toNat)
  case atStart =>
    have h2 := BlkIs.new w1 64 Z
    rw [HZ.out, ← arrV_zero] at h2
    subst hb64
    exact ⟨0, _, Nat.zero_le _, rfl, by rw [HZ.out]; exact h2, fun i _ h => by omega, (Below.refl _ _).alloc (Nat.le_refl _) _⟩
  case round =>
    obtain ⟨g, m, hg, rfl, harr, hm, hB⟩ := hrel
    rename World => wr
    have HB := Lib.hid hB
    have Harr := Lib.hid harr
    have Hm := Lib.hid hm
    clear hB harr hm
    by_cases hlt : g < ng
    · have hlti : (g : Int) < (ng : Int) := by omega
      have hg0 : (0 : Int) ≤ (g : Int) := by omega
      have hgl2 : g < (groupsL l).length := by rw [← Hng.out]; exact hlt
      obtain ⟨b, off, Ax, cx, rfl, hbw, hcr, hIx⟩ := HM1.out.rowAt hgl2
      have hcr2 : wr.cell? ⟨b, off + g, none⟩ = some (.slice Ax (rowN (groupsL l) g).length cx) := (HB.out.cell (p := ⟨b, off + g, none⟩) (by show b < b64; rw [hb64]; exact hbw)).trans hcr
      have Hmem : Hid (∀ x, x ∈ rowN (groupsL l) g ↔ x < n ∧ el (ofL l) x = g) := fun x => by rw [groups_mem hgl2, Hn.out]
      have hrl := groupsL_rowlen l g
      have h64 : ∀ x ∈ rowN (groupsL l) g, x < 64 := fun x hx => (groupsL_row hx).2
      obtain ⟨row, hrow⟩ : ∃ row, row = rowN (groupsL l) g := ⟨_, rfl⟩
      rw [← hrow] at hcr2 hIx Hmem hrl h64
      have HIx := Lib.hid hIx
      have H64 := Lib.hid h64
      have Hb64 := Lib.hid hb64
      clear hrow hIx hgl2 h64 hcr hb64
      go_wp2_with fail
      go_loopw [28] (fun v w3 => ∃ (j : Nat) (m3 : Nat → Nat), j ≤ row.length ∧ v = .int .i64 j ∧ BlkIs w3 b64 64 (arrV m3) ∧ (∀ i, i < n → el (ofL l) i < g → m3 i = el (ofL l) i) ∧ (∀ i ∈ row.take j, m3 i = g) ∧ Below b64 w1 w3) (fun v _ => row.length - (intOf v).toNat)
      case atStart => exact ⟨0, m, Nat.zero_le _, rfl, Harr.out, Hm.out, fun i hi => by simp at hi, HB.out⟩
      case round =>
        obtain ⟨j, m3, hj, rfl, harr3, hm, hmr, hB⟩ := hrel
        rename World => w3
        have Hm3 := Lib.hid hm
        have Hmr := Lib.hid hmr
        have HB3 := Lib.hid hB
        have Harr3 := Lib.hid harr3
        clear hm hmr
        by_cases hltj : j < row.length
        · have hltji : (j : Int) < (row.length : Int) := by omega
          have hj0 : (0 : Int) ≤ (j : Int) := by omega
          obtain ⟨br, or, rfl, hbr, hc⟩ := HIx.out.nat hltj
          have hc3 : w3.cell? ⟨br, or + j, none⟩ = some (.int .i64 ((el row j : Nat) : Int)) := (hB.cell (p := ⟨br, or + j, none⟩) (by show br < b64; rw [Hb64.out]; exact hbr)).trans hc
          have hxr : el row j ∈ row := by rw [el_lt hltj]; exact List.getElem_mem _
          have htk := take_el row j hltj
          obtain ⟨x, hx⟩ : ∃ x, x = el row j := ⟨_, rfl⟩
          rw [← hx] at hc3 hxr htk
          have hx64 := H64.out x hxr
          have hxg := ((Hmem.out x).1 hxr).2
          have hxi : (x : Int) < 64 := by omega
          have hx0 : (0 : Int) ≤ (x : Int) := by omega
          have hca : w3.cell? ⟨b64, x, none⟩ = some (.int .i64 ((m3 x : Nat) : Int)) := by rw [harr3.cell, arrV_at _ hx64]
          have hfa := harr3.frozen x
          have Htk := Lib.hid htk
          have Hxg := Lib.hid hxg
          clear hc hx hxr htk harr3 hB hxg
          go_wp2_with fail
          go_roundw
          case rel =>
            refine ⟨j + 1, fun y => if y = x then g else m3 y, by omega, by go_num, ?_, fun i hi h => ?_, fun i hi => ?_, HB3.out.setCell (p := ⟨b64, x, none⟩) (Nat.le_refl _) _⟩
            · have := Harr3.out.set_ x (.int .i64 ((g : Nat) : Int))
              rw [arrV_set] at this
              exact this
            · simp only
              rw [if_neg (fun e => by rw [e, Hxg.out] at h; omega)]
              exact Hm3.out i hi h
            · rw [Htk.out, List.mem_append, List.mem_singleton] at hi
              simp only
              by_cases e : i = x
              · rw [if_pos e]
              · rw [if_neg e]; exact Hmr.out i (hi.resolve_right e)
          case measure => simp [intOf]; omega
        · have hltji : ¬ (j : Int) < (row.length : Int) := by omega
          obtain rfl : j = row.length := by omega
          rw [List.take_length] at Hmr
          clear harr3 hB
          go_wp2_with fail
          go_roundw
          case rel =>
            refine ⟨g + 1, m3, by omega, by go_num, Harr3.out, fun i hi h => ?_, HB3.out⟩
            by_cases e : el (ofL l) i = g
            · rw [e]; exact Hmr.out i ((Hmem.out i).2 ⟨hi, e⟩)
            · exact Hm3.out i hi (by omega)
          case measure => simp [intOf]; omega
    · have hlti : ¬ (g : Int) < (ng : Int) := by omega
      obtain rfl : g = ng := by omega
      have hB' : Below w1.heap.size w1 wr := by rw [← hb64]; exact HB.out
      have Hcx : Hid (DpCtx wr A l Ag b64 m) := ⟨HI1.out.next hB', HM1.out.next hB', Harr.out⟩
      have HBw : Hid (Below w.heap.size w wr) := HB1.out.trans (hB'.mono HB1.out.size)
      obtain ⟨base, hbase⟩ : ∃ base, base = wr.heap.size := ⟨_, rfl⟩
      have Hbase := Lib.hid hbase
      clear hB' HI1 HM1 HB Harr hb64 hz hbase
      go_wp2_with fail
      go_loopw [9, 39] (fun v i w3 => ∃ (k : Nat) (vs : Nat → Value), k ≤ g ∧ i = .int .i64 k ∧ RwSt base w3 ((mdepsL l).take k) v vs ∧ Below wr.heap.size wr w3) (fun _ i _ => g - (intOf i).toNat)
      case atStart => exact ⟨0, _, Nat.zero_le _, rfl, RwSt.nil _ _, Below.refl _ _⟩
      case round =>
        obtain ⟨k, vs, hk, rfl, hst, hB3⟩ := hrel
        rename World => w3
        have Hst := Lib.hid hst
        have HB3 := Lib.hid hB3
        by_cases hltk : k < g
        · have hltki : (k : Int) < (g : Int) := by omega
          have hk0 : (0 : Int) ≤ (k : Int) := by omega
          have hgl2 : k < (groupsL l).length := by rw [← Hng.out]; exact hltk
          have hr := groups_right hgl2
          obtain ⟨hdI, hD, h64⟩ := right_out hr
          have Hcx3 := Lib.hid (Hcx.out.next hB3)
          obtain ⟨b, off, Ax, cx, rfl, hbw, hcr, hIx⟩ := Hcx3.out.mat.rowAt hgl2
          have Hmem : Hid (∀ x, x ∈ rowN (groupsL l) k → x < n) := fun x hx => by rw [Hn.out]; exact ((groups_mem hgl2).1 hx).1
          have Hitem : Hid (∀ x, x < n → (itN l x).d = natsI (rowN (depsN l) x)) := fun x hx => item_row hr (by rw [← Hn.out]; exact hx)
          have Hdep : Hid (∀ x d, d ∈ rowN (depsN l) x → d < 64 ∧ m d = el (ofL l) d) := fun x d hd => by
            have h1 := dep_lt hr hd
            exact ⟨h1.2, Hm.out d (by rw [Hn.out]; exact h1.1) (by rw [Hng.out]; exact of_lt hr h1.1)⟩
          have hrl := groupsL_rowlen l k
          have Hol := Lib.hid (fun of row => othersL_len hD of k row)
          have Hdl := Lib.hid (fun x => hD.len x)
          have Hmt := Lib.hid (mdeps_take l hgl2)
          have Hdg : Hid (depG l k = amongL (groupsL l).length (natsI (othersL (depsN l) (ofL l) k (rowN (groupsL l) k)))) := rfl
          obtain ⟨row, hrow⟩ : ∃ row, row = rowN (groupsL l) k := ⟨_, rfl⟩
          rw [← hrow] at hcr hIx Hmem hrl Hdg
          obtain ⟨D, hDe⟩ : ∃ D, D = depsN l := ⟨_, rfl⟩
          rw [← hDe] at Hitem Hdep Hol Hdl Hdg
          obtain ⟨of, hof⟩ : ∃ of, of = ofL l := ⟨_, rfl⟩
          rw [← hof] at Hdep Hdg
          have HIx := Lib.hid hIx
          have hmt : ((mdepsL l).take k).length = k := by rw [List.length_take, length_mdepsL]; omega
          have Hmtl := Lib.hid hmt
          have Hng2 := Lib.hid hgl2
          clear hrow hIx hr hdI hD h64 hDe hof hgl2 hst hB3 hmt
          go_wp2_with fail
          go_loopw [12, 46] (fun v i w4 => ∃ j : Nat, j ≤ row.length ∧ i = .int .i64 j ∧ w4.ownsRow w3.heap.size 3 1 v (othersL D of k (row.take j)).length (natsV (othersL D of k (row.take j))) ∧ Below w3.heap.size w3 w4) (fun _ i _ => row.length - (intOf i).toNat)
          case atStart => exact ⟨0, Nat.zero_le _, rfl, World.ownsRow_nil _ _ _ _, Below.refl _ _⟩
          case round =>
            obtain ⟨j, hj, rfl, hown, hB4⟩ := hrel
            rename World => w4
            have HB4 := Lib.hid hB4
            have Hown := Lib.hid hown
            have hql := Hol.out of (row.take j)
            rw [List.length_take] at hql
            by_cases hltj : j < row.length
            · have hltji : (j : Int) < (row.length : Int) := by omega
              have hj0 : (0 : Int) ≤ (j : Int) := by omega
              obtain ⟨br, or, rfl, hbr, hc⟩ := HIx.out.nat hltj
              have hc4 : w4.cell? ⟨br, or + j, none⟩ = some (.int .i64 ((el row j : Nat) : Int)) := (hB4.cell (p := ⟨br, or + j, none⟩) hbr).trans hc
              have hxr : el row j ∈ row := by rw [el_lt hltj]; exact List.getElem_mem _
              have htk := take_el row j hltj
              obtain ⟨x, hx⟩ : ∃ x, x = el row j := ⟨_, rfl⟩
              rw [← hx] at hc4 hxr htk
              have hxn := Hmem.out x hxr
              have hxi : (x : Int) < (n : Int) := by omega
              have hx0 : (0 : Int) ≤ (x : Int) := by omega
              obtain ⟨bi, oi, Ad, cd, rfl, hbi, hIt⟩ := Hcx3.out.items.at_ (k := x) (by rw [← Hn.out]; exact hxn)
              have hc3 := hIt.c3
              have hIrow := hIt.row
              rw [Hitem.out x hxn, length_natsI] at hc3
              rw [Hitem.out x hxn] at hIrow
              have hc34 : w4.cell? ⟨bi, oi + x * 4 + 3, none⟩ = some (.slice Ad (rowN D x).length cd) := (hB4.cell (p := ⟨bi, oi + x * 4 + 3, none⟩) hbi).trans hc3
              have HIrow := Lib.hid hIrow
              have Hsn : Hid (othersL D of k (row.take (j + 1)) = othersL D of k (row.take j) ++ othersOf D of k x) := by unfold Hid; rw [htk, othersL_snoc]
              have hdl := Hdl.out x
              obtain ⟨q, hq⟩ : ∃ q, q = othersL D of k (row.take j) := ⟨_, rfl⟩
              rw [← hq] at hown hql Hsn Hown
              clear hc hx hxr htk hIt hc3 hIrow hq hown hB4
              go_wp2_with fail
              go_loopw [12, 56] (fun v i w5 => ∃ t : Nat, t ≤ (rowN D x).length ∧ i = .int .i64 t ∧ w5.ownsRow w3.heap.size 3 1 v (q ++ othersT D of k x t).length (natsV (q ++ othersT D of k x t)) ∧ Below w3.heap.size w3 w5) (fun _ i _ => (rowN D x).length - (intOf i).toNat)
              case atStart => exact ⟨0, Nat.zero_le _, rfl, by rw [othersT_zero, List.append_nil]; exact Hown.out, HB4.out⟩
              case round =>
                obtain ⟨t, ht, rfl, hown, hB5⟩ := hrel
                rename World => w5
                have hsz := hB5.size
                have htl := othersT_len D of k x t
                by_cases hltt : t < (rowN D x).length
                · have hltti : (t : Int) < ((rowN D x).length : Int) := by omega
                  have ht0 : (0 : Int) ≤ (t : Int) := by omega
                  obtain ⟨bd, od, rfl, hbd, hc⟩ := HIrow.out.nat hltt
                  have hc5 : w5.cell? ⟨bd, od + t, none⟩ = some (.int .i64 ((el (rowN D x) t : Nat) : Int)) := (hB5.cell (p := ⟨bd, od + t, none⟩) hbd).trans hc
                  have hdr : el (rowN D x) t ∈ rowN D x := by rw [el_lt hltt]; exact List.getElem_mem _
                  have Hhit := Lib.hid (@othersT_hit D of k x t hltt)
                  have Hmiss := Lib.hid (@othersT_miss D of k x t hltt)
                  obtain ⟨d, hd⟩ : ∃ d, d = el (rowN D x) t := ⟨_, rfl⟩
                  rw [← hd] at hc5 hdr Hhit Hmiss
                  obtain ⟨hd64, hmd⟩ := Hdep.out x d hdr
                  have hdi : (d : Int) < 64 := by omega
                  have hd0 : (0 : Int) ≤ (d : Int) := by omega
                  have hca : w5.cell? ⟨b64, d, none⟩ = some (.int .i64 ((el of d : Nat) : Int)) := by rw [hB5.cell (p := ⟨b64, d, none⟩) Hcx3.out.arr.lt, Hcx3.out.arr.cell, arrV_at _ hd64, hmd]
                  obtain ⟨y, hy⟩ : ∃ y, y = el of d := ⟨_, rfl⟩
                  rw [← hy] at hca Hhit Hmiss
                  obtain ⟨q2, hq2⟩ : ∃ q2, q2 = q ++ othersT D of k x t := ⟨_, rfl⟩
                  rw [← hq2] at hown
                  have hq2l : q2.length ≤ 100000 := by rw [hq2, List.length_append]; omega
                  have Hq2 := Lib.hid hq2
                  clear hc hd hdr hmd hy hq2
                  by_cases hyk : y = k
                  · have Hs := Lib.hid (Hmiss.out hyk)
                    subst hyk
                    go_wp2_with fail
                    go_roundw
                    case rel => exact ⟨t + 1, by omega, by go_num, by rw [Hs.out, ← Hq2.out]; exact hown, hB5⟩
                    case measure => simp [intOf]; omega
                  · have Hs := Lib.hid (Hhit.out hyk)
                    have hb1 : (((y : Nat) : Int) == ((k : Nat) : Int)) = false := by simp; omega
                    have Hyk := Lib.hid hyk
                    clear hyk
                    go_wp2_with (at_builtin; refine wpList_append_own _ rfl _ _ 29 rfl w3.heap.size 3 i0 (.int .i64 0) 1 8 Try.underlying29 hi hz0 hz1 hz2 rfl (by decide) _ _ _ rfl (hown.alloc _) ⟨w5.heap.size, 0, none⟩ 1 1 [.int .i64 ((y : Nat) : Int)] rfl rfl (cell_one_new _ _ _) (by simp [Value.oneCell']) (by unfold maxLen; omega) (by omega) (by simp; omega) ?_; intro v' w6 hown' hgrow _; have hB6 : Below w3.heap.size w3 w6 := hB5.trans ((((Below.refl _ w5).alloc hsz _)).grown hgrow (by simp; omega) (fun j e => (hown.lt j e).1)); have Hown6 := Lib.hid hown'; have HB6 := Lib.hid hB6; clear hown' hB6 hgrow)
                    go_roundw
                    case rel =>
                      refine ⟨t + 1, by omega, by go_num, ?_, HB6.out⟩
                      rw [Hs.out, ← List.append_assoc, ← Hq2.out]
                      simpa [natsV] using Hown6.out
                    case measure => simp [intOf]; omega
                · have hltti : ¬ (t : Int) < ((rowN D x).length : Int) := by omega
                  obtain rfl : t = (rowN D x).length := by omega
                  rw [othersT_all, ← Hsn.out] at hown
                  have Hown5 := Lib.hid hown
                  have HB5 := Lib.hid hB5
                  clear hown hB5
                  go_wp2_with fail
                  go_roundw
                  case rel => exact ⟨j + 1, by omega, by go_num, Hown5.out, HB5.out⟩
                  case measure => simp [intOf]; omega
            · have hltji : ¬ (j : Int) < (row.length : Int) := by omega
              obtain rfl : j = row.length := by omega
              rw [List.take_length] at Hown hql
              have ho := Hown.out
              rw [natsV_intsV] at ho
              obtain ⟨q, hq⟩ : ∃ q, q = othersL D of k row := ⟨_, rfl⟩
              rw [← hq] at ho hql Hdg
              obtain ⟨A5, c5, rfl, _, _, hI5⟩ := own_ints (n := q.length) ho
              have Ham := Lib.hid (among_any A5 c5 (natsI q).length (natsI q) g rfl (by omega) (by rw [length_natsI]; omega) w4 hI5)
              have Hst4 := Lib.hid (Hst.out.next hB4)
              clear hq ho hI5 hown hB4 Hown
              go_wp2_with fail
              refine Ham.out.mono ?_
              rintro e w7 ⟨v7, rfl, hown7, hB7⟩
              have Hst7 := Lib.hid (Hst4.out.next hB7)
              have HB7 := Lib.hid (HB3.out.trans ((HB4.out.trans (hB7.mono HB4.out.size)).mono HB3.out.size))
              have hsz7 : base ≤ w7.heap.size := by rw [Hbase.out]; exact HB7.out.size
              have hrow7 : w7.ownsRow base 3 1 v7 (depG l k).length (natsV (depG l k)) := by
                rw [Hdg.out, ← Hng.out]
                exact own_mono hown7 (by rw [Hbase.out]; have := HB3.out.size; have := HB4.out.size; omega)
              obtain ⟨A7, c7, rfl, _⟩ := own_slice3 hown7
              have Hrow7 := Lib.hid hrow7
              have hgp := Hst7.out.grp
              rw [Hmtl.out] at hgp
              clear hown7 hB7 hrow7 Ham
              go_wp2_with (at_builtin; refine wpList_append_own _ rfl _ _ 27 rfl base 29 j0 (.slice none 0 0) 1 24 Try.underlying27 hj0 hy0 hy1 hy2 rfl (by decide) _ _ _ rfl (hgp.alloc _) ⟨w7.heap.size, 0, none⟩ 1 1 [.slice A7 (amongL g (natsI q)).length c7] rfl rfl (cell_one_new _ _ _) (by simp [Value.oneCell']) (by unfold maxLen; omega) (by omega) (by simp; omega) ?_; intro v' w8 hown' hgrow _; have hpush := RwSt.push Hst7.out Hrow7.out (by rw [Hmtl.out]; exact hown') hgrow; have hB8 : Below base wr w8 := ((by rw [Hbase.out]; exact HB7.out : Below base wr w7)).trans ((((Below.refl _ w7).alloc hsz7 _)).grown hgrow (by simp; omega) (fun j e => (hgp.lt j e).1)); have Hpush := Lib.hid hpush; have HB8 := Lib.hid hB8; clear hpush hB8 hown' hgrow)
              go_roundw
              case rel => exact ⟨k + 1, _, by omega, by go_num, by rw [Hmt.out]; exact Hpush.out, by rw [← Hbase.out]; exact HB8.out⟩
              case measure => simp [intOf]; omega
        · have hltki : ¬ (k : Int) < (g : Int) := by omega
          obtain rfl : k = g := by omega
          have hall : (mdepsL l).take k = mdepsL l := by rw [List.take_of_length_le]; rw [length_mdepsL, ← Hng.out]; exact Nat.le_refl _
          rw [hall] at hst
          obtain ⟨Av, cv, rfl, hm⟩ := hst.mat
          have Hmm := Lib.hid hm
          have HBf := Lib.hid (HBw.out.trans (hB3.mono HBw.out.size))
          clear hst hm hB3 hall
          go_wp2_with fail
          go_ret
          exact ⟨Av, cv, rfl, Hmm.out, HBf.out⟩
end Go.Proofs.Ytkfjkhacchbkeaa
