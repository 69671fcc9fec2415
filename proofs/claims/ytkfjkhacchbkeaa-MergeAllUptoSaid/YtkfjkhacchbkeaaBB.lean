/- Contracts of the document's Right of items, and of its 'of'. -/
import Derived.Test.YtkfjkhacchbkeaaAA
import Derived.Test.YtkfjkhacchbkeaaC
namespace Go.Proofs.Ytkfjkhacchbkeaa
set_option linter.unusedVariables false
set_option linter.unusedSimpArgs false
open Go.RowKit

set_option maxRecDepth 100000 in
set_option maxHeartbeats 1000000 in
theorem refmright_any (A : Option Addr) (c n : Nat) (l : List It) (hn : n = l.length) (w : World) (hl : l.length ≤ 1000) (hs : Small l) (hI : Items w w.heap.size A l) :
    Calls Try.prog 16 #[.slice A n c] w fun e w' => e = .returned (.bool (rightL l)) ∧ Below w.heap.size w w' := by
  have Hlong := Lib.hid (@rightL_long l)
  have Hall := Lib.hid (@rightL_all l)
  have HI := Lib.hid hI
  have Hn := Lib.hid hn
  have HS := Lib.hid hs
  have hn1 : n ≤ 1000 := by omega
  clear hI hs hl hn
  by_cases h64 : n ≤ 64
  · have h64i : (n : Int) ≤ 64 := by omega
    go_enter Try.func16, Try.ntmps16
    go_wp2_with fail
    go_loopw [3] (fun i wr => ∃ k : Nat, k ≤ n ∧ i = .int .i64 k ∧ rightTo l k = true ∧ Below w.heap.size w wr) (fun i _ => n - (intOf i).toNat)
    case atStart => exact ⟨0, Nat.zero_le _, rfl, rfl, Below.refl _ _⟩
    case round =>
      obtain ⟨k, hk, rfl, hok, hB⟩ := hrel
      rename World => wr
      have Hok := Lib.hid hok
      have HB := Lib.hid hB
      have hsz := hB.size
      clear hok
      by_cases hlt : k < n
      · have hlti : (k : Int) < (n : Int) := by omega
        have hk0 : (0 : Int) ≤ (k : Int) := by omega
        have hkl : k < l.length := by rw [← Hn.out]; exact hlt
        obtain ⟨b, off, Ak, ck, rfl, hb, hx⟩ := HI.out.at_ hkl
        replace hx := hx.keep (w' := wr) hb (fun p hp => hB.cell hp)
        obtain ⟨c0, c1, c2, c3, _⟩ := hx
        have hp := (HS.out k hkl).1
        have Hst := Lib.hid (@rightTo_stop l k hkl)
        have Hsu := Lib.hid (rightTo_succ l k)
        obtain ⟨x, hx⟩ : ∃ x, x = itN l k := ⟨_, rfl⟩
        rw [← hx] at c0 c1 c2 c3 hp Hst Hsu
        clear hx hkl hB
        obtain ⟨p, d⟩ := x
        have HR := Lib.hid (fun W => Pat.refright_any p W hp)
        obtain ⟨r, hr⟩ : ∃ r, r = p.right := ⟨_, rfl⟩
        simp only at c0 c1 c2 c3 Hst Hsu
        rw [← hr] at HR Hst Hsu
        clear hr hp
        obtain ⟨pb, po, ps⟩ := p
        unfold Pat.Pt.v at HR
        simp only at c0 c1 c2 HR
        cases r with
        | false =>
          have Hf := Lib.hid (Hst.out rfl)
          go_wp2_with fail
          refine (HR.out _).mono ?_
          rintro e w3 ⟨rfl, hB3⟩
          have HB3 := Lib.hid (HB.out.trans (hB3.mono hsz))
          clear hB3
          go_wp2_with fail
          go_ret
          exact ⟨ret_bool Hf.out.symm, HB3.out⟩
        | true =>
          go_wp2_with fail
          refine (HR.out _).mono ?_
          rintro e w3 ⟨rfl, hB3⟩
          have HB3 := Lib.hid (HB.out.trans (hB3.mono hsz))
          clear hB3
          go_wp2_with fail
          go_roundw
          case rel => exact ⟨k + 1, by omega, by go_num, by rw [Hsu.out, Hok.out]; rfl, HB3.out⟩
          case measure => simp [intOf]; omega
      · have hlti : ¬ (k : Int) < (n : Int) := by omega
        obtain rfl : k = n := by omega
        have Hd := Lib.hid (refDepsOf_any A c k l Hn.out wr (by rw [← Hn.out]; omega) ((HI.out.below hB).more hsz))
        have Hf := Lib.hid (Hall.out (by rw [← Hn.out]; exact h64) (by rw [← Hn.out]; exact Hok.out))
        clear hB
        go_wp2_with fail
        refine Hd.out.mono ?_
        rintro e w3 ⟨A3, c3, rfl, hM3, hB3⟩
        have HB3 := Lib.hid (HB.out.trans (hB3.mono hsz))
        have hgr := refright_any A3 c3 (depsI l) w3 (by rw [length_depsI, ← Hn.out]; omega) (fun j hj => by rw [length_depsI] at hj; rw [rowI_depsI hj]; exact (HS.out j hj).2) hM3
        rw [length_depsI] at hgr
        have Hgr := Lib.hid hgr
        clear hB3 hM3 hgr
        go_wp2_with fail
        refine Hgr.out.mono ?_
        rintro e w' ⟨rfl, rfl⟩
        clear Hgr
        go_wp2_with fail
        go_ret
        exact ⟨ret_bool Hf.out.symm, HB3.out⟩
  · have Hf := Lib.hid (Hlong.out (by rw [← Hn.out]; exact h64))
    have h64' : ¬ (n : Int) ≤ 64 := by omega
    go_enter Try.func16, Try.ntmps16
    go_wp2_with fail
    go_ret
    exact ⟨ret_bool Hf.out.symm, Below.refl _ _⟩

/-- what 'of' answers: an own row, the first item of each one's group -/
def OfSays (w : World) (l : List It) (e : Ending) (w' : World) : Prop :=
  ∃ b, e = .returned (.slice (some ⟨b, 0, none⟩) l.length l.length) ∧ BlkIs w' b 3 (numV l.length (foL l)) ∧ w.heap.size ≤ b ∧ Below w.heap.size w w'
theorem numV_ext {n : Nat} {m m' : Nat → Nat} (h : ∀ i, i < n → m i = m' i) : numV n m = numV n m' := by
  unfold numV
  apply List.map_congr_left
  intro i hi
  rw [h i (List.mem_range.1 hi)]

/-- what stays in the walk of 'of' -/
structure OfCx (W : World) (l : List It) (A Ad Au : Option Addr) (n : Nat) (D : List (List Nat)) : Prop where
  items : Items W W.heap.size A l
  mat : Mat W W.heap.size Ad (rowsI D)
  ups : MatB W Au n (fun k y => befB D y k)
theorem OfCx.next {W W' : World} {l : List It} {A Ad Au : Option Addr} {n : Nat} {D : List (List Nat)} (h : OfCx W l A Ad Au n D) (hb : Below W.heap.size W W') : OfCx W' l A Ad Au n D :=
  ⟨h.items.next hb, h.mat.next hb, h.ups.next hb⟩
theorem joinT_congr {f f' : Nat → Nat} {D : List (List Nat)} (hD : Right D) {q : Nat} (h : ∀ z, z < q → f z = f' z) (g t : Nat) : joinT f D g q t = joinT f' D g q t := by
  unfold joinT
  rw [Bool.eq_iff_iff, List.all_eq_true, List.all_eq_true]
  have key : ∀ d ∈ (rowN D q).take t, okN f D g d q = okN f' D g d q := fun d hd => by
    have hdq := hD.2 q d (List.mem_of_mem_take hd)
    unfold okN
    rw [h d hdq]
    congr 1
    rw [Bool.eq_iff_iff, List.any_eq_true, List.any_eq_true]
    constructor
    · rintro ⟨x, hx, h2⟩; exact ⟨x, hx, by rw [← h x (List.mem_range.1 hx)]; exact h2⟩
    · rintro ⟨x, hx, h2⟩; exact ⟨x, hx, by rw [h x (List.mem_range.1 hx)]; exact h2⟩
  exact ⟨fun h1 d hd => by rw [← key d hd]; exact h1 d hd, fun h1 d hd => by rw [key d hd]; exact h1 d hd⟩
theorem anyN_stop {f : Nat → Bool} {m k : Nat} (hm : m < k) (h : f m = true) : (List.range k).any f = true := List.any_eq_true.2 ⟨m, List.mem_range.2 hm, h⟩

def lastI : Option Nat → Int
  | some p => ((p : Nat) : Int)
  | none => -1

set_option maxRecDepth 100000 in
set_option maxHeartbeats 8000000 in
theorem of_any (A : Option Addr) (c n : Nat) (l : List It) (hn : n = l.length) (w : World) (hr : rightL l = true) (hI : Items w w.heap.size A l) :
    Calls Try.prog 49 #[.slice A n c] w (OfSays w l) := by
  obtain ⟨hdI, hD, h64⟩ := right_out hr
  have hn64 : n ≤ 64 := by omega
  obtain ⟨M, hM, hmk⟩ := make_ofs n (by omega)
  have HM := Lib.hid hM
  have HI := Lib.hid hI
  have Hn := Lib.hid hn
  have HdI := Lib.hid hdI
  have Hr := Lib.hid hr
  have HDl : Hid (n = (depsN l).length) := by unfold Hid; rw [length_depsN]; exact hn
  have Hfo := Lib.hid (fun i k => @foL_at l hr i k)
  obtain ⟨D, hDe⟩ : ∃ D, D = depsN l := ⟨_, rfl⟩
  rw [← hDe] at HdI hD HDl Hfo
  have HD := Lib.hid hD
  have HDe := Lib.hid hDe
  clear hM hI hdI hD h64 hr hn hDe
  go_enter Try.func49, Try.ntmps49
  go_wp2_with fail
  refine (refDepsOf_any A c n l Hn.out w (by rw [← Hn.out]; omega) HI.out).mono ?_
  rintro e w1 ⟨Ad, cd, rfl, hM1, hB1⟩
  rw [← Hn.out]
  rw [HdI.out] at hM1
  have HM1 := Lib.hid hM1
  have HI1 := Lib.hid (HI.out.next hB1)
  have HB1 := Lib.hid hB1
  clear hM1 hB1 HI
  go_wp2_with fail
  refine (ups_any Ad cd n D HDl.out HD.out w1 HM1.out).mono ?_
  rintro e w2 ⟨⟨Au, cu, rfl, hU2⟩, hB2⟩
  rw [← HDl.out] at hU2 ⊢
  have Hcx : Hid (OfCx w2 l A Ad Au n D) := ⟨HI1.out.next hB2, HM1.out.next hB2, hU2⟩
  have HB2 := Lib.hid (HB1.out.trans (hB2.mono HB1.out.size))
  clear hU2 hB2 HI1 HM1 HB1
  go_wp2_with fail
  clear hmk
  go_loopw [6] (fun v wr => ∃ (q : Nat) (m : Nat → Nat), q ≤ n ∧ v = .int .i64 q ∧ BlkIs wr w2.heap.size 3 (numV n m) ∧ (∀ i, i < q → m i = foL l i) ∧ Below w2.heap.size w2 wr) (fun v _ => n - (intOf v).toNat)
  case atStart =>
    have h1 := BlkIs.new w2 3 M
    rw [HM.out, numV_zero] at h1
    exact ⟨0, _, Nat.zero_le _, rfl, h1, (fun i h => absurd h (Nat.not_lt_zero _)), (Below.refl _ _).alloc (Nat.le_refl _) _⟩
  case round =>
    obtain ⟨q, m, hq, rfl, hout, hm, hB⟩ := hrel
    rename World => wr
    have Hm := Lib.hid hm
    have HB := Lib.hid hB
    have Hout := Lib.hid hout
    have hq0 : (0 : Int) ≤ (q : Int) := by omega
    clear hm
    by_cases hlt : q < n
    · have hlti : (q : Int) < (n : Int) := by omega
      have hcq : wr.cell? ⟨w2.heap.size, q, none⟩ = some (.int .i64 ((m q : Nat) : Int)) := by rw [hout.cell, numV_at _ hlt]
      have hfq := hout.frozen q
      obtain ⟨bI, oI, Af, Cf, rfl, hbI, hitA⟩ := Hcx.out.items (by rw [← Hn.out]; omega)
      have HitA := Lib.hid hitA
      -- behind the store: out[q] = q
      have hset := hout.set_ q (.int .i64 ((q : Nat) : Int))
      rw [numV_set] at hset
      have Hset := Lib.hid hset
      have hBs : Below w2.heap.size w2 (wr.setCell ⟨w2.heap.size, q, none⟩ (.int .i64 ((q : Nat) : Int))) := hB.setCell (p := ⟨w2.heap.size, q, none⟩) (Nat.le_refl _) _
      have HBs := Lib.hid hBs
      obtain ⟨ws, hws⟩ : ∃ ws, ws = wr.setCell ⟨w2.heap.size, q, none⟩ (.int .i64 ((q : Nat) : Int)) := ⟨_, rfl⟩
      rw [← hws] at Hset HBs
      have Hws := Lib.hid hws
      clear hout hitA hset hBs hB hws
      go_wp2_with fail
      rw [← Hws.out]
      go_loopw [7, 8] (fun v7 v8 w4 => ∃ (k : Nat) (o : Option Nat), k ≤ q ∧ v8 = .int .i64 k ∧ v7 = .int .i64 (lastI o) ∧ LastAt (blkOf l) q k o ∧ Quiet ws w4) (fun _ v8 _ => q - (intOf v8).toNat)
      case atStart => exact ⟨0, none, Nat.zero_le _, rfl, rfl, (fun m h => absurd h (Nat.not_lt_zero _)), Quiet.refl _⟩
      case round =>
        obtain ⟨k, o, hk, rfl, rfl, hla, hqu⟩ := hrel
        rename World => w4
        obtain ⟨zl, hzl⟩ : ∃ z, z = lastI o := ⟨_, rfl⟩
        have Hzl := Lib.hid hzl
        rw [← hzl]
        clear hzl
        have Hla := Lib.hid hla
        have Hqu := Lib.hid hqu
        have hk0 : (0 : Int) ≤ (k : Int) := by omega
        by_cases hltk : k < q
        · have hltki : (k : Int) < (q : Int) := by omega
          have hkn : (k : Int) < (n : Int) := by omega
          have hB4 : Below w2.heap.size w2 w4 := hqu.below HBs.out
          have d1 : w4.cell? ⟨bI, oI + k * 4, none⟩ = some (.int .i64 (blkOf l k)) := (hB4.cell (p := ⟨bI, oI + k * 4, none⟩) hbI).trans (HitA.out k (by rw [← Hn.out]; omega)).c0
          have d2 : w4.cell? ⟨bI, oI + q * 4, none⟩ = some (.int .i64 (blkOf l q)) := (hB4.cell (p := ⟨bI, oI + q * 4, none⟩) hbI).trans (HitA.out q (by rw [← Hn.out]; omega)).c0
          obtain ⟨x, hx⟩ : ∃ x, x = blkOf l k := ⟨_, rfl⟩
          obtain ⟨y, hy⟩ : ∃ y, y = blkOf l q := ⟨_, rfl⟩
          rw [← hx] at d1
          rw [← hy] at d2
          have Hx := Lib.hid hx
          have Hy := Lib.hid hy
          clear hla hqu hx hy hB4
          by_cases hxy : x = y
          · have Hn1 : Hid (LastAt (blkOf l) q (k + 1) (some k)) := ⟨by omega, by rw [← Hx.out, ← Hy.out, hxy], fun m h1 h2 => by omega⟩
            subst hxy
            go_wp2_with fail
            go_quiet (fail)
            go_wp2
            go_roundw
            case rel => exact ⟨k + 1, some k, by omega, by go_num, rfl, Hn1.out, Hqu.out.trans ⟨_, rfl⟩⟩
            case measure => simp [intOf]; omega
          · have hb1 : (x == y) = false := by simp [hxy]
            have Hn1 : Hid (LastAt (blkOf l) q (k + 1) o) := by
              have hne : blkOf l k ≠ blkOf l q := by rw [← Hx.out, ← Hy.out]; exact hxy
              have h0 := Hla.out
              cases o with
              | none =>
                intro m h
                by_cases e : m = k
                · rw [e]; exact hne
                · exact h0 m (by omega)
              | some p =>
                refine ⟨by have := h0.1; omega, h0.2.1, fun m h1 h2 => ?_⟩
                by_cases e : m = k
                · rw [e]; exact hne
                · exact h0.2.2 m h1 (by omega)
            clear hxy
            go_wp2_with fail
            go_quiet (fail)
            go_wp2
            go_roundw
            case rel => exact ⟨k + 1, o, by omega, by go_num, by rw [Hzl.out], Hn1.out, Hqu.out.trans ⟨_, rfl⟩⟩
            case measure => simp [intOf]; omega
        · have hltki : ¬ (k : Int) < (q : Int) := by omega
          obtain rfl : k = q := by omega
          have hhome := hla.home
          have hqD : k < D.length := by rw [← HDl.out]; exact hlt
          have hset4 : BlkIs w4 w2.heap.size 3 (numV n fun z => if z = k then k else m z) := by obtain ⟨nq, rfl⟩ := hqu; exact Hset.out
          have HB4 : Hid (Below w2.heap.size w2 w4) := hqu.below HBs.out
          have Hset4 := Lib.hid hset4
          cases o with
          | none =>
            have hzl : zl = -1 := Hzl.out
            subst hzl
            have hfo : foL l k = k := by
              have h1 := foK_none (bl := blkOf l) HD.out.right hqD (by unfold homeG; rw [hhome])
              rw [← HDe.out] at *
              rw [← Hfo.out k (k + 1) (by omega) (by rw [← Hn.out]; omega)]
              exact h1
            have Hfo1 := Lib.hid hfo
            clear hhome hla hqu hset4 hfo
            go_wp2_with fail
            go_roundw
            case rel =>
              refine ⟨k + 1, _, by omega, by go_num, Hset4.out, fun i hi => ?_, HB4.out⟩
              by_cases e : i = k
              · rw [e, if_pos rfl, Hfo1.out]
              · rw [if_neg e]; exact Hm.out i (by omega)
            case measure => simp [intOf]; omega
          | some p =>
            have hzl : zl = ((p : Nat) : Int) := Hzl.out
            subst hzl
            obtain ⟨hpk, _, _⟩ := hla
            have hfit := joins_fits (bl := blkOf l) HD.out.right hqD hpk
            have hcong : ∀ t, joinT (foL l) D (foL l p) k t = joinT (foK (blkOf l) D k) D (foK (blkOf l) D k p) k t := fun t => by
              have hz : ∀ z, z < k → foL l z = foK (blkOf l) D k z := fun z hz => (Hfo.out z k hz (by rw [← Hn.out]; omega)).symm
              rw [hz p hpk]
              exact joinT_congr HD.out.right hz _ _
            rw [← hcong] at hfit
            have hjoin : joinT (foL l) D (foL l p) k (rowN D k).length = true → foL l k = foL l p := fun h => by
              rw [h] at hfit
              have h1 := foK_some (bl := blkOf l) HD.out.right hqD hhome (by unfold homeG; rw [hhome]; simp only; rw [if_pos hfit.symm])
              rw [← Hfo.out k (k + 1) (by omega) (by rw [← Hn.out]; omega), h1]
              exact Hfo.out p k hpk (by rw [← Hn.out]; omega)
            have hnot : joinT (foL l) D (foL l p) k (rowN D k).length = false → foL l k = k := fun h => by
              rw [h] at hfit
              have h1 := foK_none (bl := blkOf l) HD.out.right hqD (by unfold homeG; rw [hhome]; simp only; rw [if_neg (by rw [← hfit]; simp)])
              rw [← Hfo.out k (k + 1) (by omega) (by rw [← Hn.out]; omega)]
              exact h1
            have Hjoin := Lib.hid hjoin
            have Hnot := Lib.hid hnot
            have hcell : ∀ z, z < k → w4.cell? ⟨w2.heap.size, z, none⟩ = some (.int .i64 ((foL l z : Nat) : Int)) := fun z hz => by
              rw [hset4.cell, numV_at _ (by omega), if_neg (by omega), Hm.out z hz]
            have Hcell := Lib.hid hcell
            have hcp := hcell p hpk
            have hckk : w4.cell? ⟨w2.heap.size, k, none⟩ = some (.int .i64 ((k : Nat) : Int)) := by rw [hset4.cell, numV_at _ hlt, if_pos rfl]
            have hfkk := hset4.frozen k
            have Hcx4 := Lib.hid (Hcx.out.next HB4.out)
            obtain ⟨bd, od, Ar, cr, rfl, hbd, hcd, hIr⟩ := Hcx4.out.mat.rowAt (g := k) hqD
            have HIr := Lib.hid hIr
            have hrow := HD.out.right.2 k
            have hrl := HD.out.len k
            have Hjs := Lib.hid (fun g t => joinT_succ (foL l) D g k t)
            obtain ⟨row, hrowe⟩ : ∃ row, row = rowN D k := ⟨_, rfl⟩
            rw [← hrowe] at hcd HIr hrow hrl Hjoin Hnot Hjs
            have Hrow := Lib.hid hrow
            obtain ⟨g, hge⟩ : ∃ g, g = foL l p := ⟨_, rfl⟩
            rw [← hge] at hcp Hjoin Hnot
            have hp0 : ¬ (p : Int) < 0 := by omega
            have hp00 : (0 : Int) ≤ (p : Int) := by omega
            have hpn : (p : Int) < (n : Int) := by omega
            have Hge := Lib.hid hge
            clear hhome hfit hcong hjoin hnot hcell hIr hrow hrowe hge hset4 hqu
            go_wp2_with fail
            go_loopw [10, 11] (fun v10 v11 w5 => ∃ (t : Nat), t ≤ row.length ∧ v11 = .int .i64 t ∧ v10 = .bool (joinT (foL l) D g k t) ∧ w5 = w4) (fun _ v11 _ => row.length - (intOf v11).toNat)
            case atStart => exact ⟨0, Nat.zero_le _, rfl, by simp [joinT], rfl⟩
            case round =>
              obtain ⟨t, ht, rfl, rfl, rfl⟩ := hrel
              rename World => w5
              have ht0 : (0 : Int) ≤ (t : Int) := by omega
              by_cases hltt : t < row.length
              · have hltti : (t : Int) < (row.length : Int) := by omega
                obtain ⟨br, or, rfl, hbr, hcr⟩ := HIr.out.nat hltt
                have hdr : el row t ∈ row := by rw [el_lt hltt]; exact List.getElem_mem _
                have hdk := Hrow.out _ hdr
                have Hjst := Lib.hid (Hjs.out g t hltt)
                obtain ⟨d, hde⟩ : ∃ d, d = el row t := ⟨_, rfl⟩
                rw [← hde] at hcr hdk Hjst
                have hcod := Hcell.out d hdk
                have hd0 : (0 : Int) ≤ (d : Int) := by omega
                have hdn : (d : Int) < (n : Int) := by omega
                have Hok := Lib.hid (okN_succ (foL l) D g d)
                obtain ⟨fd, hfd⟩ : ∃ fd, fd = foL l d := ⟨_, rfl⟩
                rw [← hfd] at hcod
                have Hst : Hid (okN (foL l) D g d 0 = (((fd : Nat) : Int) == ((g : Nat) : Int))) := by
                  unfold Hid okN
                  rw [← hfd, Bool.eq_iff_iff]
                  simp
                  omega
                clear hde hdr hfd
                go_wp2_with fail
                go_loopw [13, 14] (fun v13 v14 w6 => ∃ (x : Nat), x ≤ k ∧ v14 = .int .i64 x ∧ v13 = .bool (okN (foL l) D g d x) ∧ w6 = w5) (fun _ v14 _ => k - (intOf v14).toNat)
                case atStart => exact ⟨0, Nat.zero_le _, rfl, by rw [Hst.out], rfl⟩
                case round =>
                  obtain ⟨x, hx, rfl, rfl, rfl⟩ := hrel
                  rename World => w6
                  have hx0 : (0 : Int) ≤ (x : Int) := by omega
                  by_cases hltx : x < k
                  · have hltxi : (x : Int) < (k : Int) := by omega
                    have hxn : (x : Int) < (n : Int) := by omega
                    have Hokx := Lib.hid (Hok.out x)
                    obtain ⟨b0, hb0⟩ : ∃ b0, b0 = okN (foL l) D g d x := ⟨_, rfl⟩
                    rw [← hb0] at Hokx ⊢
                    clear hb0
                    cases b0 with
                    | true =>
                      have Hn1 : Hid (okN (foL l) D g d (x + 1) = true) := by unfold Hid; rw [Hokx.out]; rfl
                      go_wp2_with fail
                      go_roundw
                      case rel => exact ⟨x + 1, by omega, by go_num, by rw [Hn1.out], trivial⟩
                      case measure => simp [intOf]; omega
                    | false =>
                      have hcox := Hcell.out x hltx
                      obtain ⟨bu, ou, gu, rfl, hbu, hcu, hgu, hMu⟩ := Hcx4.out.ups x (by omega)
                      have hcm : w6.cell? ⟨gu, d, none⟩ = some (.bool (befB D (d : Int) (x : Int))) := hMu.cell (by omega)
                      obtain ⟨bb, hbb⟩ : ∃ bb, bb = befB D (d : Int) (x : Int) := ⟨_, rfl⟩
                      rw [← hbb] at hcm Hokx
                      obtain ⟨fx, hfx⟩ : ∃ fx, fx = foL l x := ⟨_, rfl⟩
                      rw [← hfx] at hcox Hokx
                      clear hMu hbb hfx
                      by_cases hfg : fx = g
                      · have Hn1 : Hid (okN (foL l) D g d (x + 1) = bb) := by unfold Hid; rw [Hokx.out]; simp [hfg]
                        subst hfg
                        go_wp2_with fail
                        go_roundw
                        case rel => exact ⟨x + 1, by omega, by go_num, by rw [Hn1.out], trivial⟩
                        case measure => simp [intOf]; omega
                      · have Hn1 : Hid (okN (foL l) D g d (x + 1) = false) := by unfold Hid; rw [Hokx.out]; simp [hfg]
                        have hfb : (((fx : Nat) : Int) == ((g : Nat) : Int)) = false := by simp; omega
                        clear hfg
                        go_wp2_with fail
                        go_roundw
                        case rel => exact ⟨x + 1, by omega, by go_num, by rw [Hn1.out], trivial⟩
                        case measure => simp [intOf]; omega
                  · have hltxi : ¬ (x : Int) < (k : Int) := by omega
                    obtain rfl : x = k := by omega
                    obtain ⟨b0, hb0⟩ : ∃ b0, b0 = okN (foL l) D g d x := ⟨_, rfl⟩
                    obtain ⟨b1, hb1⟩ : ∃ b1, b1 = joinT (foL l) D g x t := ⟨_, rfl⟩
                    rw [← hb0, ← hb1] at Hjst
                    rw [← hb0, ← hb1]
                    clear hb0 hb1
                    cases b1 with
                    | true =>
                      go_wp2_with fail
                      go_roundw
                      case rel => exact ⟨t + 1, by omega, by go_num, by rw [Hjst.out]; rfl, trivial⟩
                      case measure => simp [intOf]; omega
                    | false =>
                      go_wp2_with fail
                      go_roundw
                      case rel => exact ⟨t + 1, by omega, by go_num, by rw [Hjst.out]; rfl, trivial⟩
                      case measure => simp [intOf]; omega
              · have hltti : ¬ (t : Int) < (row.length : Int) := by omega
                obtain rfl : t = row.length := by omega
                obtain ⟨b1, hb1⟩ : ∃ b1, b1 = joinT (foL l) D g k row.length := ⟨_, rfl⟩
                rw [← hb1] at Hjoin Hnot ⊢
                clear hb1
                cases b1 with
                | true =>
                  have hfin := Hset4.out.set_ k (.int .i64 ((g : Nat) : Int))
                  rw [numV_set] at hfin
                  have Hfin := Lib.hid hfin
                  have Hfk := Lib.hid (Hjoin.out rfl)
                  have HB5 := Lib.hid (HB4.out.setCell (p := ⟨w2.heap.size, k, none⟩) (Nat.le_refl _) (.int .i64 ((g : Nat) : Int)))
                  clear hfin
                  go_wp2_with fail
                  go_roundw
                  case rel =>
                    refine ⟨k + 1, _, by omega, by go_num, Hfin.out, fun i hi => ?_, HB5.out⟩
                    by_cases e : i = k
                    · simp only [if_pos e]; rw [e, Hfk.out]
                    · simp only [if_neg e]; exact Hm.out i (by omega)
                  case measure => simp [intOf]; omega
                | false =>
                  have Hfk := Lib.hid (Hnot.out rfl)
                  go_wp2_with fail
                  go_roundw
                  case rel =>
                    refine ⟨k + 1, _, by omega, by go_num, Hset4.out, fun i hi => ?_, HB4.out⟩
                    by_cases e : i = k
                    · simp only [if_pos e]; rw [e, Hfk.out]
                    · simp only [if_neg e]; exact Hm.out i (by omega)
                  case measure => simp [intOf]; omega
    · have hlti : ¬ (q : Int) < (n : Int) := by omega
      obtain rfl : q = n := by omega
      have e : numV q m = numV l.length (foL l) := by rw [← Hn.out]; exact numV_ext (fun i hi => Hm.out i hi)
      rw [e] at Hout
      clear hout hB e
      go_wp2_with fail
      go_ret
      exact ⟨w2.heap.size, by rw [← Hn.out]; rfl, Hout.out, HB2.out.size, HB2.out.trans (HB.out.mono HB2.out.size)⟩
end Go.Proofs.Ytkfjkhacchbkeaa
