/- Contract of the document's Blocks. -/
import Derived.Test.YtkfjkhacchbkeaaBA
import Derived.Deep.RegionWith
namespace Go.Proofs.Ytkfjkhacchbkeaa
set_option linter.unusedVariables false
set_option linter.unusedSimpArgs false
open Go.RowKit

def stepB (p : Pat.Pt) (L : List (List Int)) : List (List Int) :=
  if p.b.toNat < L.length then (match Pat.ansP (rowI L p.b.toNat) [p] with
    | some m => L.set p.b.toNat m
    | none => L) else L
def foldB (l : List It) (L : List (List Int)) (q : List Nat) : List (List Int) := q.foldl (fun M i => stepB (itN l i).p M) L
def someT (s : List Int) (k : Nat) : List Nat := (List.range k).filter fun i => decide ((i : Int) ∈ s)
def blocksL (l : List It) (s : List Int) (L : List (List Int)) : List (List Int) := if rightL l = true then foldB l L (someT s l.length) else L
theorem stepB_out {p : Pat.Pt} {L : List (List Int)} {n : Nat} (h : p.b = n) (hn : ¬ n < L.length) : stepB p L = L := by unfold stepB; rw [h, Int.toNat_natCast, if_neg hn]
theorem stepB_none {p : Pat.Pt} {L : List (List Int)} {n : Nat} (h : p.b = n) (ha : Pat.ansP (rowI L n) [p] = none) : stepB p L = L := by unfold stepB; rw [h, Int.toNat_natCast, ha]; split <;> rfl
theorem stepB_some {p : Pat.Pt} {L : List (List Int)} {n : Nat} {m : List Int} (h : p.b = n) (hn : n < L.length) (ha : Pat.ansP (rowI L n) [p] = some m) : stepB p L = L.set n m := by unfold stepB; rw [h, Int.toNat_natCast, if_pos hn, ha]
theorem length_stepB (p : Pat.Pt) (L : List (List Int)) : (stepB p L).length = L.length := by
  unfold stepB
  split
  · split
    · rw [List.length_set]
    · rfl
  · rfl
theorem length_foldB (l : List It) (L : List (List Int)) (q : List Nat) : (foldB l L q).length = L.length := by
  unfold foldB
  induction q generalizing L with
  | nil => rfl
  | cons x q ih => rw [List.foldl_cons, ih, length_stepB]
theorem foldB_snoc (l : List It) (L : List (List Int)) (q : List Nat) (i : Nat) : foldB l L (q ++ [i]) = stepB (itN l i).p (foldB l L q) := by simp [foldB]
theorem someT_hit {s : List Int} {k : Nat} (h : decide ((k : Int) ∈ s) = true) : someT s (k + 1) = someT s k ++ [k] := by
  unfold someT; rw [List.range_succ, List.filter_append]; simp only [List.filter_cons, h, List.filter_nil, if_true]
theorem someT_miss {s : List Int} {k : Nat} (h : decide ((k : Int) ∈ s) = false) : someT s (k + 1) = someT s k := by
  unfold someT; rw [List.range_succ, List.filter_append]; simp only [List.filter_cons, h, List.filter_nil]; simp
theorem right_each {l : List It} (h : rightL l = true) {k : Nat} (hk : k < l.length) : (itN l k).p.right = true := by
  cases e : (itN l k).p.right with
  | true => rfl
  | false => rw [rightTo_stop hk e] at h; cases h

/-- rows of bytes in a slice that a call made behind base -/
def OutS (W : World) (A : Option Addr) (base : Nat) (L : List (List Int)) : Prop := 0 < L.length → ∃ bo As Cs, A = some ⟨bo, 0, none⟩ ∧ base ≤ bo ∧ OutB W bo L As Cs
theorem OutS.next {W W' : World} {A : Option Addr} {base : Nat} {L : List (List Int)} (h : OutS W A base L) (hb : Below W.heap.size W W') : OutS W' A base L := fun h0 => by
  obtain ⟨bo, As, Cs, e, h1, h2⟩ := h h0
  exact ⟨bo, As, Cs, e, h1, h2.next hb⟩
theorem OutS.rws {W : World} {A : Option Addr} {base : Nat} {L : List (List Int)} (h : OutS W A base L) : Rws W W.heap.size A L := OutR.rws fun h0 => by
  obtain ⟨bo, As, Cs, e, _, h2⟩ := h h0
  exact ⟨bo, As, Cs, e, h2⟩
theorem OutR.s {W : World} {A : Option Addr} {base : Nat} {L : List (List Int)} (h : OutR W A L) (hb : ∀ a, A = some a → base ≤ a.block) : OutS W A base L := fun h0 => by
  obtain ⟨bo, As, Cs, e, h2⟩ := h h0
  exact ⟨bo, As, Cs, e, hb _ e, h2⟩
def BlocksSays (w : World) (M : List (List Int)) (e : Ending) (w' : World) : Prop := ∃ A c, e = .returned (.slice A M.length c) ∧ Rws w' w'.heap.size A M ∧ Below w.heap.size w w'

set_option maxRecDepth 100000 in
set_option maxHeartbeats 8000000 in
theorem refblocks_any (A : Option Addr) (c n : Nat) (l : List It) (A2 : Option Addr) (c2 n2 : Nat) (s : List Int) (A3 : Option Addr) (c3 n3 : Nat) (L : List (List Int)) (hn : n = l.length) (hn2 : n2 = s.length) (hn3 : n3 = L.length) (w : World)
    (hl : l.length ≤ 1000) (hl2 : s.length ≤ 100000) (hl3 : L.length ≤ 1000) (hr : ∀ j, j < L.length → (rowI L j).length ≤ 2000000) (hs : Small l) (hI : Items w w.heap.size A l) (hI2 : Ints w w.heap.size A2 s) (hR : Rws w w.heap.size A3 L) :
    Calls Try.prog 32 #[.slice A n c, .slice A2 n2 c2, .slice A3 n3 c3] w (BlocksSays w (blocksL l s L)) := by
  have HC := Lib.hid (copy_any A3 c3 n3 L hn3 w hl3 hr hR)
  have HR := Lib.hid (fun W (h : Below w.heap.size w W) => refmright_any A c n l hn W hl hs (hI.next h))
  have Hhas := Lib.hid (fun (x : Int) W (h : Below w.heap.size w W) => has_any A2 c2 n2 s x W _ hn2 hl2 (hI2.next h))
  have HI := Lib.hid hI
  have Hn := Lib.hid hn
  have Hn3 := Lib.hid hn3
  have hn1 : n ≤ 1000 := by omega
  have hn31 : n3 ≤ 1000 := by omega
  have Hsm := Lib.hid hs
  have Hri := Lib.hid (fun h k => @right_each l h k)
  have Hx : Hid (blocksL l s L = if rightL l = true then foldB l L (someT s n) else L) := by unfold Hid; rw [hn]; rfl
  obtain ⟨r, hrr⟩ : ∃ r, r = rightL l := ⟨_, rfl⟩
  rw [← hrr] at HR Hri Hx
  clear hI hI2 hR hn hn2 hn3 hl hl2 hl3 hr hs hrr
  go_enter Try.func32, Try.ntmps32
  go_wp2_with fail
  refine HC.out.mono ?_
  rintro e w1 ⟨Ao, co, rfl, hO, hbs, hB1⟩
  rw [← Hn3.out]
  have HO := Lib.hid (hO.s hbs)
  have HB1 := Lib.hid hB1
  clear hO hbs hB1 HC
  go_wp2_with fail
  go_loopw [8] (fun i wr => ∃ k : Nat, k ≤ n ∧ i = .int .i64 k ∧ (r = false → k = 0) ∧ OutS wr Ao w.heap.size (foldB l L (someT s k)) ∧ Below w.heap.size w wr) (fun i _ => n - (intOf i).toNat)
  case atStart => exact ⟨0, Nat.zero_le _, rfl, fun _ => rfl, HO.out, HB1.out⟩
  case round =>
    obtain ⟨k, hk, rfl, hr0, hO, hB⟩ := hrel
    rename World => wr
    have HB := Lib.hid hB
    have HOk := Lib.hid hO
    have Hr0 := Lib.hid hr0
    have Hrw := Lib.hid (HR.out wr hB)
    have hsz := hB.size
    have hk0 : (0 : Int) ≤ (k : Int) := by omega
    clear hB hO hr0
    cases r with
    | false =>
      have hk00 := Hr0.out rfl
      subst hk00
      have Hx2 : Hid (blocksL l s L = L) := by unfold Hid; rw [Hx.out]; rfl
      have HO0 : Hid (OutS wr Ao w.heap.size L) := HOk.out
      clear Hx HOk
      go_wp2_with (go_at_call 16; refine Hrw.out.mono ?_; rintro e w2 ⟨rfl, hB2⟩; have HO2 := Lib.hid (HO0.out.next hB2); have HB2 := Lib.hid (HB.out.trans (hB2.mono hsz)); clear hB2)
      go_ret
      unfold BlocksSays
      rw [Hx2.out, ← Hn3.out]
      exact ⟨Ao, co, rfl, HO2.out.rws, HB2.out⟩
    | true =>
      by_cases hlt : k < n
      · have hlti : (k : Int) < (n : Int) := by omega
        have hkl : k < l.length := by rw [← Hn.out]; exact hlt
        obtain ⟨b, off, Ak, ck, rfl, hb, hx⟩ := HI.out.at_ hkl
        obtain ⟨c0, c1, c2', c3', _⟩ := hx
        have hp := (Hsm.out k hkl).1
        have hpr := Hri.out rfl k hkl
        obtain ⟨p0, _, _, _, _, _⟩ := Pat.Pt.right_out hpr
        have Hfs := Lib.hid (fun q => foldB_snoc l L q k)
        have Hlen : Hid (n3 = (foldB l L (someT s k)).length) := by unfold Hid; rw [length_foldB]; exact Hn3.out
        have Hhk := Lib.hid (Hhas.out (k : Int))
        have Hhit := Lib.hid (@someT_hit s k)
        have Hmiss := Lib.hid (@someT_miss s k)
        obtain ⟨x, hxe⟩ : ∃ x, x = itN l k := ⟨_, rfl⟩
        rw [← hxe] at c0 c1 c2' hp p0 Hfs
        obtain ⟨p, d⟩ := x
        simp only at c0 c1 c2' hp p0 Hfs
        have Hst := Lib.hid (fun nn => @stepB_out p (foldB l L (someT s k)) nn)
        have Hsn := Lib.hid (fun nn => @stepB_none p (foldB l L (someT s k)) nn)
        have Hss := Lib.hid (fun nn mm => @stepB_some p (foldB l L (someT s k)) nn mm)
        have Hap := Lib.hid (fun (W : World) (A' : Option Addr) (row : List Int) (c' : Nat) (h : Pat.Bts W W.heap.size A' row) => Pat.refapply_uni (n := row.length) (c := c') h rfl hp)
        have Hbx := Lib.hid (fun W => Pat.boxed1 W p)
        obtain ⟨M, hM⟩ : ∃ M, M = foldB l L (someT s k) := ⟨_, rfl⟩
        have HM := Lib.hid hM
        rw [← hM] at HOk Hlen Hst Hsn Hss
        obtain ⟨pb, po, ps⟩ := p
        obtain ⟨bn, rfl⟩ := Int.eq_ofNat_of_zero_le p0
        unfold Pat.Pt.v at Hap
        simp only [Pat.Pt.cs] at Hbx
        simp only at c0 c1 c2' Hap
        have hbn0 : (0 : Int) ≤ (bn : Int) := by omega
        have Hc : Hid (∀ W, Below w.heap.size w W → W.cell? ⟨b, off + k * 4, none⟩ = some (.int .i64 (bn : Int)) ∧ W.cell? ⟨b, off + k * 4 + 1, none⟩ = some (.int .i64 po) ∧ W.cell? ⟨b, off + k * 4 + 2, none⟩ = some (.string ps)) := fun W h =>
          ⟨(h.cell (p := ⟨b, off + k * 4, none⟩) hb).trans c0, (h.cell (p := ⟨b, off + k * 4 + 1, none⟩) hb).trans c1, (h.cell (p := ⟨b, off + k * 4 + 2, none⟩) hb).trans c2'⟩
        obtain ⟨d1, hd1⟩ : ∃ d1, d1 = decide ((k : Int) ∈ s) := ⟨_, rfl⟩
        rw [← hd1] at Hhk Hhit Hmiss
        clear hkl hb c0 c1 c2' c3' hp hpr p0 hxe hM hd1
        cases d1 with
        | false =>
          have Hs := Lib.hid (Hmiss.out rfl)
          go_wp2_with (first
            | (go_at_call 16; refine Hrw.out.mono ?_; rintro e w2 ⟨rfl, hB2⟩; have HO2 := Lib.hid (HOk.out.next hB2); have HB2 := Lib.hid (HB.out.trans (hB2.mono hsz)); obtain ⟨e0, e1, e2⟩ := Hc.out w2 HB2.out; clear hB2)
            | (go_at_call 51; refine (Hhk.out _ (HB2.out.alloc (by have := HB2.out.size; omega) _)).mono ?_; rintro e w3 ⟨rfl, hw3⟩; have hB23 : Below w2.heap.size w2 w3 := (by rw [← hw3]; exact Pat.below_alloc1 w2 _); have HO3 := Lib.hid (HO2.out.next hB23); have HB3 := Lib.hid (HB2.out.trans (hB23.mono HB2.out.size)); clear hw3 hB23))
          go_roundw
          case rel => exact ⟨k + 1, by omega, by go_num, (fun h => by cases h), by rw [Hs.out, ← HM.out]; exact HO3.out, HB3.out⟩
          case measure => simp [intOf]; omega
        | true =>
          have Hs := Lib.hid (Hhit.out rfl)
          by_cases hbn : bn < n3
          · have hbni : (bn : Int) < (n3 : Int) := by omega
            have hbl : bn < M.length := by rw [← Hlen.out]; exact hbn
            obtain ⟨bo, As, Cs, rfl, hbo, hO⟩ := HOk.out (by omega)
            have HOB := Lib.hid hO
            have Hap2 := Lib.hid (fun W h => Hap.out W (As bn) (rowI M bn) (Cs bn) h)
            have Hss2 := Lib.hid (fun m => Hss.out bn m rfl hbl)
            have Hsn2 := Lib.hid (Hsn.out bn rfl)
            obtain ⟨row, hrow⟩ : ∃ row, row = rowI M bn := ⟨_, rfl⟩
            have Hrow := Lib.hid hrow
            rw [← hrow] at Hap2 Hss2 Hsn2
            obtain ⟨an, han⟩ : ∃ an, an = Pat.ansP row [⟨(bn : Int), po, ps⟩] := ⟨_, rfl⟩
            rw [← han] at Hap2 Hss2 Hsn2
            clear hO hrow han
            go_wp2_with (first
              | (go_at_call 16; refine Hrw.out.mono ?_; rintro e w2 ⟨rfl, hB2⟩; have HO2 := Lib.hid (HOB.out.next hB2); have HB2 := Lib.hid (HB.out.trans (hB2.mono hsz)); obtain ⟨e0, e1, e2⟩ := Hc.out w2 HB2.out; clear hB2)
              | (go_at_call 51; refine (Hhk.out _ (HB2.out.alloc (by have := HB2.out.size; omega) _)).mono ?_; rintro e w3 ⟨rfl, hw3⟩; have hB23 : Below w2.heap.size w2 w3 := (by rw [← hw3]; exact Pat.below_alloc1 w2 _); have HO3 := Lib.hid (HO2.out.next hB23); have HB3 := Lib.hid (HB2.out.trans (hB23.mono HB2.out.size)); have hbx := Hbx.out w2; rw [hw3] at hbx; have HBX := Lib.hid hbx; obtain ⟨g0, g1, g2⟩ := Pat.Boxed.cells (p := ⟨(bn : Int), po, ps⟩) hbx; have hco := HO3.out.cell hbl; rw [← Hrow.out] at hco; simp only at g0 g1 g2; clear hw3 hB23 hbx))
            cases an with
            | none =>
              have Hs2 := Lib.hid (Hsn2.out rfl)
              go_region_with (go_at_call 55; refine (Hap2.out _ (by first | exact (HO3.out.rows bn hbl).1 | (rw [Hrow.out]; exact (HO3.out.rows bn hbl).1))).mono ?_; rintro e w6 ⟨hB6, rfl⟩; have hB36 : Below w3.heap.size w3 w6 := ⟨hB6.os, hB6.tape, hB6.output, hB6.size, hB6.block⟩; have HO6 := Lib.hid (HO3.out.next hB36); have HB6 := Lib.hid (HB3.out.trans (hB36.mono HB3.out.size)); clear hB6 hB36)
              all_goals (
                go_wp2_with fail
                go_roundw
                case rel => exact ⟨k + 1, by omega, by go_num, (fun h => by cases h), by rw [Hs.out, Hfs.out, ← HM.out, Hs2.out]; exact fun _ => ⟨bo, As, Cs, rfl, hbo, HO6.out⟩, HB6.out⟩
                case measure => simp [intOf]; omega)
            | some m =>
              have Hs2 := Lib.hid (Hss2.out m rfl)
              go_region_with (go_at_call 55; refine (Hap2.out _ (by first | exact (HO3.out.rows bn hbl).1 | (rw [Hrow.out]; exact (HO3.out.rows bn hbl).1))).mono ?_; rintro e w6 ⟨hB6, A6, c6, rfl, _, _, hb6, h32, g6, rfl, hg6⟩; have hB36 : Below w3.heap.size w3 w6 := ⟨hB6.os, hB6.tape, hB6.output, hB6.size, hB6.block⟩; have HO6 := Lib.hid (HO3.out.next hB36); have HB6 := Lib.hid (HB3.out.trans (hB36.mono HB3.out.size)); have hbx6 := Pat.Boxed.below HBX.out hB36 (Pat.BlkIs.lt HBX.out); obtain ⟨k0, k1, k2⟩ := Pat.Boxed.cells (p := ⟨(bn : Int), po, ps⟩) hbx6; simp only at k0 k1 k2; have hc6 := HO6.out.cell hbl; have hf6 := HO6.out.frozen bn; have Hb6 := Lib.hid hb6; have H32 := Lib.hid h32; have hg7 : w3.heap.size ≤ g6 := hg6; have Hg7 := Lib.hid hg7; clear hB6 hB36 hb6 h32 hg6 hbx6 hg7)
              all_goals (
                go_wp2_with fail
                go_roundw
                case rel =>
                  refine ⟨k + 1, by omega, by go_num, (fun h => by cases h), ?_, HB6.out.setCell (p := ⟨bo, bn, none⟩) hbo _⟩
                  rw [Hs.out, Hfs.out, ← HM.out, Hs2.out]
                  have hbo3 := HO3.out.lt
                  have hq := HO6.out.put (c := c6) hbl (Below.refl _ _) (bts_set (g := bo) (o := bn) (v := .slice (some ⟨g6, 0, none⟩) m.length c6) (by simpa [World.setCell] using Hb6.out) (fun a ea => by cases ea; show g6 ≠ bo; have := Hg7.out; omega)) (fun a ea => by cases ea; show g6 ≠ bo; have := Hg7.out; omega)
                  rw [H32.out] at hq
                  exact fun _ => ⟨bo, _, _, rfl, hbo, hq⟩
                case measure => simp [intOf]; omega)
          · have hbni : ¬ (bn : Int) < (n3 : Int) := by omega
            have Hs2 : Hid (stepB ⟨(bn : Int), po, ps⟩ M = M) := Hst.out bn rfl (by rw [← Hlen.out]; exact hbn)
            go_wp2_with (first
              | (go_at_call 16; refine Hrw.out.mono ?_; rintro e w2 ⟨rfl, hB2⟩; have HO2 := Lib.hid (HOk.out.next hB2); have HB2 := Lib.hid (HB.out.trans (hB2.mono hsz)); obtain ⟨e0, e1, e2⟩ := Hc.out w2 HB2.out; clear hB2)
              | (go_at_call 51; refine (Hhk.out _ (HB2.out.alloc (by have := HB2.out.size; omega) _)).mono ?_; rintro e w3 ⟨rfl, hw3⟩; have hB23 : Below w2.heap.size w2 w3 := (by rw [← hw3]; exact Pat.below_alloc1 w2 _); have HO3 := Lib.hid (HO2.out.next hB23); have HB3 := Lib.hid (HB2.out.trans (hB23.mono HB2.out.size)); have hbx := Hbx.out w2; rw [hw3] at hbx; obtain ⟨g0, g1, g2⟩ := Pat.Boxed.cells (p := ⟨(bn : Int), po, ps⟩) hbx; simp only at g0 g1 g2; clear hw3 hB23 hbx))
            go_roundw
            case rel => exact ⟨k + 1, by omega, by go_num, (fun h => by cases h), by rw [Hs.out, Hfs.out, ← HM.out, Hs2.out]; exact HO3.out, HB3.out⟩
            case measure => simp [intOf]; omega
      · have hlti : ¬ (k : Int) < (n : Int) := by omega
        obtain rfl : k = n := by omega
        have Hx2 : Hid (blocksL l s L = foldB l L (someT s k)) := by unfold Hid; rw [Hx.out]; rfl
        have Hlen : Hid (n3 = (foldB l L (someT s k)).length) := by unfold Hid; rw [length_foldB]; exact Hn3.out
        clear Hx
        go_wp2_with (go_at_call 16; refine Hrw.out.mono ?_; rintro e w2 ⟨rfl, hB2⟩; have HO2 := Lib.hid (HOk.out.next hB2); have HB2 := Lib.hid (HB.out.trans (hB2.mono hsz)); clear hB2)
        go_ret
        unfold BlocksSays
        rw [Hx2.out, ← Hlen.out]
        exact ⟨Ao, co, rfl, HO2.out.rws, HB2.out⟩
end Go.Proofs.Ytkfjkhacchbkeaa
