/- TopNeighbours: the walk of the law's text. -/
import Derived.Test.YtpcindemkkdbbaaTN
import Derived.RegionTactic
import Derived.ChangeAlike
namespace Go.Proofs.Ytpcindemkkdbbaa.topNeighbours
set_option linter.unusedVariables false
set_option linter.unusedSimpArgs false
open Go.RowKit

def x3 (a b c : Int) (k : Nat) : Int := if k = 0 then a else if k = 1 then b else c
def sz (a b c : Int) (k : Nat) : Nat := (x3 a b c k % 30 + 1).toNat
theorem x3_in {a b c : Int} (ha : 0 ≤ a ∧ a ≤ 255) (hb : 0 ≤ b ∧ b ≤ 255) (hc : 0 ≤ c ∧ c ≤ 255) (k : Nat) : 0 ≤ x3 a b c k ∧ x3 a b c k ≤ 255 := by
  unfold x3; split
  · exact ha
  · split
    · exact hb
    · exact hc
theorem new_says (k : Nat) (n : Nat) (hk : k < 3) (h1 : 1 ≤ n) (h2 : n ≤ 30) (W : World) :
    Calls Try.prog 19 #[.int .i64 k, .int .i64 n] W fun e w' => ∃ A c A2 d, e = .returned (.tuple #[.agg #[.int .i64 k, .int .i64 n, .int .i64 n, .int .i64 16, .int .i64 0, .slice A 0 c, .slice A2 0 d], .int .i64 0]) ∧ Below W.heap.size W w' := by
  refine (new_any k n W).mono ?_
  have hr : rightC (bare k n) = true := by
    rw [rightC_iff, ← grpI_zero]
    exact right_grpI (by omega) h1 (by omega) (by omega)
  rw [if_pos hr, if_pos hr]
  rintro e w' ⟨A, c, A2, d, rfl, _, _, _, hB⟩
  exact ⟨A, c, A2, d, rfl, hB⟩
theorem seven_at {W : World} {o : List Value} (j : Nat) (u : Value) (h : o[j]? = some u) : (W.alloc (.cells o.toArray 24)).cell? ((⟨W.heap.size, 0, none⟩ : Addr).add j) = some u := by
  rw [Addr.add_lit, Nat.zero_add, cellAt_of (Go.heap_alloc_new W _)]
  simpa using h

theorem flat7_snoc (n : Nat) (f : Nat → List Value) : flat7 (n + 1) f = flat7 n f ++ f n := by unfold flat7; rw [List.range_succ, List.flatMap_append]; simp
theorem cyls_of_own {w : World} {B n : Nat} {v : Value} {L : List Cy} {R : Nat → Option Addr} {C : Nat → Nat} (h : w.ownsRow B 24 7 v n (flat7 n (cellsC L R C))) (hn : n = L.length) (hL : ∀ j, j < n → (cyN L j).us = [] ∧ (cyN L j).is = []) : ∃ A c, v = .slice A n c ∧ Cyls w w.heap.size A L := by
  subst hn
  rcases h.2 with ⟨rfl, h0⟩ | ⟨g, cap, cur, rfl, hb, hg, hnc, hcm, hs, ht⟩
  · exact ⟨none, 0, by rw [h0], fun h1 => by omega⟩
  · refine ⟨_, cap, rfl, fun _ => ⟨g, 0, fun j => R (2 * j), fun j => C (2 * j), fun j => R (2 * j + 1), fun j => C (2 * j + 1), rfl, lt_heap hg, fun j hj => ?_⟩⟩
    have e : ∀ i, i < 7 → w.cell? ⟨g, 0 + j * 7 + i, none⟩ = (cellsC L R C j)[i]? := fun i hi => by
      rw [Nat.zero_add, h.cellAt (j * 7 + i) (by omega), at_flat7 (length_cellsC L R C) hj hi]
    obtain ⟨hu, hi⟩ := hL j hj
    exact ⟨e 0 (by omega), e 1 (by omega), e 2 (by omega), e 3 (by omega), e 4 (by omega), e 5 (by omega), e 6 (by omega), by rw [hu]; exact Ints.nil, by rw [hi]; exact Ints.nil⟩
theorem rise_len {m : Int} {l : List Int} (h : Rise m l) (hm : 0 ≤ m) : (l.length : Int) ≤ m := by
  have key : ∀ (l : List Int) (lo : Int), l.Pairwise (· < ·) → (∀ x ∈ l, lo ≤ x ∧ x < m) → lo ≤ m → (l.length : Int) ≤ m - lo := by
    intro l
    induction l with
    | nil => intro lo _ _ h; simp; omega
    | cons a q ih =>
      intro lo hp hb hlo
      rw [List.pairwise_cons] at hp
      have h1 := hb a (by simp)
      have := ih (a + 1) hp.2 (fun x hx => ⟨by have := hp.1 x hx; omega, (hb x (by simp [hx])).2⟩) (by omega)
      rw [List.length_cons]; omega
  have := key l 0 h.2 h.1 hm
  omega
theorem small_step (s : Nat → Nat) (hs : ∀ j, 1 ≤ s j ∧ s j ≤ 30) {g i : Nat} (hg : g < 3) (hi : i ≤ s g) : SmallL (stepL s g i) := by
  have hW := whole_stepL hs hg hi
  refine ⟨by rw [length_stepL]; omega, fun j hj => ?_⟩
  have h := hW.ok j hj
  rw [stepL_at s hg]
  by_cases e : j = g
  · rw [if_pos e]; exact ⟨by simp [grpI, upI]; have := (hs g).2; omega, by simp [grpI]⟩
  · rw [if_neg e, triL_at s (by rw [length_stepL] at hj; exact hj)]; exact ⟨by simp [grpI, upI], by simp [grpI]⟩
set_option maxRecDepth 100000 in
set_option maxHeartbeats 4000000 in
theorem walk (a b c t : Int) (w : World) (ha : 0 ≤ a ∧ a ≤ 255) (hb : 0 ≤ b ∧ b ≤ 255) (hc : 0 ≤ c ∧ c ≤ 255) (ht : 0 ≤ t ∧ t ≤ 255) :
    Calls Try.prog 11 #[.agg #[.int .u8 a, .int .u8 b, .int .u8 c], .int .u8 t] w fun e w' => e = .returned (.bool true) ∧ Below w.heap.size w w' := by
  obtain ⟨i0, hi, hz0, hz1, hz2⟩ := info_parts info24
  have HX := Lib.hid (x3_in ha hb hc)
  have hb0 : Blk (w.alloc (.cells #[.int .u8 a, .int .u8 b, .int .u8 c] 65)) w.heap.size 65 #[.int .u8 a, .int .u8 b, .int .u8 c] := Go.heap_alloc_new w _
  have HBk := Lib.hid hb0
  have HC3 : Hid (∀ (W : World) (k : Nat), k < 3 → Blk W w.heap.size 65 #[.int .u8 a, .int .u8 b, .int .u8 c] → W.cell? ⟨w.heap.size, k, none⟩ = some (.int .u8 (x3 a b c k))) := fun W k hk h => by
    rw [cellAt_of h]
    have : k = 0 ∨ k = 1 ∨ k = 2 := by omega
    rcases this with rfl | rfl | rfl <;> simp [x3]
  obtain ⟨s, hs⟩ : ∃ s, s = sz a b c := ⟨_, rfl⟩
  have HSb : Hid (∀ k, 1 ≤ s k ∧ s k ≤ 30) := fun k => by
    have := HX.out k
    rw [hs]; unfold sz; omega
  have HSe : Hid (∀ k, (s k : Int) = x3 a b c k % 30 + 1) := fun k => by
    have := HX.out k
    rw [hs]; unfold sz; omega
  have Hs := Lib.hid hs
  clear hb0 hs ha hb hc
  obtain ⟨ht0, ht1⟩ := ht
  go_enter Try.func11, Try.ntmps11
  go_wp2_with fail
  go_loopw [5, 6] (fun v i wr => ∃ k : Nat, k ≤ 3 ∧ i = .int .i64 k ∧ ∃ R C, wr.ownsRow (w.heap.size + 1) 24 7 v k (flat7 k (cellsC (triL s) R C)) ∧ Blk wr w.heap.size 65 #[.int .u8 a, .int .u8 b, .int .u8 c] ∧ Below w.heap.size w wr) (fun _ i _ => 3 - (intOf i).toNat)
  case atStart => exact ⟨0, Nat.zero_le _, rfl, fun _ => none, fun _ => 0, World.ownsRow_nil _ _ _ _, HBk.out, (Below.refl _ w).alloc (Nat.le_refl _) _⟩
  case round =>
    obtain ⟨k, hk, rfl, R, C, hown, hblk, hB⟩ := hrel
    rename World => wr
    by_cases hlt : k < 3
    · have hlti : (k : Int) < 3 := by omega
      have hk0 : (0 : Int) ≤ (k : Int) := by omega
      have hck := HC3.out wr k hlt hblk
      obtain ⟨hx0, hx1⟩ := HX.out k
      have HSek := Lib.hid (HSe.out k)
      obtain ⟨x, hx⟩ : ∃ x, x = x3 a b c k := ⟨_, rfl⟩
      rw [← hx] at hck hx0 hx1 HSek
      have HN : Hid (∀ W, Calls Try.prog 19 #[.int .i64 k, .int .i64 (x % 30 + 1)] W fun e w' => ∃ A c A2 d, e = .returned (.tuple #[.agg #[.int .i64 k, .int .i64 (x % 30 + 1), .int .i64 (x % 30 + 1), .int .i64 16, .int .i64 0, .slice A 0 c, .slice A2 0 d], .int .i64 0]) ∧ Below W.heap.size W w') := fun W => by
        have := new_says k (s k) hlt (HSb.out k).1 (HSb.out k).2 W
        rw [HSek.out] at this
        exact this
      clear hx
      go_wp2_with fail
      refine (HN.out _).mono ?_
      rintro e w1 ⟨A, c1, A2, d, rfl, hB1⟩
      have hown1 := (Kept.fresh (S := fun _ => False) hB1).row hown (fun _ _ q => q)
      have hblk1 : Blk w1 w.heap.size 65 #[.int .u8 a, .int .u8 b, .int .u8 c] := hblk.keep (S := fun _ => False) (Kept.fresh hB1) (fun q => q)
      have hBw : Below w.heap.size w w1 := hB.trans (hB1.mono hB.size)
      have hz : w.heap.size + 1 ≤ w1.heap.size := (Array.getElem?_eq_some_iff.1 hblk1).1
      have Hrow : Hid (flat7 (k + 1) (cellsC (triL s) (fun t => if t = 2 * k then A else if t = 2 * k + 1 then A2 else R t) (fun t => if t = 2 * k then c1 else if t = 2 * k + 1 then d else C t)) = flat7 k (cellsC (triL s) R C) ++ [.int .i64 k, .int .i64 (x % 30 + 1), .int .i64 (x % 30 + 1), .int .i64 16, .int .i64 0, .slice A 0 c1, .slice A2 0 d]) := by
        unfold Hid
        rw [flat7_snoc]
        congr 1
        · refine flat7_congr fun j hj => ?_
          unfold cellsC
          dsimp only
          rw [if_neg (by omega), if_neg (by omega), if_neg (by omega), if_neg (by omega), if_neg (by omega), if_neg (by omega), if_neg (by omega), if_neg (by omega)]
        · unfold cellsC
          dsimp only
          rw [triL_at s hlt, grpI_zero, if_pos rfl, if_pos rfl, if_neg (by omega), if_pos rfl, if_neg (by omega), if_pos rfl, ← HSek.out]
          rfl
      have Hblk1 := Lib.hid hblk1
      have HBw := Lib.hid hBw
      clear hB1 hown hblk hblk1 hBw hB HN hck
      go_wp2_with (at_builtin; refine wpList_append_own _ rfl _ _ 39 rfl (w.heap.size + 1) 24 i0 _ 7 88 Try.underlying39 hi hz0 hz1 hz2 rfl (by decide) _ _ _ rfl ((hown1.alloc _).alloc _) ⟨w1.heap.size + 1, 0, none⟩ 1 1 [.int .i64 k, .int .i64 (x % 30 + 1), .int .i64 (x % 30 + 1), .int .i64 16, .int .i64 0, .slice A 0 c1, .slice A2 0 d] rfl rfl (fun j u h => by have := seven_at (W := w1.alloc (.cells #[.int .i64 k, .int .i64 (x % 30 + 1), .int .i64 (x % 30 + 1), .int .i64 16, .int .i64 0, .slice A 0 c1, .slice A2 0 d] 24)) j u h; rw [World.size_alloc] at this; exact this) (by simp [Value.oneCell']) (by unfold maxLen; omega) (by omega) (by simp; omega) ?_)
      intro v' w2 hown' hgrow _
      have hk2 : Kept w1 w2 (fun b => w.heap.size + 1 ≤ b) := ((Kept.refl w1 _).trans (Kept.fresh (((Below.refl _ w1).alloc (Nat.le_refl _) _).alloc (by simp) _)) (fun b q => .inl q)).trans (Kept.grown hgrow (fun j e => .inl (hown1.lt j e).1)) (fun b q => .inl q)
      have Hown := Lib.hid hown'
      have Hblk2 := Lib.hid (Hblk1.out.keep hk2 (by omega))
      have HB2 := Lib.hid (HBw.out.trans (hk2.below (fun b q => by omega) (by omega)))
      clear hown' hgrow hk2 hown1
      go_wp2_with fail
      go_roundw
      case rel => exact ⟨k + 1, by omega, by go_num, _, _, by rw [Hrow.out]; exact Hown.out, Hblk2.out, HB2.out⟩
      case measure => simp [intOf]; omega
    · have hlti : ¬ (k : Int) < 3 := by omega
      obtain rfl : k = 3 := by omega
      obtain ⟨A, c1, rfl, hCy⟩ := cyls_of_own hown (length_triL s).symm (fun j hj => by rw [triL_at s hj]; exact ⟨by simp [grpI, upI], rfl⟩)
      have ht3 : 0 ≤ t % 3 ∧ t % 3 < 3 := by omega
      obtain ⟨g, hg⟩ : ∃ g : Nat, t % 3 = g := ⟨(t % 3).toNat, by omega⟩
      have hg3 : g < 3 := by omega
      have hgi : (g : Int) < 3 := by omega
      have hg0 : (0 : Int) ≤ (g : Int) := by omega
      obtain ⟨gb, off, Ag, cg, A2g, c2g, rfl, hgb, hcy⟩ := hCy.at_ (k := g) (by rw [length_triL]; exact hg3)
      have hB1 : Below wr.heap.size wr (wr.alloc (.cells #[.int .i64 g, .int .i64 0] 41)) := (Below.refl _ wr).alloc (Nat.le_refl _) _
      have c1c := (hcy.keep (w' := wr.alloc (.cells #[.int .i64 g, .int .i64 0] 41)) hgb (fun p hp => hB1.cell hp)).c1
      rw [triL_at s hg3] at c1c
      have c1c' : (wr.alloc (.cells #[.int .i64 g, .int .i64 0] 41)).cell? ⟨gb, off + g * 7 + 1, none⟩ = some (.int .i64 (s g : Nat)) := c1c
      have HCy := Lib.hid ((hCy.next hB1))
      have HB := Lib.hid (hB.trans (hB1.mono hB.size))
      have hBn : Blk (wr.alloc (.cells #[.int .i64 g, .int .i64 0] 41)) wr.heap.size 41 #[.int .i64 g, .int .i64 0] := Go.heap_alloc_new wr _
      have HBn := Lib.hid hBn
      have hbw : w.heap.size ≤ wr.heap.size := hB.size
      obtain ⟨hsb1, hsb2⟩ := HSb.out g
      have Hss := Lib.hid (fun i hi => small_step s HSb.out hg3 (i := i) hi)
      have Hst := Lib.hid (fun i hi => take_stepL HSb.out hg3 (i := i) hi)
      have Hla := Lib.hid (last_stepL HSb.out hg3)
      have Hsz := Lib.hid (stepL_zero s hg3)
      have Hat := Lib.hid (stepL_at s hg3 (s g) g)
      have Hg := Lib.hid hg
      obtain ⟨m, hm⟩ : ∃ m, m = s g := ⟨_, rfl⟩
      rw [← hm] at c1c' hsb1 hsb2 Hss Hst Hla Hat
      have hmi : 1 ≤ (m : Int) ∧ (m : Int) ≤ 30 := by omega
      obtain ⟨hmi1, hmi2⟩ := hmi
      clear hown hblk hB hCy hcy c1c hB1 hBn hgb ht3 hm
      clear HSe HSb
      obtain ⟨Bn, hBn⟩ : ∃ Bn, Bn = wr.heap.size := ⟨_, rfl⟩
      rw [← hBn] at HBn hbw
      go_wp2_with fail
      rw [← hBn]
      have hlt0 : (fun b => b = Bn) Bn := rfl
      clear hg hBn
      go_loopw [5, 12] (fun v i W => ∃ k : Nat, k ≤ m ∧ i = .int .i64 k ∧ ∃ A c, v = .slice A 3 c ∧ Cyls W W.heap.size A (stepL s g k) ∧ Blk W Bn 41 #[.int .i64 g, .int .i64 (nearI k : Nat)] ∧ Below w.heap.size w W) (fun _ i _ => m - (intOf i).toNat)
      case atStart => exact ⟨0, Nat.zero_le _, rfl, _, _, rfl, by rw [Hsz.out]; exact HCy.out, HBn.out, HB.out⟩
      case round =>
        obtain ⟨k, hk, rfl, A, c, rfl, hCy, hBk, hBW⟩ := hrel
        rename World => W
        have b0 := cellAt_of hBk 0
        have b1 := cellAt_of hBk 1
        simp only [List.getElem?_toArray, List.getElem?_cons_zero, List.getElem?_cons_succ] at b0 b1
        have hBl : Bn < W.heap.size := (Array.getElem?_eq_some_iff.1 hBk).1
        by_cases hlt : k < m
        · have hlti : (k : Int) < (m : Int) := by omega
          have hk0 : (0 : Int) ≤ (k : Int) := by omega
          have HT := Lib.hid (take_any A c 3 (stepL s g k) g (nearI k) (length_stepL s g k).symm W (Hss.out k hk) hCy)
          rw [Hst.out k hlt] at HT
          have HBk := Lib.hid hBk
          have HBW := Lib.hid hBW
          have Hnk : Hid (nearI (k + 1) = k) := by unfold Hid nearI; omega
          have hl3 := Lib.hid (length_stepL s g (k + 1))
          clear hCy hBk hBW
          go_wp2_with fail
          refine HT.out.mono ?_
          rintro e W1 ⟨A1, c1, rfl, hGO, hB1⟩
          dsimp only
          rw [hl3.out]
          dsimp only at hGO
          have hBk1 := HBk.out.keep (S := fun _ => False) (Kept.fresh hB1) (fun q => q)
          have hz1 : W.heap.size ≤ W1.heap.size := hB1.size
          have HGO := Lib.hid hGO
          have HBk1 := Lib.hid hBk1
          have HB1 := Lib.hid (HBW.out.trans (hB1.mono HBW.out.size))
          have b0 := cellAt_of hBk1 0
          have b1 := cellAt_of hBk1 1
          simp only [List.getElem?_toArray, List.getElem?_cons_zero, List.getElem?_cons_succ] at b0 b1
          have f0 := frozen_of_row W1 _ 0 _ 41 hBk1
          have f1 := frozen_of_row W1 _ 1 _ 41 hBk1
          have hBl1 : Bn < W1.heap.size := by omega
          clear hGO hBk1 hB1 HT
          go_wp2_with fail
          go_region
          all_goals
            go_wp2_with fail
            go_roundw
            case rel =>
              have hk1 : Kept W1 ((((W1.setCell ⟨Bn, 0, none⟩ (.int .i64 g)).setCell ⟨Bn, 1, none⟩ (.int .i64 k)).alloc (.cells #[.int .i64 g, .int .i64 k] 41)).drew) (fun b => b = Bn) :=
                ((((Kept.refl W1 (fun b => b = Bn)).set (.inl rfl)).set (.inl rfl)).trans (alloc_kept _ _ (fun _ => False)) (fun b q => q.elim)).drew
              refine ⟨k + 1, by omega, by go_num, A1, c1, rfl, (HGO.out.keep hk1 (fun b q => by rw [show b = Bn from q]; exact hBl)).cyls, ?_, HB1.out.trans (hk1.below (fun b q => by have : b = Bn := q; omega) (by omega))⟩
              rw [Hnk.out]
              have e1 := set_heap (set_heap HBk1.out (.int .i64 (g : Int)) (o := 0)) (.int .i64 (k : Int)) (o := 1)
              exact (Below.heap_alloc ((W1.setCell ⟨Bn, 0, none⟩ (.int .i64 g)).setCell ⟨Bn, 1, none⟩ (.int .i64 k)) (.cells #[.int .i64 g, .int .i64 k] 41) Bn (by simp; omega)).trans e1
            case measure => simp [intOf]; omega
        · have hlti : ¬ (k : Int) < (m : Int) := by omega
          obtain rfl : k = m := by omega
          obtain ⟨L, hL1, hL2, hL3⟩ := Hla.out
          have HT := take_any A c 3 (stepL s g k) g (nearI k) (length_stepL s g k).symm W (Hss.out k hk) hCy
          rw [hL1, show (((g + 1) % 3 : Nat) : Int) = ((g : Int) + 1) % 3 by simp] at HT
          have HT := Lib.hid HT
          obtain ⟨gb2, off2, A2, c2, A3, c3, rfl, hgb2, hcy⟩ := hCy.at_ (k := g) (by rw [length_stepL]; exact hg3)
          have HF0 : Hid (∀ W', Below W.heap.size W W' → W'.cell? ⟨gb2, off2 + g * 7 + 2, none⟩ = some (.int .i64 0)) := fun W' h => by
            have := (hcy.keep (w' := W') hgb2 (fun p hp => h.cell hp)).c2
            rw [Hat.out] at this
            rw [this]; simp [grpI]
          have HBW := Lib.hid hBW
          have HL2 := Lib.hid hL2
          have HL3 := Lib.hid hL3
          clear hCy hBk hBW hcy hL1 hL2 hL3 hgb2
          go_wp2_with fail
          refine HT.out.mono ?_
          rintro e W1 ⟨A1, c1, rfl, hGO, hB1⟩
          dsimp only
          rw [HL3.out]
          dsimp only at hGO
          have hz1 : W.heap.size ≤ W1.heap.size := hB1.size
          have HW2 : Hid (∀ o, Calls Try.prog 31 #[.slice A1 3 c1] (W1.alloc o) fun e w' => e = .returned (.bool true) ∧ Below W1.heap.size W1 w') := fun o => by
            have := whole_any A1 c1 3 L HL3.out.symm (W1.alloc o) ⟨by have := HL3.out; omega, fun j hj => by
              have h := HL2.out.ok j hj
              have h1 := h.fb; have h2 := h.fi; have h3 := h.bl
              have h4 : (cyN L j).us.length ≤ 64 := by
                have := h.us
                have h5 : ∀ l : List Int, Rise (cyN L j).bl l → (l.length : Int) ≤ (cyN L j).bl := fun l hl => rise_len hl (by omega)
                have := h5 _ h.us; omega
              have h5 : (cyN L j).is.length ≤ 64 := by have := rise_len h.is (by omega); omega
              exact ⟨by omega, by omega⟩⟩ (hGO.cyls.next ((Below.refl _ W1).alloc (Nat.le_refl _) o))
            rw [(wholeL_iff L).2 HL2.out] at this
            exact this.mono fun e w' ⟨h1, h2⟩ => ⟨h1, ((Below.refl _ W1).alloc (Nat.le_refl _) o).trans (h2.mono (by simp))⟩
          have HB1 := Lib.hid hB1
          have hlt2 : True := trivial
          clear hGO hB1 HT
          go_wp2_with fail
          refine (HW2.out _).mono ?_
          rintro e W2 ⟨rfl, hB2⟩
          have hf0 := HF0.out W2 (HB1.out.trans (hB2.mono hz1))
          have HBe := Lib.hid (HBW.out.trans ((HB1.out.trans (hB2.mono hz1)).mono HBW.out.size))
          clear hB2
          go_wp2_with fail
          go_ret
          exact ⟨by simp, HBe.out⟩
end Go.Proofs.Ytpcindemkkdbbaa.topNeighbours
