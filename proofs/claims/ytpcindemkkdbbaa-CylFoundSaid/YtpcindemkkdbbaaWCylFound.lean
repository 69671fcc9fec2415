/- CylFound: the walk of the law's text. -/
import Derived.Test.YtpcindemkkdbbaaMB
import Derived.Test.YtpcindemkkdbbaaON
import Derived.Test.YtpcindemkkdbbaaCG
import Derived.Test.YtpcindemkkdbbaaCB
import Derived.Test.YtpcindemkkdbbaaFX
import Derived.Test.YtpcindemkkdbbaaDI
import Derived.RegionTactic
namespace Go.Proofs.Ytpcindemkkdbbaa.cylFound
set_option linter.unusedVariables false
set_option linter.unusedSimpArgs false
open Go.RowKit

theorem two {W : World} {g : Nat} {t : TypeId} {x0 x1 : Value} (h : W.heap[g]? = some (.cells #[x0, x1] t (0, 0))) : W.cell? ⟨g, 0, none⟩ = some x0 ∧ W.cell? ⟨g, 1, none⟩ = some x1 := by
  refine ⟨?_, ?_⟩ <;> rw [cellAt_of h] <;> rfl
theorem set2_heap {W : World} {g : Nat} {t : TypeId} {x0 x1 v0 v1 : Value} (h : W.heap[g]? = some (.cells #[x0, x1] t (0, 0))) : ((W.setCell ⟨g, 0, none⟩ v0).setCell ⟨g, 1, none⟩ v1).heap[g]? = some (.cells #[v0, v1] t (0, 0)) := by
  have h0 := set_heap h (o := 0) v0
  simp only [List.setIfInBounds_toArray, List.set_cons_succ, List.set_cons_zero] at h0
  have h1 := set_heap h0 (o := 1) v1
  simp only [List.setIfInBounds_toArray, List.set_cons_succ, List.set_cons_zero] at h1
  exact h1
theorem set2_kept {W : World} {g : Nat} {v0 v1 : Value} : Kept W ((W.setCell ⟨g, 0, none⟩ v0).setCell ⟨g, 1, none⟩ v1) (fun b => b = g) := ((Kept.refl W (fun b => b = g)).set (.inl rfl)).set (.inl rfl)
theorem bts_take {w : World} {B : Nat} {A : Option Addr} {l : List Int} (h : Bts w B A l) (n : Nat) : Bts w B A (l.take n) := ⟨fun x hx => h.1 x (List.mem_of_mem_take hx), fun hn => by
  rw [List.length_take] at hn
  obtain ⟨b, off, e, hb, hc⟩ := h.2 (by omega)
  refine ⟨b, off, e, hb, fun j hj => ?_⟩
  rw [List.length_take] at hj
  rw [nth_take (by omega) (by omega)]
  exact hc j (by omega)⟩
/-- a block of one of the groups -/
def Near (L : List Cy) (g b : Nat) : Prop := g < L.length ∧ (b : Int) < (cyN L g).bl
theorem near_set {L : List Cy} {g b j : Nat} {x : Cy} (h : Near L g b) (hx : x.bl = (cyN L j).bl) : Near (L.set j x) g b := by
  refine ⟨by rw [List.length_set]; exact h.1, ?_⟩
  by_cases hj : j < L.length
  · rw [cyN_set hj]
    split
    · rename_i e; rw [hx, ← e]; exact h.2
    · exact h.2
  · rw [List.set_eq_of_length_le (by omega)]; exact h.2
theorem take_found {L : List Cy} (hW : Whole L) {ng nb : Nat} (hn : Near L ng nb) (h : 0 < freeB L) :
    ∃ g b : Nat, g < L.length ∧ takeL L ng nb = ⟨L.set g (useC (cyN L g) b), g, b, 0⟩ ∧ Whole (L.set g (useC (cyN L g) b)) ∧ Near (L.set g (useC (cyN L g) b)) g b ∧ freeB (L.set g (useC (cyN L g) b)) = freeB L - 1 ∧ freeI (L.set g (useC (cyN L g) b)) = freeI L := by
  rcases takeL_whole hW (ng := ng) (nb := nb) hn.1 (by omega) hn.2 with ⟨_, q⟩ | ⟨g, b, h1, h2, h3, h4⟩
  · omega
  · obtain ⟨k1, k2, _, _⟩ := fresh_give hW h1 h2 h3
    refine ⟨g, b, h1, h4, k1, near_set ⟨h1, h2⟩ rfl, k2, ?_⟩
    rw [freeI_set h1 hW k1]
    show freeI L + (cyN L g).fi - (cyN L g).fi = freeI L
    omega
theorem take_full {L : List Cy} (hW : Whole L) {ng nb : Nat} (hn : Near L ng nb) (h : freeB L = 0) : takeL L ng nb = ⟨[], 0, 0, 4⟩ := by
  rcases takeL_whole hW (ng := ng) (nb := nb) hn.1 (by omega) hn.2 with ⟨q, _⟩ | ⟨g, b, h1, h2, h3, h4⟩
  · exact q
  · obtain ⟨k1, k2, _, _⟩ := fresh_give hW h1 h2 h3
    have := (free_in k1).1.1
    omega
theorem inode_free {L : List Cy} (hW : Whole L) {i ino : Nat} (hi : i < L.length) (h : inodeAt (cyN L i) = some ino) : freeB (L.set i (takeI (cyN L i) ino)) = freeB L ∧ freeI (L.set i (takeI (cyN L i) ino)) = freeI L - 1 := by
  have k := whole_inode hW hi h
  rw [freeB_set hi hW k, freeI_set hi hW k]
  constructor
  · show freeB L + (cyN L i).fb - (cyN L i).fb = _
    omega
  · show freeI L + ((cyN L i).fi - 1) - (cyN L i).fi = _
    omega
theorem file_found {L : List Cy} (hW : Whole L) {g : Nat} (hg : g < L.length) (h : 0 < freeI L) : ∃ i ino : Nat, i < L.length ∧ inodeAt (cyN L i) = some ino ∧ fileL L g = ⟨L.set i (takeI (cyN L i) ino), i, ino, 0⟩ := by
  obtain ⟨j, hj, hq⟩ := enough_one hW (by omega)
  have := enough_pos L
  obtain ⟨i, hi⟩ := fileAt_of (g := g) hj (by omega)
  obtain ⟨h1, h2⟩ := fileAt_spec hg hi
  obtain ⟨ino, h3⟩ := inodeAt_of (hW.ok i h1) h2
  refine ⟨i, ino, h1, h3, ?_⟩
  rw [fileL_eq, if_pos ((wholeL_iff L).2 hW), if_pos (amongB_iff.2 ⟨by omega, by omega⟩), Int.toNat_natCast, fileR_some hi, inodeG_some h3]
theorem file_full {L : List Cy} (hW : Whole L) {g : Nat} (hg : g < L.length) (h : freeI L = 0) : fileL L g = ⟨[], 0, 0, 4⟩ := by
  rw [fileL_eq, if_pos ((wholeL_iff L).2 hW), if_pos (amongB_iff.2 ⟨by omega, by omega⟩), Int.toNat_natCast]
  refine fileR_none (fileAt_no fun y hy hf => ?_)
  have := freeI_pos hW (searchW_lt hg hy) hf
  omega
theorem dir_found {L : List Cy} (hW : Whole L) (h : 0 < freeI L) : ∃ i ino : Nat, i < L.length ∧ inodeAt (cyN L i) = some ino ∧ dirL L = ⟨L.set i (takeI (cyN L i) ino), i, ino, 0⟩ := by
  obtain ⟨h1, h2, _⟩ := best_found hW (by omega)
  obtain ⟨ino, h3⟩ := inodeAt_of (hW.ok _ h1) (by have := enough_pos L; omega)
  refine ⟨_, ino, h1, h3, ?_⟩
  unfold dirL
  rw [if_pos ((wholeL_iff L).2 hW), if_neg (by omega), inodeG_some h3]
theorem dir_full {L : List Cy} (hW : Whole L) (h : freeI L = 0) : dirL L = ⟨[], 0, 0, 4⟩ := by
  unfold dirL
  rw [if_pos ((wholeL_iff L).2 hW), if_pos h]
set_option maxRecDepth 100000 in
set_option maxHeartbeats 8000000 in
theorem walk (A1 : Option Addr) (n1 c1 : Nat) (l1 : List Int) (a : Int) (d : Bool) (w : World) (hl1 : BtsIn w A1 n1 c1 l1) (ha : 0 ≤ a ∧ a ≤ 65535) :
    Calls Try.prog 9 #[.slice A1 n1 c1, .int .u16 a, .bool d] w fun e w' => e = .returned (.bool true) ∧ Below w.heap.size w w' := by
  have HM : Hid (∀ k ≤ n1, Calls Try.prog 44 #[.slice A1 k c1, .slice none 0 0] w (MadeSays w (l1.take k))) := fun k hk => made_any A1 c1 k (l1.take k) none 0 0 [] (by rw [List.length_take, hl1.1]; omega) rfl (by have := hl1.2.1; omega) (by unfold maxLen; omega) w (bts_take hl1.2.2 k) ⟨(fun x hx => by cases hx), fun h => by simp at h⟩
  have HLv : Hid (∀ W, Calls Try.prog 21 #[] W fun e w' => e = .returned (.bool true) ∧ Below W.heap.size W w') := fun W => live_any W
  have hcc := hl1.2.1
  obtain ⟨hcc1, hcc2⟩ := hcc
  obtain ⟨ha0, ha1⟩ := ha
  clear hl1
  obtain ⟨Q, hQ⟩ : ∃ Q : Ending → World → Prop, Q = fun e w' => e = .returned (.bool true) ∧ Below w.heap.size w w' := ⟨_, rfl⟩
  have HQ : Hid (∀ w', Below w.heap.size w w' → Q (.returned (.bool true)) w') := by unfold Hid; rw [hQ]; exact fun w' h => ⟨rfl, h⟩
  rw [← hQ]
  clear hQ
  go_enter Try.func9, Try.ntmps9
  by_cases hn5 : (5 : Int) < (n1 : Int)
  · have hc5 : (5 : Int) ≤ (c1 : Int) := by omega
    go_wp2_with fail
    refine (HM.out 5 (by omega)).mono ?_
    rintro e w1 ⟨A, c, L, rfl, hWO, hLl, hCy, hB1⟩
    obtain ⟨m, hm⟩ : ∃ m, m = L.length := ⟨_, rfl⟩
    rw [← hm]
    have hm16 : m ≤ 16 := by rw [hm]; exact hWO.len
    have Hm := Lib.hid hm
    have HCy := Lib.hid hCy
    have HB1 := Lib.hid hB1
    have HWO := Lib.hid hWO
    clear hm hCy hB1 hWO hLl HM
    by_cases hm0 : m = 0
    · have hL : L = [] := List.length_eq_zero_iff.1 (by rw [← Hm.out]; exact hm0)
      have HS : Hid (∀ W, Below w1.heap.size w1 W → Calls Try.prog 41 #[.slice A 0 c] W fun e w' => e = .returned (.int .i64 0) ∧ Below W.heap.size W w') := fun W h => by
        have hC := HCy.out.next h
        rw [hL] at hC
        have := spread_any A c 0 [] rfl W nil_small0 hC
        rw [show spreadL [] = 0 from by unfold spreadL; rw [if_neg (by decide)]] at this
        exact this
      subst hm0
      clear hL
      go_wp2_with fail
      refine (HLv.out _).mono ?_
      rintro e w2 ⟨rfl, hB2⟩
      have HB2 := Lib.hid hB2
      clear hB2
      go_wp2_with fail
      refine (HS.out _ HB2.out).mono ?_
      rintro e w3 ⟨rfl, hB3⟩
      have HB3 := Lib.hid (HB1.out.trans ((HB2.out.trans (hB3.mono HB2.out.size)).mono HB1.out.size))
      clear hB3
      go_wp2_with fail
      exact HQ.out _ HB3.out
    · have hmi : (0 : Int) < (m : Int) := by omega
      have hmne : ¬ (m : Int) = 0 := by omega
      have hW : Whole L := HWO.out.resolve_left (fun e => by have := Hm.out; rw [e] at this; exact hm0 this)
      have hge : 0 ≤ a % (m : Int) := Int.emod_nonneg _ hmne
      have hgl := Int.emod_lt_of_pos a hmi
      obtain ⟨g, hg⟩ : ∃ g : Nat, a % (m : Int) = g := ⟨(a % (m : Int)).toNat, by rw [Int.toNat_of_nonneg hge]⟩
      have hgm : g < m := by omega
      have hgmi : (g : Int) < (m : Int) := by omega
      have hg0 : (0 : Int) ≤ (g : Int) := by omega
      have HNr : Hid (Near L g 0) := by
        refine ⟨by rw [← Hm.out]; exact hgm, ?_⟩
        have := (hW.ok g (by rw [← Hm.out]; exact hgm)).bl.1
        show ((0 : Nat) : Int) < _
        simp; omega
      have HW := Lib.hid hW
      obtain ⟨⟨hfb0, hfb1⟩, hfi0, hfi1⟩ := free_in hW
      obtain ⟨N, hN⟩ : ∃ N : Nat, freeB L = (N : Int) := ⟨(freeB L).toNat, by rw [Int.toNat_of_nonneg hfb0]⟩
      obtain ⟨M, hM⟩ : ∃ M : Nat, freeI L = (M : Int) := ⟨(freeI L).toNat, by rw [Int.toNat_of_nonneg hfi0]⟩
      have hN1 : N ≤ 1024 := by omega
      have hM1 : M ≤ 256 := by omega
      have HF : Hid (∀ W, Below w1.heap.size w1 W → Calls Try.prog 39 #[.slice A m c] W fun e w' => e = .returned (.tuple #[.int .i64 N, .int .i64 M]) ∧ Below W.heap.size W w') := fun W h => by
        refine (free_any A c m L Hm.out W (whole_small HW.out) (HCy.out.next h)).mono ?_
        rintro e w' ⟨rfl, hB⟩
        exact ⟨by rw [hN, hM], hB⟩
      have HN := Lib.hid hN
      have HMf := Lib.hid hM
      clear hW hge hgl hm0 hfb0 hfb1 hfi0 hfi1 hN hM
      go_wp2_with fail
      refine (HF.out _ (Below.refl _ _)).mono ?_
      rintro e w2 ⟨rfl, hB2⟩
      have HC2 := Lib.hid (HCy.out.next hB2)
      have HB2 := Lib.hid (HB1.out.trans (hB2.mono HB1.out.size))
      clear hB2 HF HCy
      go_wp2_with fail
      rw [hg]
      have hBa : Below w2.heap.size w2 (w2.alloc (.cells #[.int .i64 (g : Int), .int .i64 0] 41)) := (Below.refl _ _).alloc (Nat.le_refl _) _
      have H3 : Hid ((w2.alloc (.cells #[.int .i64 (g : Int), .int .i64 0] 41)).heap[w2.heap.size]? = some (.cells #[.int .i64 (g : Int), .int .i64 ((0 : Nat) : Int)] 41 (0, 0))) := Go.heap_alloc_new w2 _
      obtain ⟨B, hBn⟩ : ∃ B, B = w2.heap.size := ⟨_, rfl⟩
      have hwB : w.heap.size ≤ B := by rw [hBn]; exact HB2.out.size
      have HC3 := Lib.hid (HC2.out.next hBa)
      have HB3 := Lib.hid (HB2.out.trans (hBa.mono HB2.out.size))
      generalize w2.alloc (.cells #[.int .i64 (g : Int), .int .i64 0] 41) = w3 at H3 HC3 HB3 ⊢
      rw [← hBn] at H3 ⊢
      clear hBa hBn HC2 HB2 HB1
      go_loopw [7, 11] (fun v i W => ∃ (k : Nat) (L : List Cy) (A : Option Addr) (c gg bb : Nat), i = .int .i64 k ∧ k ≤ N ∧ v = .slice A m c ∧ m = L.length ∧ Whole L ∧ freeB L = (N : Int) - k ∧ freeI L = (M : Int) ∧ Near L gg bb ∧ Cyls W W.heap.size A L ∧ Blk W B 41 #[.int .i64 (gg : Int), .int .i64 (bb : Int)] ∧ Below w.heap.size w W) (fun _ i _ => N - (intOf i).toNat)
      case atStart => exact ⟨0, L, A, c, g, 0, rfl, Nat.zero_le _, rfl, Hm.out, HW.out, by rw [HN.out]; simp, HMf.out, HNr.out, HC3.out, H3.out, HB3.out⟩
      case round =>
        clear Hm HC3 H3 HB3 HWO HNr HW HN HMf
        obtain ⟨k, L, A, c, gg, bb, rfl, hkN, rfl, hLm, hW, hfB, hfI, hNr, hCL, hBk, hBL⟩ := hrel
        rename World => wr
        have Hm := Lib.hid hLm
        have HW := Lib.hid hW
        have HNr := Lib.hid hNr
        have HfB := Lib.hid hfB
        have HfI := Lib.hid hfI
        have HCL := Lib.hid hCL
        have HBL := Lib.hid hBL
        have HBk := Lib.hid hBk
        have hk0 : (0 : Int) ≤ (k : Int) := by omega
        have hBw : B < wr.heap.size := lt_heap hBk
        obtain ⟨e0, e1⟩ := two hBk
        clear hLm hW hfB hfI hNr hCL hBL hBk
        by_cases hlt : k < N
        · have hlti : (k : Int) < (N : Int) := by omega
          obtain ⟨g2, b2, q1, q2, q3, q4, q5, q6⟩ := take_found HW.out HNr.out (by rw [HfB.out]; omega)
          have HT := Lib.hid (take_any A c m L gg bb Hm.out wr (whole_small HW.out) HCL.out)
          have Hlen : Hid ((L.set g2 (useC (cyN L g2) b2)).length = m) := by unfold Hid; rw [List.length_set]; exact Hm.out.symm
          rw [q2] at HT
          obtain ⟨X, hX⟩ : ∃ X, X = L.set g2 (useC (cyN L g2) b2) := ⟨_, rfl⟩
          rw [← hX] at HT Hlen q3 q4 q5 q6
          have HWX := Lib.hid q3
          have HNX := Lib.hid q4
          have HBX : Hid (freeB X = (N : Int) - ((k + 1 : Nat) : Int)) := by unfold Hid; rw [q5, HfB.out]; omega
          have HIX : Hid (freeI X = (M : Int)) := q6.trans HfI.out
          clear q1 q2 q3 q4 q5 q6 hX
          go_wp2_with fail
          refine HT.out.mono ?_
          rintro e w4 ⟨A4, c4, rfl, hG, hB4⟩
          dsimp only at hG ⊢
          rw [Hlen.out]
          have hBa : Below w4.heap.size w4 (w4.alloc (.cells #[.int .i64 (g2 : Int), .int .i64 (b2 : Int)] 41)) := (Below.refl _ _).alloc (Nat.le_refl _) _
          have H5 : Hid ((w4.alloc (.cells #[.int .i64 (g2 : Int), .int .i64 (b2 : Int)] 41)).heap[w4.heap.size]? = some (.cells #[.int .i64 (g2 : Int), .int .i64 (b2 : Int)] 41 (0, 0))) := Go.heap_alloc_new w4 _
          have HC5 := Lib.hid (hG.cyls.next hBa)
          have HGO := Lib.hid hG
          have hB45 := hB4.trans (hBa.mono hB4.size)
          have HBk5 := Lib.hid ((hB45.block _ hBw).trans HBk.out)
          have HB5 := Lib.hid (HBL.out.trans (hB45.mono HBL.out.size))
          have hz4 : B < w4.heap.size := by have := hB4.size; omega
          have HBa := Lib.hid hBa
          clear hG hB4 hBa hB45 e0 e1
          go_upto_region 14 with fail
          generalize w4.alloc (.cells #[.int .i64 (g2 : Int), .int .i64 (b2 : Int)] 41) = w5 at H5 HC5 HBk5 HB5 HBa ⊢
          have hz5 := lt_heap H5.out
          have hzB := lt_heap HBk5.out
          obtain ⟨e0, e1⟩ := two H5.out
          obtain ⟨e2, e3⟩ := two HBk5.out
          have f0 := frozen_of_row w5 _ 0 _ 41 HBk5.out
          have f1 := frozen_of_row w5 _ 1 _ 41 HBk5.out
          have hne : B ≠ w4.heap.size := by omega
          have hne2 : w4.heap.size ≠ B := by omega
          go_region
          all_goals
            have h8 : Blk ((w5.setCell ⟨B, 0, none⟩ (.int .i64 (g2 : Int))).setCell ⟨B, 1, none⟩ (.int .i64 (b2 : Int))).drew B 41 #[.int .i64 (g2 : Int), .int .i64 (b2 : Int)] := set2_heap HBk5.out
            have hk8 : Kept w5 ((w5.setCell ⟨B, 0, none⟩ (.int .i64 (g2 : Int))).setCell ⟨B, 1, none⟩ (.int .i64 (b2 : Int))).drew (fun b => b = B) := set2_kept.drew
            have hG5 : GrpO w5 wr.heap.size A4 c4 X := HGO.out.keep (S := fun _ => False) (Kept.fresh HBa.out) (fun _ q => q.elim)
            have hC8 := (hG5.keep hk8 (fun b q => by have q' : b = B := q; omega)).cyls
            have hB8 := HB5.out.trans (hk8.below (fun b q => by have q' : b = B := q; omega) HB5.out.size)
            generalize ((w5.setCell ⟨B, 0, none⟩ (.int .i64 (g2 : Int))).setCell ⟨B, 1, none⟩ (.int .i64 (b2 : Int))).drew = w8 at h8 hk8 hC8 hB8 ⊢
            have H8 := Lib.hid h8
            have HC8 := Lib.hid hC8
            have HB8 := Lib.hid hB8
            clear h8 hk8 hG5 hC8 hB8 e0 e1 e2 e3 f0 f1
            go_wp2_with fail
            go_roundw
            case rel => exact ⟨k + 1, X, A4, c4, g2, b2, by go_num, by omega, rfl, Hlen.out.symm, HWX.out, HBX.out, HIX.out, HNX.out, HC8.out, H8.out, HB8.out⟩
            case measure => simp [intOf]; omega
        · have hlti : ¬ (k : Int) < (N : Int) := by omega
          obtain rfl : k = N := by omega
          have HfB0 : Hid (freeB L = 0) := by unfold Hid; rw [HfB.out]; omega
          clear e0 e1
          go_wp2_with fail
          go_loopw [7, 15] (fun v i W => ∃ (t : Nat) (L : List Cy) (A : Option Addr) (c : Nat), i = .int .i64 t ∧ t ≤ M ∧ v = .slice A m c ∧ m = L.length ∧ Whole L ∧ freeB L = 0 ∧ freeI L = (M : Int) - t ∧ Near L gg bb ∧ Cyls W W.heap.size A L ∧ Blk W B 41 #[.int .i64 (gg : Int), .int .i64 (bb : Int)] ∧ Below w.heap.size w W) (fun _ i _ => M - (intOf i).toNat)
          case atStart => exact ⟨0, L, A, c, rfl, Nat.zero_le _, rfl, Hm.out, HW.out, HfB0.out, by rw [HfI.out]; simp, HNr.out, HCL.out, HBk.out, HBL.out⟩
          case round =>
            clear Hm HW HNr HfB HfI HCL HBL HBk HfB0
            obtain ⟨t, L, A, c, rfl, htM, rfl, hLm, hW, hfB, hfI, hNr, hCL, hBk, hBL⟩ := hrel
            rename World => W
            have Hm := Lib.hid hLm
            have HW := Lib.hid hW
            have HNr := Lib.hid hNr
            have HfB := Lib.hid hfB
            have HfI := Lib.hid hfI
            have HCL := Lib.hid hCL
            have HBL := Lib.hid hBL
            have HBk := Lib.hid hBk
            have ht0 : (0 : Int) ≤ (t : Int) := by omega
            have hBW : B < W.heap.size := lt_heap hBk
            clear hLm hW hfB hfI hNr hCL hBL hBk
            by_cases htl : t < M
            · have htli : (t : Int) < (M : Int) := by omega
              obtain ⟨i1, o1, q1, q2, q3⟩ := file_found HW.out (g := g) (by rw [← Hm.out]; exact hgm) (by rw [HfI.out]; omega)
              have HFl := Lib.hid (file_any A c m L g Hm.out W (whole_small HW.out) HCL.out)
              rw [q3] at HFl
              have HlenF : Hid ((L.set i1 (takeI (cyN L i1) o1)).length = m) := by unfold Hid; rw [List.length_set]; exact Hm.out.symm
              have HWF := Lib.hid (whole_inode HW.out q1 q2)
              obtain ⟨f1, f2⟩ := inode_free HW.out q1 q2
              have HBF : Hid (freeB (L.set i1 (takeI (cyN L i1) o1)) = 0) := f1.trans HfB.out
              have HIF : Hid (freeI (L.set i1 (takeI (cyN L i1) o1)) = (M : Int) - ((t + 1 : Nat) : Int)) := by unfold Hid; rw [f2, HfI.out]; omega
              have HNF : Hid (Near (L.set i1 (takeI (cyN L i1) o1)) gg bb) := near_set HNr.out rfl
              have hi1 : i1 < m := by rw [Hm.out]; exact q1
              obtain ⟨X, hX⟩ : ∃ X, X = L.set i1 (takeI (cyN L i1) o1) := ⟨_, rfl⟩
              rw [← hX] at HFl HlenF HWF HBF HIF HNF
              obtain ⟨i2, o2, p1, p2, p3⟩ := dir_found HW.out (by rw [HfI.out]; omega)
              have HDl : Hid (∀ V, Below W.heap.size W V → Calls Try.prog 35 #[.slice A m c] V (AnSays V ⟨L.set i2 (takeI (cyN L i2) o2), i2, o2, 0⟩)) := fun V h => by
                have := dir_any A c m L Hm.out V (whole_small HW.out) (HCL.out.next h)
                rw [p3] at this; exact this
              have HlenD : Hid ((L.set i2 (takeI (cyN L i2) o2)).length = m) := by unfold Hid; rw [List.length_set]; exact Hm.out.symm
              have HWD := Lib.hid (whole_inode HW.out p1 p2)
              obtain ⟨d1, d2⟩ := inode_free HW.out p1 p2
              have HBD : Hid (freeB (L.set i2 (takeI (cyN L i2) o2)) = 0) := d1.trans HfB.out
              have HID : Hid (freeI (L.set i2 (takeI (cyN L i2) o2)) = (M : Int) - ((t + 1 : Nat) : Int)) := by unfold Hid; rw [d2, HfI.out]; omega
              have HND : Hid (Near (L.set i2 (takeI (cyN L i2) o2)) gg bb) := near_set HNr.out rfl
              have hi2 : i2 < m := by rw [Hm.out]; exact p1
              obtain ⟨Y, hY⟩ : ∃ Y, Y = L.set i2 (takeI (cyN L i2) o2) := ⟨_, rfl⟩
              rw [← hY] at HDl HlenD HWD HBD HID HND
              have t1 : ¬ (i1 : Int) < 0 := by omega
              have t2 : ¬ (m : Int) ≤ (i1 : Int) := by omega
              have t3 : ¬ (i2 : Int) < 0 := by omega
              have t4 : ¬ (m : Int) ≤ (i2 : Int) := by omega
              have t2n : ¬ m ≤ i1 := by omega
              have t4n : ¬ m ≤ i2 := by omega
              clear q1 q2 q3 p1 p2 p3 f1 f2 d1 d2 hX hY
              go_wp2_with fail
              refine HFl.out.mono ?_
              rintro e w4 ⟨A4, c4, rfl, hG, hB4⟩
              dsimp only at hG ⊢
              rw [HlenF.out]
              have hBa : Below w4.heap.size w4 (w4.alloc (.cells #[.int .i64 (i1 : Int), .int .i64 (o1 : Int)] 41)) := (Below.refl _ _).alloc (Nat.le_refl _) _
              have H5 : Hid ((w4.alloc (.cells #[.int .i64 (i1 : Int), .int .i64 (o1 : Int)] 41)).heap[w4.heap.size]? = some (.cells #[.int .i64 (i1 : Int), .int .i64 (o1 : Int)] 41 (0, 0))) := Go.heap_alloc_new w4 _
              have HC5 := Lib.hid (hG.cyls.next hBa)
              have hB45 := hB4.trans (hBa.mono hB4.size)
              have HB45 := Lib.hid hB45
              have HBk5 := Lib.hid ((hB45.block _ hBW).trans HBk.out)
              have HB5 := Lib.hid (HBL.out.trans (hB45.mono HBL.out.size))
              have hz4 : B < w4.heap.size := by have := hB4.size; omega
              have hz44 : W.heap.size ≤ w4.heap.size := hB4.size
              clear hG hB4 hBa hB45
              cases d with
              | false =>
                go_upto_region 21 with fail
                generalize w4.alloc (.cells #[.int .i64 (i1 : Int), .int .i64 (o1 : Int)] 41) = w5 at H5 HC5 HBk5 HB5 HB45 ⊢
                have hz5 := lt_heap H5.out
                obtain ⟨e0, e1⟩ := two H5.out
                go_wp2_with fail
                go_roundw
                case rel => exact ⟨t + 1, X, A4, c4, by go_num, by omega, rfl, HlenF.out.symm, HWF.out, HBF.out, HIF.out, HNF.out, HC5.out, HBk5.out, HB5.out⟩
                case measure => simp [intOf]; omega
              | true =>
                go_upto_region 20 with fail
                generalize w4.alloc (.cells #[.int .i64 (i1 : Int), .int .i64 (o1 : Int)] 41) = w5 at H5 HC5 HBk5 HB5 HB45 ⊢
                have hz5 := lt_heap H5.out
                have hz55 : B < w5.heap.size := by omega
                go_wp2_with fail
                refine (HDl.out _ HB45.out).mono ?_
                rintro e w6 ⟨A6, c6, rfl, hG, hB6⟩
                dsimp only at hG ⊢
                rw [HlenD.out]
                have h6 := (hB6.block _ hz5).trans H5.out
                have hb6 := (hB6.block _ hz55).trans HBk5.out
                obtain ⟨e0, e1⟩ := two h6
                have f0 := frozen_of_row w6 _ 0 _ 41 h6
                have f1 := frozen_of_row w6 _ 1 _ 41 h6
                have hz6 := lt_heap h6
                have H6 := Lib.hid h6
                have Hb6 := Lib.hid hb6
                have HG6 := Lib.hid hG
                have HB6 := Lib.hid (HB5.out.trans (hB6.mono HB5.out.size))
                have hs6 : w5.heap.size ≤ w6.heap.size := hB6.size
                clear h6 hb6 hG hB6
                go_upto_region 21 with fail
                have h8 : Blk ((w6.setCell ⟨w4.heap.size, 0, none⟩ (.int .i64 (i2 : Int))).setCell ⟨w4.heap.size, 1, none⟩ (.int .i64 (o2 : Int))) w4.heap.size 41 #[.int .i64 (i2 : Int), .int .i64 (o2 : Int)] := set2_heap H6.out
                have hk8 : Kept w6 ((w6.setCell ⟨w4.heap.size, 0, none⟩ (.int .i64 (i2 : Int))).setCell ⟨w4.heap.size, 1, none⟩ (.int .i64 (o2 : Int))) (fun b => b = w4.heap.size) := set2_kept
                have HC8 := Lib.hid (HG6.out.keep hk8 (fun b q => by have q' : b = w4.heap.size := q; omega)).cyls
                have HB8 := Lib.hid (HB6.out.trans (hk8.below (fun b q => by have q' : b = w4.heap.size := q; have := HBL.out.size; omega) HB6.out.size))
                have Hb8 := Lib.hid ((hk8.block B (by omega) (fun q => by have q' : B = w4.heap.size := q; omega)).trans Hb6.out)
                generalize (w6.setCell ⟨w4.heap.size, 0, none⟩ (.int .i64 (i2 : Int))).setCell ⟨w4.heap.size, 1, none⟩ (.int .i64 (o2 : Int)) = w8 at h8 hk8 HC8 HB8 Hb8 ⊢
                clear e0 e1 f0 f1
                obtain ⟨e0, e1⟩ := two h8
                have hz8 := lt_heap h8
                clear h8 hk8
                go_wp2_with fail
                go_roundw
                case rel => exact ⟨t + 1, Y, A6, c6, by go_num, by omega, rfl, HlenD.out.symm, HWD.out, HBD.out, HID.out, HND.out, HC8.out, Hb8.out, HB8.out⟩
                case measure => simp [intOf]; omega
            · have htli : ¬ (t : Int) < (M : Int) := by omega
              obtain rfl : t = M := by omega
              have hfI0 : freeI L = 0 := by rw [HfI.out]; omega
              have HT := Lib.hid (take_any A c m L gg bb Hm.out W (whole_small HW.out) HCL.out)
              rw [take_full HW.out HNr.out HfB.out] at HT
              have HFl : Hid (∀ V, Below W.heap.size W V → Calls Try.prog 33 #[.slice A m c, .int .i64 0] V (AnSays V ⟨[], 0, 0, 4⟩)) := fun V h => by
                have := file_any A c m L ((0 : Nat) : Int) Hm.out V (whole_small HW.out) (HCL.out.next h)
                rw [file_full HW.out (g := 0) (by rw [← Hm.out]; omega) hfI0] at this
                exact this
              have HDl : Hid (∀ V, Below W.heap.size W V → Calls Try.prog 35 #[.slice A m c] V (AnSays V ⟨[], 0, 0, 4⟩)) := fun V h => by
                have := dir_any A c m L Hm.out V (whole_small HW.out) (HCL.out.next h)
                rw [dir_full HW.out hfI0] at this; exact this
              have HF : Hid (∀ V, Below W.heap.size W V → Calls Try.prog 39 #[.slice A m c] V fun e w' => e = .returned (.tuple #[.int .i64 0, .int .i64 0]) ∧ Below V.heap.size V w') := fun V h => by
                have := free_any A c m L Hm.out V (whole_small HW.out) (HCL.out.next h)
                unfold FreeSays at this
                rw [HfB.out, hfI0] at this; exact this
              have HWh : Hid (∀ V, Below W.heap.size W V → Calls Try.prog 31 #[.slice A m c] V fun e w' => e = .returned (.bool true) ∧ Below V.heap.size V w') := fun V h => by
                have := whole_any A c m L Hm.out V (whole_small HW.out) (HCL.out.next h)
                rw [(wholeL_iff L).2 HW.out] at this; exact this
              obtain ⟨e0, e1⟩ := two HBk.out
              clear hfI0
              go_wp2_with fail
              refine HT.out.mono ?_
              rintro e w4 ⟨A4, c4, rfl, _, hB⟩
              have HBn := Lib.hid (hB.trans (((Below.refl _ w4).alloc (o := .cells #[.int .i64 0, .int .i64 0] 41) (Nat.le_refl _)).mono hB.size))
              clear hB e0 e1
              go_upto_region 25 with fail
              generalize w4.alloc (.cells #[.int .i64 0, .int .i64 0] 41) = w5 at HBn ⊢
              go_wp2_with fail
              refine (HFl.out _ HBn.out).mono ?_
              rintro e w6 ⟨A6, c6, rfl, _, hB⟩
              replace HBn := Lib.hid (HBn.out.trans ((hB.trans (((Below.refl _ w6).alloc (o := .cells #[.int .i64 0, .int .i64 0] 41) (Nat.le_refl _)).mono hB.size)).mono HBn.out.size))
              clear hB
              go_upto_region 26 with fail
              generalize w6.alloc (.cells #[.int .i64 0, .int .i64 0] 41) = w7 at HBn ⊢
              go_wp2_with fail
              refine (HDl.out _ HBn.out).mono ?_
              rintro e w8 ⟨A8, c8, rfl, _, hB⟩
              replace HBn := Lib.hid (HBn.out.trans ((hB.trans (((Below.refl _ w8).alloc (o := .cells #[.int .i64 0, .int .i64 0] 41) (Nat.le_refl _)).mono hB.size)).mono HBn.out.size))
              clear hB
              go_upto_region 27 with fail
              generalize w8.alloc (.cells #[.int .i64 0, .int .i64 0] 41) = w9 at HBn ⊢
              go_wp2_with fail
              refine (HF.out _ HBn.out).mono ?_
              rintro e w10 ⟨rfl, hB⟩
              replace HBn := Lib.hid (HBn.out.trans (hB.mono HBn.out.size))
              clear hB
              go_wp2_with fail
              refine (HLv.out _).mono ?_
              rintro e w11 ⟨rfl, hB⟩
              replace HBn := Lib.hid (HBn.out.trans (hB.mono HBn.out.size))
              clear hB
              go_wp2_with fail
              refine (HWh.out _ HBn.out).mono ?_
              rintro e w12 ⟨rfl, hB⟩
              replace HBn := Lib.hid (HBn.out.trans (hB.mono HBn.out.size))
              clear hB
              go_wp2_with fail
              exact HQ.out _ (HBL.out.trans (HBn.out.mono HBL.out.size))
  · go_wp2_with fail
    refine (HM.out n1 (Nat.le_refl _)).mono ?_
    rintro e w1 ⟨A, c, L, rfl, hWO, hLl, hCy, hB1⟩
    obtain ⟨m, hm⟩ : ∃ m, m = L.length := ⟨_, rfl⟩
    rw [← hm]
    have hm16 : m ≤ 16 := by rw [hm]; exact hWO.len
    have Hm := Lib.hid hm
    have HCy := Lib.hid hCy
    have HB1 := Lib.hid hB1
    have HWO := Lib.hid hWO
    clear hm hCy hB1 hWO hLl HM
    by_cases hm0 : m = 0
    · have hL : L = [] := List.length_eq_zero_iff.1 (by rw [← Hm.out]; exact hm0)
      have HS : Hid (∀ W, Below w1.heap.size w1 W → Calls Try.prog 41 #[.slice A 0 c] W fun e w' => e = .returned (.int .i64 0) ∧ Below W.heap.size W w') := fun W h => by
        have hC := HCy.out.next h
        rw [hL] at hC
        have := spread_any A c 0 [] rfl W nil_small0 hC
        rw [show spreadL [] = 0 from by unfold spreadL; rw [if_neg (by decide)]] at this
        exact this
      subst hm0
      clear hL
      go_wp2_with fail
      refine (HLv.out _).mono ?_
      rintro e w2 ⟨rfl, hB2⟩
      have HB2 := Lib.hid hB2
      clear hB2
      go_wp2_with fail
      refine (HS.out _ HB2.out).mono ?_
      rintro e w3 ⟨rfl, hB3⟩
      have HB3 := Lib.hid (HB1.out.trans ((HB2.out.trans (hB3.mono HB2.out.size)).mono HB1.out.size))
      clear hB3
      go_wp2_with fail
      exact HQ.out _ HB3.out
    · have hmi : (0 : Int) < (m : Int) := by omega
      have hmne : ¬ (m : Int) = 0 := by omega
      have hW : Whole L := HWO.out.resolve_left (fun e => by have := Hm.out; rw [e] at this; exact hm0 this)
      have hge : 0 ≤ a % (m : Int) := Int.emod_nonneg _ hmne
      have hgl := Int.emod_lt_of_pos a hmi
      obtain ⟨g, hg⟩ : ∃ g : Nat, a % (m : Int) = g := ⟨(a % (m : Int)).toNat, by rw [Int.toNat_of_nonneg hge]⟩
      have hgm : g < m := by omega
      have hgmi : (g : Int) < (m : Int) := by omega
      have hg0 : (0 : Int) ≤ (g : Int) := by omega
      have HNr : Hid (Near L g 0) := by
        refine ⟨by rw [← Hm.out]; exact hgm, ?_⟩
        have := (hW.ok g (by rw [← Hm.out]; exact hgm)).bl.1
        show ((0 : Nat) : Int) < _
        simp; omega
      have HW := Lib.hid hW
      obtain ⟨⟨hfb0, hfb1⟩, hfi0, hfi1⟩ := free_in hW
      obtain ⟨N, hN⟩ : ∃ N : Nat, freeB L = (N : Int) := ⟨(freeB L).toNat, by rw [Int.toNat_of_nonneg hfb0]⟩
      obtain ⟨M, hM⟩ : ∃ M : Nat, freeI L = (M : Int) := ⟨(freeI L).toNat, by rw [Int.toNat_of_nonneg hfi0]⟩
      have hN1 : N ≤ 1024 := by omega
      have hM1 : M ≤ 256 := by omega
      have HF : Hid (∀ W, Below w1.heap.size w1 W → Calls Try.prog 39 #[.slice A m c] W fun e w' => e = .returned (.tuple #[.int .i64 N, .int .i64 M]) ∧ Below W.heap.size W w') := fun W h => by
        refine (free_any A c m L Hm.out W (whole_small HW.out) (HCy.out.next h)).mono ?_
        rintro e w' ⟨rfl, hB⟩
        exact ⟨by rw [hN, hM], hB⟩
      have HN := Lib.hid hN
      have HMf := Lib.hid hM
      clear hW hge hgl hm0 hfb0 hfb1 hfi0 hfi1 hN hM
      go_wp2_with fail
      refine (HF.out _ (Below.refl _ _)).mono ?_
      rintro e w2 ⟨rfl, hB2⟩
      have HC2 := Lib.hid (HCy.out.next hB2)
      have HB2 := Lib.hid (HB1.out.trans (hB2.mono HB1.out.size))
      clear hB2 HF HCy
      go_wp2_with fail
      rw [hg]
      have hBa : Below w2.heap.size w2 (w2.alloc (.cells #[.int .i64 (g : Int), .int .i64 0] 41)) := (Below.refl _ _).alloc (Nat.le_refl _) _
      have H3 : Hid ((w2.alloc (.cells #[.int .i64 (g : Int), .int .i64 0] 41)).heap[w2.heap.size]? = some (.cells #[.int .i64 (g : Int), .int .i64 ((0 : Nat) : Int)] 41 (0, 0))) := Go.heap_alloc_new w2 _
      obtain ⟨B, hBn⟩ : ∃ B, B = w2.heap.size := ⟨_, rfl⟩
      have hwB : w.heap.size ≤ B := by rw [hBn]; exact HB2.out.size
      have HC3 := Lib.hid (HC2.out.next hBa)
      have HB3 := Lib.hid (HB2.out.trans (hBa.mono HB2.out.size))
      generalize w2.alloc (.cells #[.int .i64 (g : Int), .int .i64 0] 41) = w3 at H3 HC3 HB3 ⊢
      rw [← hBn] at H3 ⊢
      clear hBa hBn HC2 HB2 HB1
      go_loopw [7, 11] (fun v i W => ∃ (k : Nat) (L : List Cy) (A : Option Addr) (c gg bb : Nat), i = .int .i64 k ∧ k ≤ N ∧ v = .slice A m c ∧ m = L.length ∧ Whole L ∧ freeB L = (N : Int) - k ∧ freeI L = (M : Int) ∧ Near L gg bb ∧ Cyls W W.heap.size A L ∧ Blk W B 41 #[.int .i64 (gg : Int), .int .i64 (bb : Int)] ∧ Below w.heap.size w W) (fun _ i _ => N - (intOf i).toNat)
      case atStart => exact ⟨0, L, A, c, g, 0, rfl, Nat.zero_le _, rfl, Hm.out, HW.out, by rw [HN.out]; simp, HMf.out, HNr.out, HC3.out, H3.out, HB3.out⟩
      case round =>
        clear Hm HC3 H3 HB3 HWO HNr HW HN HMf
        obtain ⟨k, L, A, c, gg, bb, rfl, hkN, rfl, hLm, hW, hfB, hfI, hNr, hCL, hBk, hBL⟩ := hrel
        rename World => wr
        have Hm := Lib.hid hLm
        have HW := Lib.hid hW
        have HNr := Lib.hid hNr
        have HfB := Lib.hid hfB
        have HfI := Lib.hid hfI
        have HCL := Lib.hid hCL
        have HBL := Lib.hid hBL
        have HBk := Lib.hid hBk
        have hk0 : (0 : Int) ≤ (k : Int) := by omega
        have hBw : B < wr.heap.size := lt_heap hBk
        obtain ⟨e0, e1⟩ := two hBk
        clear hLm hW hfB hfI hNr hCL hBL hBk
        by_cases hlt : k < N
        · have hlti : (k : Int) < (N : Int) := by omega
          obtain ⟨g2, b2, q1, q2, q3, q4, q5, q6⟩ := take_found HW.out HNr.out (by rw [HfB.out]; omega)
          have HT := Lib.hid (take_any A c m L gg bb Hm.out wr (whole_small HW.out) HCL.out)
          have Hlen : Hid ((L.set g2 (useC (cyN L g2) b2)).length = m) := by unfold Hid; rw [List.length_set]; exact Hm.out.symm
          rw [q2] at HT
          obtain ⟨X, hX⟩ : ∃ X, X = L.set g2 (useC (cyN L g2) b2) := ⟨_, rfl⟩
          rw [← hX] at HT Hlen q3 q4 q5 q6
          have HWX := Lib.hid q3
          have HNX := Lib.hid q4
          have HBX : Hid (freeB X = (N : Int) - ((k + 1 : Nat) : Int)) := by unfold Hid; rw [q5, HfB.out]; omega
          have HIX : Hid (freeI X = (M : Int)) := q6.trans HfI.out
          clear q1 q2 q3 q4 q5 q6 hX
          go_wp2_with fail
          refine HT.out.mono ?_
          rintro e w4 ⟨A4, c4, rfl, hG, hB4⟩
          dsimp only at hG ⊢
          rw [Hlen.out]
          have hBa : Below w4.heap.size w4 (w4.alloc (.cells #[.int .i64 (g2 : Int), .int .i64 (b2 : Int)] 41)) := (Below.refl _ _).alloc (Nat.le_refl _) _
          have H5 : Hid ((w4.alloc (.cells #[.int .i64 (g2 : Int), .int .i64 (b2 : Int)] 41)).heap[w4.heap.size]? = some (.cells #[.int .i64 (g2 : Int), .int .i64 (b2 : Int)] 41 (0, 0))) := Go.heap_alloc_new w4 _
          have HC5 := Lib.hid (hG.cyls.next hBa)
          have HGO := Lib.hid hG
          have hB45 := hB4.trans (hBa.mono hB4.size)
          have HBk5 := Lib.hid ((hB45.block _ hBw).trans HBk.out)
          have HB5 := Lib.hid (HBL.out.trans (hB45.mono HBL.out.size))
          have hz4 : B < w4.heap.size := by have := hB4.size; omega
          have HBa := Lib.hid hBa
          clear hG hB4 hBa hB45 e0 e1
          go_upto_region 14 with fail
          generalize w4.alloc (.cells #[.int .i64 (g2 : Int), .int .i64 (b2 : Int)] 41) = w5 at H5 HC5 HBk5 HB5 HBa ⊢
          have hz5 := lt_heap H5.out
          have hzB := lt_heap HBk5.out
          obtain ⟨e0, e1⟩ := two H5.out
          obtain ⟨e2, e3⟩ := two HBk5.out
          have f0 := frozen_of_row w5 _ 0 _ 41 HBk5.out
          have f1 := frozen_of_row w5 _ 1 _ 41 HBk5.out
          have hne : B ≠ w4.heap.size := by omega
          have hne2 : w4.heap.size ≠ B := by omega
          go_region
          all_goals
            have h8 : Blk ((w5.setCell ⟨B, 0, none⟩ (.int .i64 (g2 : Int))).setCell ⟨B, 1, none⟩ (.int .i64 (b2 : Int))).drew B 41 #[.int .i64 (g2 : Int), .int .i64 (b2 : Int)] := set2_heap HBk5.out
            have hk8 : Kept w5 ((w5.setCell ⟨B, 0, none⟩ (.int .i64 (g2 : Int))).setCell ⟨B, 1, none⟩ (.int .i64 (b2 : Int))).drew (fun b => b = B) := set2_kept.drew
            have hG5 : GrpO w5 wr.heap.size A4 c4 X := HGO.out.keep (S := fun _ => False) (Kept.fresh HBa.out) (fun _ q => q.elim)
            have hC8 := (hG5.keep hk8 (fun b q => by have q' : b = B := q; omega)).cyls
            have hB8 := HB5.out.trans (hk8.below (fun b q => by have q' : b = B := q; omega) HB5.out.size)
            generalize ((w5.setCell ⟨B, 0, none⟩ (.int .i64 (g2 : Int))).setCell ⟨B, 1, none⟩ (.int .i64 (b2 : Int))).drew = w8 at h8 hk8 hC8 hB8 ⊢
            have H8 := Lib.hid h8
            have HC8 := Lib.hid hC8
            have HB8 := Lib.hid hB8
            clear h8 hk8 hG5 hC8 hB8 e0 e1 e2 e3 f0 f1
            go_wp2_with fail
            go_roundw
            case rel => exact ⟨k + 1, X, A4, c4, g2, b2, by go_num, by omega, rfl, Hlen.out.symm, HWX.out, HBX.out, HIX.out, HNX.out, HC8.out, H8.out, HB8.out⟩
            case measure => simp [intOf]; omega
        · have hlti : ¬ (k : Int) < (N : Int) := by omega
          obtain rfl : k = N := by omega
          have HfB0 : Hid (freeB L = 0) := by unfold Hid; rw [HfB.out]; omega
          clear e0 e1
          go_wp2_with fail
          go_loopw [7, 15] (fun v i W => ∃ (t : Nat) (L : List Cy) (A : Option Addr) (c : Nat), i = .int .i64 t ∧ t ≤ M ∧ v = .slice A m c ∧ m = L.length ∧ Whole L ∧ freeB L = 0 ∧ freeI L = (M : Int) - t ∧ Near L gg bb ∧ Cyls W W.heap.size A L ∧ Blk W B 41 #[.int .i64 (gg : Int), .int .i64 (bb : Int)] ∧ Below w.heap.size w W) (fun _ i _ => M - (intOf i).toNat)
          case atStart => exact ⟨0, L, A, c, rfl, Nat.zero_le _, rfl, Hm.out, HW.out, HfB0.out, by rw [HfI.out]; simp, HNr.out, HCL.out, HBk.out, HBL.out⟩
          case round =>
            clear Hm HW HNr HfB HfI HCL HBL HBk HfB0
            obtain ⟨t, L, A, c, rfl, htM, rfl, hLm, hW, hfB, hfI, hNr, hCL, hBk, hBL⟩ := hrel
            rename World => W
            have Hm := Lib.hid hLm
            have HW := Lib.hid hW
            have HNr := Lib.hid hNr
            have HfB := Lib.hid hfB
            have HfI := Lib.hid hfI
            have HCL := Lib.hid hCL
            have HBL := Lib.hid hBL
            have HBk := Lib.hid hBk
            have ht0 : (0 : Int) ≤ (t : Int) := by omega
            have hBW : B < W.heap.size := lt_heap hBk
            clear hLm hW hfB hfI hNr hCL hBL hBk
            by_cases htl : t < M
            · have htli : (t : Int) < (M : Int) := by omega
              obtain ⟨i1, o1, q1, q2, q3⟩ := file_found HW.out (g := g) (by rw [← Hm.out]; exact hgm) (by rw [HfI.out]; omega)
              have HFl := Lib.hid (file_any A c m L g Hm.out W (whole_small HW.out) HCL.out)
              rw [q3] at HFl
              have HlenF : Hid ((L.set i1 (takeI (cyN L i1) o1)).length = m) := by unfold Hid; rw [List.length_set]; exact Hm.out.symm
              have HWF := Lib.hid (whole_inode HW.out q1 q2)
              obtain ⟨f1, f2⟩ := inode_free HW.out q1 q2
              have HBF : Hid (freeB (L.set i1 (takeI (cyN L i1) o1)) = 0) := f1.trans HfB.out
              have HIF : Hid (freeI (L.set i1 (takeI (cyN L i1) o1)) = (M : Int) - ((t + 1 : Nat) : Int)) := by unfold Hid; rw [f2, HfI.out]; omega
              have HNF : Hid (Near (L.set i1 (takeI (cyN L i1) o1)) gg bb) := near_set HNr.out rfl
              have hi1 : i1 < m := by rw [Hm.out]; exact q1
              obtain ⟨X, hX⟩ : ∃ X, X = L.set i1 (takeI (cyN L i1) o1) := ⟨_, rfl⟩
              rw [← hX] at HFl HlenF HWF HBF HIF HNF
              obtain ⟨i2, o2, p1, p2, p3⟩ := dir_found HW.out (by rw [HfI.out]; omega)
              have HDl : Hid (∀ V, Below W.heap.size W V → Calls Try.prog 35 #[.slice A m c] V (AnSays V ⟨L.set i2 (takeI (cyN L i2) o2), i2, o2, 0⟩)) := fun V h => by
                have := dir_any A c m L Hm.out V (whole_small HW.out) (HCL.out.next h)
                rw [p3] at this; exact this
              have HlenD : Hid ((L.set i2 (takeI (cyN L i2) o2)).length = m) := by unfold Hid; rw [List.length_set]; exact Hm.out.symm
              have HWD := Lib.hid (whole_inode HW.out p1 p2)
              obtain ⟨d1, d2⟩ := inode_free HW.out p1 p2
              have HBD : Hid (freeB (L.set i2 (takeI (cyN L i2) o2)) = 0) := d1.trans HfB.out
              have HID : Hid (freeI (L.set i2 (takeI (cyN L i2) o2)) = (M : Int) - ((t + 1 : Nat) : Int)) := by unfold Hid; rw [d2, HfI.out]; omega
              have HND : Hid (Near (L.set i2 (takeI (cyN L i2) o2)) gg bb) := near_set HNr.out rfl
              have hi2 : i2 < m := by rw [Hm.out]; exact p1
              obtain ⟨Y, hY⟩ : ∃ Y, Y = L.set i2 (takeI (cyN L i2) o2) := ⟨_, rfl⟩
              rw [← hY] at HDl HlenD HWD HBD HID HND
              have t1 : ¬ (i1 : Int) < 0 := by omega
              have t2 : ¬ (m : Int) ≤ (i1 : Int) := by omega
              have t3 : ¬ (i2 : Int) < 0 := by omega
              have t4 : ¬ (m : Int) ≤ (i2 : Int) := by omega
              have t2n : ¬ m ≤ i1 := by omega
              have t4n : ¬ m ≤ i2 := by omega
              clear q1 q2 q3 p1 p2 p3 f1 f2 d1 d2 hX hY
              go_wp2_with fail
              refine HFl.out.mono ?_
              rintro e w4 ⟨A4, c4, rfl, hG, hB4⟩
              dsimp only at hG ⊢
              rw [HlenF.out]
              have hBa : Below w4.heap.size w4 (w4.alloc (.cells #[.int .i64 (i1 : Int), .int .i64 (o1 : Int)] 41)) := (Below.refl _ _).alloc (Nat.le_refl _) _
              have H5 : Hid ((w4.alloc (.cells #[.int .i64 (i1 : Int), .int .i64 (o1 : Int)] 41)).heap[w4.heap.size]? = some (.cells #[.int .i64 (i1 : Int), .int .i64 (o1 : Int)] 41 (0, 0))) := Go.heap_alloc_new w4 _
              have HC5 := Lib.hid (hG.cyls.next hBa)
              have hB45 := hB4.trans (hBa.mono hB4.size)
              have HB45 := Lib.hid hB45
              have HBk5 := Lib.hid ((hB45.block _ hBW).trans HBk.out)
              have HB5 := Lib.hid (HBL.out.trans (hB45.mono HBL.out.size))
              have hz4 : B < w4.heap.size := by have := hB4.size; omega
              have hz44 : W.heap.size ≤ w4.heap.size := hB4.size
              clear hG hB4 hBa hB45
              cases d with
              | false =>
                go_upto_region 21 with fail
                generalize w4.alloc (.cells #[.int .i64 (i1 : Int), .int .i64 (o1 : Int)] 41) = w5 at H5 HC5 HBk5 HB5 HB45 ⊢
                have hz5 := lt_heap H5.out
                obtain ⟨e0, e1⟩ := two H5.out
                go_wp2_with fail
                go_roundw
                case rel => exact ⟨t + 1, X, A4, c4, by go_num, by omega, rfl, HlenF.out.symm, HWF.out, HBF.out, HIF.out, HNF.out, HC5.out, HBk5.out, HB5.out⟩
                case measure => simp [intOf]; omega
              | true =>
                go_upto_region 20 with fail
                generalize w4.alloc (.cells #[.int .i64 (i1 : Int), .int .i64 (o1 : Int)] 41) = w5 at H5 HC5 HBk5 HB5 HB45 ⊢
                have hz5 := lt_heap H5.out
                have hz55 : B < w5.heap.size := by omega
                go_wp2_with fail
                refine (HDl.out _ HB45.out).mono ?_
                rintro e w6 ⟨A6, c6, rfl, hG, hB6⟩
                dsimp only at hG ⊢
                rw [HlenD.out]
                have h6 := (hB6.block _ hz5).trans H5.out
                have hb6 := (hB6.block _ hz55).trans HBk5.out
                obtain ⟨e0, e1⟩ := two h6
                have f0 := frozen_of_row w6 _ 0 _ 41 h6
                have f1 := frozen_of_row w6 _ 1 _ 41 h6
                have hz6 := lt_heap h6
                have H6 := Lib.hid h6
                have Hb6 := Lib.hid hb6
                have HG6 := Lib.hid hG
                have HB6 := Lib.hid (HB5.out.trans (hB6.mono HB5.out.size))
                have hs6 : w5.heap.size ≤ w6.heap.size := hB6.size
                clear h6 hb6 hG hB6
                go_upto_region 21 with fail
                have h8 : Blk ((w6.setCell ⟨w4.heap.size, 0, none⟩ (.int .i64 (i2 : Int))).setCell ⟨w4.heap.size, 1, none⟩ (.int .i64 (o2 : Int))) w4.heap.size 41 #[.int .i64 (i2 : Int), .int .i64 (o2 : Int)] := set2_heap H6.out
                have hk8 : Kept w6 ((w6.setCell ⟨w4.heap.size, 0, none⟩ (.int .i64 (i2 : Int))).setCell ⟨w4.heap.size, 1, none⟩ (.int .i64 (o2 : Int))) (fun b => b = w4.heap.size) := set2_kept
                have HC8 := Lib.hid (HG6.out.keep hk8 (fun b q => by have q' : b = w4.heap.size := q; omega)).cyls
                have HB8 := Lib.hid (HB6.out.trans (hk8.below (fun b q => by have q' : b = w4.heap.size := q; have := HBL.out.size; omega) HB6.out.size))
                have Hb8 := Lib.hid ((hk8.block B (by omega) (fun q => by have q' : B = w4.heap.size := q; omega)).trans Hb6.out)
                generalize (w6.setCell ⟨w4.heap.size, 0, none⟩ (.int .i64 (i2 : Int))).setCell ⟨w4.heap.size, 1, none⟩ (.int .i64 (o2 : Int)) = w8 at h8 hk8 HC8 HB8 Hb8 ⊢
                clear e0 e1 f0 f1
                obtain ⟨e0, e1⟩ := two h8
                have hz8 := lt_heap h8
                clear h8 hk8
                go_wp2_with fail
                go_roundw
                case rel => exact ⟨t + 1, Y, A6, c6, by go_num, by omega, rfl, HlenD.out.symm, HWD.out, HBD.out, HID.out, HND.out, HC8.out, Hb8.out, HB8.out⟩
                case measure => simp [intOf]; omega
            · have htli : ¬ (t : Int) < (M : Int) := by omega
              obtain rfl : t = M := by omega
              have hfI0 : freeI L = 0 := by rw [HfI.out]; omega
              have HT := Lib.hid (take_any A c m L gg bb Hm.out W (whole_small HW.out) HCL.out)
              rw [take_full HW.out HNr.out HfB.out] at HT
              have HFl : Hid (∀ V, Below W.heap.size W V → Calls Try.prog 33 #[.slice A m c, .int .i64 0] V (AnSays V ⟨[], 0, 0, 4⟩)) := fun V h => by
                have := file_any A c m L ((0 : Nat) : Int) Hm.out V (whole_small HW.out) (HCL.out.next h)
                rw [file_full HW.out (g := 0) (by rw [← Hm.out]; omega) hfI0] at this
                exact this
              have HDl : Hid (∀ V, Below W.heap.size W V → Calls Try.prog 35 #[.slice A m c] V (AnSays V ⟨[], 0, 0, 4⟩)) := fun V h => by
                have := dir_any A c m L Hm.out V (whole_small HW.out) (HCL.out.next h)
                rw [dir_full HW.out hfI0] at this; exact this
              have HF : Hid (∀ V, Below W.heap.size W V → Calls Try.prog 39 #[.slice A m c] V fun e w' => e = .returned (.tuple #[.int .i64 0, .int .i64 0]) ∧ Below V.heap.size V w') := fun V h => by
                have := free_any A c m L Hm.out V (whole_small HW.out) (HCL.out.next h)
                unfold FreeSays at this
                rw [HfB.out, hfI0] at this; exact this
              have HWh : Hid (∀ V, Below W.heap.size W V → Calls Try.prog 31 #[.slice A m c] V fun e w' => e = .returned (.bool true) ∧ Below V.heap.size V w') := fun V h => by
                have := whole_any A c m L Hm.out V (whole_small HW.out) (HCL.out.next h)
                rw [(wholeL_iff L).2 HW.out] at this; exact this
              obtain ⟨e0, e1⟩ := two HBk.out
              clear hfI0
              go_wp2_with fail
              refine HT.out.mono ?_
              rintro e w4 ⟨A4, c4, rfl, _, hB⟩
              have HBn := Lib.hid (hB.trans (((Below.refl _ w4).alloc (o := .cells #[.int .i64 0, .int .i64 0] 41) (Nat.le_refl _)).mono hB.size))
              clear hB e0 e1
              go_upto_region 25 with fail
              generalize w4.alloc (.cells #[.int .i64 0, .int .i64 0] 41) = w5 at HBn ⊢
              go_wp2_with fail
              refine (HFl.out _ HBn.out).mono ?_
              rintro e w6 ⟨A6, c6, rfl, _, hB⟩
              replace HBn := Lib.hid (HBn.out.trans ((hB.trans (((Below.refl _ w6).alloc (o := .cells #[.int .i64 0, .int .i64 0] 41) (Nat.le_refl _)).mono hB.size)).mono HBn.out.size))
              clear hB
              go_upto_region 26 with fail
              generalize w6.alloc (.cells #[.int .i64 0, .int .i64 0] 41) = w7 at HBn ⊢
              go_wp2_with fail
              refine (HDl.out _ HBn.out).mono ?_
              rintro e w8 ⟨A8, c8, rfl, _, hB⟩
              replace HBn := Lib.hid (HBn.out.trans ((hB.trans (((Below.refl _ w8).alloc (o := .cells #[.int .i64 0, .int .i64 0] 41) (Nat.le_refl _)).mono hB.size)).mono HBn.out.size))
              clear hB
              go_upto_region 27 with fail
              generalize w8.alloc (.cells #[.int .i64 0, .int .i64 0] 41) = w9 at HBn ⊢
              go_wp2_with fail
              refine (HF.out _ HBn.out).mono ?_
              rintro e w10 ⟨rfl, hB⟩
              replace HBn := Lib.hid (HBn.out.trans (hB.mono HBn.out.size))
              clear hB
              go_wp2_with fail
              refine (HLv.out _).mono ?_
              rintro e w11 ⟨rfl, hB⟩
              replace HBn := Lib.hid (HBn.out.trans (hB.mono HBn.out.size))
              clear hB
              go_wp2_with fail
              refine (HWh.out _ HBn.out).mono ?_
              rintro e w12 ⟨rfl, hB⟩
              replace HBn := Lib.hid (HBn.out.trans (hB.mono HBn.out.size))
              clear hB
              go_wp2_with fail
              exact HQ.out _ (HBL.out.trans (HBn.out.mono HBL.out.size))
end Go.Proofs.Ytpcindemkkdbbaa.cylFound
