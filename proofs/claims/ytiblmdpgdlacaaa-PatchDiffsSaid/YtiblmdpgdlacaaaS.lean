/- 'full' of the laws; a join does what both do; two that do not overlap. -/
import Derived.Test.YtiblmdpgdlacaaaR
namespace Go.Proofs.Ytiblmdpgdlacaaa
open Go.RowKit

set_option maxRecDepth 100000 in
set_option maxHeartbeats 1000000 in
theorem full_any (A : Option Addr) (n c : Nat) (l : List Int) (w : World) (hb : Bts w w.heap.size A l) (hn : n = l.length) (hc : n ≤ maxLen) :
    Calls Try.prog 31 #[.slice A n c] w fun e w' => e = .returned (.slice (some ⟨w.heap.size, 0, none⟩) 32 32) ∧ Below w.heap.size w w' ∧ ∃ m, BlkIs w' w.heap.size 5 (bytesV m) ∧ m.length = 32 ∧ AllB m := by
  subst hn
  have hmk : ∀ W, (Instr.makeSlice 22 (.int .i64 32) (.int .i64 32)).run Try.prog W = .ok (.slice (some ⟨W.heap.size, 0, none⟩) 32 32) (W.alloc (.cells (madeCells #[Value.int .u8 0] 32) 5)) := fun W => run_make_row' (P := Try.prog) 22 5 (.int .u8 0) 1 Try.underlying22 info5 rfl .i64 .i64 32 (by omega) (by omega) W
  rw [made_bytes] at hmk
  have h0 : Hid (BlkIs (w.alloc (.cells (bytesV zeros).toArray 5)) w.heap.size 5 (bytesV zeros)) := heap_alloc_new w _
  obtain ⟨L0, hL0⟩ : ∃ L0, L0 = (bytesV zeros).toArray := ⟨_, rfl⟩
  have hL0' : (bytesV (List.replicate 32 0)).toArray = L0 := hL0.symm
  rw [hL0'] at hmk
  rw [← hL0] at h0
  have HB := Lib.hid hb
  clear hL0 hL0' hb
  unfold maxLen at hc
  go_enter Try.func31, Try.ntmps31
  go_wp2
  go_loopw [4] (fun i wr => ∃ (k : Nat) (m : List Int), k ≤ 32 ∧ i = .int .i64 k ∧ BlkIs wr w.heap.size 5 (bytesV m) ∧ m.length = 32 ∧ AllB m ∧ Below w.heap.size w wr) (fun i _ => 32 - (intOf i).toNat)
  case atStart => exact ⟨0, zeros, by omega, rfl, h0.out, zeros_len, zeros_all, below_alloc1 w _⟩
  case round =>
    obtain ⟨k, m, hk, rfl, hblk, hm, hma, hB⟩ := hrel
    rename World => wr
    have H := Lib.hid (show BlkIs wr w.heap.size 5 (bytesV m) ∧ m.length = 32 ∧ AllB m from ⟨hblk, hm, hma⟩)
    clear hm hma
    by_cases hlt : k < l.length
    · by_cases h32 : k < 32
      · have hlti : (k : Int) < (l.length : Int) := by omega
        have h32i : (k : Int) < 32 := by omega
        have hk0 : (0 : Int) ≤ (k : Int) := by omega
        obtain ⟨b, off, rfl, hbb, hck⟩ := (HB.out.below hB).at_ hlt
        have hx := HB.out.1.nth k
        obtain ⟨x, hxe⟩ : ∃ x, x = nth l k := ⟨_, rfl⟩
        rw [← hxe] at hck hx
        have hc1 : wr.cell? ⟨w.heap.size, k, none⟩ = some (.int .u8 (nth m k)) := by
          rw [hblk.cell, bytesV, List.getElem?_map, List.getElem?_eq_getElem (by rw [H.out.2.1]; omega), nth_lt (by rw [H.out.2.1]; omega)]; rfl
        have hf1 : wr.frozen? ⟨w.heap.size, k, none⟩ = false := hblk.frozen _
        have hfin : Hid (BlkIs (wr.setCell ⟨w.heap.size, k, none⟩ (.int .u8 x)) w.heap.size 5 (bytesV (m.set k x)) ∧ (m.set k x).length = 32 ∧ AllB (m.set k x) ∧ Below w.heap.size w (wr.setCell ⟨w.heap.size, k, none⟩ (.int .u8 x))) :=
          ⟨by rw [← bytesV_set]; exact hblk.set_ _ _, by rw [List.length_set]; exact H.out.2.1, fun y hy => by
            rcases List.mem_or_eq_of_mem_set hy with h | rfl
            · exact H.out.2.2 y h
            · exact hx, hB.setCell (p := ⟨w.heap.size, k, none⟩) (Nat.le_refl _) _⟩
        clear hblk hxe
        go_wp2
        go_roundw
        case rel => exact ⟨k + 1, _, by omega, by go_num, hfin.out⟩
        case measure => simp [intOf]; omega
      · have hlti : (k : Int) < (l.length : Int) := by omega
        have h32i : ¬ (k : Int) < 32 := by omega
        clear hblk
        go_wp2
        go_ret
        exact ⟨rfl, hB, m, H.out⟩
    · have hlti : ¬ (k : Int) < (l.length : Int) := by omega
      clear hblk
      go_wp2
      go_ret
      exact ⟨rfl, hB, m, H.out⟩

theorem apart_out {p q : Pt} (h : p.apart q = false) : p.right = true ∧ q.right = true ∧ p.b = q.b ∧ p.o ≤ q.o + q.s.size ∧ q.o ≤ p.o + p.s.size := by
  have hb : p.both q = true := by
    cases h2 : p.both q with
    | true => rfl
    | false => simp [Pt.apart, h2] at h
  obtain ⟨h1, h2, h3⟩ := Pt.both_out hb
  have : ¬ q.o + q.s.size < p.o ∧ ¬ p.o + p.s.size < q.o := by simpa [Pt.apart, hb] using h
  exact ⟨h1, h2, h3, by omega, by omega⟩
theorem joinP_right {p q : Pt} (h : p.apart q = false) : (joinP p q).right = true := by
  obtain ⟨hp, hq, _, h4, h5⟩ := apart_out h
  obtain ⟨p1, p2, p3, p4, p5, p6⟩ := Pt.right_out hp
  obtain ⟨q1, q2, q3, q4, q5, q6⟩ := Pt.right_out hq
  have hl := length_put hq (length_put hp zeros_len)
  exact cutP_ok p.b _ _ _ p1 p2 (by simp only [Pt.e]; omega) (by rw [hl]; simp only [Pt.e]; omega) (by omega)
theorem nth_put2 {l : List Int} {p q : Pt} (hp : p.right = true) (hq : q.right = true) (hl : l.length = 32) (i : Nat) :
    nth (put (put l p) q) i = if q.o.toNat ≤ i ∧ i < q.o.toNat + q.s.size then nth (sb q.s) (i - q.o.toNat) else if p.o.toNat ≤ i ∧ i < p.o.toNat + p.s.size then nth (sb p.s) (i - p.o.toNat) else nth l i := by
  rw [nth_put hq (length_put hp hl), nth_put hp hl]
/-- JOIN DOES WHAT BOTH DO -/
theorem put_join {l : List Int} {p q : Pt} (h : p.apart q = false) (hl : l.length = 32) : put l (joinP p q) = put (put l p) q := by
  obtain ⟨hp, hq, _, h4, h5⟩ := apart_out h
  have hj := joinP_right h
  obtain ⟨p1, p2, p3, p4, p5, p6⟩ := Pt.right_out hp
  obtain ⟨q1, q2, q3, q4, q5, q6⟩ := Pt.right_out hq
  have hz := put_all (put_all zeros_all p) q
  have hlz := length_put hq (length_put hp zeros_len)
  have hpe : p.e = p.o + p.s.size := rfl
  have hqe : q.e = q.o + q.s.size := rfl
  have hs : sb (joinP p q).s = part (put (put zeros p) q) (min p.o q.o).toNat (max p.e q.e).toNat := sb_strOf _ (part_all hz _ _)
  have ho' : (joinP p q).o = ((min p.o q.o).toNat : Int) := rfl
  have hF : (min p.o q.o).toNat ≤ p.o.toNat ∧ (min p.o q.o).toNat ≤ q.o.toNat ∧ ((min p.o q.o).toNat = p.o.toNat ∨ (min p.o q.o).toNat = q.o.toNat) := by omega
  have hT : p.o.toNat + p.s.size ≤ (max p.e q.e).toNat ∧ q.o.toNat + q.s.size ≤ (max p.e q.e).toNat ∧ ((max p.e q.e).toNat = p.o.toNat + p.s.size ∨ (max p.e q.e).toNat = q.o.toNat + q.s.size) := by omega
  generalize (min p.o q.o).toNat = F at *
  generalize (max p.e q.e).toNat = T at *
  have ho : (joinP p q).o.toNat = F := by omega
  have hsz : (joinP p q).s.size = T - F := by rw [← length_sb, hs, length_part _ _ _ (by omega)]
  refine ext_nth (by rw [length_put hj hl, length_put hq (length_put hp hl)]) fun i _ => ?_
  rw [nth_put hj hl, nth_put2 hp hq hl, ho, hsz, hs]
  by_cases hi : F ≤ i ∧ i < T
  · rw [if_pos (by omega), nth_part _ _ _ _ (by omega), show F + (i - F) = i by omega, nth_put2 hp hq zeros_len]
    by_cases hq' : q.o.toNat ≤ i ∧ i < q.o.toNat + q.s.size
    · rw [if_pos hq', if_pos hq']
    · rw [if_neg hq', if_neg hq', if_pos (by omega), if_pos (by omega)]
  · rw [if_neg (by omega), if_neg (by omega), if_neg (by omega)]
/-- TWO THAT DO NOT OVERLAP DO THE SAME IN EITHER ORDER -/
theorem put_swap {l : List Int} {p q : Pt} (hp : p.right = true) (hq : q.right = true) (hb : p.b = q.b) (h : p.over q = false) (hl : l.length = 32) : put (put l p) q = put (put l q) p := by
  have hbo : p.both q = true := by simp [Pt.both, hp, hq, hb]
  have h' : ¬ (p.o < q.o + q.s.size ∧ q.o < p.o + p.s.size) := by simpa [Pt.over, hbo] using h
  obtain ⟨p1, p2, p3, p4, p5, p6⟩ := Pt.right_out hp
  obtain ⟨q1, q2, q3, q4, q5, q6⟩ := Pt.right_out hq
  refine ext_nth (by rw [length_put hq (length_put hp hl), length_put hp (length_put hq hl)]) fun i _ => ?_
  rw [nth_put2 hp hq hl, nth_put2 hq hp hl]
  by_cases h1 : q.o.toNat ≤ i ∧ i < q.o.toNat + q.s.size
  · rw [if_pos h1, if_neg (by omega), if_pos h1]
  · rw [if_neg h1, if_neg h1]
end Go.Proofs.Ytiblmdpgdlacaaa
