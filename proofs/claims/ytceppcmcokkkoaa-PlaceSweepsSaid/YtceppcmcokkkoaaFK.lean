/- Contracts of lay. -/
import Derived.Test.YtceppcmcokkkoaaFJ
import Derived.Test.YtceppcmcokkkoaaV
namespace Go.Proofs.Ytceppcmcokkkoaa
open Go.RowKit

theorem info34 : (Try.prog.info? 34).map (fun i => (i.zero, i.size, i.bytes)) = some (some (.complex .f64 0 0), 1, 16) := by kernel_rfl
def zeroC : Value := .complex .f64 0 0
def placed (l : List Int) (n k : Nat) : List Value := (List.range l.length).map fun j => if j < k then plV (nn l j) n else zeroC
theorem length_placed (l : List Int) (n k : Nat) : (placed l n k).length = l.length := by simp [placed]
theorem placed_zero (l : List Int) (n : Nat) : placed l n 0 = List.replicate l.length zeroC := by
  apply List.ext_getElem
  · simp [placed]
  · intro i h1 h2; simp [placed]
theorem placed_set (l : List Int) (n k : Nat) : (placed l n k).set k (plV (nn l k) n) = placed l n (k + 1) := by
  apply List.ext_getElem
  · simp [placed]
  · intro i h1 h2
    rw [List.getElem_set]
    by_cases e : k = i
    · subst e; simp [placed]
    · rw [if_neg e]
      simp only [placed, List.getElem_map, List.getElem_range]
      by_cases h : i < k
      · rw [if_pos h, if_pos (by omega)]
      · rw [if_neg h, if_neg (by omega)]
theorem placed_at (l : List Int) (n k j : Nat) (hj : j < l.length) : (placed l n k)[j]? = some (if j < k then plV (nn l j) n else zeroC) := by
  rw [List.getElem?_eq_getElem (by rw [length_placed]; exact hj)]
  simp [placed]
theorem made_cx (n : Nat) : madeCells #[Value.complex .f64 0 0] n = (List.replicate n zeroC).toArray := by
  apply Array.ext
  · simp [size_madeCells]
  · intro i h1 h2; simp [madeCells, Nat.mod_one, zeroC]

def LaySays (w : World) (f : Int) (l : List Int) (p : Int) (e : Ending) (w' : World) : Prop :=
  Below w.heap.size w w' ∧ ((fitB f l p = true ∧ e = .returned (.tuple #[plV f.toNat p.toNat, .slice (some ⟨w.heap.size, 0, none⟩) l.length l.length, .int .i64 0]) ∧ BlkIs w' w.heap.size 34 (placed l p.toNat l.length))
    ∨ (fitB f l p = false ∧ e = .returned (.tuple #[.complex .f64 0 0, .slice none 0 0, .int .i64 2])))

set_option maxRecDepth 100000 in
set_option maxHeartbeats 2000000 in
theorem lay_any (A : Option Addr) (c : Nat) (f p : Int) (l : List Int) (w : World) (hl : l.length ≤ 1000) (hi : Ints w w.heap.size A l) :
    Calls Try.prog 48 #[.int .i64 f, .slice A l.length c, .int .i64 p] w (LaySays w f l p) := by
  have hst := fun (W : World) (a : Addr) (m : Mode) (x y : Nat) => run_store_complex Try.prog W a m .f64 x y
  have hmk := fun W => run_make_row' (P := Try.prog) 64 34 (.complex .f64 0 0) 16 Try.underlying64 info34 rfl .i64 .i64 l.length (by omega) (by omega) W
  rw [made_cx] at hmk
  have HI := Lib.hid hi
  clear hi
  cases hok : okB f p with
  | false =>
    have HX : Hid (fitB f l p = false) := by unfold fitB; rw [hok]; rfl
    have HA := Lib.hid (fun W => at_no f p (okB_no hok) W)
    clear hok hmk hst
    go_enter Try.func48, Try.ntmps48
    go_wp2_with fail
    refine (HA.out _).mono ?_
    rintro e w' ⟨rfl, rfl⟩
    go_wp2
    exact bodyPost_ret (v := .tuple #[.complex .f64 0 0, .slice none 0 0, .int .i64 2]) (by simp [results, Try.results48, go_sem]) rfl ⟨Below.refl _ _, .inr ⟨HX.out, rfl⟩⟩
  | true =>
    have Hok := Lib.hid hok
    obtain ⟨i0, n, rfl, rfl, h1, h2, h3⟩ := okB_yes hok
    clear hok
    have HA := Lib.hid (fun W => at_of (i0 : Int) (n : Int) i0 n rfl rfl h1 h2 h3 W)
    obtain ⟨xf, yf, hpf⟩ := plV_form i0 n
    rw [hpf] at HA
    have Hpf := Lib.hid hpf
    clear hpf
    obtain ⟨L0, hL0⟩ : ∃ L0, L0 = List.replicate l.length zeroC := ⟨_, rfl⟩
    rw [← hL0] at hmk
    have HL0 := Lib.hid hL0
    clear hL0
    go_enter Try.func48, Try.ntmps48
    go_wp2_with fail
    refine (HA.out _).mono ?_
    rintro e w1 ⟨rfl, hq1⟩
    have hB1 := hq1.below (Below.refl w.heap.size w)
    have hz1 := hq1.size
    have HZ1 := Lib.hid hz1
    clear hz1
    go_wp2
    go_loopw [10, 28] (fun e i wr => ∃ k : Nat, k ≤ l.length ∧ i = .int .i64 k ∧ e = .int .i64 0 ∧ fitB (i0 : Int) (l.take k) (n : Int) = true ∧ BlkIs wr w1.heap.size 34 (placed l n k) ∧ Below w.heap.size w wr) (fun _ i _ => l.length - (intOf i).toNat)
    case atStart =>
      refine ⟨0, Nat.zero_le _, rfl, rfl, by rw [List.take_zero, fitB_nil]; exact Hok.out, ?_, hB1.alloc hB1.size _⟩
      have := heap_alloc_new w1 (.cells L0.toArray 34)
      rw [HL0.out, ← placed_zero l n] at this
      rw [HL0.out, ← placed_zero l n]
      exact this
    case round =>
      obtain ⟨k, hk, rfl, rfl, hfk, hblk, hB⟩ := hrel
      rename World => wr
      have Hfk := Lib.hid hfk
      clear hfk
      by_cases hlt : k < l.length
      · have hlti : (k : Int) < (l.length : Int) := by omega
        have hk0 : (0 : Int) ≤ (k : Int) := by omega
        obtain ⟨b, off, rfl, hb, hc⟩ := HI.out.at_ hlt
        have hck := (hB.cell hb).trans hc
        clear hc
        have Hblk := Lib.hid hblk
        clear hblk
        cases hn : okB (nth l k) (n : Int) with
        | true =>
          obtain ⟨j, n2, e1, e2, g1, g2, g3⟩ := okB_yes hn
          have Hsn := Lib.hid (show fitB (i0 : Int) (l.take (k + 1)) (n : Int) = true by rw [fitB_snoc _ _ _ _ hlt, Hfk.out, hn]; rfl)
          have hj : j = nn l k := by unfold nn; rw [e1]; omega
          obtain ⟨xk, yk, hpk⟩ := plV_form j n
          have Hset := Lib.hid (placed_set l n k)
          rw [← hj, hpk] at Hset
          have HA2 := Lib.hid (fun W => at_of (j : Int) (n : Int) j n rfl rfl g1 h2 h3 W)
          rw [hpk] at HA2
          rw [e1] at hck
          clear hn e1 e2 hj hpk
          go_wp2_with fail
          refine (HA2.out _).mono ?_
          rintro e w3 ⟨rfl, hq3⟩
          have hblk3 : BlkIs w3 w1.heap.size 34 (placed l n k) := by
            obtain ⟨m, rfl⟩ := hq3
            exact Hblk.out
          have hB3 := hq3.below hB
          have c3 : w3.cell? ⟨w1.heap.size, k, none⟩ = some zeroC := by
            rw [hblk3.cell, placed_at l n k k hlt, if_neg (Nat.lt_irrefl k)]
          have f3 : w3.frozen? ⟨w1.heap.size, k, none⟩ = false := hblk3.frozen _
          have Hfin := Lib.hid (show BlkIs (w3.setCell ⟨w1.heap.size, k, none⟩ (.complex .f64 xk yk)) w1.heap.size 34 (placed l n (k + 1)) by
            have := hblk3.set_ k (.complex .f64 xk yk)
            rw [Hset.out] at this
            exact this)
          have HB3 := Lib.hid (hB3.setCell (p := ⟨w1.heap.size, k, none⟩) (by rw [HZ1.out]; exact Nat.le_refl _) (.complex .f64 xk yk))
          clear hblk3 hB3
          unfold zeroC at c3
          go_wp2
          go_roundw
          case rel => exact ⟨k + 1, by omega, by go_num, rfl, Hsn.out, Hfin.out, HB3.out⟩
          case measure => simp [intOf]; omega
        | false =>
          have Hsn := Lib.hid (fitB_take (k + 1) (show fitB (i0 : Int) (l.take (k + 1)) (n : Int) = false by rw [fitB_snoc _ _ _ _ hlt, Hfk.out, hn]; rfl))
          have HA2 := Lib.hid (fun W => at_no (nth l k) (n : Int) (okB_no hn) W)
          clear hn
          have c3 : wr.cell? ⟨w1.heap.size, k, none⟩ = some zeroC := by
            rw [Hblk.out.cell, placed_at l n k k hlt, if_neg (Nat.lt_irrefl k)]
          have f3 : wr.frozen? ⟨w1.heap.size, k, none⟩ = false := Hblk.out.frozen _
          have HB3 := Lib.hid (hB.setCell (p := ⟨w1.heap.size, k, none⟩) (by rw [HZ1.out]; exact Nat.le_refl _) (.complex .f64 0 0))
          unfold zeroC at c3
          go_wp2_with fail
          refine (HA2.out _).mono ?_
          rintro e w' ⟨rfl, rfl⟩
          go_wp2
          exact bodyPost_ret (v := .tuple #[.complex .f64 0 0, .slice none 0 0, .int .i64 2]) (by simp [results, Try.results48, go_sem]) rfl ⟨HB3.out, .inr ⟨Hsn.out, rfl⟩⟩
      · have hlti : ¬ (k : Int) < (l.length : Int) := by omega
        obtain rfl : k = l.length := by omega
        rw [List.take_length] at Hfk
        have Hblk := Lib.hid hblk
        clear hblk
        go_wp2
        refine bodyPost_ret (v := .tuple #[.complex .f64 xf yf, .slice (some ⟨w1.heap.size, 0, none⟩) l.length l.length, .int .i64 0]) (by simp [results, Try.results48, go_sem]) rfl ⟨hB, .inl ⟨Hfk.out, ?_, ?_⟩⟩
        · rw [HZ1.out, Int.toNat_natCast, Int.toNat_natCast, Hpf.out]
        · rw [← HZ1.out, Int.toNat_natCast]
          exact Hblk.out
end Go.Proofs.Ytceppcmcokkkoaa
