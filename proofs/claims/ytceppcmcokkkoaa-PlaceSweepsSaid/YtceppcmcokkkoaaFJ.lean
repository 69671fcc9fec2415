/- Contracts of the document's own Route and Next. -/
import Derived.Test.YtceppcmcokkkoaaFI
import Derived.Deep.RegionHeld3
namespace Go.Proofs.Ytceppcmcokkkoaa
open Go.RowKit

/-- the block at k -/
def nn (l : List Int) (k : Nat) : Nat := (nth l k).toNat
/-- where one stands behind k steps -/
def stands (f : Nat) (l : List Int) (k : Nat) : Nat := match k with | 0 => f | j + 1 => nn l j
/-- how far one went behind k steps -/
def goes (f : Nat) (l : List Int) (n : Nat) : Nat → Nat
  | 0 => 0
  | k + 1 => goes f l n k + far (stands f l k) (nn l k) n
/-- which of k is the least, of several the first -/
def bestOf (d : Nat → Nat) : Nat → Nat
  | 0 => 0
  | k + 1 => if k = 0 then 0 else if d k < d (bestOf d k) then k else bestOf d k
theorem bestOf_lt (d : Nat → Nat) (k : Nat) : bestOf d (k + 1) < k + 1 := by
  induction k with
  | zero => simp [bestOf]
  | succ k ih =>
    show (if k + 1 = 0 then 0 else if d (k + 1) < d (bestOf d (k + 1)) then k + 1 else bestOf d (k + 1)) < k + 1 + 1
    rw [if_neg (by omega)]
    split
    · omega
    · omega
theorem bestOf_one (d : Nat → Nat) : bestOf d 1 = 0 := by simp [bestOf]
theorem bestOf_yes (d : Nat → Nat) (k : Nat) (h0 : 1 ≤ k) (h : d k < d (bestOf d k)) : bestOf d (k + 1) = k := by
  show (if k = 0 then 0 else if d k < d (bestOf d k) then k else bestOf d k) = k
  rw [if_neg (by omega), if_pos h]
theorem bestOf_no (d : Nat → Nat) (k : Nat) (h0 : 1 ≤ k) (h : ¬ d k < d (bestOf d k)) : bestOf d (k + 1) = bestOf d k := by
  show (if k = 0 then 0 else if d k < d (bestOf d k) then k else bestOf d k) = bestOf d k
  rw [if_neg (by omega), if_neg h]
theorem goes_succ (f : Nat) (l : List Int) (n k : Nat) : goes f l n (k + 1) = goes f l n k + far (stands f l k) (nn l k) n := rfl
theorem stands_succ (f : Nat) (l : List Int) (k : Nat) : stands f l (k + 1) = nn l k := rfl

/-- blocks that lie, and a track that may be -/
structure Lies (f : Nat) (l : List Int) (n : Nat) : Prop where
  from_ : f < 1024
  lo : 1 ≤ n
  hi : n ≤ 64
  at_ : ∀ k, k < l.length → nth l k = (nn l k : Nat) ∧ nn l k < 1024
theorem fit_lies {f : Int} {l : List Int} {p : Int} (h : fitB f l p = true) : ∃ i n : Nat, f = (i : Int) ∧ p = (n : Int) ∧ Lies i l n := by
  obtain ⟨i, n, e1, e2, h1, h2, h3⟩ := okB_yes (fitB_from h)
  refine ⟨i, n, e1, e2, h1, h2, h3, fun k hk => ?_⟩
  obtain ⟨j, m, e3, _, h4, _, _⟩ := okB_yes (fitB_nth h hk)
  unfold nn
  rw [e3]
  exact ⟨by omega, by omega⟩
theorem lies_fit {i n : Nat} {l : List Int} (h : Lies i l n) : fitB (i : Int) l (n : Int) = true := by
  have h1 := h.from_
  have h2 := h.lo
  have h3 := h.hi
  unfold fitB okB
  simp
  refine ⟨by omega, ?_⟩
  intro x hx
  obtain ⟨k, hk, rfl⟩ := List.mem_iff_getElem.1 hx
  have := h.at_ k hk
  rw [nth_lt hk] at this
  omega
theorem Lies.stands_lt {f : Nat} {l : List Int} {n : Nat} (h : Lies f l n) {k : Nat} (hk : k ≤ l.length) : stands f l k < 1024 := by
  cases k with
  | zero => exact h.from_
  | succ j => exact (h.at_ j hk).2
theorem Lies.goes_le {f : Nat} {l : List Int} {n : Nat} (h : Lies f l n) {k : Nat} (hk : k ≤ l.length) : goes f l n k ≤ 1100 * k := by
  induction k with
  | zero => simp [goes]
  | succ j ih =>
    have h1 := ih (by omega)
    have h2 := far_le (stands f l j) (nn l j) n (h.stands_lt (by omega)) (h.at_ j hk).2 h.lo h.hi
    rw [goes_succ]
    omega
theorem Ints.at_nn {w : World} {B : Nat} {A : Option Addr} {f n : Nat} {l : List Int} (h : Ints w B A l) (hL : Lies f l n) {k : Nat} (hk : k < l.length) : ∃ b off, A = some ⟨b, off, none⟩ ∧ b < B ∧ w.cell? ⟨b, off + k, none⟩ = some (.int .i64 (nn l k : Nat)) := by
  obtain ⟨b, off, e, hb, hc⟩ := h.at_ hk
  rw [(hL.at_ k hk).1] at hc
  exact ⟨b, off, e, hb, hc⟩

set_option maxRecDepth 100000 in
set_option maxHeartbeats 1000000 in
theorem refroute_yes (A : Option Addr) (c : Nat) (f n : Nat) (l : List Int) (w : World) (hl : l.length ≤ 1000) (hi : Ints w w.heap.size A l) (hL : Lies f l n) :
    Calls Try.prog 20 #[.int .i64 (f : Int), .slice A l.length c, .int .i64 (n : Int)] w fun e w' => e = .returned (.tuple #[.int .i64 (goes f l n l.length : Nat), .int .i64 0]) ∧ Below w.heap.size w w' := by
  have hfit := fun W h => fits_any A c (f : Int) l (n : Int) W hl (hi.keep (fun p hp => (show Below w.heap.size w W from h).cell hp) |>.more h.size)
  rw [lies_fit hL] at hfit
  have Hfit := Lib.hid (hfit w (Below.refl _ _))
  have HI := Lib.hid hi
  have HL := Lib.hid hL
  clear hfit hi hL
  go_enter Try.func20, Try.ntmps20
  go_wp2_with fail
  refine (Hfit.out).mono ?_
  rintro e w1 ⟨rfl, hB1⟩
  go_wp2
  go_loopw [8, 9, 10] (fun t a i wr => ∃ k : Nat, k ≤ l.length ∧ i = .int .i64 k ∧ t = .int .i64 (goes f l n k : Nat) ∧ a = .int .i64 (stands f l k : Nat) ∧ Below w.heap.size w wr) (fun _ _ i _ => l.length - (intOf i).toNat)
  case atStart => exact ⟨0, Nat.zero_le _, rfl, rfl, rfl, hB1⟩
  case round =>
    obtain ⟨k, hk, rfl, rfl, rfl, hB⟩ := hrel
    rename World => wr
    by_cases hlt : k < l.length
    · have hlti : (k : Int) < (l.length : Int) := by omega
      have hk0 : (0 : Int) ≤ (k : Int) := by omega
      obtain ⟨b, off, rfl, hb, hc⟩ := HI.out.at_nn HL.out hlt
      have hc2 : ∀ W, Below w.heap.size w W → W.cell? ⟨b, off + k, none⟩ = some (.int .i64 (nn l k : Nat)) := fun W h => (h.cell hb).trans hc
      have Hc := Lib.hid hc2
      have hgl := HL.out.goes_le (Nat.le_of_lt hlt)
      have hfl := far_le (stands f l k) (nn l k) n (HL.out.stands_lt (by omega)) (HL.out.at_ k hlt).2 HL.out.lo HL.out.hi
      have Hs := Lib.hid (fun W => refstep_any (stands f l k) (nn l k) n (HL.out.stands_lt (by omega)) (HL.out.at_ k hlt).2 HL.out.lo HL.out.hi W)
      have hgs := goes_succ f l n k
      have hss := stands_succ f l k
      obtain ⟨g, hg⟩ : ∃ g, g = goes f l n k := ⟨_, rfl⟩
      obtain ⟨d, hd⟩ : ∃ d, d = far (stands f l k) (nn l k) n := ⟨_, rfl⟩
      obtain ⟨s, hs⟩ : ∃ s, s = stands f l k := ⟨_, rfl⟩
      obtain ⟨x, hx⟩ : ∃ x, x = nn l k := ⟨_, rfl⟩
      rw [← hg] at hgl hgs ⊢
      rw [← hd] at hfl hgs Hs
      rw [← hs] at Hs ⊢
      rw [← hx] at Hs Hc hss
      have hgi : (g : Int) ≤ 1100000 := by omega
      have hdi : (d : Int) ≤ 1100 := by omega
      have Hgs := Lib.hid hgs
      have Hss := Lib.hid hss
      have h1 := Hc.out wr hB
      clear hc hc2 hgs hss hg hd hs hx
      go_wp2_with fail
      refine (Hs.out _).mono ?_
      rintro e w3 ⟨rfl, hB3⟩
      have hB4 := hB.trans (hB3.mono hB.size)
      have h1 := Hc.out w3 hB4
      go_wp2
      go_roundw
      case rel => exact ⟨k + 1, by omega, by go_num, by rw [Hgs.out]; simp, by rw [Hss.out], hB4⟩
      case measure => simp [intOf]; omega
    · have hlti : ¬ (k : Int) < (l.length : Int) := by omega
      obtain rfl : k = l.length := by omega
      go_wp2
      go_ret2
      exact ⟨rfl, hB⟩

/-- what of refroute where blocks do not lie -/
theorem refroute_no (A : Option Addr) (c : Nat) (f p : Int) (l : List Int) (w : World) (hl : l.length ≤ 1000) (hi : Ints w w.heap.size A l) (hL : fitB f l p = false) :
    Calls Try.prog 20 #[.int .i64 f, .slice A l.length c, .int .i64 p] w fun e w' => e = .returned (.tuple #[.int .i64 0, .int .i64 2]) ∧ Below w.heap.size w w' := by
  have hfit := fits_any A c f l p w hl hi
  rw [hL] at hfit
  have Hfit := Lib.hid hfit
  clear hfit hi hL
  go_enter Try.func20, Try.ntmps20
  go_wp2_with fail
  refine (Hfit.out).mono ?_
  rintro e w1 ⟨rfl, hB1⟩
  go_wp2
  go_ret2
  exact ⟨rfl, hB1⟩

/-- how far the blocks are from one -/
def farFrom (f : Nat) (l : List Int) (n : Nat) (j : Nat) : Nat := far f (nn l j) n

set_option maxRecDepth 100000 in
set_option maxHeartbeats 1000000 in
theorem refnext_yes (A : Option Addr) (c : Nat) (f n : Nat) (l : List Int) (w : World) (hl : l.length ≤ 1000) (h1l : 1 ≤ l.length) (hi : Ints w w.heap.size A l) (hL : Lies f l n) :
    Calls Try.prog 22 #[.int .i64 (f : Int), .slice A l.length c, .int .i64 (n : Int)] w fun e w' => e = .returned (.tuple #[.int .i64 (bestOf (farFrom f l n) l.length : Nat), .bool true]) ∧ Below w.heap.size w w' := by
  have hfit := fits_any A c (f : Int) l (n : Int) w hl hi
  rw [lies_fit hL] at hfit
  have Hfit := Lib.hid hfit
  have HI := Lib.hid hi
  have HL := Lib.hid hL
  clear hfit hi hL
  have hl0 : (l.length == 0) = false := by rw [beq_eq_false_iff_ne]; omega
  have hl0' : ((l.length : Int) == 0) = false := by rw [beq_eq_false_iff_ne]; omega
  go_enter Try.func22, Try.ntmps22
  go_wp2_with fail
  refine (Hfit.out).mono ?_
  rintro e w1 ⟨rfl, hB1⟩
  go_wp2
  clear hl0 hl0'
  go_loopw [8, 9] (fun b i wr => ∃ k : Nat, 1 ≤ k ∧ k ≤ l.length ∧ i = .int .i64 k ∧ b = .int .i64 (bestOf (farFrom f l n) k : Nat) ∧ Below w.heap.size w wr) (fun _ i _ => l.length - (intOf i).toNat)
  case atStart => exact ⟨1, Nat.le_refl _, h1l, rfl, by rw [bestOf_one]; rfl, hB1⟩
  case round =>
    obtain ⟨k, h1k, hk, rfl, rfl, hB⟩ := hrel
    rename World => wr
    by_cases hlt : k < l.length
    · have hlti : (k : Int) < (l.length : Int) := by omega
      have hk0 : (0 : Int) ≤ (k : Int) := by omega
      obtain ⟨m, hm⟩ : ∃ m, m = bestOf (farFrom f l n) k := ⟨_, rfl⟩
      have hmk : m < k := by
        have := bestOf_lt (farFrom f l n) (k - 1)
        rw [show k - 1 + 1 = k from by omega, ← hm] at this
        exact this
      have hml : m < l.length := by omega
      have hmi : (m : Int) < (l.length : Int) := by omega
      have hm0 : (0 : Int) ≤ (m : Int) := by omega
      obtain ⟨b, off, rfl, hb, hc⟩ := HI.out.at_nn HL.out hlt
      obtain ⟨b2, off2, e2, hb2, hc2⟩ := HI.out.at_nn HL.out hml
      injection e2 with e2; injection e2 with e3 e4; subst e3; subst e4
      have hby := bestOf_yes (farFrom f l n) k h1k
      have hbn := bestOf_no (farFrom f l n) k h1k
      rw [← hm] at hby hbn ⊢
      have hf1 := far_le f (nn l k) n HL.out.from_ (HL.out.at_ k hlt).2 HL.out.lo HL.out.hi
      have hf2 := far_le f (nn l m) n HL.out.from_ (HL.out.at_ m hml).2 HL.out.lo HL.out.hi
      have Hs1 := Lib.hid (fun W => refstep_any f (nn l k) n HL.out.from_ (HL.out.at_ k hlt).2 HL.out.lo HL.out.hi W)
      have Hs2 := Lib.hid (fun W => refstep_any f (nn l m) n HL.out.from_ (HL.out.at_ m hml).2 HL.out.lo HL.out.hi W)
      obtain ⟨d1, hd1⟩ : ∃ d, d = far f (nn l k) n := ⟨_, rfl⟩
      obtain ⟨d2, hd2⟩ : ∃ d, d = far f (nn l m) n := ⟨_, rfl⟩
      have hq1 : farFrom f l n k = d1 := hd1.symm
      have hq2 : farFrom f l n m = d2 := hd2.symm
      rw [hq1, hq2] at hby hbn
      rw [← hd1] at hf1 Hs1
      rw [← hd2] at hf2 Hs2
      obtain ⟨x, hx⟩ : ∃ x, x = nn l k := ⟨_, rfl⟩
      obtain ⟨y, hy⟩ : ∃ y, y = nn l m := ⟨_, rfl⟩
      rw [← hx] at Hs1 hc
      rw [← hy] at Hs2 hc2
      have hcc : ∀ W, Below w.heap.size w W → W.cell? ⟨b, off + k, none⟩ = some (.int .i64 (x : Int)) ∧ W.cell? ⟨b, off + m, none⟩ = some (.int .i64 (y : Int)) := fun W h => ⟨(h.cell hb).trans hc, (h.cell hb).trans hc2⟩
      have Hc := Lib.hid hcc
      have Hby := Lib.hid hby
      have Hbn := Lib.hid hbn
      have hBd : Below w.heap.size w wr.drew := hB.drew
      have X2 := Lib.hid (Hc.out wr hB)
      clear hm hc hc2 hd1 hd2 hq1 hq2 hx hy hcc hby hbn
      go_wp2_with fail
      go_region_held3 (fun w' => w'.cell? ⟨b, off + k, none⟩ = some (.int .i64 (x : Int)) ∧ w'.cell? ⟨b, off + m, none⟩ = some (.int .i64 (y : Int)))
        (first | exact X2.out | exact X3.out | exact X4.out)
        (first
          | (go_at_call 50; (with_reducible refine (Hs1.out _).mono ?_); rintro e w3 ⟨rfl, hB3⟩; have hB13 := hBd.trans (hB3.mono hBd.size); have X3 := Lib.hid (Hc.out w3 hB13))
          | (go_at_call 50; (with_reducible refine (Hs2.out _).mono ?_); rintro e w4 ⟨rfl, hB4⟩; have hB14 := hB13.trans (hB4.mono hB13.size); have X4 := Lib.hid (Hc.out w4 hB14)))
      all_goals
        by_cases hdd : d1 < d2
        · have HE := Lib.hid (Hby.out hdd)
          go_wp2
          go_roundw
          case rel => exact ⟨k + 1, by omega, by omega, by go_num, by rw [HE.out], hB14⟩
          case measure => simp [intOf]; omega
        · have HE := Lib.hid (Hbn.out hdd)
          go_wp2
          go_roundw
          case rel => exact ⟨k + 1, by omega, by omega, by go_num, by rw [HE.out], hB14⟩
          case measure => simp [intOf]; omega
    · have hlti : ¬ (k : Int) < (l.length : Int) := by omega
      obtain rfl : k = l.length := by omega
      go_wp2
      go_ret2
      exact ⟨rfl, hB⟩

theorem refnext_none (A : Option Addr) (c : Nat) (f p : Int) (w : World) :
    Calls Try.prog 22 #[.int .i64 f, .slice A 0 c, .int .i64 p] w fun e w' => e = .returned (.tuple #[.int .i64 0, .bool false]) ∧ Below w.heap.size w w' := by
  go_enter Try.func22, Try.ntmps22
  go_wp2
  go_ret2
  exact ⟨rfl, Below.refl _ _⟩
theorem refnext_no (A : Option Addr) (c : Nat) (f p : Int) (l : List Int) (w : World) (hl : l.length ≤ 1000) (h1l : 1 ≤ l.length) (hi : Ints w w.heap.size A l) (hL : fitB f l p = false) :
    Calls Try.prog 22 #[.int .i64 f, .slice A l.length c, .int .i64 p] w fun e w' => e = .returned (.tuple #[.int .i64 0, .bool false]) ∧ Below w.heap.size w w' := by
  have hfit := fits_any A c f l p w hl hi
  rw [hL] at hfit
  have Hfit := Lib.hid hfit
  clear hfit hi hL
  have hl0 : (l.length == 0) = false := by rw [beq_eq_false_iff_ne]; omega
  have hl0' : ((l.length : Int) == 0) = false := by rw [beq_eq_false_iff_ne]; omega
  go_enter Try.func22, Try.ntmps22
  go_wp2_with fail
  refine (Hfit.out).mono ?_
  rintro e w1 ⟨rfl, hB1⟩
  go_wp2
  go_ret2
  exact ⟨rfl, hB1⟩
end Go.Proofs.Ytceppcmcokkkoaa
