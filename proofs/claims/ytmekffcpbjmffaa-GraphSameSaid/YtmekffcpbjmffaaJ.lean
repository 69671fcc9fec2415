/- How deep a number is; contract of Depth. -/
import Derived.Test.YtmekffcpbjmffaaI
import Derived.RegionTactic
import Derived.ChangeAlike
import Derived.BigRegion
namespace Go.Proofs.Ytmekffcpbjmffaa
open Go.RowKit

def maxL (c : Nat → Nat) (l : List Nat) : Nat := l.foldl (fun a d => max a (c d)) 0
theorem maxL_snoc (c : Nat → Nat) (l : List Nat) (x : Nat) : maxL c (l ++ [x]) = max (maxL c l) (c x) := by simp [maxL]
theorem foldl_max_ge (c : Nat → Nat) (l : List Nat) : ∀ a, a ≤ l.foldl (fun a d => max a (c d)) a := by
  induction l with
  | nil => intro a; exact Nat.le_refl _
  | cons x l ih => intro a; exact Nat.le_trans (Nat.le_max_left _ _) (ih _)
theorem foldl_max_mem (c : Nat → Nat) (l : List Nat) : ∀ a, ∀ d ∈ l, c d ≤ l.foldl (fun a d => max a (c d)) a := by
  induction l with
  | nil => intro a d h; cases h
  | cons x l ih =>
    intro a d h
    rcases List.mem_cons.1 h with rfl | h
    · exact Nat.le_trans (Nat.le_max_right _ _) (foldl_max_ge c l _)
    · exact ih _ d h
theorem foldl_max_le (c : Nat → Nat) (l : List Nat) (K : Nat) (h : ∀ d ∈ l, c d ≤ K) : ∀ a, a ≤ K → l.foldl (fun a d => max a (c d)) a ≤ K := by
  induction l with
  | nil => intro a ha; exact ha
  | cons x l ih => intro a ha; exact ih (fun d hd => h d (List.mem_cons_of_mem _ hd)) _ (Nat.max_le.2 ⟨ha, h x (by simp)⟩)
theorem maxL_mem (c : Nat → Nat) (l : List Nat) : ∀ d ∈ l, c d ≤ maxL c l := foldl_max_mem c l 0
theorem maxL_le (c : Nat → Nat) (l : List Nat) (K : Nat) (h : ∀ d ∈ l, c d ≤ K) : maxL c l ≤ K := foldl_max_le c l K h 0 (Nat.zero_le _)
theorem maxL_congr {c c' : Nat → Nat} {l : List Nat} (h : ∀ d ∈ l, c d = c' d) : maxL c l = maxL c' l := by
  refine Nat.le_antisymm (maxL_le c l _ fun d hd => ?_) (maxL_le c' l _ fun d hd => ?_)
  · rw [h d hd]; exact maxL_mem c' l d hd
  · rw [← h d hd]; exact maxL_mem c l d hd
/-- the depths of the numbers below k; of all others 0 -/
def depT (D : List (List Nat)) : Nat → Nat → Nat
  | 0 => fun _ => 0
  | k + 1 => fun n => if n = k then maxL (depT D k) (rowN D k) + 1 else depT D k n
theorem depT_high (D : List (List Nat)) (k : Nat) : ∀ n, k ≤ n → depT D k n = 0 := by
  induction k with
  | zero => intros; rfl
  | succ k ih => intro n h; simp only [depT]; rw [if_neg (by omega)]; exact ih n (by omega)
theorem depT_le (D : List (List Nat)) (k : Nat) : ∀ n, depT D k n ≤ k := by
  induction k with
  | zero => intro n; exact Nat.le_refl _
  | succ k ih =>
    intro n
    simp only [depT]
    split
    · have := maxL_le (depT D k) (rowN D k) k (fun d _ => ih d); omega
    · exact Nat.le_trans (ih n) (by omega)
def depN (D : List (List Nat)) (n : Nat) : Nat := depT D (n + 1) n
theorem depT_low (D : List (List Nat)) (k n : Nat) (h : n < k) : depT D k n = depN D n := by
  induction k with
  | zero => omega
  | succ k ih =>
    by_cases e : n = k
    · subst e; rfl
    · simp only [depT]; rw [if_neg e]; exact ih (by omega)
theorem depN_eq {D : List (List Nat)} (hD : ∀ n, ∀ d ∈ rowN D n, d < n) (n : Nat) : depN D n = maxL (depN D) (rowN D n) + 1 := by
  show depT D (n + 1) n = _
  simp only [depT, if_true]
  rw [maxL_congr (fun d hd => depT_low D n d (hD n d hd))]

/-- numbers as values -/
def natsM (f : Nat → Nat) : List Value := (List.range 256).map fun n => .int .i64 ((f n : Nat) : Int)
theorem length_natsM (f : Nat → Nat) : (natsM f).length = 256 := by simp [natsM]
theorem natsM_at (f : Nat → Nat) {x : Nat} (h : x < 256) : (natsM f)[x]? = some (.int .i64 ((f x : Nat) : Int)) := by
  rw [List.getElem?_eq_getElem (by rw [length_natsM]; exact h)]
  simp [natsM]
theorem natsM_set (f : Nat → Nat) (x v : Nat) : (natsM f).set x (.int .i64 (v : Int)) = natsM fun y => if y = x then v else f y := by
  apply List.ext_getElem
  · simp [natsM]
  · intro i h1 h2
    rw [List.getElem_set]
    by_cases e : x = i
    · subst e; simp [natsM]
    · rw [if_neg e]
      simp [natsM, Ne.symm e]
def zero60 : Array Value := (List.replicate 256 (Value.int .i64 0)).toArray
theorem info60 : (Try.prog.info? 60).map (fun i => (i.zero, i.size)) = some (some (.agg zero60), 256) := by kernel_rfl
theorem natsM_zero : natsM (fun _ => 0) = zero60.toList := by
  have h : ∀ n, (List.range n).map (fun _ => Value.int .i64 ((0 : Nat) : Int)) = List.replicate n (Value.int .i64 0) := by
    intro n
    apply List.ext_getElem
    · simp
    · intro i h1 h2; simp
  unfold natsM zero60
  exact h 256
def Nats (w : World) (g : Nat) (f : Nat → Nat) : Prop := BlkIs w g 60 (natsM f)
theorem Nats.set_ {w : World} {g : Nat} {f : Nat → Nat} (h : Nats w g f) (x v : Nat) : Nats (w.setCell ⟨g, x, none⟩ (.int .i64 (v : Int))) g (fun y => if y = x then v else f y) := by
  have := BlkIs.set_ h x (.int .i64 (v : Int)); rw [natsM_set] at this; exact this
theorem Nats.cell {w : World} {g : Nat} {f : Nat → Nat} (h : Nats w g f) {x : Nat} (hx : x < 256) : w.cell? ⟨g, x, none⟩ = some (.int .i64 ((f x : Nat) : Int)) := by
  rw [BlkIs.cell h, natsM_at f hx]

/-- row by row: the depths while row k is read to its j-th number -/
def depJ (D : List (List Nat)) (k j : Nat) : Nat → Nat := fun n => if n = k then maxL (depT D k) ((rowN D k).take j) else depT D k n
theorem depJ_zero (D : List (List Nat)) (k : Nat) : depJ D k 0 = depT D k := by
  funext n
  unfold depJ
  split
  · rename_i e; subst e; rw [List.take_zero, depT_high D n n (Nat.le_refl _)]; rfl
  · rfl
theorem depJ_done (D : List (List Nat)) (k : Nat) : (fun n => if n = k then depJ D k (rowN D k).length k + 1 else depJ D k (rowN D k).length n) = depT D (k + 1) := by
  funext n
  simp only [depT, depJ, if_true, List.take_length]
  split
  · rfl
  · rfl
theorem depJ_le (D : List (List Nat)) (k j n : Nat) : depJ D k j n ≤ k := by
  unfold depJ
  split
  · exact maxL_le _ _ _ fun d _ => depT_le D k d
  · exact depT_le D k n
theorem depJ_succ {D : List (List Nat)} (hD : ∀ n, ∀ d ∈ rowN D n, d < n) (k j : Nat) (hj : j < (rowN D k).length) :
    (fun n => if n = k then max (depJ D k j k) (depJ D k j (el (rowN D k) j)) else depJ D k j n) = depJ D k (j + 1) := by
  have hx : el (rowN D k) j < k := hD k _ (by rw [el_lt hj]; exact List.getElem_mem _)
  funext n
  unfold depJ
  split
  · rw [if_pos rfl, if_neg (by omega), take_el _ _ hj, maxL_snoc]
  · rfl

/-- Depth -/
def depthI (D : List (List Nat)) (a : Int) : Int := if isN D a then (depN D a.toNat : Nat) else 0

set_option maxRecDepth 100000 in
set_option maxHeartbeats 1000000 in
theorem depth_out (A : Option Addr) (c k : Nat) (R : List (List Int)) (hk : k = R.length) (hok : okB R = false) (a : Int) (w : World) (hl : R.length ≤ 1000) (hr : ∀ k, k < R.length → (rowI R k).length ≤ 1000) (hM : Mat w w.heap.size A R) :
    Calls Try.prog 29 #[.slice A k c, .int .i64 a] w fun e w' => e = .returned (.int .i64 0) ∧ w = w' := by
  have H := Lib.hid (right_no A c k R hk hok w hl hr hM)
  clear hk hok hr hM
  go_enter Try.func29, Try.ntmps29
  go_wp2_with (go_at_call 16; refine H.out.mono ?_; rintro e w' ⟨rfl, rfl⟩)
  go_ret
  exact ⟨rfl, rfl⟩

set_option maxRecDepth 100000 in
set_option maxHeartbeats 1000000 in
theorem depth_yes (A : Option Addr) (c kD : Nat) (D : List (List Nat)) (hkD : kD = D.length) (hD : OkD D) (a : Int) (w : World)
    (hM : Mat w w.heap.size A (rowsI D)) :
    Calls Try.prog 29 #[.slice A kD c, .int .i64 a] w fun e w' => e = .returned (.int .i64 (depthI D a)) ∧ Below w.heap.size w w' := by
  have HR := Lib.hid (right_yes A c kD D hkD hD w hM)
  have HkD := Lib.hid hkD
  cases ha : isN D a with
  | false =>
    have Hf : Hid (depthI D a = 0) := by show _ = _; simp [depthI, ha]
    have Ha := Lib.hid ha
    clear ha hM hkD
    go_enter Try.func29, Try.ntmps29
    go_wp2_with (first | (go_at_call 16; refine HR.out.mono ?_; rintro e w' ⟨rfl, rfl⟩) | (go_at_call 38; ((with_reducible refine (there_is A c kD D HkD.out a false Ha.out _).mono ?_); rintro e w' ⟨rfl, rfl⟩)))
    go_ret
    exact ⟨ret_int Hf.out.symm, Below.refl _ _⟩
  | true =>
    have Hf : Hid (depthI D a = (depN D a.toNat : Nat)) := by show _ = _; simp [depthI, ha]
    have Ha := Lib.hid ha
    simp only [isN, Bool.and_eq_true, decide_eq_true_eq] at ha
    obtain ⟨x, hx⟩ : ∃ x : Nat, a = x := ⟨a.toNat, by omega⟩
    subst hx
    have hxD : x < D.length := by omega
    have hx256 : x < 256 := by have := hD.right.1; omega
    have hD256 := hD.right.1
    have hxi : (x : Int) < 256 := by omega
    have hx0 : (0 : Int) ≤ (x : Int) := by omega
    rw [Int.toNat_natCast] at Hf
    obtain ⟨hz, hs⟩ := zero_of_info (P := Try.prog) info60
    obtain ⟨Z, hZ⟩ : ∃ Z, Z = zero60 := ⟨_, rfl⟩
    rw [← hZ] at hz
    have HZ := Lib.hid hZ
    have HM := Lib.hid hM
    have HDo := Lib.hid hD
    clear hZ hs ha hM hkD hD
    go_enter Try.func29, Try.ntmps29
    go_wp2_with (first | (go_at_call 16; refine HR.out.mono ?_; rintro e w' ⟨rfl, rfl⟩) | (go_at_call 38; ((with_reducible refine (there_is A c kD D HkD.out (x : Int) true Ha.out _).mono ?_); rintro e w' ⟨rfl, rfl⟩)))
    go_loopw [20] (fun i wr => ∃ k : Nat, k ≤ x + 1 ∧ i = .int .i64 k ∧ Nats wr w.heap.size (depT D k) ∧ Below w.heap.size w wr) (fun i _ => x + 1 - (intOf i).toNat)
    case atStart =>
      refine ⟨0, Nat.zero_le _, rfl, ?_, (Below.refl _ _).alloc (Nat.le_refl _) _⟩
      have := BlkIs.new w 60 Z
      rw [HZ.out, ← natsM_zero] at this
      rw [HZ.out]
      exact this
    case round =>
      obtain ⟨k, hk, rfl, hN, hB⟩ := hrel
      rename World => wr
      by_cases hlt : k < x + 1
      · have hlti : (k : Int) < (x : Int) + 1 := by omega
        have hk0 : (0 : Int) ≤ (k : Int) := by omega
        have hkD : k < D.length := by omega
        have hkn : (k : Int) < (kD : Int) := by rw [HkD.out]; omega
        have hk256 : (k : Int) < 256 := by omega
        obtain ⟨b, off, Ak, ck, rfl, hb, hcw, hI⟩ := HM.out.at_ (k := k) (by rw [length_rowsI]; exact hkD)
        have hc := (Below.cell hB (p := ⟨b, off + k, none⟩) hb).trans hcw
        clear hcw
        rw [rowI_rowsI, length_natsI] at hc
        rw [rowI_rowsI] at hI
        have hrl := HDo.out.len k
        have hrm := fun d => HDo.out.right.2 k d
        have HJs := Lib.hid (@depJ_succ D HDo.out.right.2 k)
        have HJd := Lib.hid (depJ_done D k)
        have HJz := Lib.hid (depJ_zero D k)
        have HJl := Lib.hid (depJ_le D k)
        obtain ⟨row, hrow⟩ : ∃ row, row = rowN D k := ⟨_, rfl⟩
        rw [← hrow] at hc hI hrl hrm HJs HJd
        have HI := Lib.hid hI
        have Hrm := Lib.hid hrm
        rw [← HJz.out] at hN
        have HN := Lib.hid hN
        have HB := Lib.hid hB
        clear hI hrm hN hB hrow HJz
        go_wp2_with fail
        go_loopw [28] (fun i w2 => ∃ j : Nat, j ≤ row.length ∧ i = .int .i64 j ∧ Nats w2 w.heap.size (depJ D k j) ∧ Below w.heap.size w w2) (fun i _ => row.length - (intOf i).toNat)
        case atStart => exact ⟨0, Nat.zero_le _, rfl, HN.out, HB.out⟩
        case round =>
          obtain ⟨j, hj, rfl, hN2, hB2⟩ := hrel
          rename World => w2
          by_cases hltj : j < row.length
          · have hltji : (j : Int) < (row.length : Int) := by omega
            have hj0 : (0 : Int) ≤ (j : Int) := by omega
            obtain ⟨bj, oj, rfl, hbj, hcj⟩ := (HI.out).at_ (k := j) (by rw [length_natsI]; exact hltj)
            rw [nth_nats row j hltj] at hcj
            have hdk := Hrm.out (el row j) (by rw [el_lt hltj]; exact List.getElem_mem _)
            have hjs := HJs.out j hltj
            have hlk := HJl.out j k
            have hld := HJl.out j (el row j)
            have hc2 := (Below.cell hB2 (p := ⟨bj, oj + j, none⟩) hbj).trans hcj
            obtain ⟨d, hd⟩ : ∃ d, d = el row j := ⟨_, rfl⟩
            rw [← hd] at hc2 hdk hjs hld
            have hcell1 := hN2.cell (x := k) (by omega)
            have hcell2 := hN2.cell (x := d) (by omega)
            have hfr := BlkIs.frozen hN2 k
            obtain ⟨pv, hpv⟩ : ∃ pv, pv = depJ D k j k := ⟨_, rfl⟩
            obtain ⟨qv, hqv⟩ : ∃ qv, qv = depJ D k j d := ⟨_, rfl⟩
            rw [← hpv] at hcell1 hjs hlk
            rw [← hqv] at hcell2 hjs hld
            have Hjs := Lib.hid hjs
            have HN2 := Lib.hid hN2
            have HB2 := Lib.hid hB2
            have hdi : (d : Int) < 256 := by omega
            have hd0 : (0 : Int) ≤ (d : Int) := by omega
            clear hjs hN2 hB2 hd hpv hqv hcj
            by_cases hpq : pv < qv
            · have Hm : Hid (max pv qv = qv) := by show _ = _; omega
              go_wp2_with fail
              go_region
              go_wp2_with fail
              go_roundw
              case rel =>
                refine ⟨j + 1, by omega, by go_num, ?_, (HB2.out.setCell (p := ⟨w.heap.size, k, none⟩) (Nat.le_refl _) (.int .i64 (qv : Int))).drew⟩
                have := HN2.out.set_ k (max pv qv)
                rw [Hjs.out, Hm.out] at this
                exact this
              case measure => simp [intOf]; omega
            · have Hm : Hid (max pv qv = pv) := by show _ = _; omega
              go_wp2_with fail
              go_region
              go_wp2_with fail
              go_roundw
              case rel =>
                refine ⟨j + 1, by omega, by go_num, ?_, (HB2.out.setCell (p := ⟨w.heap.size, k, none⟩) (Nat.le_refl _) (.int .i64 (pv : Int))).drew⟩
                have := HN2.out.set_ k (max pv qv)
                rw [Hjs.out, Hm.out] at this
                exact this
              case measure => simp [intOf]; omega
          · obtain rfl : j = row.length := by omega
            have hcell := hN2.cell (x := k) (by omega)
            have hfr := BlkIs.frozen hN2 k
            have hle := HJl.out row.length k
            have HN2 := Lib.hid hN2
            have HB2 := Lib.hid hB2
            obtain ⟨dv, hdv⟩ : ∃ dv, dv = depJ D k row.length k := ⟨_, rfl⟩
            rw [← hdv] at hcell hle
            have Hdv := Lib.hid hdv
            clear hN2 hB2 hdv
            go_wp2_with fail
            go_roundw
            case rel =>
              refine ⟨k + 1, by omega, by go_num, ?_, HB2.out.setCell (p := ⟨w.heap.size, k, none⟩) (Nat.le_refl _) _⟩
              have := HN2.out.set_ k (dv + 1)
              rw [Hdv.out, HJd.out] at this
              rw [Hdv.out]
              exact this
            case measure => simp [intOf]; omega
      · have hlti : ¬ (k : Int) < (x : Int) + 1 := by omega
        obtain rfl : k = x + 1 := by omega
        have hcell := hN.cell (x := x) (by omega)
        have Hv := Lib.hid (depT_low D (x + 1) x (by omega))
        obtain ⟨dv, hdv⟩ : ∃ dv, dv = depT D (x + 1) x := ⟨_, rfl⟩
        rw [← hdv] at hcell Hv
        clear hdv hN
        go_wp2_with fail
        go_ret
        exact ⟨ret_int (by rw [Hf.out, Hv.out]), hB⟩
end Go.Proofs.Ytmekffcpbjmffaa
