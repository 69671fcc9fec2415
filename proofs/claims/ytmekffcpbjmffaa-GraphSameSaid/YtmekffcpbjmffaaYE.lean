/- Contract of the document's Depth. -/
import Derived.Test.YtmekffcpbjmffaaT
namespace Go.Proofs.Ytmekffcpbjmffaa
open Go.RowKit

def natsN (n : Nat) (f : Nat → Nat) : List Value := (List.range n).map fun x => .int .i64 ((f x : Nat) : Int)
theorem length_natsN (n : Nat) (f : Nat → Nat) : (natsN n f).length = n := by simp [natsN]
theorem natsN_at (n : Nat) (f : Nat → Nat) {x : Nat} (h : x < n) : (natsN n f)[x]? = some (.int .i64 ((f x : Nat) : Int)) := by
  rw [List.getElem?_eq_getElem (by rw [length_natsN]; exact h)]
  simp [natsN]
theorem natsN_set (n : Nat) (f : Nat → Nat) (x v : Nat) : (natsN n f).set x (.int .i64 (v : Int)) = natsN n fun y => if y = x then v else f y := by
  apply List.ext_getElem
  · simp [natsN]
  · intro i h1 h2
    rw [List.getElem_set]
    by_cases e : x = i
    · subst e; simp [natsN]
    · rw [if_neg e]
      simp [natsN, Ne.symm e]
def NatsN (w : World) (g n : Nat) (f : Nat → Nat) : Prop := BlkIs w g 3 (natsN n f)
theorem NatsN.set_ {w : World} {g n : Nat} {f : Nat → Nat} (h : NatsN w g n f) (x v : Nat) : NatsN (w.setCell ⟨g, x, none⟩ (.int .i64 (v : Int))) g n (fun y => if y = x then v else f y) := by
  have := BlkIs.set_ h x (.int .i64 (v : Int)); rw [natsN_set] at this; exact this
theorem NatsN.cell {w : World} {g n : Nat} {f : Nat → Nat} (h : NatsN w g n f) {x : Nat} (hx : x < n) : w.cell? ⟨g, x, none⟩ = some (.int .i64 ((f x : Nat) : Int)) := by
  rw [BlkIs.cell h, natsN_at n f hx]
theorem NatsN.drew {w : World} {g n : Nat} {f : Nat → Nat} (h : NatsN w g n f) : NatsN w.drew g n f := h
theorem made_ints (n : Nat) : (madeCells #[Value.int .i64 0] n).toList = natsN n (fun _ => 0) := by
  apply List.ext_getElem
  · simp [size_madeCells, natsN]
  · intro i h1 h2; simp [madeCells, natsN, Nat.mod_one]
theorem make_ints (n : Nat) (hn : n ≤ 256) : ∃ M : Array Value, M.toList = natsN n (fun _ => 0) ∧ ∀ W : World, (Instr.makeSlice 23 (.int .i64 (n : Int)) (.int .i64 (n : Int))).run Try.prog W = .ok (.slice (some ⟨W.heap.size, 0, none⟩) n n) (W.alloc (.cells M 3)) := by
  obtain ⟨i0, hi0, hz0, hz1, hz2⟩ := info_parts info3
  refine ⟨madeCells #[Value.int .i64 0] n, made_ints n, fun W => ?_⟩
  have := run_makeSlice (P := Try.prog) W 23 3 i0 (.int .i64 0) Try.underlying23 hi0 hz0 .i64 .i64 n n (by omega) (Int.le_refl _) (by rw [hz1]; omega) (by rw [hz2]; omega) (by omega)
  rw [hz1] at this
  simpa [Value.cells] using this
theorem NatsN.made (W : World) (n : Nat) (M : Array Value) (h : M.toList = natsN n (fun _ => 0)) : NatsN (W.alloc (.cells M 3)) W.heap.size n (fun _ => 0) := by
  have := BlkIs.new W 3 M
  rw [h] at this
  exact this

set_option maxRecDepth 100000 in
set_option maxHeartbeats 1000000 in
theorem refdepth_no (A : Option Addr) (c k : Nat) (R : List (List Int)) (hk : k = R.length) (hok : okB R = false) (a : Int) (w : World) (hl : R.length ≤ 1000) (hr : ∀ k, k < R.length → (rowI R k).length ≤ 1000) (hM : Mat w w.heap.size A R) :
    Calls Try.prog 30 #[.slice A k c, .int .i64 a] w fun e w' => e = .returned (.int .i64 0) ∧ w = w' := by
  have H := Lib.hid (refright_no A c k R hk hok w hl hr hM)
  clear hk hok hr hM
  go_enter Try.func30, Try.ntmps30
  go_wp2_with (go_at_call 17; refine H.out.mono ?_; rintro e w' ⟨rfl, rfl⟩)
  go_ret
  exact ⟨rfl, rfl⟩

set_option maxRecDepth 100000 in
set_option maxHeartbeats 2000000 in
theorem refdepth_yes (A : Option Addr) (c kD : Nat) (D : List (List Nat)) (hkD : kD = D.length) (hD : OkD D) (a : Int) (w : World)
    (hM : Mat w w.heap.size A (rowsI D)) :
    Calls Try.prog 30 #[.slice A kD c, .int .i64 a] w fun e w' => e = .returned (.int .i64 (depthI D a)) ∧ Below w.heap.size w w' := by
  subst hkD
  have HR := Lib.hid (refright_yes A c D.length D rfl hD w hM)
  have hD256 := hD.right.1
  by_cases ha0 : 0 ≤ a
  · by_cases haD : a < (D.length : Int)
    · obtain ⟨x, rfl⟩ := Int.eq_ofNat_of_zero_le ha0
      have hxD : x < D.length := by omega
      have Hf : Hid (depthI D (x : Int) = (depN D x : Nat)) := by
        have : isN D (x : Int) = true := by unfold isN; simp; exact hxD
        unfold Hid depthI; rw [this]; simp
      obtain ⟨M, hMl, hmk⟩ := make_ints D.length hD256
      have HMl := Lib.hid hMl
      have HM := Lib.hid hM
      have HDo := Lib.hid hD
      clear hMl hM hD
      go_enter Try.func30, Try.ntmps30
      go_wp2_with (go_at_call 17; refine HR.out.mono ?_; rintro e w' ⟨rfl, rfl⟩)
      clear hmk
      go_loopw [6] (fun i wr => ∃ k : Nat, k ≤ D.length ∧ i = .int .i64 k ∧ NatsN wr w.heap.size D.length (depT D k) ∧ Below w.heap.size w wr) (fun i _ => D.length - (intOf i).toNat)
      case atStart => exact ⟨0, Nat.zero_le _, rfl, NatsN.made w _ M HMl.out, (Below.refl _ _).alloc (Nat.le_refl _) _⟩
      case round =>
        obtain ⟨k, hk, rfl, hN, hB⟩ := hrel
        rename World => wr
        by_cases hlt : k < D.length
        · have hlti : (k : Int) < (D.length : Int) := by omega
          have hk0 : (0 : Int) ≤ (k : Int) := by omega
          obtain ⟨b, off, Ak, ck, rfl, hb, hcw, hI⟩ := HM.out.at_ (k := k) (by rw [length_rowsI]; exact hlt)
          rw [rowI_rowsI, length_natsI] at hcw
          rw [rowI_rowsI] at hI
          have hrl := HDo.out.len k
          have hrm := fun d => HDo.out.right.2 k d
          have HJs := Lib.hid (@depJ_succ D HDo.out.right.2 k)
          have HJd := Lib.hid (depJ_done D k)
          have HJz := Lib.hid (depJ_zero D k)
          have HJl := Lib.hid (depJ_le D k)
          obtain ⟨row, hrow⟩ : ∃ row, row = rowN D k := ⟨_, rfl⟩
          rw [← hrow] at hcw hI hrl hrm HJs HJd
          have Hcw : Hid (∀ W', Below w.heap.size w W' → W'.cell? ⟨b, off + k, none⟩ = some (.slice Ak row.length ck)) := fun W' hb' => (Below.cell hb' (p := ⟨b, off + k, none⟩) hb).trans hcw
          have HI := Lib.hid hI
          have Hrm := Lib.hid hrm
          rw [← HJz.out] at hN
          have HN := Lib.hid hN
          have HB := Lib.hid hB
          clear hI hrm hN hB hrow HJz hcw hb
          go_wp2_with fail
          go_loopw [7] (fun i w2 => ∃ j : Nat, j ≤ row.length ∧ i = .int .i64 j ∧ NatsN w2 w.heap.size D.length (depJ D k j) ∧ Below w.heap.size w w2) (fun i _ => row.length - (intOf i).toNat)
          case atStart => exact ⟨0, Nat.zero_le _, rfl, HN.out, HB.out⟩
          case round =>
            obtain ⟨j, hj, rfl, hN2, hB2⟩ := hrel
            rename World => w2
            have hc := Hcw.out w2 hB2
            by_cases hltj : j < row.length
            · have hltji : (j : Int) < (row.length : Int) := by omega
              have hj0 : (0 : Int) ≤ (j : Int) := by omega
              obtain ⟨bj, oj, rfl, hbj, hcj⟩ := (HI.out).at_ (k := j) (by rw [length_natsI]; exact hltj)
              rw [nth_nats row j hltj] at hcj
              have hdk := Hrm.out (el row j) (by rw [el_lt hltj]; exact List.getElem_mem _)
              have hjs := HJs.out j hltj
              have hlk := HJl.out j k
              have hld := HJl.out j (el row j)
              have hc2 := (Below.cell hB2 (p := ⟨bj, oj + j, none⟩) hbj).trans hcj
              obtain ⟨d, hd⟩ : ∃ d, d = el row j := ⟨_, rfl⟩
              rw [← hd] at hc2 hdk hjs hld
              have hcell1 := hN2.cell (x := k) (by omega)
              have hcell2 := hN2.cell (x := d) (by omega)
              have hfr := BlkIs.frozen hN2 k
              obtain ⟨pv, hpv⟩ : ∃ pv, pv = depJ D k j k := ⟨_, rfl⟩
              obtain ⟨qv, hqv⟩ : ∃ qv, qv = depJ D k j d := ⟨_, rfl⟩
              rw [← hpv] at hcell1 hjs hlk
              have Hpv := Lib.hid hpv
              rw [← hqv] at hcell2 hjs hld
              have Hjs := Lib.hid hjs
              have HN2 := Lib.hid hN2
              have HB2 := Lib.hid hB2
              have hdi : (d : Int) < (D.length : Int) := by omega
              have hd0 : (0 : Int) ≤ (d : Int) := by omega
              clear hjs hN2 hB2 hd hpv hqv hcj
              by_cases hpq : pv < qv
              · have hpqi : (pv : Int) < (qv : Int) := by omega
                have Hm : Hid (max pv qv = qv) := by show _ = _; omega
                go_wp2_with fail
                go_region
                go_wp2_with fail
                go_roundw
                case rel =>
                  refine ⟨j + 1, by omega, by go_num, ?_, (HB2.out.drew).setCell (p := ⟨w.heap.size, k, none⟩) (Nat.le_refl _) (.int .i64 (qv : Int))⟩
                  have := (HN2.out.drew).set_ k (max pv qv)
                  rw [Hjs.out, Hm.out] at this
                  exact this
                case measure => simp [intOf]; omega
              · skip
                have Hm : Hid (max pv qv = pv) := by show _ = _; omega
                have Hsame : Hid (depJ D k j = depJ D k (j + 1)) := by
                  have h := Hjs.out
                  rw [Hm.out] at h
                  unfold Hid
                  rw [← h]
                  funext n
                  by_cases e : n = k
                  · rw [if_pos e, e]; exact Hpv.out.symm
                  · rw [if_neg e]
                go_wp2_with fail
                go_region
                go_wp2_with fail
                go_roundw
                case rel =>
                  refine ⟨j + 1, by omega, by go_num, ?_, HB2.out.drew⟩
                  rw [← Hsame.out]
                  exact HN2.out.drew
                case measure => simp [intOf]; omega
            · obtain rfl : j = row.length := by omega
              have hcell := hN2.cell (x := k) (by omega)
              have hfr := BlkIs.frozen hN2 k
              have hle := HJl.out row.length k
              have HN2 := Lib.hid hN2
              have HB2 := Lib.hid hB2
              obtain ⟨dv, hdv⟩ : ∃ dv, dv = depJ D k row.length k := ⟨_, rfl⟩
              rw [← hdv] at hcell hle
              have Hdv := Lib.hid hdv
              clear hN2 hB2 hdv
              go_wp2_with fail
              go_roundw
              case rel =>
                refine ⟨k + 1, by omega, by go_num, ?_, HB2.out.setCell (p := ⟨w.heap.size, k, none⟩) (Nat.le_refl _) _⟩
                have := HN2.out.set_ k (dv + 1)
                rw [Hdv.out, HJd.out] at this
                rw [Hdv.out]
                exact this
              case measure => simp [intOf]; omega
        · obtain rfl : k = D.length := by omega
          have hcell := hN.cell (x := x) (by omega)
          have Hv := Lib.hid (depT_low D D.length x hxD)
          obtain ⟨dv, hdv⟩ : ∃ dv, dv = depT D D.length x := ⟨_, rfl⟩
          rw [← hdv] at hcell Hv
          clear hdv hN
          go_wp2_with fail
          go_ret
          exact ⟨ret_int (by rw [Hf.out, Hv.out]), hB⟩
    · have Hf : Hid (depthI D a = 0) := by
        have : isN D a = false := by unfold isN; simp; omega
        unfold Hid depthI; rw [this]; rfl
      clear hM hD
      go_enter Try.func30, Try.ntmps30
      go_wp2_with (go_at_call 17; refine HR.out.mono ?_; rintro e w' ⟨rfl, rfl⟩)
      go_ret
      exact ⟨ret_int Hf.out.symm, Below.refl _ _⟩
  · have Hf : Hid (depthI D a = 0) := by
      have : isN D a = false := by unfold isN; simp; omega
      unfold Hid depthI; rw [this]; rfl
    clear hM hD
    go_enter Try.func30, Try.ntmps30
    go_wp2_with (go_at_call 17; refine HR.out.mono ?_; rintro e w' ⟨rfl, rfl⟩)
    go_ret
    exact ⟨ret_int Hf.out.symm, Below.refl _ _⟩
end Go.Proofs.Ytmekffcpbjmffaa
