/- The contract of the program's 'Load'. -/
import Derived.Test.YtieeibdhaoaeaaaWDiskPlays
set_option linter.unusedVariables false
set_option linter.unusedSimpArgs false
namespace Go.Proofs.Ytieeibdhaoaeaaa
open Go.RowKit

/-- sectors of some bytes, one behind the other -/
def flatU (zs : List Int) : List Int := zs.flatMap uniS
theorem flatU_len (zs : List Int) : (flatU zs).length = zs.length * 32 := by
  induction zs with
  | nil => rfl
  | cons z zs ih => unfold flatU at ih ⊢; rw [List.flatMap_cons, List.length_append, ih, List.length_cons, uniS, List.length_replicate]; omega
theorem flatU_all {zs : List Int} (h : ∀ z ∈ zs, 0 ≤ z ∧ z ≤ 255) : AllB (flatU zs) := by
  intro x hx
  obtain ⟨z, hz, hx⟩ := List.mem_flatMap.1 hx
  exact (uniS_ok (h z hz)).2 x hx
theorem nth_flatU (zs : List Int) {j k : Nat} (hj : j < zs.length) (hk : k < 32) : nth (flatU zs) (j * 32 + k) = zs.getD j 0 := by
  induction zs generalizing j with
  | nil => simp at hj
  | cons z zs ih =>
    have e : flatU (z :: zs) = uniS z ++ flatU zs := by unfold flatU; rw [List.flatMap_cons]
    have hl : (uniS z).length = 32 := List.length_replicate
    rw [e]
    unfold nth
    cases j with
    | zero =>
      rw [List.getD_eq_getElem?_getD, List.getElem?_append_left (by omega), Nat.zero_mul, Nat.zero_add, uniS, List.getElem?_replicate, if_pos hk]; rfl
    | succ j =>
      have hj' : j < zs.length := by simpa using hj
      rw [List.getD_eq_getElem?_getD, List.getElem?_append_right (by omega), hl, show (j + 1) * 32 + k - 32 = j * 32 + k by omega]
      have := ih hj'
      unfold nth at this
      rw [List.getD_eq_getElem?_getD] at this
      rw [this]; simp
def loadS (zs : List Int) : Nat → Bk := fun j => ⟨uniS (zs.getD j 0), [], false⟩
theorem sec_load {zs : List Int} (h1 : zs.length ≤ 96) {j : Nat} (hj : j < zs.length) : sec (splice zeroL 0 (flatU zs)) j = uniS (zs.getD j 0) := by
  have hz : zeroL.length = 3072 := zeroL_len
  have hl := flatU_len zs
  have hL : (splice zeroL 0 (flatU zs)).length = 3072 := by rw [length_splice _ _ _ (by omega), hz]
  have h32 := length_sec hL (i := j) (by omega)
  refine ext_nth (by rw [h32]; exact List.length_replicate.symm) fun k hk => ?_
  rw [h32] at hk
  unfold sec
  rw [nth_part _ _ _ _ (by omega), nth_splice _ _ _ _ (by omega), if_pos (by omega), Nat.sub_zero, nth_flatU zs hj hk]
  have e : ∀ c : Int, nth (uniS c) k = c := fun c => by unfold nth uniS; rw [List.getD_eq_getElem?_getD, List.getElem?_replicate, if_pos hk]; rfl
  exact (e _).symm
theorem splice_disk0 (n : Int) (L : List Int) (B : List Bool) (mb : Nat) (s : List Int) (hL : L.length = 3072) (hs : s.length ≤ 3072) : splice (diskL n L B mb) 1 (bytesV s) = diskL n (splice L 0 s) B mb := by
  have e : diskL n L B mb = [.int .i64 n] ++ (bytesV L ++ (B.map Value.bool ++ [.map (some mb)])) := by simp [diskL, heldL]
  have e2 : diskL n (splice L 0 s) B mb = [.int .i64 n] ++ (bytesV (splice L 0 s) ++ (B.map Value.bool ++ [.map (some mb)])) := by simp [diskL, heldL]
  rw [e, e2, ← splice_bytes]
  exact splice_mid [.int .i64 n] (bytesV L) _ (bytesV s) 0 (by rw [length_bytesV, length_bytesV, hL]; omega)
set_option maxRecDepth 100000 in
set_option maxHeartbeats 1000000 in
theorem cload {zs : List Int} (h0 : 1 ≤ zs.length) (h1 : zs.length ≤ 96) (ha : ∀ z ∈ zs, 0 ≤ z ∧ z ≤ 255) (b cap : Nat) (w : World) (hr : w.rangeAt b 0 (bytesV (flatU zs))) (hb : b < w.heap.size) :
    Calls Try.prog 24 #[.slice (some ⟨b, 0, none⟩) zs.length cap] w fun e w' => e = .returned (.pointer (some ⟨w.heap.size + 1, 0, none⟩)) ∧ (∃ F, Code w' (w.heap.size + 1) zs.length (loadS zs) 0 F ∧ ∀ b, F b → w.heap.size ≤ b) ∧ Below w.heap.size w w' := by
  obtain ⟨n, hn⟩ : ∃ n, n = zs.length := ⟨_, rfl⟩
  have N := Lib.hid (new_yes (n : Int) w (by omega) (by omega))
  have hzz : AllB zeroL := by intro x hx; rw [zeroL, List.mem_replicate] at hx; rw [hx.2]; decide
  have hfl := flatU_len zs
  have hfa := flatU_all ha
  have hsp := splice_disk0 (n : Int) zeroL goodB w.heap.size (flatU zs) zeroL_len (by omega)
  have HSp : Hid ((splice (diskL (n : Int) zeroL goodB w.heap.size).toArray.toList 1 (bytesV (flatU zs))).toArray = (diskL (n : Int) (splice zeroL 0 (flatU zs)) goodB w.heap.size).toArray) := by
    unfold Hid
    rw [show (diskL (n : Int) zeroL goodB w.heap.size).toArray.toList = diskL (n : Int) zeroL goodB w.heap.size from rfl, ← hsp]
  have Hfit : Hid (1 + (bytesV (flatU zs)).length ≤ (diskL (n : Int) zeroL goodB w.heap.size).toArray.size) := by
    unfold Hid
    have := length_heldL (n : Int) zeroL goodB zeroL_len goodB_len
    rw [length_bytesV, hfl, List.size_toArray, diskL, List.length_append, this]
    simp
    omega
  have Hlen : Hid ((bytesV (flatU zs)).length = Nat.min n 96 * 32) := by unfold Hid; rw [length_bytesV, hfl, ← hn]; congr 1; exact (Nat.min_eq_left (by omega)).symm
  have H1 := Lib.hid (bytesV_one (flatU zs))
  have Hfin : Hid (∀ W, BlkIs W (w.heap.size + 1) 80 (diskL (n : Int) (splice zeroL 0 (flatU zs)) goodB w.heap.size) → W.ownsMap (H := Value) Try.prog 3 RV w.heap.size 0 (.map []) → ∃ F, Code W (w.heap.size + 1) n (loadS zs) 0 F ∧ ∀ b, F b → w.heap.size ≤ b) := fun W h hm => by
    refine ⟨_, ⟨splice zeroL 0 (flatU zs), goodB, w.heap.size, 0, .map [], fun _ => [], fun _ => none, fun _ => 0, ⟨⟨h, by omega, by omega, ?_, goodB_len, splice_all hzz hfa _⟩, hm, Nat.le_refl _, ?_, ?_, ?_, ?_, ?_, ?_, ?_, ?_, ?_, ?_⟩, rfl⟩, ?_⟩
    · rw [length_splice _ _ _ (by rw [zeroL_len]; omega), zeroL_len]
    · intro i hi; cases hi
    · intro j _ hne; exact absurd rfl hne
    · intro j _ _; exact ⟨rfl, rfl, rfl⟩
    · intro j _; exact World.ownsRow_nil _ _ _ _
    · intro j _ x hx; cases hx
    · intro j hj; exact sec_load h1 (by omega)
    · intro j _; exact getD_repl 96 j
    · intro j _; rfl
    · intro j _; exact Nat.le_refl _
    · intro i j _ _ _ b hb; cases hb
    · rintro b (q | q | ⟨j, hj, q⟩)
      · omega
      · omega
      · cases q
  have HR := Lib.hid hr
  obtain ⟨S0, hS0⟩ : ∃ S0, S0 = bytesV (flatU zs) := ⟨_, rfl⟩
  rw [← hS0] at HSp Hfit Hlen H1 HR
  obtain ⟨D1, hD1⟩ : ∃ D1, D1 = (diskL (n : Int) (splice zeroL 0 (flatU zs)) goodB w.heap.size).toArray := ⟨_, rfl⟩
  obtain ⟨D0, hD0⟩ : ∃ D0, D0 = (diskL (n : Int) zeroL goodB w.heap.size).toArray := ⟨_, rfl⟩
  have HD1 := Lib.hid hD1
  have HD0 := Lib.hid hD0
  rw [← hD1, ← hD0] at HSp
  rw [← hD0] at Hfit
  rw [← hn]
  clear hS0 hD1 hD0 hsp hr hzz hfl hfa ha h0 h1 hn
  go_enter Try.func24, Try.ntmps24
  go_wp2_with fail
  refine N.out.mono ?_
  rintro e w1 ⟨rfl, hb1, hm1, hB1⟩
  have B1 := Lib.hid hB1
  have M1 := Lib.hid hm1
  have b1 : Hid (w1.heap[w.heap.size + 1]? = some (.cells D0 80 (0, 0))) := by rw [HD0.out]; exact hb1
  have hsrc : Hid (∀ j v, S0[j]? = some v → w1.cell? ((⟨b, 0, none⟩ : Addr).add j) = some v) := fun j v hj => by
    rw [add_plain']
    exact (B1.out.cell (p := ⟨b, 0 + j, none⟩) hb).trans (HR.out j v hj)
  clear hb1 hm1 hB1
  go_wp2_with (refine wpList_copy_wide rfl (.tmp 13) (.tmp 14) 51 51 rfl 36 32 Try.underlying51 size36 (w.heap.size + 1) 1 96 96 ⟨b, 0, none⟩ n cap rfl rfl D0 80 b1.out S0 Hlen.out hsrc.out Hfit.out H1.out D1 HSp.out ?_)
  go_ret
  refine ⟨rfl, Hfin.out _ ?_ (M1.out.kept (row := some (w.heap.size + 1)) ?_ (by simp)), below_setRow B1.out (by omega) _⟩
  · have := setRow_heap w1 (w.heap.size + 1) D0 D1 80 (0, 0) b1.out
    unfold BlkIs
    rw [← HD1.out]
    exact this
  · exact ⟨rfl, rfl, rfl, by simp [World.setRow], fun k _ hne => setRow_other _ _ k _ (by intro e; subst e; exact hne rfl)⟩
theorem cload_bad (A : Option Addr) (len cap : Nat) (h : len < 1 ∨ 96 < len) (w : World) : Calls Try.prog 24 #[.slice A len cap] w fun e w' => e = .returned (.pointer none) ∧ w = w' := by
  have NB := Lib.hid (new_bad (len : Int) w (by omega))
  clear h
  go_enter Try.func24, Try.ntmps24
  go_wp2_with fail
  refine NB.out.mono ?_
  rintro e w' ⟨rfl, rfl⟩
  go_wp2
  go_ret
  exact ⟨rfl, rfl⟩
end Go.Proofs.Ytieeibdhaoaeaaa
