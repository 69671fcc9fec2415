/- A sector stored in a disk; the contract of 'Load' of one sector. -/
import Derived.Test.YtieeibdhaoaeaaaHB
namespace Go.Proofs.Ytieeibdhaoaeaaa
open Go.RowKit

theorem splice_mid {α : Type} (a b c m : List α) (k : Nat) (h : k + m.length ≤ b.length) : splice (a ++ (b ++ c)) (a.length + k) m = a ++ (splice b k m ++ c) := by
  unfold splice
  rw [List.take_append, List.take_append, List.drop_append, List.drop_append]
  have e1 : a.length + k - a.length = k := by omega
  have e2 : a.length + k + m.length - a.length = k + m.length := by omega
  rw [e1, e2, List.take_of_length_le (show a.length ≤ a.length + k by omega), List.drop_eq_nil_of_le (show a.length ≤ a.length + k + m.length by omega)]
  have e3 : k - b.length = 0 := by omega
  have e4 : k + m.length - b.length = 0 := by omega
  rw [e3, e4]
  simp
/-- the bytes of a disk with one sector stored -/
theorem splice_disk (n : Int) (L : List Int) (B : List Bool) (mb i : Nat) (s : List Int) (hL : L.length = 3072) (hs : s.length = 32) (hi : i < 96) : splice (diskL n L B mb) (1 + i * 32) (bytesV s) = diskL n (splice L (i * 32) s) B mb := by
  have e : diskL n L B mb = [.int .i64 n] ++ (bytesV L ++ (B.map Value.bool ++ [.map (some mb)])) := by simp [diskL, heldL]
  have e2 : diskL n (splice L (i * 32) s) B mb = [.int .i64 n] ++ (bytesV (splice L (i * 32) s) ++ (B.map Value.bool ++ [.map (some mb)])) := by simp [diskL, heldL]
  rw [e, e2, ← splice_bytes]
  exact splice_mid [.int .i64 n] (bytesV L) _ (bytesV s) (i * 32) (by rw [length_bytesV, length_bytesV, hs, hL]; omega)
theorem length_set {L s : List Int} {i : Nat} (hL : L.length = 3072) (hs : s.length = 32) (hi : i < 96) : (splice L (i * 32) s).length = 3072 := by rw [length_splice _ _ _ (by omega), hL]
/-- the sectors behind one stored -/
theorem sec_set {L s : List Int} {i j : Nat} (hL : L.length = 3072) (hs : s.length = 32) (hi : i < 96) (hj : j < 96) : sec (splice L (i * 32) s) j = if j = i then s else sec L j := by
  have hl := length_set hL hs hi
  have h1 : (sec (splice L (i * 32) s) j).length = 32 := length_sec hl hj
  split
  · next e =>
    subst e
    refine ext_nth (by rw [h1, hs]) fun k hk => ?_
    unfold sec
    rw [nth_part _ _ _ _ (by omega), nth_splice _ _ _ _ (by omega), if_pos (by omega), show j * 32 + k - j * 32 = k by omega]
  · next e =>
    refine ext_nth (by rw [h1, length_sec hL hj]) fun k hk => ?_
    unfold sec
    rw [nth_part _ _ _ _ (by omega), nth_splice _ _ _ _ (by omega), if_neg (by omega), nth_part _ _ _ _ (by omega)]
theorem DiskAt.stored {w w' : World} {g : Nat} {n : Int} {L : List Int} {B : List Bool} {mb i : Nat} {s : List Int} (h : DiskAt w g n L B mb) (hs : s.length = 32) (ha : AllB s) (hi : i < 96)
    (hb : BlkIs w' g 80 (splice (diskL n L B mb) (1 + i * 32) (bytesV s))) : DiskAt w' g n (splice L (i * 32) s) B mb :=
  ⟨by rw [← splice_disk n L B mb i s h.lenL hs hi]; exact hb, h.lo, h.hi, length_set h.lenL hs hi, h.lenB, splice_all h.allL ha _⟩

theorem run_copy_wide {P : Program} (w : World) (dT sT ty elem : TypeId) (g o dLen dCap : Nat) (a : Addr) (sLen sCap sz : Nat) (cur : Array Value) (t : TypeId) (cs : List Value)
    (hu : P.underlying dT = some (.slice elem)) (hs : (P.info? elem).map (·.size) = some sz)
    (hg : w.heap[g]? = some (.cells cur t (0, 0))) (hn : cs.length = Nat.min sLen dLen * sz)
    (hsrc : ∀ j v, cs[j]? = some v → w.cell? (a.add j) = some v) (hfit : o + cs.length ≤ cur.size) (h1 : ∀ v ∈ cs, v.oneCell' = true) :
    (Builtin.copy_ #[dT, sT] ty #[.slice (some ⟨g, o, none⟩) dLen dCap, .slice (some a) sLen sCap]).run P w =
      .ok (goInt (Nat.min sLen dLen)) (w.setRow g (splice cur.toList o cs).toArray) := by
  have hl := run_loadCells_list (P := P) w a cs hsrc
  have hst := run_storeCells_at P g o t cs 0 cur w hg (by simpa using hfit) h1
  cases hq : P.info? elem with
  | none => simp [hq] at hs
  | some i =>
    have hi : i.size = sz := by simpa [hq] using hs
    simp [Builtin.copy_, run_underlying hu, Builtin.lenOf, Builtin.firstCells, sizeOf, typeInfo, hq, hi, ← hn, hl, hst, splice]
theorem wpList_copy_wide {P : Program} {w : World} {ops : Array Oper} {rest : List Oper} {o : Oper} {a : Act} {Q : Exit → Act → World → Prop} (hgd : o.guard = none) (d s : Operand) (dT sT : TypeId)
    (ho : o.op = .call { callee := .builtin .copy, args := #[d, s], argTypes := #[dT, sT] }) (elem : TypeId) (sz : Nat) (hu : P.underlying dT = some (.slice elem)) (hsz : (P.info? elem).map (·.size) = some sz)
    (g off dLen dCap : Nat) (ad : Addr) (sLen sCap : Nat) (hd : a.eval d = .slice (some ⟨g, off, none⟩) dLen dCap) (hs : a.eval s = .slice (some ad) sLen sCap)
    (cur : Array Value) (t : TypeId) (hg : w.heap[g]? = some (.cells cur t (0, 0))) (cs : List Value) (hn : cs.length = Nat.min sLen dLen * sz)
    (hsrc : ∀ j v, cs[j]? = some v → w.cell? (ad.add j) = some v) (hfit : off + cs.length ≤ cur.size) (h1 : ∀ v ∈ cs, v.oneCell' = true)
    (N : Array Value) (hN : (splice cur.toList off cs).toArray = N)
    (h : wpList P ops Q rest (a.put o.dst (goInt (Nat.min sLen dLen))) (w.setRow g N)) : wpList P ops Q (o :: rest) a w := by
  subst hN
  refine wpList_plain hgd fun K hK => ?_
  have hrun := run_copy_wide (P := P) w dT sT o.type elem g off dLen dCap ad sLen sCap sz cur t cs hu hsz hg hn hsrc hfit h1
  unfold Oper.wp
  simp [execOp, ho, resolve, invoke, builtin, hd, hs, hrun, Result.andThen]
  exact hK _ _ h

set_option maxRecDepth 100000 in
set_option maxHeartbeats 1000000 in
theorem load_one (b : Nat) (s : List Int) (w : World) (hs : s.length = 32) (ha : AllB s) (hr : w.rangeAt b 0 (bytesV s)) (hb : b < w.heap.size) :
    Calls Try.prog 24 #[.slice (some ⟨b, 0, none⟩) 1 1] w fun e w' => e = .returned (.pointer (some ⟨w.heap.size + 1, 0, none⟩)) ∧ DiskAt w' (w.heap.size + 1) 1 (splice zeroL 0 s) goodB w.heap.size ∧
      w'.ownsMap (H := Value) Try.prog 3 RV w.heap.size 0 (.map []) ∧ Below w.heap.size w w' := by
  have N := Lib.hid (new_yes 1 w (by omega) (by omega))
  have hzz : AllB zeroL := by intro x hx; rw [zeroL, List.mem_replicate] at hx; rw [hx.2]; decide
  have HD : Hid (∀ W, BlkIs W (w.heap.size + 1) 80 (diskL 1 zeroL goodB w.heap.size) → DiskAt W (w.heap.size + 1) 1 zeroL goodB w.heap.size) := fun W h => ⟨h, by omega, by omega, zeroL_len, goodB_len, hzz⟩
  have hsp := splice_disk 1 zeroL goodB w.heap.size 0 s zeroL_len hs (by omega)
  have HSp : Hid ((splice (diskL 1 zeroL goodB w.heap.size).toArray.toList 1 (bytesV s)).toArray = (diskL 1 (splice zeroL 0 s) goodB w.heap.size).toArray) := by
    unfold Hid
    rw [show (diskL 1 zeroL goodB w.heap.size).toArray.toList = diskL 1 zeroL goodB w.heap.size from rfl]
    have : (0 : Nat) * 32 = 0 := rfl
    rw [this] at hsp
    rw [← hsp]
  have Hfit : Hid (1 + (bytesV s).length ≤ (diskL 1 zeroL goodB w.heap.size).toArray.size) := by
    unfold Hid
    have := length_heldL 1 zeroL goodB zeroL_len goodB_len
    rw [length_bytesV, hs, List.size_toArray, diskL, List.length_append, this]
    simp
  have Hlen : Hid ((bytesV s).length = Nat.min 1 96 * 32) := by unfold Hid; rw [length_bytesV, hs]; rfl
  have H1 := Lib.hid (bytesV_one s)
  have Hfin : Hid (∀ W, BlkIs W (w.heap.size + 1) 80 (diskL 1 (splice zeroL 0 s) goodB w.heap.size) → DiskAt W (w.heap.size + 1) 1 (splice zeroL 0 s) goodB w.heap.size) := fun W h => by
    refine ⟨h, by omega, by omega, ?_, goodB_len, splice_all hzz ha _⟩
    rw [length_splice _ _ _ (by rw [zeroL_len, hs]; omega), zeroL_len]
  have HR := Lib.hid hr
  obtain ⟨S0, hS0⟩ : ∃ S0, S0 = bytesV s := ⟨_, rfl⟩
  rw [← hS0] at HSp Hfit Hlen H1 HR
  obtain ⟨D1, hD1⟩ : ∃ D1, D1 = (diskL 1 (splice zeroL 0 s) goodB w.heap.size).toArray := ⟨_, rfl⟩
  obtain ⟨D0, hD0⟩ : ∃ D0, D0 = (diskL 1 zeroL goodB w.heap.size).toArray := ⟨_, rfl⟩
  have HD1 := Lib.hid hD1
  have HD0 := Lib.hid hD0
  rw [← hD1, ← hD0] at HSp
  rw [← hD0] at Hfit
  clear hS0 hD1 hD0 hsp hr hzz
  go_enter Try.func24, Try.ntmps24
  go_wp2_with fail
  refine N.out.mono ?_
  rintro e w1 ⟨rfl, hb1, hm1, hB1⟩
  have B1 := Lib.hid hB1
  have M1 := Lib.hid hm1
  have b1 : Hid (w1.heap[w.heap.size + 1]? = some (.cells D0 80 (0, 0))) := by rw [HD0.out]; exact hb1
  have hsrc : Hid (∀ j v, S0[j]? = some v → w1.cell? ((⟨b, 0, none⟩ : Addr).add j) = some v) := fun j v hj => by
    rw [add_plain']
    exact (B1.out.cell (p := ⟨b, 0 + j, none⟩) hb).trans (HR.out j v hj)
  clear hb1 hm1 hB1
  go_wp2_with (refine wpList_copy_wide rfl (.tmp 13) (.tmp 14) 51 51 rfl 36 32 Try.underlying51 size36 (w.heap.size + 1) 1 96 96 ⟨b, 0, none⟩ 1 1 rfl rfl D0 80 b1.out S0 Hlen.out hsrc.out Hfit.out H1.out D1 HSp.out ?_)
  go_ret
  refine ⟨rfl, Hfin.out _ ?_, M1.out.kept (row := some (w.heap.size + 1)) ?_ (by simp), below_setRow B1.out (by omega) _⟩
  · have := setRow_heap w1 (w.heap.size + 1) D0 D1 80 (0, 0) b1.out
    unfold BlkIs
    rw [← HD1.out]
    exact this
  · exact ⟨rfl, rfl, rfl, by simp [World.setRow], fun k _ hne => setRow_other _ _ k _ (by intro e; subst e; exact hne rfl)⟩
end Go.Proofs.Ytieeibdhaoaeaaa
