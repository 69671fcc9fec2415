/- Bits in bytes: plain, and the contracts of Get and its like, and of the way through the bits that are set. -/
import Derived.Test.YtpcindemkkdbbaaC
import Derived.Below
import Derived.Laws.OwnMore
import Derived.Deep.AppendLies
import Derived.Deep.Draws
import Derived.WalkKit
import Derived.Lib.BitFns
import Derived.Laws.Entries
import Derived.WalkLawsBesides
import Derived.WalkSpells
import Derived.Deep.QuietTactic
import Derived.BigQuiet
import Derived.Lib.Hide
import Derived.Deep.OwnRows
import Derived.Laws.CopyOwn
import Derived.Deep.RegionWith
import Derived.Deep.DeepFit
import Derived.IntWalk
import Derived.RangeFuncBox
import Derived.RangeFuncLeaves
import Derived.Shelf.Abstract
import Derived.OwnWalkIn
import Derived.TacticsInMore
import Derived.LoopNIn
import Derived.LoopIn
import Derived.Maps.AppendAt
namespace Go.Proofs.Ytpcindemkkdbbaa.Bs
set_option linter.unusedVariables false
set_option linter.unusedSimpArgs false
open Go.RowKit

/-- the numbers of bytes -/
def AllB (l : List Int) : Prop := ∀ x ∈ l, 0 ≤ x ∧ x ≤ 255

/-- the k-th byte (0 beyond the end) -/
def nth (l : List Int) (k : Nat) : Int := l.getD k 0
/-- the value of the i-th bit in its byte -/
def mk8 (i : Int) : Int := 2 ^ (i % 8).toNat

/-- a slice's address under which, below block B, the cells are the bytes l -/
def Bts (w : World) (B : Nat) (A : Option Addr) (l : List Int) : Prop :=
  AllB l ∧ (0 < l.length → ∃ b off, A = some ⟨b, off, none⟩ ∧ b < B ∧ ∀ j, j < l.length → w.cell? ⟨b, off + j, none⟩ = some (.int .u8 (nth l j)))

/-- the i-th bit of bytes, by the document -/
def bitN (l : List Int) (i : Nat) : Bool := (nth l (i / 8)).toNat.testBit (i % 8)
def bitI (l : List Int) (i : Int) : Bool := decide (0 ≤ i) && bitN l i.toNat
def hasB (n : Nat) (i : Int) : Bool := decide (0 ≤ i) && decide (i / 8 < (n : Int))

theorem nth_lt {l : List Int} {k : Nat} (h : k < l.length) : nth l k = l[k] := by
  unfold nth; rw [List.getD_eq_getElem?_getD, List.getElem?_eq_getElem h]; rfl
theorem nth_ge {l : List Int} {k : Nat} (h : l.length ≤ k) : nth l k = 0 := by
  unfold nth; rw [List.getD_eq_getElem?_getD, List.getElem?_eq_none h]; rfl
theorem AllB.nth {l : List Int} (h : AllB l) (j : Nat) : 0 ≤ nth l j ∧ nth l j ≤ 255 := by
  unfold Bs.nth
  rcases Nat.lt_or_ge j l.length with hj | hj
  · rw [List.getD_eq_getElem?_getD, List.getElem?_eq_getElem hj]; exact h _ (List.getElem_mem hj)
  · rw [List.getD_eq_getElem?_getD, List.getElem?_eq_none hj]; exact ⟨by simp, by simp⟩

section
variable {w w' : World} {B B' : Nat} {A : Option Addr} {l : List Int}
theorem Bts.at_ (h : Bts w B A l) {k : Nat} (hk : k < l.length) : ∃ b off, A = some ⟨b, off, none⟩ ∧ b < B ∧ w.cell? ⟨b, off + k, none⟩ = some (.int .u8 (nth l k)) := by
  obtain ⟨b, off, e, hb, hc⟩ := h.2 (by omega)
  exact ⟨b, off, e, hb, hc k hk⟩
theorem Bts.keep (h : Bts w B A l) (hk : ∀ p : Addr, p.block < B → w'.cell? p = w.cell? p) : Bts w' B A l :=
  ⟨h.1, fun hn => by
    obtain ⟨b, off, e, hb, hc⟩ := h.2 hn
    exact ⟨b, off, e, hb, fun j hj => (hk _ hb).trans (hc j hj)⟩⟩
theorem Bts.more (h : Bts w B A l) (hB : B ≤ B') : Bts w B' A l :=
  ⟨h.1, fun hn => by
    obtain ⟨b, off, e, hb, hc⟩ := h.2 hn
    exact ⟨b, off, e, by omega, hc⟩⟩
theorem Bts.below (h : Bts w B A l) (hb : Below B w w') : Bts w' B A l := h.keep fun _ hp => hb.cell hp
theorem Bts.take (h : Bts w B A l) (k : Nat) : Bts w B A (l.take k) := by
  refine ⟨fun x hx => h.1 x (List.mem_of_mem_take hx), fun hn => ?_⟩
  rw [List.length_take] at hn
  obtain ⟨b, off, e, hb, hc⟩ := h.2 (by omega)
  refine ⟨b, off, e, hb, fun j hj => ?_⟩
  rw [List.length_take] at hj
  unfold nth
  rw [hc j (by omega)]
  unfold nth
  rw [List.getD_eq_getElem?_getD, List.getD_eq_getElem?_getD, List.getElem?_take, if_pos (by omega)]
theorem Bts.nil : Bts w B A [] := ⟨by simp [AllB], by simp⟩
end


open Go.RowKit

def tz8 (x : Int) : Int := (Lib.trailingZeros8 x.toNat : Nat)
def pop8 (x : Int) : Int := (Lib.onesCount x.toNat : Nat)
/-- a byte without its lowest bit, as the code has it -/
def low (x : Int) : Int := bits .and .u8 x (x - 1)
def onesB (x : Int) : List Nat := (List.range 8).filter fun i => x.toNat.testBit i
def onesTo (l : List Int) (k : Nat) : List Nat := (List.range k).flatMap fun j => (onesB (nth l j)).map (8 * j + ·)
def ones (l : List Int) : List Nat := onesTo l l.length

theorem onesB_zero : onesB 0 = [] := by decide
theorem onesB_step (x : Int) (h0 : 0 ≤ x) (h1 : x ≤ 255) (hx : x ≠ 0) : onesB x = (tz8 x).toNat :: onesB (low x) ∧ 0 ≤ low x ∧ low x < x ∧ 0 ≤ tz8 x ∧ tz8 x ≤ 7 := by
  have : ∀ x : Fin 256, x.val ≠ 0 → onesB (x.val : Int) = (tz8 (x.val : Int)).toNat :: onesB (low (x.val : Int)) ∧ 0 ≤ low (x.val : Int) ∧ low (x.val : Int) < (x.val : Int) ∧ 0 ≤ tz8 (x.val : Int) ∧ tz8 (x.val : Int) ≤ 7 := by decide +kernel
  obtain ⟨n, rfl⟩ := Int.eq_ofNat_of_zero_le h0
  have hn : n ≠ 0 := fun e => hx (by rw [e]; rfl)
  exact this ⟨n, by omega⟩ hn
theorem onesTo_succ (l : List Int) (k : Nat) : onesTo l (k + 1) = onesTo l k ++ (onesB (nth l k)).map (8 * k + ·) := by
  simp [onesTo, List.range_succ]
theorem onesB_lt {x : Int} {i : Nat} (h : i ∈ onesB x) : i < 8 := by
  simp [onesB] at h; exact h.1
theorem onesTo_lt {l : List Int} {k i : Nat} (h : i ∈ onesTo l k) : i < 8 * k := by
  simp only [onesTo, List.mem_flatMap, List.mem_map, List.mem_range] at h
  obtain ⟨j, hj, i', hi', rfl⟩ := h
  have := onesB_lt hi'
  omega
theorem length_onesB (x : Int) : (onesB x).length ≤ 8 := by
  have := List.length_filter_le (fun i => x.toNat.testBit i) (List.range 8)
  simpa [onesB] using this
theorem length_onesTo (l : List Int) (k : Nat) : (onesTo l k).length ≤ 8 * k := by
  induction k with
  | zero => simp [onesTo]
  | succ k ih => rw [onesTo_succ, List.length_append, List.length_map]; have := length_onesB (nth l k); omega

theorem onesTo_pre (l : List Int) {k : Nat} (hk : k ≤ l.length) : onesTo l k <+: ones l := by
  obtain ⟨d, hd⟩ : ∃ d, l.length = k + d := ⟨l.length - k, by omega⟩
  unfold ones onesTo
  rw [hd, List.range_add, List.flatMap_append]
  exact List.prefix_append _ _
theorem range_add_map (n m : Nat) : List.range (n + m) = List.range n ++ (List.range m).map (n + ·) := by
  rw [List.range_add]
/-- all bits, each asked -/
theorem onesTo_filter (l : List Int) (k : Nat) : onesTo l k = (List.range (8 * k)).filter (bitN l) := by
  induction k with
  | zero => rfl
  | succ k ih =>
    rw [onesTo_succ, ih, show 8 * (k + 1) = 8 * k + 8 from by omega, range_add_map, List.filter_append, List.filter_map]
    congr 1
    unfold onesB
    congr 1
    apply List.filter_congr
    intro i hi
    have hi := List.mem_range.1 hi
    simp only [Function.comp, bitN]
    rw [show (8 * k + i) / 8 = k from by omega, show (8 * k + i) % 8 = i from by omega]

open Go.RowKit

theorem ret_int {k : IntKind} {a b : Int} (h : a = b) : Ending.returned (.int k a) = .returned (.int k b) := by rw [h]
theorem ret_bool {a b : Bool} (h : a = b) : Ending.returned (.bool a) = .returned (.bool b) := by rw [h]

theorem there_any (n : Nat) (i : Int) (w : World) (hi : -9223372036854775808 ≤ i ∧ i ≤ 9223372036854775807) :
    Calls Try.prog 75 #[.int .i64 n, .int .i64 i] w fun e w' => e = .returned (.bool (hasB n i)) ∧ w = w' := by
  by_cases h0 : 0 ≤ i
  · go_enter Try.func75, Try.ntmps75
    go_wp2
    go_ret
    exact ⟨by simp [hasB, h0], rfl⟩
  · go_enter Try.func75, Try.ntmps75
    go_wp2
    go_ret
    exact ⟨by simp [hasB]; omega, rfl⟩

theorem mask_any (i : Int) (w : World) (h0 : 0 ≤ i) (h1 : i ≤ 9223372036854775807) :
    Calls Try.prog 76 #[.int .i64 i] w fun e w' => e = .returned (.int .u8 (mk8 i)) ∧ w = w' := by
  have e : (2 : Int) ^ (i % 8).toNat % 256 = mk8 i := by
    unfold mk8
    have h2 : (i % 8).toNat < 8 := by omega
    generalize (i % 8).toNat = k at h2
    have : ∀ k : Fin 8, (2 : Int) ^ k.val % 256 = 2 ^ k.val := by decide
    exact this ⟨k, h2⟩
  have E := Lib.hid e
  clear e
  go_enter Try.func76, Try.ntmps76
  go_wp2
  go_ret
  exact ⟨ret_int E.out, rfl⟩

theorem and_bit (x : Int) (k : Nat) (hx : 0 ≤ x ∧ x ≤ 255) : (bits .and .u8 x (mk8 k) != 0) = x.toNat.testBit (k % 8) := by
  have : ∀ (x : Fin 256) (k : Fin 8), (bits .and .u8 (x.val : Int) (2 ^ k.val) != 0) = x.val.testBit k.val := by decide +kernel
  obtain ⟨x, rfl⟩ := Int.eq_ofNat_of_zero_le hx.1
  have h := this ⟨x, by omega⟩ ⟨k % 8, by omega⟩
  unfold mk8
  rwa [show ((k : Int) % 8).toNat = k % 8 from by omega]
theorem shr_bit (x : Int) (k : Nat) (hx : 0 ≤ x ∧ x ≤ 255) : (bits .and .u8 (x / 2 ^ (k % 8)) 1 == 1) = x.toNat.testBit (k % 8) := by
  have : ∀ (x : Fin 256) (k : Fin 8), (bits .and .u8 ((x.val : Int) / 2 ^ k.val) 1 == 1) = x.val.testBit k.val := by decide +kernel
  obtain ⟨x, rfl⟩ := Int.eq_ofNat_of_zero_le hx.1
  exact this ⟨x, by omega⟩ ⟨k % 8, by omega⟩

theorem quiet_left {P : Program} {f : FuncId} {args : Array Value} {w : World} {n : Nat} {v : Value}
    (h : Calls P f args (w.drewN n) fun e w' => e = .returned v ∧ w.drewN n = w') : Calls P f args (w.drewN n) fun e w'' => e = .returned v ∧ ∃ m, w'' = w.drewN m :=
  h.mono fun _ _ ⟨he, hm⟩ => ⟨he, n, hm.symm⟩

theorem there_no (n : Nat) (i : Int) (w : World) (hi : -9223372036854775808 ≤ i ∧ i ≤ 9223372036854775807) (hh : hasB n i = false) :
    Calls Try.prog 75 #[.int .i64 n, .int .i64 i] w fun e w' => e = .returned (.bool false) ∧ w = w' := by
  have := there_any n i w hi
  rwa [hh] at this
theorem there_yes (n : Nat) (i : Int) (w : World) (hi : -9223372036854775808 ≤ i ∧ i ≤ 9223372036854775807) (hh : hasB n i = true) :
    Calls Try.prog 75 #[.int .i64 n, .int .i64 i] w fun e w' => e = .returned (.bool true) ∧ w = w' := by
  have := there_any n i w hi
  rwa [hh] at this
theorem hasB_out {n : Nat} {i : Int} (h : hasB n i = true) : 0 ≤ i ∧ i / 8 < n := by simpa [hasB] using h
theorem hasB_not {n : Nat} {i : Int} (h : hasB n i = false) : i < 0 ∨ (n : Int) ≤ i / 8 := by
  have : ¬ (0 ≤ i ∧ i / 8 < n) := by simpa [hasB] using h
  omega
theorem bitI_not {l : List Int} {i : Int} (h : hasB l.length i = false) : bitI l i = false := by
  rcases hasB_not h with h | h
  · simp [bitI]; omega
  · unfold bitI bitN
    rw [nth_ge (by omega)]
    simp

theorem get_any (A : Option Addr) (c : Nat) (l : List Int) (i : Int) (w : World) (B : Nat) (hb : Bts w B A l) (hl : l.length ≤ maxLen) (hi : -9223372036854775808 ≤ i ∧ i ≤ 9223372036854775807) :
    Calls Try.prog 82 #[.slice A l.length c, .int .i64 i] w fun e w' => e = .returned (.bool (bitI l i)) ∧ ∃ n, w' = w.drewN n := by
  unfold maxLen at hl
  cases hh : hasB l.length i with
  | false =>
    have H := Lib.hid hh
    clear hh
    go_enter Try.func82, Try.ntmps82
    go_wp2_with fail
    go_quiet ((go_at_call 75; exact quiet_left (there_no _ _ _ hi H.out)))
    go_wp2
    go_ret
    exact ⟨ret_bool (bitI_not H.out).symm, _, rfl⟩
  | true =>
    have H := Lib.hid hh
    obtain ⟨h0, h1⟩ := hasB_out hh
    clear hh
    obtain ⟨k, rfl⟩ := Int.eq_ofNat_of_zero_le h0
    have hk : k / 8 < l.length := by omega
    obtain ⟨b, off, rfl, hbB, hc⟩ := hb.at_ hk
    have hx := hb.1.nth (k / 8)
    have E : Hid ((bits .and .u8 (nth l (k / 8)) (mk8 k) != 0) = bitI l k) := by
      unfold Hid
      rw [and_bit _ _ hx]
      simp [bitI, bitN]
    go_enter Try.func82, Try.ntmps82
    go_wp2_with fail
    go_quiet ((first | (go_at_call 75; exact quiet_left (there_yes _ _ _ hi H.out)) | (go_at_call 76; exact quiet_left (mask_any _ _ (by omega) (by omega)))))
    go_wp2
    go_ret
    exact ⟨ret_bool E.out, _, rfl⟩



open Go.RowKit

def byteV (x : Int) : Value := .int .u8 x
def bytesV (l : List Int) : List Value := l.map byteV
def BlkIs (w : World) (g : Nat) (t : TypeId) (l : List Value) : Prop := w.heap[g]? = some (.cells l.toArray t (0, 0))
def setB (l : List Int) (i : Nat) (on : Bool) : List Int := l.set (i / 8) (if on then bits .or .u8 (nth l (i / 8)) (mk8 i) else bits .andNot .u8 (nth l (i / 8)) (mk8 i))

theorem info5 : (Try.prog.info? 5).map (fun i => (i.zero, i.size, i.bytes)) = some (some (.int .u8 0), 1, 1) := by kernel_rfl
theorem size5 : (Try.prog.info? 5).map (·.size) = some 1 := by kernel_rfl
theorem made_bytes (n : Nat) : madeCells #[Value.int .u8 0] n = (bytesV (List.replicate n 0)).toArray := by
  apply Array.ext
  · simp [size_madeCells, bytesV]
  · intro i h1 h2; simp [madeCells, bytesV, Nat.mod_one, byteV]

theorem splice_all {α : Type} (L cs : List α) (h : cs.length = L.length) : splice L 0 cs = cs := by simp [splice, h]

theorem BlkIs.cell {w : World} {g : Nat} {t : TypeId} {l : List Value} (h : BlkIs w g t l) (k : Nat) : w.cell? ⟨g, k, none⟩ = l[k]? := by
  unfold BlkIs at h
  simp [World.cell?, h]
theorem BlkIs.frozen {w : World} {g : Nat} {t : TypeId} {l : List Value} (h : BlkIs w g t l) (k : Nat) : w.frozen? ⟨g, k, none⟩ = false := by
  unfold BlkIs at h
  simp [World.frozen?, h]
theorem BlkIs.set_ {w : World} {g : Nat} {t : TypeId} {l : List Value} (h : BlkIs w g t l) (k : Nat) (v : Value) : BlkIs (w.setCell ⟨g, k, none⟩ v) g t (l.set k v) := by
  unfold BlkIs at h ⊢
  simp [World.setCell, Array.getElem?_modify, h]
theorem BlkIs.lt {w : World} {g : Nat} {t : TypeId} {l : List Value} (h : BlkIs w g t l) : g < w.heap.size := by
  rcases Nat.lt_or_ge g w.heap.size with hlt | hge
  · exact hlt
  · unfold BlkIs at h; rw [Array.getElem?_eq_none hge] at h; cases h
theorem BlkIs.bts {w : World} {g B : Nat} {l : List Int} (h : BlkIs w g 5 (bytesV l)) (hl : AllB l) (hB : g < B) : Bts w B (some ⟨g, 0, none⟩) l :=
  ⟨hl, fun _ => ⟨g, 0, rfl, hB, fun j hj => by
    rw [Nat.zero_add, h.cell j, bytesV, List.getElem?_map, List.getElem?_eq_getElem hj, nth_lt hj]; rfl⟩⟩

theorem AllB.set {l : List Int} (h : AllB l) (i : Nat) {v : Int} (hv : 0 ≤ v ∧ v ≤ 255) : AllB (l.set i v) := by
  intro x hx
  rcases List.mem_or_eq_of_mem_set hx with h1 | rfl
  · exact h _ h1
  · exact hv
theorem wrap_u8 (n : Int) : 0 ≤ IntKind.u8.wrap n ∧ IntKind.u8.wrap n ≤ 255 := by
  have e : IntKind.u8.wrap n = n % 256 := rfl
  omega
theorem bits_u8 (op : BinOp) (x y : Int) : 0 ≤ bits op .u8 x y ∧ bits op .u8 x y ≤ 255 := wrap_u8 _
theorem setB_all {l : List Int} (h : AllB l) (i : Nat) (on : Bool) : AllB (setB l i on) := by
  unfold setB
  refine h.set _ ?_
  split <;> exact bits_u8 _ _ _
theorem length_setB (l : List Int) (i : Nat) (on : Bool) : (setB l i on).length = l.length := by simp [setB]

theorem BlkIs.setByte {w : World} {g : Nat} {l : List Int} {L : List Value} (h : BlkIs w g 5 L) (hL : L = bytesV l) (i : Nat) (v : Int) : BlkIs (w.setCell ⟨g, i, none⟩ (.int .u8 v)).drew g 5 (bytesV (l.set i v)) := by
  subst hL
  have := h.set_ i (.int .u8 v)
  unfold bytesV at this ⊢
  rw [List.map_set]
  exact this





open Go.RowKit Go.Shelf

theorem ntz_tz (x : Int) (h0 : 0 ≤ x) (h1 : x ≤ 255) : wrap64 (Lib.ntz8 x) = tz8 x := by
  have e := Lib.ntz8_eq ⟨x.toNat, by omega⟩
  have hl := Lib.trailingZeros8_le8 ⟨x.toNat, by omega⟩
  simp only [Int.toNat_of_nonneg h0] at e
  simp only at hl
  unfold tz8
  rw [e]
  exact IntWalk.wrap64_in _ ⟨by omega, by omega⟩

theorem tz_any (x : Int) (w : World) (h0 : 0 ≤ x) (h1 : x ≤ 255) :
    Calls Try.prog 87 #[.int .u8 x] w fun e w' => e = .returned (.int .i64 (tz8 x)) ∧ w = w' := by
  have E := Lib.hid (ntz_tz x h0 h1)
  go_enter Try.func87, Try.ntmps87
  go_wp2
  go_ret
  exact ⟨ret_int E.out, rfl⟩

theorem tz_at (x : Int) (t : Nat) (w : World) (h0 : 0 ≤ x) (h1 : x ≤ 255) (ht : tz8 x = (t : Int)) :
    Calls Try.prog 87 #[.int .u8 x] w fun e w' => e = .returned (.int .i64 (t : Int)) ∧ w = w' := by
  rw [← ht]; exact tz_any x w h0 h1

attribute [local go_sem] Oper.semAt_some

/-- what lay below n₀ lies as it lay, and so does the block Bn -/
def KeepsBox (n₀ Bn : Nat) (A B : World) : Prop := Below n₀ A B ∧ B.heap[Bn]? = A.heap[Bn]?
theorem KeepsBox.refl (n₀ Bn : Nat) (A : World) : KeepsBox n₀ Bn A A := ⟨Below.refl _ _, rfl⟩
theorem KeepsBox.trans {n₀ Bn : Nat} {A B C : World} (h : KeepsBox n₀ Bn A B) (k : KeepsBox n₀ Bn B C) : KeepsBox n₀ Bn A C := ⟨h.1.trans k.1, k.2.trans h.2⟩
theorem KeepsBox.cell {n₀ Bn : Nat} {A B : World} (h : KeepsBox n₀ Bn A B) : B.cell? ⟨Bn, 0, none⟩ = A.cell? ⟨Bn, 0, none⟩ := World.cell?_of_block h.2
theorem keepsBox_b {n₀ Bn : Nat} {w : World} (hn : n₀ ≤ w.heap.size) (hB : Bn < w.heap.size) (W : World) (l : Nat) (o o' : Obj) (hl : w.heap.size ≤ l) (h : W.heap[l]? = some o) (hc : o.isCells = false) (hw : o.isWalk = false) : KeepsBox n₀ Bn W (W.putObj l o') :=
  ⟨belowK_b hn W l o o' hl h hc hw, (grownBy_putObj' W l o').block Bn (by have := (Array.getElem?_eq_some_iff.1 h).1; omega) (fun e => by cases e; omega)⟩

set_option maxRecDepth 100000 in
set_option maxHeartbeats 1000000 in
theorem ones1_in (n : Nat) (hn : 1 ≤ n) (l Bn n₀ : Nat) (A : Option Addr) (c : Nat) (xs : List Int) (hxs : xs.length ≤ 1000) (J Jx : List Nat → World → Prop)
    (hY : ∀ pre x W, J pre W → pre.length < (ones xs).length → x < 8000 → YieldAt Fence.wide (n - 1) Try.prog l #[.int .i64 ((x : Nat) : Int)] W fun e W' =>
      (e = .returned (.bool true) ∧ J (pre ++ [x]) W' ∧ KeepsBox n₀ Bn W W') ∨ (e = .returned (.bool false) ∧ Jx (pre ++ [x]) W'))
    (W : World) (hBn : W.cell? ⟨Bn, 0, none⟩ = some (.slice A xs.length c)) (hL : Bts W n₀ A xs) (h0 : J [] W) :
    CallsIn Fence.wide n Try.prog 86 #[.func (.yield l) #[] #[], .pointer (some ⟨Bn, 0, none⟩)] W fun e W' => (∃ v, e = .returned v) ∧
      ((∃ ys, ys = ones xs ∧ J ys W') ∨ (∃ pre, pre <+: ones xs ∧ Jx pre W')) := by
  refine callsIn_of_wp Try.func86 rfl trivial ?_ rfl
  simp only [Try.ntmps86, List.size_toArray, List.length_cons, List.length_nil, Nat.reduceAdd, Nat.reduceSub, Array.replicate_succ, Array.replicate_zero, List.push_toArray, List.append_toArray, List.nil_append, List.cons_append]
  gi_wp2
  gi_loopw [7] (fun i wr => ∃ k : Nat, k ≤ xs.length ∧ i = .int .i64 k ∧ J (onesTo xs k) wr ∧ KeepsBox n₀ Bn W wr)
    (fun i _ => xs.length - (intOf i).toNat)
  case atStart => exact ⟨0, Nat.zero_le _, rfl, h0, KeepsBox.refl _ _ _⟩
  case round =>
    obtain ⟨k, hk, rfl, hJ, hBe⟩ := hrel
    have hBc : wr.cell? ⟨Bn, 0, none⟩ = some (.slice A xs.length c) := hBe.cell.trans hBn
    by_cases hlt : k < xs.length
    · obtain ⟨b, off, rfl, hb, hc⟩ := (hL.below hBe.1).at_ hlt
      have hx := hL.1.nth k
      have hlti : (k : Int) < (xs.length : Int) := by omega
      gi_wp2
      gi_loopw [4] (fun r w2 => ∃ (part : List Nat) (x : Int), r = .int .u8 x ∧ 0 ≤ x ∧ x ≤ 255 ∧ onesB (nth xs k) = part ++ onesB x ∧ J (onesTo xs k ++ part.map (8 * k + ·)) w2 ∧ KeepsBox n₀ Bn W w2)
        (fun r _ => (intOf r).toNat)
      case atStart => exact ⟨[], _, rfl, hx.1, hx.2, rfl, by simpa using hJ, hBe⟩
      case round =>
        obtain ⟨part, x, rfl, hx0, hx1, hpart, hJ2, hB2⟩ := hrel
        by_cases hxz : x = 0
        · subst hxz
          have hJ3 : J (onesTo xs (k + 1)) wr := by
            rw [onesTo_succ, hpart, onesB_zero, List.append_nil]; exact hJ2
          gi_wp2
          go_roundw
          case rel => exact ⟨k + 1, by omega, by go_num, hJ3, hB2⟩
          case measure => simp [intOf]; omega
        · obtain ⟨hst, hl0, hl1, ht0, ht1⟩ := onesB_step x hx0 hx1 hxz
          have hne : (x != 0) = true := by simp [hxz]
          obtain ⟨t, ht⟩ := Int.eq_ofNat_of_zero_le ht0
          rw [ht] at ht1
          have htn : (tz8 x).toNat = t := by rw [ht]; rfl
          rw [htn] at hst
          have hpart2 : onesB (nth xs k) = (part ++ [t]) ++ onesB (low x) := by rw [hpart, hst]; simp
          have hpre : onesTo xs k ++ part.map (8 * k + ·) ++ [8 * k + t] <+: ones xs := by
            refine List.IsPrefix.trans ?_ (onesTo_pre xs (show k + 1 ≤ xs.length by omega))
            rw [onesTo_succ, hpart2]
            simp only [List.map_append, List.map_cons, List.map_nil, List.append_assoc]
            exact ⟨(onesB (low x)).map (8 * k + ·), by simp⟩
          have hY1 := hY _ (8 * k + t) wr hJ2 (by have := hpre.length_le; simp at this ⊢; omega) (by omega)
          have e1 : ((8 * k + t : Nat) : Int) = (k : Int) * 8 + (t : Int) := by omega
          rw [e1] at hY1
          have hJe : onesTo xs k ++ (part ++ [t]).map (8 * k + ·) = onesTo xs k ++ part.map (8 * k + ·) ++ [8 * k + t] := by simp
          have Ht := Lib.hid ht
          have HJe := Lib.hid hJe
          have Hp2 := Lib.hid hpart2
          have Hpre := Lib.hid hpre
          have hks : (k : Int) ≤ 1000 := by omega
          have hx2 : 0 < x := by omega
          obtain ⟨fn, tmps, assign, body, hy, hR⟩ := hY1
          clear ht hJe hpart2 hpre e1 hst htn hpart hY hxz
          have HR := Lib.hid hR
          clear hR
          gi_wp2_with (refine ⟨trivial, ?_⟩; gi_at_call 87; refine (callsIn_wide.2 (tz_at x t _ hx0 hx1 Ht.out)).mono ?_; rintro e w' ⟨rfl, rfl⟩)
          refine HR.out.mono ?_
          rintro e W3 (⟨rfl, hJ3, hk3⟩ | ⟨rfl, hJx3⟩)
          · gi_wp2
            go_roundw
            case rel => exact ⟨part ++ [t], low x, rfl, hl0, by omega, Hp2.out, by rw [HJe.out]; exact hJ3, hB2.trans hk3⟩
            case measure => simp only [intOf]; have := hl1; show (low x).toNat < _; simp; omega
          · gi_wp2
            refine bodyPost_ret (results_none rfl _ _ _) rfl ?_
            exact ⟨⟨_, rfl⟩, .inr ⟨_, Hpre.out, hJx3⟩⟩
    · obtain rfl : k = xs.length := by omega
      gi_wp2
      go_end0
      exact ⟨⟨_, rfl⟩, .inl ⟨_, rfl, hJ⟩⟩

theorem onesMake_in (n : Nat) (v : Value) (c l : Nat) (A : Option Addr) (hv : v = .slice A l c) (w : World) :
    CallsIn Fence.wide n Try.prog 81 #[v] w fun e w' => e = .returned (.func (.func 86) #[] #[.pointer (some ⟨w.heap.size, 0, none⟩)]) ∧ w' = w.alloc (.cells #[v] 25) := by
  subst hv
  refine callsIn_of_wp Try.func81 rfl trivial ?_ rfl
  simp only [Try.ntmps81, List.size_toArray, List.length_cons, List.length_nil, Nat.reduceAdd, Nat.reduceSub, Array.replicate_succ, Array.replicate_zero, List.push_toArray, List.append_toArray, List.nil_append, List.cons_append]
  gi_wp2
  go_ret
  exact ⟨rfl, rfl⟩

/-- the number of a bit -/
abbrev Bitno := { x : Nat // x < 8000 }
def plainB (p : List Bitno) : List Nat := p.map (·.1)

theorem ones_stops (n : Nat) (hn : 1 ≤ n) (Bn n₀ : Nat) (A : Option Addr) (c : Nat) (xs : List Int) (hxs : xs.length ≤ 1000) (w : World) (hBl : Bn < w.heap.size) (hn₀ : n₀ ≤ w.heap.size)
    (hc : w.cell? ⟨Bn, 0, none⟩ = some (.slice A xs.length c)) (hL : Bts w n₀ A xs) :
    SeqStopsK Fence.wide n Try.prog 86 #[.pointer (some ⟨Bn, 0, none⟩)] (fun x : Bitno => #[Value.int .i64 ((x.1 : Nat) : Int)]) (KeepsBox n₀ Bn) (fun ys => plainB ys = ones xs) (fun pre => plainB pre <+: ones xs) (ones xs).length w := fun l J Jx W hW _ _ hY h0 => by
  refine CallsIn.mono (ones1_in n hn l Bn n₀ A c xs hxs (fun p W => ∃ q, plainB q = p ∧ J q W) (fun p W => ∃ q, plainB q = p ∧ Jx q W) ?_ W ((hW.cell (p := ⟨Bn, 0, none⟩) hBl).trans hc) (hL.below (hW.mono hn₀)) ⟨[], rfl, h0⟩) ?_
  · rintro _ x W1 ⟨q, rfl, hq⟩ hl hx
    obtain ⟨fn, tmps, assign, body, hy, hR⟩ := hY q ⟨x, hx⟩ W1 hq (by simpa [plainB] using hl)
    refine ⟨fn, tmps, assign, body, hy, hR.mono ?_⟩
    rintro e W' (⟨he, hJ, hk⟩ | ⟨he, hJ⟩)
    · exact .inl ⟨he, ⟨_, by simp [plainB], hJ⟩, hk⟩
    · exact .inr ⟨he, _, by simp [plainB], hJ⟩
  · rintro e W' ⟨he, ⟨ys, rfl, q, hq, hJ⟩ | ⟨pre, hp, q, rfl, hJ⟩⟩
    · exact ⟨he, .inl ⟨q, hq, hJ⟩⟩
    · exact ⟨he, .inr ⟨q, hp, hJ⟩⟩

end Go.Proofs.Ytpcindemkkdbbaa.Bs
