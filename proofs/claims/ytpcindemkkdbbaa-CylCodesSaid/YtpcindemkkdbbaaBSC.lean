/- Contract of Make; Make and List are each other's way back. -/
import Derived.Test.YtpcindemkkdbbaaBSB
namespace Go.Proofs.Ytpcindemkkdbbaa.Bs
set_option linter.unusedVariables false
set_option linter.unusedSimpArgs false
open Go.RowKit Go.Shelf
theorem snocInd {α : Type} {P : List α → Prop} (h0 : P []) (h1 : ∀ p i, P p → P (p ++ [i])) (l : List α) : P l := by
  have h : ∀ l : List α, P l.reverse := by
    intro l
    induction l with
    | nil => exact h0
    | cons a l ih => rw [List.reverse_cons]; exact h1 _ _ ih
  have := h l.reverse
  rwa [List.reverse_reverse] at this
def OwnB (w : World) (B : Nat) (v : Value) (l : List Int) : Prop := w.ownsRow B 5 1 v l.length (bytesV l)
open Go.RowKit Go.Shelf

/-- a slice's address under which, below block B, the cells are the ints l -/
def Ints (w : World) (B : Nat) (A : Option Addr) (l : List Int) : Prop :=
  0 < l.length → ∃ b off, A = some ⟨b, off, none⟩ ∧ b < B ∧ ∀ j, j < l.length → w.cell? ⟨b, off + j, none⟩ = some (.int .i64 (nth l j))
section
variable {w w' : World} {B B' : Nat} {A : Option Addr} {l : List Int}
theorem Ints.at_ (h : Ints w B A l) {k : Nat} (hk : k < l.length) : ∃ b off, A = some ⟨b, off, none⟩ ∧ b < B ∧ w.cell? ⟨b, off + k, none⟩ = some (.int .i64 (nth l k)) := by
  obtain ⟨b, off, e, hb, hc⟩ := h (by omega)
  exact ⟨b, off, e, hb, hc k hk⟩
theorem Ints.keep (h : Ints w B A l) (hk : ∀ p : Addr, p.block < B → w'.cell? p = w.cell? p) : Ints w' B A l := fun hn => by
  obtain ⟨b, off, e, hb, hc⟩ := h hn
  exact ⟨b, off, e, hb, fun j hj => (hk _ hb).trans (hc j hj)⟩
theorem Ints.more (h : Ints w B A l) (hB : B ≤ B') : Ints w B' A l := fun hn => by
  obtain ⟨b, off, e, hb, hc⟩ := h hn
  exact ⟨b, off, e, by omega, hc⟩
theorem Ints.below (h : Ints w B A l) (hb : Below B w w') : Ints w' B A l := h.keep fun _ hp => hb.cell hp
theorem Ints.nil : Ints w B A [] := fun h => by simp at h
end
def intsV (l : List Int) : List Value := l.map fun i => Value.int .i64 i
def natsI (l : List Nat) : List Int := l.map fun i : Nat => (i : Int)
theorem natsV_intsV (l : List Nat) : natsV l = intsV (natsI l) := by simp [natsV, intsV, natsI]
theorem length_natsI (l : List Nat) : (natsI l).length = l.length := by simp [natsI]

/-- a slice that owns ints is such a slice -/
theorem own_ints {w : World} {B : Nat} {v : Value} {n : Nat} {l : List Int} (h : w.ownsRow B 3 1 v n (intsV l)) : ∃ A c, v = .slice A l.length c ∧ l.length ≤ c ∧ c ≤ maxLen ∧ Ints w w.heap.size A l := by
  have hn : l.length = n := by have := h.1; simpa [intsV] using this
  subst hn
  rcases h.2 with ⟨rfl, hn⟩ | ⟨g, cap, cur, rfl, _, hg, hnc, hcm, _⟩
  · have hl : l = [] := List.eq_nil_of_length_eq_zero hn
    subst hl
    exact ⟨none, 0, rfl, Nat.le_refl _, Nat.zero_le _, Ints.nil⟩
  · refine ⟨some ⟨g, 0, none⟩, cap, rfl, hnc, hcm, fun _ => ⟨g, 0, rfl, (h.lt g rfl).2, fun j hj => ?_⟩⟩
    rw [Nat.zero_add, h.cellAt j (by omega), intsV, List.getElem?_map, List.getElem?_eq_getElem hj, nth_lt hj]; rfl

theorem take_snoc' {α : Type} (p : List α) (k : Nat) (h : k < p.length) : p.take (k + 1) = p.take k ++ [p[k]] := by
  rw [List.take_succ_eq_append_getElem h]
open Go.RowKit Go.Shelf

def accB (n : Nat) (l : List Int) : List Int := l.foldl (fun b x => setB b x.toNat true) (List.replicate n 0)
theorem accB_snoc (n : Nat) (l : List Int) (x : Int) : accB n (l ++ [x]) = setB (accB n l) x.toNat true := by simp [accB]
theorem length_accB (n : Nat) (l : List Int) : (accB n l).length = n := by
  induction l using snocInd with
  | h0 => simp [accB]
  | h1 l x ih => rw [accB_snoc, length_setB, ih]
theorem accB_all (n : Nat) (l : List Int) : AllB (accB n l) := by
  induction l using snocInd with
  | h0 => intro x hx; simp [accB] at hx; rw [hx.2]; decide
  | h1 l x ih => rw [accB_snoc]; exact setB_all ih _ _
theorem accB_take (n : Nat) (l : List Int) (k : Nat) (h : k < l.length) : accB n (l.take (k + 1)) = setB (accB n (l.take k)) (nth l k).toNat true := by
  rw [take_snoc' l k h, accB_snoc, nth_lt h]

def inI (l : List Int) : Prop := ∀ x ∈ l, -9223372036854775808 ≤ x ∧ x ≤ 9223372036854775807
theorem inI.nth {l : List Int} (h : inI l) {k : Nat} (hk : k < l.length) : -9223372036854775808 ≤ nth l k ∧ nth l k ≤ 9223372036854775807 := by
  rw [nth_lt hk]; exact h _ (List.getElem_mem hk)

/-- what Make answers -/
def MakeSays (w : World) (n : Nat) (l : List Int) (e : Ending) (w' : World) : Prop :=
  Below w.heap.size w w' ∧ ((∃ v, e = .returned (.tuple #[v, .int .i64 0]) ∧ OwnB w' w.heap.size v (accB n l) ∧ ∀ k, k < l.length → hasB n (nth l k) = true) ∨ (e = .returned (.tuple #[.slice none 0 0, .int .i64 2]) ∧ ∃ k, k < l.length ∧ hasB n (nth l k) = false))




set_option maxRecDepth 100000 in
set_option maxHeartbeats 2000000 in
theorem make_any (A : Option Addr) (c n m : Nat) (l : List Int) (w : World) (hm : m = l.length) (hn : n ≤ 64) (hI : Ints w w.heap.size A l) (hl : l.length ≤ 100000) (hw : inI l) :
    Calls Try.prog 67 #[.int .i64 (n : Int), .slice A m c] w (MakeSays w n l) := by
  subst hm
  have hn64 : (n : Int) ≤ 64 := by omega
  have hmk := fun W => run_make_row' (P := Try.prog) 25 5 (.int .u8 0) 1 Try.underlying25 info5 rfl .i64 .i64 n (by omega) (by omega) W
  rw [made_bytes] at hmk
  obtain ⟨L0, hL0⟩ : ∃ L0, L0 = bytesV (List.replicate n 0) := ⟨_, rfl⟩
  rw [← hL0] at hmk
  have HL0 := Lib.hid hL0
  clear hL0
  go_enter Try.func67, Try.ntmps67
  go_wp2
  go_loopw [19] (fun i wr => ∃ k : Nat, k ≤ l.length ∧ i = .int .i64 k ∧ BlkIs wr w.heap.size 5 (bytesV (accB n (l.take k))) ∧ Below w.heap.size w wr ∧ ∀ j, j < k → hasB n (nth l j) = true) (fun i _ => l.length - (intOf i).toNat)
  case atStart =>
    refine ⟨0, Nat.zero_le _, rfl, ?_, (Below.refl _ _).alloc (Nat.le_refl _) _, by simp⟩
    have := heap_alloc_new w (.cells L0.toArray 5)
    rw [HL0.out] at this
    rw [HL0.out]
    exact this
  case round =>
    obtain ⟨k, hk, rfl, hblk, hB, hall⟩ := hrel
    rename World => wr
    have Hall := Lib.hid hall
    clear hall
    by_cases hlt : k < l.length
    · have hlti : (k : Int) < (l.length : Int) := by omega
      have hk0 : (0 : Int) ≤ (k : Int) := by omega
      obtain ⟨b, off, rfl, hbb, hck⟩ := (hI.below hB).at_ hlt
      have hx := hw.nth hlt
      have hst := accB_take n l k hlt
      obtain ⟨x, hxe⟩ : ∃ x, x = nth l k := ⟨_, rfl⟩
      rw [← hxe] at hck hx hst
      have Hxe := Lib.hid hxe
      have Hst := Lib.hid hst
      clear hst hxe
      cases hh : hasB n x with
      | false =>
        have Hh := Lib.hid hh
        clear hh hblk
        go_wp2_with (go_at_call 75; refine (there_no _ _ _ hx Hh.out).mono ?_; rintro e w' ⟨rfl, rfl⟩)
        go_ret2
        exact ⟨hB, .inr ⟨rfl, k, hlt, by rw [← Hxe.out]; exact Hh.out⟩⟩
      | true =>
        have Hh := Lib.hid hh
        obtain ⟨hx0, hx8⟩ := hasB_out hh
        obtain ⟨i, rfl⟩ := Int.eq_ofNat_of_zero_le hx0
        have hi8 : i / 8 < n := by omega
        have hla := length_accB n (l.take k)
        have hc1 : wr.cell? ⟨w.heap.size, i / 8, none⟩ = some (.int .u8 (nth (accB n (l.take k)) (i / 8))) := by
          rw [hblk.cell, bytesV, List.getElem?_map, List.getElem?_eq_getElem (by omega), nth_lt (by omega)]; rfl
        have hf1 : wr.frozen? ⟨w.heap.size, i / 8, none⟩ = false := hblk.frozen _
        obtain ⟨y, hy⟩ : ∃ y, y = nth (accB n (l.take k)) (i / 8) := ⟨_, rfl⟩
        rw [← hy] at hc1
        have hfin : BlkIs (wr.setCell ⟨w.heap.size, i / 8, none⟩ (.int .u8 (bits .or .u8 y (mk8 i)))).drew w.heap.size 5 (bytesV (accB n (l.take (k + 1)))) := by
          rw [Hst.out, Int.toNat_natCast, hy]
          exact hblk.setByte rfl (i / 8) _
        have hB2 := (hB.setCell (p := ⟨w.heap.size, i / 8, none⟩) (Nat.le_refl _) (.int .u8 (bits .or .u8 y (mk8 i)))).drew
        have Hfin := Lib.hid hfin
        have HB2 := Lib.hid hB2
        have h63 : (i : Int) ≤ 9223372036854775807 := hx.2
        have HX : Hid (∀ j, j < k + 1 → hasB n (nth l j) = true) := fun j hj => by
          by_cases e : j = k
          · subst e; rw [← Hxe.out]; exact Hh.out
          · exact Hall.out j (by omega)
        clear hh hblk hla hy hfin hB2
        have hwr : IntKind.i64.wrap ((i : Int) / 8) = (i : Int) / 8 := IntWalk.i64_in _ (by omega)
        have hix : ((i : Int) / 8).toNat = i / 8 := by omega
        go_wp2_with (go_at_call 75; refine (there_yes _ _ _ hx Hh.out).mono ?_; rintro e w' ⟨rfl, rfl⟩)
        go_region_with (go_at_call 76; refine (mask_any _ _ hx0 h63).mono ?_; rintro e w3 ⟨rfl, rfl⟩)
        all_goals
          go_wp2
          go_roundw
          case rel => exact ⟨k + 1, by omega, by go_num, Hfin.out, HB2.out, HX.out⟩
          case measure => simp [intOf]; omega
    · obtain rfl : k = l.length := by omega
      rw [List.take_length] at hblk
      have hlti : ¬ (l.length : Int) < (l.length : Int) := by omega
      have Hblk := Lib.hid hblk
      clear hblk
      go_wp2
      go_ret2
      refine ⟨hB, .inl ⟨_, rfl, ?_, Hall.out⟩⟩
      unfold OwnB
      rw [length_accB]
      exact ⟨by simp [bytesV, length_accB], .inr ⟨_, _, _, rfl, Nat.le_refl _, Hblk.out, Nat.le_refl _, by unfold maxLen; omega, by simp [bytesV, length_accB], by simp [bytesV, List.take_of_length_le, length_accB]⟩⟩



theorem nth_set (l : List Int) (i j : Nat) (v : Int) : nth (l.set i v) j = if i = j ∧ j < l.length then v else nth l j := by
  unfold nth
  rw [List.getD_eq_getElem?_getD, List.getD_eq_getElem?_getD, List.getElem?_set]
  by_cases h : i = j
  · subst h
    by_cases hl : i < l.length
    · simp [hl]
    · rw [if_pos rfl, if_neg hl, if_neg (by simp [hl]), List.getElem?_eq_none (by omega)]
  · rw [if_neg h, if_neg (by simp [h])]

theorem bitN_setB (l : List Int) (hl : AllB l) (i j : Nat) (on : Bool) (h : i / 8 < l.length) : bitN (setB l i on) j = if j = i then on else bitN l j := by
  have key : ∀ (x : Fin 256) (k j : Fin 8), (bits .or .u8 (x.val : Int) (2 ^ k.val)).toNat.testBit j.val = (if j = k then true else x.val.testBit j.val) ∧ (bits .andNot .u8 (x.val : Int) (2 ^ k.val)).toNat.testBit j.val = (if j = k then false else x.val.testBit j.val) := by decide +kernel
  have hx := hl.nth (i / 8)
  obtain ⟨x, hx'⟩ := Int.eq_ofNat_of_zero_le hx.1
  have k := key ⟨x, by omega⟩ ⟨i % 8, by omega⟩ ⟨j % 8, by omega⟩
  have hm : mk8 (i : Int) = 2 ^ (i % 8) := by unfold mk8; rw [show ((i : Int) % 8).toNat = i % 8 from by omega]
  simp only [Fin.mk.injEq] at k
  unfold bitN setB
  rw [nth_set, hm, hx']
  by_cases hj : i / 8 = j / 8
  · rw [if_pos ⟨hj, by omega⟩]
    by_cases hr : j % 8 = i % 8
    · rw [if_pos (show j = i by omega)]
      rw [if_pos hr, if_pos hr] at k
      cases on
      · rw [if_neg (by simp)]; exact k.2
      · rw [if_pos rfl]; exact k.1
    · rw [if_neg (show ¬ j = i by omega)]
      rw [if_neg hr, if_neg hr] at k
      rw [← hj, hx']
      cases on
      · rw [if_neg (by simp)]; exact k.2
      · rw [if_pos rfl]; exact k.1
  · rw [if_neg (by omega), if_neg (by intro e; subst e; exact hj rfl)]

theorem mem_ones {l : List Int} {j : Nat} (h : j ∈ ones l) : bitN l j = true ∧ j < 8 * l.length := by
  unfold ones at h
  rw [onesTo_filter] at h
  obtain ⟨h1, h2⟩ := List.mem_filter.1 h
  exact ⟨h2, List.mem_range.1 h1⟩
open Go.RowKit

theorem byte_eq (x y : Int) (hx : 0 ≤ x ∧ x ≤ 255) (hy : 0 ≤ y ∧ y ≤ 255) (h : ∀ k, k < 8 → x.toNat.testBit k = y.toNat.testBit k) : x = y := by
  have e : x.toNat = y.toNat := by
    apply Nat.eq_of_testBit_eq
    intro k
    by_cases hk : k < 8
    · exact h k hk
    · have h2 : (256 : Nat) ≤ 2 ^ k := by
        have : (2 : Nat) ^ 8 ≤ 2 ^ k := Nat.pow_le_pow_right (by decide) (by omega)
        omega
      rw [Nat.testBit_lt_two_pow (show x.toNat < 2 ^ k by omega), Nat.testBit_lt_two_pow (show y.toNat < 2 ^ k by omega)]
  omega
theorem bytes_eq (a b : List Int) (ha : AllB a) (hb : AllB b) (hl : a.length = b.length) (h : ∀ j, j < 8 * a.length → bitN a j = bitN b j) : a = b := by
  apply List.ext_getElem hl
  intro i h1 h2
  have := byte_eq (nth a i) (nth b i) (ha.nth i) (hb.nth i) (fun k hk => by
    have := h (8 * i + k) (by omega)
    unfold bitN at this
    rwa [show (8 * i + k) / 8 = i from by omega, show (8 * i + k) % 8 = k from by omega] at this)
  rwa [nth_lt h1, nth_lt h2] at this
theorem bitN_zero (n j : Nat) : bitN (List.replicate n 0) j = false := by
  unfold bitN nth
  rw [List.getD_eq_getElem?_getD, List.getElem?_replicate]
  split <;> simp
theorem bitN_accB (n : Nat) (L : List Int) (h : ∀ x ∈ L, hasB n x = true) (j : Nat) : bitN (accB n L) j = decide ((j : Int) ∈ L) := by
  induction L using snocInd with
  | h0 => simp [accB, bitN_zero]
  | h1 L x ih =>
    have hx := hasB_out (h x (by simp))
    rw [accB_snoc, bitN_setB _ (accB_all _ _) _ _ _ (by rw [length_accB]; omega), ih (fun y hy => h y (List.mem_append_left _ hy))]
    by_cases e : j = x.toNat
    · rw [if_pos e]
      have : (j : Int) = x := by omega
      simp [this]
    · rw [if_neg e]
      have : ¬ (j : Int) = x := by omega
      simp [this]
theorem ones_has (l : List Int) : ∀ x ∈ natsI (ones l), hasB l.length x = true := by
  intro x hx
  obtain ⟨i, hi, rfl⟩ := List.mem_map.1 hx
  have := mem_ones hi
  unfold hasB
  simp
  omega
theorem mem_natsI {p : List Nat} {j : Nat} : (j : Int) ∈ natsI p ↔ j ∈ p := by
  constructor
  · intro h
    obtain ⟨i, hi, e⟩ := List.mem_map.1 h
    have : i = j := by omega
    rw [← this]; exact hi
  · intro h
    exact List.mem_map.2 ⟨j, h, rfl⟩
theorem ones_mem {l : List Int} {j : Nat} (h1 : bitN l j = true) (h2 : j < 8 * l.length) : j ∈ ones l := by
  unfold ones
  rw [onesTo_filter]
  exact List.mem_filter.2 ⟨List.mem_range.2 h2, h1⟩
/-- MAKE OF LIST IS THE BYTES -/
theorem make_list (l : List Int) (hl : AllB l) : accB l.length (natsI (ones l)) = l := by
  refine bytes_eq _ _ (accB_all _ _) hl (length_accB _ _) fun j hj => ?_
  rw [length_accB] at hj
  rw [bitN_accB _ _ (ones_has l)]
  cases hb : bitN l j with
  | true => simp [mem_natsI, ones_mem hb hj]
  | false =>
    simp only [decide_eq_false_iff_not, mem_natsI]
    intro h
    rw [(mem_ones h).1] at hb
    cases hb
theorem natsI_in (l : List Int) (hl : l.length ≤ 1000) : inI (natsI (ones l)) := by
  intro x hx
  obtain ⟨i, hi, rfl⟩ := List.mem_map.1 hx
  have := (mem_ones hi).2
  omega
theorem has_nth {l : List Int} {n : Nat} (h : ∀ x ∈ l, hasB n x = true) : ¬ ∃ k, k < l.length ∧ hasB n (nth l k) = false := by
  rintro ⟨k, hk, hf⟩
  rw [nth_lt hk, h _ (List.getElem_mem hk)] at hf
  cases hf

theorem list_at (A : Option Addr) (c n : Nat) (xs : List Int) (w : World) (hn : xs.length = n) (hxs : xs.length ≤ 1000) (hL : Bts w w.heap.size A xs) :
    Calls Try.prog 68 #[.slice A n c] w fun e W' => ∃ A' c', e = .returned (.slice A' (ones xs).length c') ∧ Below w.heap.size w W' ∧ Ints W' W'.heap.size A' (natsI (ones xs)) := by
  subst hn
  refine (list_any A c xs w hxs hL).mono ?_
  rintro e W' ⟨v, rfl, hr, hB⟩
  rw [natsV_intsV] at hr
  obtain ⟨A', c', rfl, _, _, hi⟩ := own_ints hr
  exact ⟨A', c', by rw [length_natsI], hB, hi⟩


end Go.Proofs.Ytpcindemkkdbbaa.Bs
