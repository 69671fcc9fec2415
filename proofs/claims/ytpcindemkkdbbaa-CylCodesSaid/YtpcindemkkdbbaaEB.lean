/- A group and its bytes: bytesOf, said, Encode, Decode (BY BV BW SD EN RQ DE BK XR merged). -/
import Derived.Test.YtpcindemkkdbbaaBSC
import Derived.Test.YtpcindemkkdbbaaCA
import Derived.Test.YtpcindemkkdbbaaBF
import Derived.Test.YtpcindemkkdbbaaCE
import Derived.Deep.RegionHeld3
import Derived.ChangeKeysEq
import Derived.Test.YtpcindemkkdbbaaMA
import Derived.Deep.RegionLaw
import Derived.Deep.MidRow
import Derived.Laws.Bits64
/- A group's bytes: contract of bytesOf. -/
namespace Go.Proofs.Ytpcindemkkdbbaa
set_option linter.unusedVariables false
set_option linter.unusedSimpArgs false
open Go.RowKit

def headB (c : Cy) : List Int := [67, c.ix, c.bl, c.fb, c.fi, c.ro]
def frontB (c : Cy) : List Int := headB c ++ (Bs.accB 8 c.us ++ (Bs.accB 2 c.is ++ List.replicate 15 0))
def sumTo (l : List Int) : Nat → Int
  | 0 => 0
  | k + 1 => IntKind.u8.wrap (sumTo l k + nth l k)
def bytesL (c : Cy) : List Int := frontB c ++ [sumTo (frontB c) 31]
theorem length_frontB (c : Cy) : (frontB c).length = 31 := by simp [frontB, headB, Bs.length_accB]
theorem length_bytesL (c : Cy) : (bytesL c).length = 32 := by simp [bytesL, length_frontB]
theorem allB_front {c : Cy} (h : RightC c) : Bs.AllB (frontB c) := by
  intro x hx
  have h1 := h.fb_in
  have h2 := h.fi_in
  have h3 := h.ix
  have h4 := h.bl
  have h5 := h.ro
  unfold frontB headB at hx
  simp only [List.mem_append, List.mem_cons, List.not_mem_nil, or_false] at hx
  rcases hx with (rfl | rfl | rfl | rfl | rfl | rfl) | hx | hx | hx
  · omega
  · omega
  · omega
  · omega
  · omega
  · omega
  · exact Bs.accB_all _ _ x hx
  · exact Bs.accB_all _ _ x hx
  · rw [List.mem_replicate] at hx; omega
theorem sumTo_in (l : List Int) (k : Nat) : 0 ≤ sumTo l k ∧ sumTo l k ≤ 255 := by
  cases k with
  | zero => exact ⟨Int.le_refl _, by show (0:Int) ≤ 255; omega⟩
  | succ k => exact Bs.wrap_u8 _
theorem has8 {c : Cy} (h : RightC c) : ∀ x ∈ c.us, Bs.hasB 8 x = true := by
  intro x hx
  have := h.us.1 x hx
  have := h.bl.2
  unfold Bs.hasB
  simp; omega
theorem has2 {c : Cy} (h : RightC c) : ∀ x ∈ c.is, Bs.hasB 2 x = true := by
  intro x hx
  have := h.is.1 x hx
  unfold Bs.hasB
  simp; omega
/-- what Make answers of numbers that are in range -/
theorem make_in (A : Option Addr) (c n m : Nat) (l : List Int) (w : World) (hm : m = l.length) (hn : n ≤ 64) (hI : Ints w w.heap.size A l) (hl : l.length ≤ 1000) (hh : ∀ x ∈ l, Bs.hasB n x = true) :
    Calls Try.prog 67 #[.int .i64 (n : Int), .slice A m c] w fun e w' => ∃ A' c', e = .returned (.tuple #[.slice A' n c', .int .i64 0]) ∧ Bs.Bts w' w'.heap.size A' (Bs.accB n l) ∧ (∀ b, own A' = some b → w.heap.size ≤ b) ∧ Below w.heap.size w w' := by
  have hw : Bs.inI l := fun x hx => by
    have := Bs.hasB_out (hh x hx)
    omega
  refine (Bs.make_any A c n m l w hm hn hI (by omega) hw).mono ?_
  rintro e w' ⟨hB, ⟨v, rfl, ho, _⟩ | ⟨rfl, k, hk, hf⟩⟩
  · unfold Bs.OwnB at ho
    have hla := Bs.length_accB n l
    rw [hla] at ho
    rcases ho.2 with ⟨rfl, hn0⟩ | ⟨g, cap, cur, rfl, hb, hg, hnc, hcm, hs, ht⟩
    · refine ⟨none, 0, by rw [hn0], ⟨Bs.accB_all _ _, fun q => by rw [hla] at q; omega⟩, (fun b q => by cases q), hB⟩
    · refine ⟨_, cap, rfl, ⟨Bs.accB_all _ _, fun q => ⟨g, 0, rfl, (Array.getElem?_eq_some_iff.1 hg).1, fun j hj => ?_⟩⟩, (fun b q => by obtain rfl := Option.some_inj.1 q; exact hb), hB⟩
      rw [hla] at hj
      rw [Nat.zero_add, ho.cellAt j (by omega), Bs.bytesV, List.getElem?_map, List.getElem?_eq_getElem (by rw [hla]; exact hj), Bs.nth_lt (by rw [hla]; exact hj)]
      rfl
  · rw [Bs.nth_lt hk, hh _ (List.getElem_mem hk)] at hf
    cases hf
end Go.Proofs.Ytpcindemkkdbbaa

/- Contract of bytesOf: rows of bytes. -/
namespace Go.Proofs.Ytpcindemkkdbbaa
set_option linter.unusedVariables false
set_option linter.unusedSimpArgs false
open Go.RowKit

theorem len_bytesV (l : List Int) : (Bs.bytesV l).length = l.length := by simp [Bs.bytesV]
theorem row_cell {W : World} {g k : Nat} {t : TypeId} {l : List Int} (h : W.heap[g]? = some (.cells (Bs.bytesV l).toArray t (0, 0))) (hk : k < l.length) : W.cell? ⟨g, k, none⟩ = some (.int .u8 (nth l k)) := by
  rw [cellAt_of h k, List.getElem?_toArray, Bs.bytesV, List.getElem?_map, List.getElem?_eq_getElem hk, nth_lt hk]; rfl
theorem row_set {W : World} {g k : Nat} {t : TypeId} {l : List Int} {x : Int} (h : W.heap[g]? = some (.cells (Bs.bytesV l).toArray t (0, 0))) : (W.setCell ⟨g, k, none⟩ (.int .u8 x)).heap[g]? = some (.cells (Bs.bytesV (l.set k x)).toArray t (0, 0)) := by
  rw [set_heap h, List.setIfInBounds_toArray, Bs.bytesV, Bs.bytesV, List.map_set]; rfl
def putH (c : Cy) (k : Nat) : List Int := ((headB c).map IntKind.u8.wrap).take k ++ List.replicate (32 - k) 0
theorem headB_wrap {c : Cy} (h : RightC c) : (headB c).map IntKind.u8.wrap = headB c := by
  have hb := allB_front h
  have : ∀ x ∈ headB c, IntKind.u8.wrap x = x := fun x hx => IntWalk.u8_in x (hb x (by unfold frontB; exact List.mem_append_left _ hx))
  exact (List.map_congr_left this).trans (List.map_id _)
theorem putH6 {c : Cy} (h : RightC c) : putH c 6 = headB c ++ List.replicate 26 0 := by
  unfold putH
  rw [headB_wrap h]
  rfl
theorem splice_two (a0 a1 a2 a3 a4 a5 : Int) (U I : List Int) (h8 : U.length = 8) (h2 : I.length = 2) : splice (splice ([a0, a1, a2, a3, a4, a5] ++ List.replicate 26 0) 6 U) 14 I = ([a0, a1, a2, a3, a4, a5] ++ (U ++ (I ++ List.replicate 15 0))) ++ [0] := by
  rcases U with _ | ⟨u0, _ | ⟨u1, _ | ⟨u2, _ | ⟨u3, _ | ⟨u4, _ | ⟨u5, _ | ⟨u6, _ | ⟨u7, _ | ⟨u8, U⟩⟩⟩⟩⟩⟩⟩⟩⟩ <;> simp only [List.length_cons, List.length_nil] at h8 <;> try omega
  rcases I with _ | ⟨i0, _ | ⟨i1, _ | ⟨i2, I⟩⟩⟩ <;> simp only [List.length_cons, List.length_nil] at h2 <;> try omega
  rfl
theorem spliced {c : Cy} (h : RightC c) : splice (splice (putH c 6) 6 (Bs.accB 8 c.us)) 14 (Bs.accB 2 c.is) = frontB c ++ [0] := by
  rw [putH6 h]
  exact splice_two _ _ _ _ _ _ _ _ (Bs.length_accB _ _) (Bs.length_accB _ _)
theorem set_sum (c : Cy) (s x : Int) : (frontB c ++ [s]).set 31 x = frontB c ++ [x] := by
  rw [List.set_append_right _ _ (by rw [length_frontB]; omega), length_frontB]; rfl
theorem nth_front (c : Cy) (s : Int) {k : Nat} (h : k < 31) : nth (frontB c ++ [s]) k = nth (frontB c) k := by
  rw [nth_lt (by simp [length_frontB]; omega), nth_lt (by rw [length_frontB]; exact h), List.getElem_append_left]
theorem nth_sum (c : Cy) (s : Int) : nth (frontB c ++ [s]) 31 = s := by
  rw [nth_lt (by simp [length_frontB]), List.getElem_append_right (by rw [length_frontB]; omega)]; simp [length_frontB]
theorem bts_src {W : World} {B : Nat} {A : Option Addr} {l : List Int} (h : Bs.Bts W B A l) (hl : 0 < l.length) : ∃ ad, A = some ad ∧ ∀ (j : Nat) v, (Bs.bytesV l)[j]? = some v → W.cell? (ad.add j) = some v := by
  obtain ⟨b, off, rfl, hb, hc⟩ := h.2 hl
  refine ⟨_, rfl, fun j v hv => ?_⟩
  have hj : j < l.length := by
    have := (List.getElem?_eq_some_iff.1 hv).1
    rwa [len_bytesV] at this
  rw [Addr.add_lit, hc j hj]
  rw [Bs.bytesV, List.getElem?_map, List.getElem?_eq_getElem hj] at hv
  rw [Bs.nth_lt hj, ← Option.some_inj.1 hv]; rfl
theorem bytesV_one (l : List Int) : ∀ v ∈ Bs.bytesV l, v.oneCell' = true := by
  intro v hv
  obtain ⟨x, _, rfl⟩ := List.mem_map.1 hv
  rfl
theorem splice_bytesV (l m : List Int) (o : Nat) : splice (Bs.bytesV l) o (Bs.bytesV m) = Bs.bytesV (splice l o m) := by
  simp [splice, Bs.bytesV, List.map_take, List.map_drop]
theorem bytesV_all (l : List Int) : (Bs.bytesV l).toArray.all (·.oneCell') = true := by
  rw [List.all_toArray, List.all_eq_true]
  exact bytesV_one l
end Go.Proofs.Ytpcindemkkdbbaa

/- Contract of bytesOf: the walk. -/
namespace Go.Proofs.Ytpcindemkkdbbaa
set_option linter.unusedVariables false
set_option linter.unusedSimpArgs false
open Go.RowKit

def secV (l : List Int) : Value := .agg (Bs.bytesV l).toArray
/-- what loop 1 keeps -/
def HeadAt (w : World) (box : Array Value) (l : List Int) (W : World) : Prop :=
  W.heap[w.heap.size]? = some (.cells box 24 (0, 0)) ∧ W.heap[w.heap.size + 1]? = some (.cells (Bs.bytesV (List.replicate 32 0)).toArray 68 (0, 0)) ∧ W.heap[w.heap.size + 2]? = some (.cells (Bs.bytesV l).toArray 68 (0, 0)) ∧ Below w.heap.size w W
theorem HeadAt.set {w W : World} {box : Array Value} {l : List Int} (h : HeadAt w box l W) (k : Nat) (x : Int) : HeadAt w box (l.set k x) (W.setCell ⟨w.heap.size + 2, k, none⟩ (.int .u8 x)) :=
  ⟨(set_other (by omega) _).trans h.1, (set_other (by omega) _).trans h.2.1, row_set h.2.2.1, h.2.2.2.trans (((Kept.refl W (fun b => b = w.heap.size + 2)).set (.inl rfl)).below (fun b q => by omega) h.2.2.2.size)⟩
theorem HeadAt.next {w W W2 : World} {box : Array Value} {l : List Int} (h : HeadAt w box l W) (hb : Below W.heap.size W W2) : HeadAt w box l W2 :=
  ⟨(hb.block _ (lt_heap h.1)).trans h.1, (hb.block _ (lt_heap h.2.1)).trans h.2.1, (hb.block _ (lt_heap h.2.2.1)).trans h.2.2.1, h.2.2.2.trans (hb.mono h.2.2.2.size)⟩
theorem headAt_made (w : World) (box : Array Value) : HeadAt w box (List.replicate 32 0) (((w.alloc (.cells box 24)).alloc (.cells (Bs.bytesV (List.replicate 32 0)).toArray 68)).alloc (.cells (Bs.bytesV (List.replicate 32 0)).toArray 68)) := by
  have h0 := Go.heap_alloc_new w (.cells box 24)
  generalize hw1 : w.alloc (.cells box 24) = w1 at h0 ⊢
  have hs1 : w1.heap.size = w.heap.size + 1 := by rw [← hw1]; simp
  have hb1 : Below w.heap.size w w1 := by rw [← hw1]; exact (Below.refl _ w).alloc (Nat.le_refl _) _
  have h1 := Go.heap_alloc_new w1 (.cells (Bs.bytesV (List.replicate 32 0)).toArray 68)
  have h10 := Go.heap_alloc_old w1 (.cells (Bs.bytesV (List.replicate 32 0)).toArray 68) (show w.heap.size < w1.heap.size by omega)
  have hb2 : Below w.heap.size w (w1.alloc (.cells (Bs.bytesV (List.replicate 32 0)).toArray 68)) := hb1.alloc hb1.size _
  have hs2 : (w1.alloc (.cells (Bs.bytesV (List.replicate 32 0)).toArray 68)).heap.size = w.heap.size + 2 := by simp [hs1]
  rw [hs1] at h1
  generalize w1.alloc (.cells (Bs.bytesV (List.replicate 32 0)).toArray 68) = w2 at h1 h10 hb2 hs2 ⊢
  have h2 := Go.heap_alloc_new w2 (.cells (Bs.bytesV (List.replicate 32 0)).toArray 68)
  rw [hs2] at h2
  exact ⟨(Go.heap_alloc_old w2 _ (show w.heap.size < w2.heap.size by omega)).trans (h10.trans h0), (Go.heap_alloc_old w2 _ (show w.heap.size + 1 < w2.heap.size by omega)).trans h1, h2, hb2.alloc hb2.size _⟩
theorem rep_rows : (Bs.bytesV (List.replicate 32 0)).toArray = #[.int .u8 0, .int .u8 0, .int .u8 0, .int .u8 0, .int .u8 0, .int .u8 0, .int .u8 0, .int .u8 0, .int .u8 0, .int .u8 0, .int .u8 0, .int .u8 0, .int .u8 0, .int .u8 0, .int .u8 0, .int .u8 0, .int .u8 0, .int .u8 0, .int .u8 0, .int .u8 0, .int .u8 0, .int .u8 0, .int .u8 0, .int .u8 0, .int .u8 0, .int .u8 0, .int .u8 0, .int .u8 0, .int .u8 0, .int .u8 0, .int .u8 0, .int .u8 0] := rfl
theorem putH_set0 (x : Cy) : (putH x 0).set 0 (IntKind.u8.wrap 67) = putH x 1 := rfl
theorem putH_set1 (x : Cy) : (putH x 1).set 1 (IntKind.u8.wrap x.ix) = putH x 2 := rfl
theorem putH_set2 (x : Cy) : (putH x 2).set 2 (IntKind.u8.wrap x.bl) = putH x 3 := rfl
theorem putH_set3 (x : Cy) : (putH x 3).set 3 (IntKind.u8.wrap x.fb) = putH x 4 := rfl
theorem putH_set4 (x : Cy) : (putH x 4).set 4 (IntKind.u8.wrap x.fi) = putH x 5 := rfl
theorem putH_set5 (x : Cy) : (putH x 5).set 5 (IntKind.u8.wrap x.ro) = putH x 6 := rfl
theorem cell_setRow (W : World) {g k : Nat} (j : Nat) (cs : Array Value) (h : k ≠ g) : (W.setRow g cs).cell? ⟨k, j, none⟩ = W.cell? ⟨k, j, none⟩ := by
  unfold World.cell?
  simp only [setRow_other W g k cs h]
theorem HeadAt.copied {w W : World} {box : Array Value} {l : List Int} (h : HeadAt w box l W) (o : Nat) (m : List Int) : HeadAt w box (splice l o m) (W.setRow (w.heap.size + 2) ((Bs.bytesV l).toArray.toList.take o ++ (Bs.bytesV m ++ (Bs.bytesV l).toArray.toList.drop (o + (Bs.bytesV m).length))).toArray) :=
  ⟨(setRow_other W _ _ _ (by omega)).trans h.1, (setRow_other W _ _ _ (by omega)).trans h.2.1, by rw [← splice_bytesV]; exact setRow_heap W _ _ _ _ _ h.2.2.1, below_setRow h.2.2.2 (by omega) _⟩
def boxOf (x : Cy) (A : Option Addr) (c : Nat) (B : Option Addr) (e : Nat) : Array Value := #[.int .i64 x.ix, .int .i64 x.bl, .int .i64 x.fb, .int .i64 x.fi, .int .i64 x.ro, .slice A x.us.length c, .slice B x.is.length e]

set_option maxRecDepth 100000 in
set_option maxHeartbeats 4000000 in
theorem bytes_any (x : Cy) (A : Option Addr) (c : Nat) (A2 : Option Addr) (d : Nat) (w : World) (hR : RightC x) (hU : Ints w w.heap.size A x.us) (hI : Ints w w.heap.size A2 x.is) (hl : x.us.length ≤ 1000) (hl2 : x.is.length ≤ 1000) :
    Calls Try.prog 46 #[x.v A c A2 d] w fun e w' => e = .returned (secV (bytesL x)) ∧ Below w.heap.size w w' := by
  have HM8 : Hid (∀ W, Below w.heap.size w W → Calls Try.prog 67 #[.int .i64 8, .slice A x.us.length c] W fun e w' => ∃ A' c', e = .returned (.tuple #[.slice A' 8 c', .int .i64 0]) ∧ Bs.Bts w' w'.heap.size A' (Bs.accB 8 x.us) ∧ (∀ b, own A' = some b → W.heap.size ≤ b) ∧ Below W.heap.size W w') := fun W hW => make_in A c 8 _ x.us W rfl (by omega) (hU.next hW) hl (has8 hR)
  have HM2 : Hid (∀ W, Below w.heap.size w W → Calls Try.prog 67 #[.int .i64 2, .slice A2 x.is.length d] W fun e w' => ∃ A' c', e = .returned (.tuple #[.slice A' 2 c', .int .i64 0]) ∧ Bs.Bts w' w'.heap.size A' (Bs.accB 2 x.is) ∧ (∀ b, own A' = some b → W.heap.size ≤ b) ∧ Below W.heap.size W w') := fun W hW => make_in A2 d 2 _ x.is W rfl (by omega) (hI.next hW) hl2 (has2 hR)
  have HSP := Lib.hid (spliced hR)
  have Hl8 : Hid ((Bs.accB 8 x.us).length = 8) := Bs.length_accB _ _
  have Hl2 : Hid ((Bs.accB 2 x.is).length = 2) := Bs.length_accB _ _
  have HL : Hid (∀ k, k < 7 → (putH x k).length = 32) := fun k hk => by unfold putH; simp [headB]; omega
  have Hf1 : Hid (∀ s k, k < 31 → nth (frontB x ++ [s]) k = nth (frontB x) k) := fun s k h => nth_front x s h
  have Hf2 : Hid (∀ s, nth (frontB x ++ [s]) 31 = s) := fun s => nth_sum x s
  have Hf3 : Hid (∀ s y, (frontB x ++ [s]).set 31 y = frontB x ++ [y]) := fun s y => set_sum x s y
  have Hf4 : Hid (∀ s, (frontB x ++ [s]).length = 32) := fun s => by simp [length_frontB]
  have HP0 := Lib.hid (putH_set0 x)
  have HP1 := Lib.hid (putH_set1 x)
  have HP2 := Lib.hid (putH_set2 x)
  have HP3 := Lib.hid (putH_set3 x)
  have HP4 := Lib.hid (putH_set4 x)
  have HP5 := Lib.hid (putH_set5 x)
  have Hst : Hid (putH x 0 = List.replicate 32 0) := rfl
  have HE : Hid (bytesL x = frontB x ++ [sumTo (frontB x) 31]) := rfl
  have HSu : Hid (∀ k, sumTo (frontB x) (k + 1) = IntKind.u8.wrap (sumTo (frontB x) k + nth (frontB x) k)) := fun k => rfl
  have Hs0 : Hid (sumTo (frontB x) 0 = 0) := rfl
  have HBx : Hid (boxOf x A c A2 d = #[.int .i64 x.ix, .int .i64 x.bl, .int .i64 x.fb, .int .i64 x.fi, .int .i64 x.ro, .slice A x.us.length c, .slice A2 x.is.length d]) := rfl
  generalize boxOf x A c A2 d = box at HBx
  generalize putH x = pH at *
  generalize sumTo (frontB x) = sT at *
  generalize bytesL x = bL at *
  generalize frontB x = fB at *
  clear hU hI hR hl hl2
  obtain ⟨ix, bl, fb, fi, ro, us, is⟩ := x
  unfold Cy.v
  simp only at *
  generalize Bs.accB 8 us = U8 at *
  generalize Bs.accB 2 is = I2 at *
  generalize us.length = nu at *
  generalize is.length = ni at *
  go_enter Try.func46, Try.ntmps46
  go_wp2_with fail
  go_loopw [23] (fun i W => ∃ k : Nat, k ≤ 6 ∧ i = .int .i64 k ∧ HeadAt w box (pH k) W) (fun i _ => 6 - (intOf i).toNat)
  case atStart => exact ⟨0, Nat.zero_le _, rfl, by rw [Hst.out, HBx.out]; exact headAt_made w _⟩
  case round =>
    obtain ⟨k, hk, rfl, hat⟩ := hrel
    rename World => wr
    have hfr := fun j => frozen_of_row wr (w.heap.size + 2) j _ _ hat.2.2.1
    have f0 := hfr 0
    have f1 := hfr 1
    have f2 := hfr 2
    have f3 := hfr 3
    have f4 := hfr 4
    have f5 := hfr 5
    have hlt := lt_heap hat.2.2.1
    have HA := Lib.hid hat
    clear hfr hat
    obtain rfl | rfl | rfl | rfl | rfl | rfl | rfl : k = 0 ∨ k = 1 ∨ k = 2 ∨ k = 3 ∨ k = 4 ∨ k = 5 ∨ k = 6 := by omega
    · have hc := row_cell HA.out.2.2.1 (k := 0) (by rw [HL.out _ (by omega)]; omega)
      have hix : ∀ W, (Instr.index 81 (.agg #[.int .i64 67, .int .i64 ix, .int .i64 bl, .int .i64 fb, .int .i64 fi, .int .i64 ro]) (.int .i64 0)).run Try.prog W = .ok (.int .i64 67) W := fun _ => by kernel_rfl
      go_wp2_with fail
      go_roundw
      case rel => exact ⟨1, by omega, rfl, by rw [← HP0.out]; exact HA.out.set 0 _⟩
      case measure => simp [intOf]
    · have hc := row_cell HA.out.2.2.1 (k := 1) (by rw [HL.out _ (by omega)]; omega)
      have hix : ∀ W, (Instr.index 81 (.agg #[.int .i64 67, .int .i64 ix, .int .i64 bl, .int .i64 fb, .int .i64 fi, .int .i64 ro]) (.int .i64 1)).run Try.prog W = .ok (.int .i64 ix) W := fun _ => by kernel_rfl
      go_wp2_with fail
      go_roundw
      case rel => exact ⟨2, by omega, rfl, by rw [← HP1.out]; exact HA.out.set 1 _⟩
      case measure => simp [intOf]
    · have hc := row_cell HA.out.2.2.1 (k := 2) (by rw [HL.out _ (by omega)]; omega)
      have hix : ∀ W, (Instr.index 81 (.agg #[.int .i64 67, .int .i64 ix, .int .i64 bl, .int .i64 fb, .int .i64 fi, .int .i64 ro]) (.int .i64 2)).run Try.prog W = .ok (.int .i64 bl) W := fun _ => by kernel_rfl
      go_wp2_with fail
      go_roundw
      case rel => exact ⟨3, by omega, rfl, by rw [← HP2.out]; exact HA.out.set 2 _⟩
      case measure => simp [intOf]
    · have hc := row_cell HA.out.2.2.1 (k := 3) (by rw [HL.out _ (by omega)]; omega)
      have hix : ∀ W, (Instr.index 81 (.agg #[.int .i64 67, .int .i64 ix, .int .i64 bl, .int .i64 fb, .int .i64 fi, .int .i64 ro]) (.int .i64 3)).run Try.prog W = .ok (.int .i64 fb) W := fun _ => by kernel_rfl
      go_wp2_with fail
      go_roundw
      case rel => exact ⟨4, by omega, rfl, by rw [← HP3.out]; exact HA.out.set 3 _⟩
      case measure => simp [intOf]
    · have hc := row_cell HA.out.2.2.1 (k := 4) (by rw [HL.out _ (by omega)]; omega)
      have hix : ∀ W, (Instr.index 81 (.agg #[.int .i64 67, .int .i64 ix, .int .i64 bl, .int .i64 fb, .int .i64 fi, .int .i64 ro]) (.int .i64 4)).run Try.prog W = .ok (.int .i64 fi) W := fun _ => by kernel_rfl
      go_wp2_with fail
      go_roundw
      case rel => exact ⟨5, by omega, rfl, by rw [← HP4.out]; exact HA.out.set 4 _⟩
      case measure => simp [intOf]
    · have hc := row_cell HA.out.2.2.1 (k := 5) (by rw [HL.out _ (by omega)]; omega)
      have hix : ∀ W, (Instr.index 81 (.agg #[.int .i64 67, .int .i64 ix, .int .i64 bl, .int .i64 fb, .int .i64 fi, .int .i64 ro]) (.int .i64 5)).run Try.prog W = .ok (.int .i64 ro) W := fun _ => by kernel_rfl
      go_wp2_with fail
      go_roundw
      case rel => exact ⟨6, by omega, rfl, by rw [← HP5.out]; exact HA.out.set 5 _⟩
      case measure => simp [intOf]
    · clear f0 f1 f2 f3 f4 f5
      have b0 := HA.out.1
      rw [HBx.out] at b0
      obtain ⟨_, _, _, _, _, r5, _⟩ := seven b0
      have HBw := Lib.hid HA.out.2.2.2
      clear b0
      go_wp2_with fail
      refine (HM8.out _ HBw.out).mono ?_
      rintro e w1 ⟨A8, c8, rfl, hb8, ho8, hB1⟩
      obtain ⟨b8, off8, rfl, hlt8, hc8⟩ := hb8.2 (by rw [Hl8.out]; omega)
      have hge8 := ho8 b8 rfl
      have HA1 := Lib.hid (HA.out.next hB1)
      have Hc8 := Lib.hid hc8
      have b0 := HA1.out.1
      rw [HBx.out] at b0
      obtain ⟨_, _, _, _, _, _, r6⟩ := seven b0
      have HBw1 := Lib.hid HA1.out.2.2.2
      clear b0 hb8 hc8 ho8 HA HBw r5
      go_wp2_with fail
      refine (HM2.out _ HBw1.out).mono ?_
      rintro e w2 ⟨A9, c9, rfl, hb2, ho9, hB2⟩
      obtain ⟨b9, off9, rfl, hlt9, hc9⟩ := hb2.2 (by rw [Hl2.out]; omega)
      have hge9 := ho9 b9 rfl
      have HA2 := Lib.hid (HA1.out.next hB2)
      have H8 : Hid (∀ (j : Nat) v, (Bs.bytesV U8)[j]? = some v → w2.cell? ((⟨b8, off8, none⟩ : Addr).add j) = some v) := fun j v hv => by
        have hj : j < U8.length := by have := (List.getElem?_eq_some_iff.1 hv).1; rwa [len_bytesV] at this
        rw [Addr.add_lit, hB2.cell (p := ⟨b8, off8 + j, none⟩) hlt8, Hc8.out j hj]
        rw [Bs.bytesV, List.getElem?_map, List.getElem?_eq_getElem hj] at hv
        rw [Bs.nth_lt hj, ← Option.some_inj.1 hv]; rfl
      have H9 : Hid (∀ (j : Nat) v, (Bs.bytesV I2)[j]? = some v → w2.cell? ((⟨b9, off9, none⟩ : Addr).add j) = some v) := fun j v hv => by
        have hj : j < I2.length := by have := (List.getElem?_eq_some_iff.1 hv).1; rwa [len_bytesV] at this
        rw [Addr.add_lit, hc9 j hj]
        rw [Bs.bytesV, List.getElem?_map, List.getElem?_eq_getElem hj] at hv
        rw [Bs.nth_lt hj, ← Option.some_inj.1 hv]; rfl
      have hz1 := lt_heap HA1.out.2.2.1
      have hne9 : b9 ≠ w.heap.size + 2 := by omega
      clear hb2 hc9 ho9 hB2 HA1 Hc8 HBw1 r6 hge8 hlt8 hge9 hlt9 hz1 hlt
      have H9' : Hid (∀ cs (j : Nat) v, (Bs.bytesV I2)[j]? = some v → (w2.setRow (w.heap.size + 2) cs).cell? ((⟨b9, off9, none⟩ : Addr).add j) = some v) := fun cs j v hv => by
        have := H9.out j v hv
        rw [Addr.add_lit] at this ⊢
        rw [cell_setRow _ _ _ hne9]; exact this
      have hzw : w.heap.size + 2 < w2.heap.size := lt_heap HA2.out.2.2.1
      go_wp2_with (first
       | (refine wpList_copy_own rfl (.tmp 44) (.tmp 45) 25 25 rfl 5 Try.underlying25 Bs.size5 (w.heap.size + 2) 6 26 26 ⟨b8, off8, none⟩ 8 c8 rfl rfl _ 68 HA2.out.2.2.1 (Bs.bytesV U8) (by rw [len_bytesV, Hl8.out]; rfl) H8.out (by rw [List.size_toArray, len_bytesV, len_bytesV, Hl8.out, HL.out 6 (by omega)]; omega) (bytesV_one U8) ?_
          have HA3 := Lib.hid (HA2.out.copied 6 U8)
          have H9c := H9'.out ((Bs.bytesV (pH 6)).toArray.toList.take 6 ++ (Bs.bytesV U8 ++ (Bs.bytesV (pH 6)).toArray.toList.drop (6 + (Bs.bytesV U8).length))).toArray
          generalize World.setRow w2 (w.heap.size + 2) _ = w3 at HA3 H9c ⊢
          have HL3 : Hid ((splice (pH 6) 6 U8).length = 32) := (by unfold Hid; rw [length_splice _ _ _ (by rw [Hl8.out, HL.out 6 (by omega)]; omega)]; exact HL.out 6 (by omega))
          have H9d := Lib.hid H9c
          clear H9c)
       | (refine wpList_copy_own rfl (.tmp 47) (.tmp 48) 25 25 rfl 5 Try.underlying25 Bs.size5 (w.heap.size + 2) 14 18 18 ⟨b9, off9, none⟩ 2 c9 rfl rfl _ 68 HA3.out.2.2.1 (Bs.bytesV I2) (by rw [len_bytesV, Hl2.out]; rfl) H9d.out (by rw [List.size_toArray, len_bytesV, len_bytesV, Hl2.out, HL3.out]; omega) (bytesV_one I2) ?_
          have HA4 := Lib.hid (HA3.out.copied 14 I2)
          generalize World.setRow w3 (w.heap.size + 2) _ = w4 at HA4 ⊢))
      have HA5 : Hid (HeadAt w box (fB ++ [sT 0]) w4) := by rw [Hs0.out, ← HSP.out]; exact HA4.out
      clear HA4 HA3 H9d HL3 H9' H9 H8 HA2 hne9 hzw HM8 HM2
      go_loopw [52] (fun i W => ∃ k : Nat, k ≤ 31 ∧ i = .int .i64 k ∧ HeadAt w box (fB ++ [sT k]) W) (fun i _ => 31 - (intOf i).toNat)
      case atStart => exact ⟨0, Nat.zero_le _, rfl, HA5.out⟩
      case round =>
        obtain ⟨k, hk, rfl, hat⟩ := hrel
        rename World => wx
        have HA := Lib.hid hat
        have hltx := lt_heap hat.2.2.1
        have hk0 : (0 : Int) ≤ (k : Int) := by omega
        by_cases hlt : k < 31
        · have hlti : (k : Int) < 31 := by omega
          have hck := row_cell hat.2.2.1 (k := k) (by rw [Hf4.out]; omega)
          rw [Hf1.out _ _ hlt] at hck
          have hcs := row_cell hat.2.2.1 (k := 31) (by rw [Hf4.out]; omega)
          rw [Hf2.out] at hcs
          have hfz := frozen_of_row wx (w.heap.size + 2) 31 _ _ hat.2.2.1
          clear hat
          go_wp2_with fail
          go_roundw
          case rel => exact ⟨k + 1, by omega, by go_num, by rw [HSu.out, ← Hf3.out (sT k)]; exact HA.out.set 31 _⟩
          case measure => simp [intOf]; omega
        · obtain rfl : k = 31 := by omega
          have b2 := HA.out.2.2.1
          rw [← HE.out] at b2
          have b1 := HA.out.2.1
          have HB2 := Lib.hid b2
          have HB1 := Lib.hid b1
          have Hsz : Hid ((Try.prog.info? 68).map (·.size) = some (Bs.bytesV bL).toArray.size) := by
            unfold Hid
            rw [List.size_toArray, len_bytesV, HE.out, Hf4.out]; kernel_rfl
          have Hold : Hid ((Bs.bytesV (List.replicate 32 0)).toArray.size = (Bs.bytesV bL).toArray.size) := by
            unfold Hid
            rw [List.size_toArray, List.size_toArray, len_bytesV, len_bytesV, HE.out, Hf4.out]; rfl
          have Hall : Hid ((Bs.bytesV bL).toArray.all (·.oneCell') = true) := bytesV_all bL
          have HBw := Lib.hid HA.out.2.2.2
          clear b1 b2 hat
          go_wp2_with (first
            | (refine wpList_load_row rfl 68 (.tmp 3) rfl (w.heap.size + 2) rfl 68 (Bs.bytesV bL).toArray (0, 0) _ HB2.out Try.underlying68 rfl Hsz.out ?_)
            | (refine wpList_store_row rfl 68 (.tmp 2) (.tmp 62) rfl (w.heap.size + 1) (Bs.bytesV bL).toArray rfl rfl 68 _ HB1.out Hsz.out Hold.out Hall.out ?_))
          refine bodyPost_ret (v := secV bL) ?_ rfl ⟨rfl, below_setRow HBw.out (Nat.le_succ _) _⟩
          exact results_cell_row rfl _ _ (w.heap.size + 1) 68 (Bs.bytesV bL).toArray (0, 0) _ rfl (setRow_heap wx _ _ _ _ _ HB1.out) Try.underlying68 rfl Hsz.out
end Go.Proofs.Ytpcindemkkdbbaa

/- The group that bytes say: contract of said. -/
namespace Go.Proofs.Ytpcindemkkdbbaa
set_option linter.unusedVariables false
set_option linter.unusedSimpArgs false
open Go.RowKit

def usS (l : List Int) : List Int := Bs.natsI (Bs.ones ((l.drop 6).take 8))
def isS (l : List Int) : List Int := Bs.natsI (Bs.ones ((l.drop 14).take 2))
def saidC (l : List Int) : Cy := ⟨nth l 1, nth l 2, nth l 3, nth l 4, nth l 5, usS l, isS l⟩
theorem part_bts {W : World} {g o n : Nat} {t : TypeId} {l : List Int} (hl : Bs.AllB l) (h : W.heap[g]? = some (.cells (Bs.bytesV l).toArray t (0, 0))) (hn : o + n ≤ l.length) : Bs.Bts W W.heap.size (some ⟨g, o, none⟩) ((l.drop o).take n) := by
  refine ⟨fun x hx => hl x (List.mem_of_mem_drop (List.mem_of_mem_take hx)), fun _ => ⟨g, o, rfl, lt_heap h, fun j hj => ?_⟩⟩
  have hj2 : j < n := by rw [List.length_take, List.length_drop] at hj; omega
  rw [row_cell h (by omega), Bs.nth_lt hj, nth_lt (by omega)]
  simp
theorem five {W : World} {g : Nat} {t : TypeId} {l : List Int} (h : W.heap[g]? = some (.cells (Bs.bytesV l).toArray t (0, 0))) (hl : l.length = 32) : W.cell? ⟨g, 1, none⟩ = some (.int .u8 (nth l 1)) ∧ W.cell? ⟨g, 2, none⟩ = some (.int .u8 (nth l 2)) ∧ W.cell? ⟨g, 3, none⟩ = some (.int .u8 (nth l 3)) ∧ W.cell? ⟨g, 4, none⟩ = some (.int .u8 (nth l 4)) ∧ W.cell? ⟨g, 5, none⟩ = some (.int .u8 (nth l 5)) :=
  ⟨row_cell h (by omega), row_cell h (by omega), row_cell h (by omega), row_cell h (by omega), row_cell h (by omega)⟩
theorem list_row (A : Option Addr) (c n : Nat) (xs : List Int) (w : World) (hn : xs.length = n) (hxs : xs.length ≤ 1000) (hL : Bs.Bts w w.heap.size A xs) :
    Calls Try.prog 68 #[.slice A n c] w fun e W' => ∃ A' c', e = .returned (.slice A' (Bs.natsI (Bs.ones xs)).length c') ∧ Below w.heap.size w W' ∧ RowI W' w.heap.size A' c' (Bs.natsI (Bs.ones xs)) := by
  subst hn
  refine (Bs.list_any A c xs w hxs hL).mono ?_
  rintro e W' ⟨v, rfl, hr, hB⟩
  rw [Bs.natsV_intsV] at hr
  obtain ⟨_, A', c', rfl, hi⟩ := own_ints hr
  exact ⟨A', c', rfl, hB, hi⟩

set_option maxRecDepth 100000 in
set_option maxHeartbeats 4000000 in
theorem said_any (l : List Int) (w : World) (hl : l.length = 32) (hb : Bs.AllB l) : Calls Try.prog 47 #[secV l] w (ForkSays w (saidC l)) := by
  have HU : Hid (∀ W : World, W.heap[w.heap.size]? = some (.cells (Bs.bytesV l).toArray 68 (0, 0)) → Calls Try.prog 68 #[.slice (some ⟨w.heap.size, 6, none⟩) 8 26] W fun e W' => ∃ A' c', e = .returned (.slice A' (usS l).length c') ∧ Below W.heap.size W W' ∧ RowI W' W.heap.size A' c' (usS l)) := fun W hW => by
    unfold usS
    exact list_row _ 26 8 ((l.drop 6).take 8) W (by simp; omega) (by simp; omega) (part_bts hb hW (by omega))
  have HI : Hid (∀ W : World, W.heap[w.heap.size]? = some (.cells (Bs.bytesV l).toArray 68 (0, 0)) → Calls Try.prog 68 #[.slice (some ⟨w.heap.size, 14, none⟩) 2 18] W fun e W' => ∃ A' c', e = .returned (.slice A' (isS l).length c') ∧ Below W.heap.size W W' ∧ RowI W' W.heap.size A' c' (isS l)) := fun W hW => by
    unfold isS
    exact list_row _ 18 2 ((l.drop 14).take 2) W (by simp; omega) (by simp; omega) (part_bts hb hW (by omega))
  have H5 : Hid (∀ W : World, W.heap[w.heap.size]? = some (.cells (Bs.bytesV l).toArray 68 (0, 0)) → W.cell? ⟨w.heap.size, 1, none⟩ = some (.int .u8 (nth l 1)) ∧ W.cell? ⟨w.heap.size, 2, none⟩ = some (.int .u8 (nth l 2)) ∧ W.cell? ⟨w.heap.size, 3, none⟩ = some (.int .u8 (nth l 3)) ∧ W.cell? ⟨w.heap.size, 4, none⟩ = some (.int .u8 (nth l 4)) ∧ W.cell? ⟨w.heap.size, 5, none⟩ = some (.int .u8 (nth l 5))) := fun W hW => five hW hl
  have HW1 : Hid (IntKind.i64.wrap (nth l 1) = nth l 1 ∧ IntKind.i64.wrap (nth l 2) = nth l 2 ∧ IntKind.i64.wrap (nth l 3) = nth l 3 ∧ IntKind.i64.wrap (nth l 4) = nth l 4 ∧ IntKind.i64.wrap (nth l 5) = nth l 5) := by
    have q : ∀ k, k < 32 → IntKind.i64.wrap (nth l k) = nth l k := fun k hk => by
      have := hb _ (nth_mem (l := l) (k := k) (by omega))
      exact IntWalk.i64_in _ (by omega)
    exact ⟨q 1 (by omega), q 2 (by omega), q 3 (by omega), q 4 (by omega), q 5 (by omega)⟩
  show Calls Try.prog 47 #[secV l] w fun e w' => ∃ A c B d, e = .returned (.agg #[.int .i64 (nth l 1), .int .i64 (nth l 2), .int .i64 (nth l 3), .int .i64 (nth l 4), .int .i64 (nth l 5), .slice A (usS l).length c, .slice B (isS l).length d]) ∧ RowI w' w.heap.size A c (usS l) ∧ RowI w' w.heap.size B d (isS l) ∧ (∀ b, own A = some b → own B ≠ some b) ∧ Below w.heap.size w w'
  unfold secV
  have HR1 : Hid (∀ W o, W = (w.alloc (.cells (Bs.bytesV l).toArray 68)).alloc o → W.heap[w.heap.size]? = some (.cells (Bs.bytesV l).toArray 68 (0, 0)) ∧ W.heap[w.heap.size + 1]? = some o ∧ Below w.heap.size w W ∧ W.heap.size = w.heap.size + 2) := fun W o e => by
    subst e
    have h0 := Go.heap_alloc_new w (.cells (Bs.bytesV l).toArray 68)
    have h1 := Go.heap_alloc_new (w.alloc (.cells (Bs.bytesV l).toArray 68)) o
    rw [World.size_alloc] at h1
    refine ⟨(Go.heap_alloc_old _ o (show w.heap.size < (w.alloc (.cells (Bs.bytesV l).toArray 68)).heap.size by rw [World.size_alloc]; omega)).trans h0, h1, ((Below.refl _ w).alloc (Nat.le_refl _) _).alloc (by simp) o, by simp⟩
  generalize (Bs.bytesV l).toArray = R0 at *
  generalize nth l 1 = x1 at *
  generalize nth l 2 = x2 at *
  generalize nth l 3 = x3 at *
  generalize nth l 4 = x4 at *
  generalize nth l 5 = x5 at *
  generalize usS l = us at *
  generalize isS l = is at *
  generalize us.length = nu at *
  generalize is.length = ni at *
  clear hl hb
  have HXS := Lib.hid @set7
  go_enter Try.func47, Try.ntmps47
  go_wp2_with fail
  generalize hW0 : World.alloc (World.alloc w _) _ = W0
  obtain ⟨b0, b1, hB0, hs0⟩ := HR1.out _ _ hW0.symm
  have B0 := Lib.hid b0
  have B1 := Lib.hid b1
  have B0d : Hid (W0.drew.heap[w.heap.size]? = some (.cells R0 68 (0, 0))) := b0
  have HB0 := Lib.hid hB0
  have X0 := Lib.hid (H5.out _ b0)
  have X0d := Lib.hid (H5.out W0.drew b0)
  obtain ⟨e1, e2, e3, e4, e5⟩ := HW1.out
  clear hW0 b0 b1 hB0 HR1
  have HS7 : Hid (∀ (W : World) (v0 v1 v2 v3 v4 v5 v6 : Value), W.heap[w.heap.size]? = some (.cells R0 68 (0, 0)) → (((((((W.setCell ⟨w.heap.size + 1, 0, none⟩ v0).setCell ⟨w.heap.size + 1, 1, none⟩ v1).setCell ⟨w.heap.size + 1, 2, none⟩ v2).setCell ⟨w.heap.size + 1, 3, none⟩ v3).setCell ⟨w.heap.size + 1, 4, none⟩ v4).setCell ⟨w.heap.size + 1, 5, none⟩ v5).setCell ⟨w.heap.size + 1, 6, none⟩ v6).cell? ⟨w.heap.size, 1, none⟩ = some (.int .u8 x1) ∧ (((((((W.setCell ⟨w.heap.size + 1, 0, none⟩ v0).setCell ⟨w.heap.size + 1, 1, none⟩ v1).setCell ⟨w.heap.size + 1, 2, none⟩ v2).setCell ⟨w.heap.size + 1, 3, none⟩ v3).setCell ⟨w.heap.size + 1, 4, none⟩ v4).setCell ⟨w.heap.size + 1, 5, none⟩ v5).setCell ⟨w.heap.size + 1, 6, none⟩ v6).cell? ⟨w.heap.size, 2, none⟩ = some (.int .u8 x2) ∧ (((((((W.setCell ⟨w.heap.size + 1, 0, none⟩ v0).setCell ⟨w.heap.size + 1, 1, none⟩ v1).setCell ⟨w.heap.size + 1, 2, none⟩ v2).setCell ⟨w.heap.size + 1, 3, none⟩ v3).setCell ⟨w.heap.size + 1, 4, none⟩ v4).setCell ⟨w.heap.size + 1, 5, none⟩ v5).setCell ⟨w.heap.size + 1, 6, none⟩ v6).cell? ⟨w.heap.size, 3, none⟩ = some (.int .u8 x3) ∧ (((((((W.setCell ⟨w.heap.size + 1, 0, none⟩ v0).setCell ⟨w.heap.size + 1, 1, none⟩ v1).setCell ⟨w.heap.size + 1, 2, none⟩ v2).setCell ⟨w.heap.size + 1, 3, none⟩ v3).setCell ⟨w.heap.size + 1, 4, none⟩ v4).setCell ⟨w.heap.size + 1, 5, none⟩ v5).setCell ⟨w.heap.size + 1, 6, none⟩ v6).cell? ⟨w.heap.size, 4, none⟩ = some (.int .u8 x4) ∧ (((((((W.setCell ⟨w.heap.size + 1, 0, none⟩ v0).setCell ⟨w.heap.size + 1, 1, none⟩ v1).setCell ⟨w.heap.size + 1, 2, none⟩ v2).setCell ⟨w.heap.size + 1, 3, none⟩ v3).setCell ⟨w.heap.size + 1, 4, none⟩ v4).setCell ⟨w.heap.size + 1, 5, none⟩ v5).setCell ⟨w.heap.size + 1, 6, none⟩ v6).cell? ⟨w.heap.size, 5, none⟩ = some (.int .u8 x5)) := fun W v0 v1 v2 v3 v4 v5 v6 h => H5.out _ ((set_other (by omega) _).trans ((set_other (by omega) _).trans ((set_other (by omega) _).trans ((set_other (by omega) _).trans ((set_other (by omega) _).trans ((set_other (by omega) _).trans ((set_other (by omega) _).trans h)))))))
  go_region_held3 (fun W => W.cell? ⟨w.heap.size, 1, none⟩ = some (.int .u8 x1) ∧ W.cell? ⟨w.heap.size, 2, none⟩ = some (.int .u8 x2) ∧ W.cell? ⟨w.heap.size, 3, none⟩ = some (.int .u8 x3) ∧ W.cell? ⟨w.heap.size, 4, none⟩ = some (.int .u8 x4) ∧ W.cell? ⟨w.heap.size, 5, none⟩ = some (.int .u8 x5)) (first | (with_reducible exact X0.out) | (with_reducible exact X0d.out) | (with_reducible exact X5.out) | (with_reducible exact X6.out) | (with_reducible exact HS7.out _ _ _ _ _ _ _ _ B6.out) | go_keep)
    (first | (go_at_call 68; (with_reducible refine (HI.out w5 B5.out).mono ?_); rintro e w6 ⟨A6, c6, rfl, hB6, hI6⟩; have B6 := Lib.hid ((hB6.block _ (lt_heap B5.out)).trans B5.out); have c6' := (hB6.block _ (lt_heap C5.out)).trans C5.out; have C6 := Lib.hid c6'; obtain ⟨r0, r1, r2, r3, r4, r5, r6⟩ := seven c6'; have g0 := frozen_of_row w6 _ 0 _ 24 c6'; have g1 := frozen_of_row w6 _ 1 _ 24 c6'; have g2 := frozen_of_row w6 _ 2 _ 24 c6'; have g3 := frozen_of_row w6 _ 3 _ 24 c6'; have g4 := frozen_of_row w6 _ 4 _ 24 c6'; have g5 := frozen_of_row w6 _ 5 _ 24 c6'; have g6 := frozen_of_row w6 _ 6 _ 24 c6'; have hz6 := lt_heap c6'; have X6 := Lib.hid (H5.out w6 B6.out); have HI56 := Lib.hid (HI5.out.next hB6); have HI5l := Lib.hid (fun b q => (RowI.lt HI5.out (b := b) q).2); have HB6 : Hid (Below w.heap.size w w6) := HB5.out.trans (hB6.mono HB5.out.size); have HI6 := Lib.hid hI6; clear hB6 hI6 c6') | (go_at_call 68; (with_reducible refine (HU.out W0.drew B0d.out).mono ?_); rintro e w5 ⟨A5, c5, rfl, hB5, hI5⟩; have B5 := Lib.hid ((hB5.block _ (lt_heap B0.out)).trans B0.out); have C5 := Lib.hid ((hB5.block _ (lt_heap B1.out)).trans B1.out); have X5 := Lib.hid (H5.out w5 B5.out); have HB5 : Hid (Below w.heap.size w w5) := HB0.out.drew.trans (hB5.mono HB0.out.size); have HI5 := Lib.hid hI5; clear hB5 hI5) | fail)
  have hK := HXS.out w6 (w.heap.size + 1) (fun k => k = w.heap.size + 1) (.int .i64 x1) (.int .i64 x2) (.int .i64 x3) (.int .i64 x4) (.int .i64 x5) (.slice A5 nu c5) (.slice A6 ni c6) rfl
  have hs0d : W0.drew.heap.size = w.heap.size + 2 := hs0
  go_wp2_with fail
  refine bodyPost_ret (v := .agg #[.int .i64 x1, .int .i64 x2, .int .i64 x3, .int .i64 x4, .int .i64 x5, .slice A5 nu c5, .slice A6 ni c6]) (by simp [results, Try.results47, go_sem, r0, r1, r2, r3, r4, r5, r6]) rfl ⟨A5, c5, A6, c6, rfl, ?_, ?_, ?_, ?_⟩
  · exact (HI56.out.keep hK (fun b q r => by have := (HI56.out.lt q).1; omega)).more (by omega)
  · exact (HI6.out.keep hK (fun b q r => by have := (HI6.out.lt q).1; have := lt_heap C5.out; omega)).more (by have := lt_heap C5.out; omega)
  · intro b q q2
    have := HI5l.out b q
    have := (HI6.out.lt q2).1
    omega
  · exact HB6.out.trans (hK.below (fun b q => by omega) (by omega))
end Go.Proofs.Ytpcindemkkdbbaa

/- A group's bytes, by the program: contract of Encode. -/
namespace Go.Proofs.Ytpcindemkkdbbaa
set_option linter.unusedVariables false
set_option linter.unusedSimpArgs false
open Go.RowKit

/-- what Encode answers -/
def EncSays (w : World) (x : Cy) (e : Ending) (w' : World) : Prop :=
  (rightC x = true ∧ ∃ g, e = .returned (.tuple #[.slice (some ⟨g, 0, none⟩) 32 32, .int .i64 0]) ∧ w.heap.size ≤ g ∧ w'.heap[g]? = some (.cells (Bs.bytesV (bytesL x)).toArray 68 (0, 0)) ∧ Below w.heap.size w w') ∨ (rightC x = false ∧ e = .returned (.tuple #[.slice none 0 0, .int .i64 3]) ∧ Below w.heap.size w w')
set_option maxRecDepth 100000 in
set_option maxHeartbeats 4000000 in
theorem encode_any (x : Cy) (A : Option Addr) (c : Nat) (A2 : Option Addr) (d : Nat) (w : World) (hu : x.us.length ≤ 1000) (hi : x.is.length ≤ 1000) (hU : Ints w w.heap.size A x.us) (hI : Ints w w.heap.size A2 x.is) :
    Calls Try.prog 13 #[x.v A c A2 d] w (EncSays w x) := by
  have HF : Hid (∀ W, Below w.heap.size w W → Calls Try.prog 23 #[x.v A c A2 d] W fun e w' => e = .returned (.bool (rightC x)) ∧ Below W.heap.size W w') := fun W hW => right_any x A c A2 d W hu hi (hU.next hW) (hI.next hW)
  have HG : Hid (rightC x = true → ∀ W, Below w.heap.size w W → Calls Try.prog 46 #[x.v A c A2 d] W fun e w' => e = .returned (secV (bytesL x)) ∧ Below W.heap.size W w') := fun hr W hW => bytes_any x A c A2 d W ((rightC_iff x).1 hr) (hU.next hW) (hI.next hW) hu hi
  have HB : Hid (∀ o, Below w.heap.size w (w.alloc o)) := fun o => (Below.refl _ _).alloc (Nat.le_refl _) _
  have Hl : Hid ((Bs.bytesV (bytesL x)).toArray.size = 32) := by unfold Hid; rw [List.size_toArray, len_bytesV, length_bytesL]
  have Hall : Hid ((Bs.bytesV (bytesL x)).toArray.all (·.oneCell') = true) := bytesV_all _
  unfold EncSays
  unfold secV at HG
  generalize (Bs.bytesV (bytesL x)).toArray = R0 at *
  have Hsz : Hid ((Try.prog.info? 68).map (·.size) = some R0.size) := by unfold Hid; rw [Hl.out]; kernel_rfl
  clear hU hI hu hi
  generalize rightC x = rc at *
  obtain ⟨ix, bl, fb, fi, ro, us, is⟩ := x
  unfold Cy.v at *
  simp only at *
  generalize us.length = nu at *
  generalize is.length = ni at *
  cases rc with
  | false =>
    clear HG
    go_enter Try.func13, Try.ntmps13
    go_wp2_with fail
    refine (HF.out _ (HB.out _)).mono ?_
    rintro e w2 ⟨rfl, hB⟩
    have HB2 := Lib.hid ((HB.out _).trans (hB.mono (HB.out _).size))
    clear hB
    go_wp2_with fail
    exact bodyPost_ret (v := .tuple #[.slice none 0 0, .int .i64 3]) (by simp [results, Try.results13, go_sem]) rfl (.inr ⟨trivial, rfl, HB2.out⟩)
  | true =>
    replace HG := Lib.hid (HG.out rfl)
    go_enter Try.func13, Try.ntmps13
    go_wp2_with fail
    generalize hbx : Obj.cells #[.int .i64 ix, .int .i64 bl, .int .i64 fb, .int .i64 fi, .int .i64 ro, .slice A nu c, .slice A2 ni d] 24 = bx
    have hb1 := HB.out bx
    have h01 := Go.heap_alloc_new w bx
    have hs1 : (w.alloc bx).heap.size = w.heap.size + 1 := by simp
    generalize w.alloc bx = W1 at hb1 h01 hs1 ⊢
    subst hbx
    have HB1 := Lib.hid hb1
    refine (HF.out _ hb1).mono ?_
    rintro e w2 ⟨rfl, hB⟩
    obtain ⟨r0, r1, r2, r3, r4, r5, r6⟩ := seven ((hB.block _ (lt_heap h01)).trans h01)
    have HB2 := Lib.hid (hb1.trans (hB.mono hb1.size))
    clear hB hb1 h01
    go_wp2_with fail
    refine (HG.out _ HB2.out).mono ?_
    rintro e w3 ⟨rfl, hB⟩
    have HB3 := Lib.hid (HB2.out.trans (hB.mono HB2.out.size))
    clear hB r0 r1 r2 r3 r4 r5 r6
    have Hold : Hid ((Bs.bytesV (List.replicate 32 0)).toArray.size = R0.size) := by rw [Hl.out]; rfl
    go_wp2_with (refine wpList_store_row rfl 68 (.tmp 4) (.tmp 9) rfl w3.heap.size R0 rfl rfl 68 _ (Go.heap_alloc_new w3 _) Hsz.out Hold.out Hall.out ?_
                 have hfin := setRow_heap _ _ _ R0 _ _ (Go.heap_alloc_new w3 (.cells (Bs.bytesV (List.replicate 32 0)).toArray 68))
                 have hbel := below_setRow (HB3.out.alloc HB3.out.size (.cells (Bs.bytesV (List.replicate 32 0)).toArray 68)) HB3.out.size R0
                 have hsz3 := HB3.out.size)
    exact bodyPost_ret (v := .tuple #[.slice (some ⟨w3.heap.size, 0, none⟩) 32 32, .int .i64 0]) (by simp [results, Try.results13, go_sem]) rfl (.inl ⟨trivial, _, rfl, hsz3, hfin, hbel⟩)
end Go.Proofs.Ytpcindemkkdbbaa

/- Two rows of 32 bytes, compared. -/
namespace Go.Proofs.Ytpcindemkkdbbaa
set_option linter.unusedVariables false
set_option linter.unusedSimpArgs false
open Go.RowKit

theorem plain5 : Try.prog.plainKey 5 = true := by kernel_rfl
theorem cells5 : Try.prog.cellsOf 5 = 1 := by kernel_rfl
theorem bytesV_at (l : List Int) {i : Nat} (h : i < l.length) : (Bs.bytesV l).toArray[i]? = some (.int .u8 (nth l i)) := by
  rw [List.getElem?_toArray, Bs.bytesV, List.getElem?_map, List.getElem?_eq_getElem h, nth_lt h]; rfl
theorem eqItems_bytes (w : World) (d : Nat) (xs ys : List Int) : ∀ is : List Nat, (∀ i ∈ is, i < xs.length ∧ i < ys.length) →
    (Op.eqItems (d + 1) 5 1 (Bs.bytesV xs).toArray (Bs.bytesV ys).toArray is).run Try.prog w = .ok (is.all fun i => nth xs i == nth ys i) w
  | [], _ => by simp [Op.eqItems]
  | i :: is, h => by
    obtain ⟨h1, h2⟩ := h i (by simp)
    have ih := eqItems_bytes w d xs ys is (fun j hj => h j (by simp [hj]))
    simp only [Op.eqItems, Sem.run_bind, Nat.mul_one, run_part_plain w plain5 (bytesV_at xs h1), run_part_plain w plain5 (bytesV_at ys h2), run_equalIn_int w d 5 .u8 .u8 _ _ Try.underlying5, Result.andThen_ok, List.all_cons]
    cases (nth xs i == nth ys i)
    · simp
    · simpa using ih
theorem rows_eq (xs ys : List Int) (hx : xs.length = 32) (hy : ys.length = 32) (w : World) : (Op.equalIn 10000 68 (.agg (Bs.bytesV xs).toArray) (.agg (Bs.bytesV ys).toArray)).run Try.prog w = .ok (decide (xs = ys)) w := by
  obtain ⟨i, hi⟩ : ∃ i, Try.prog.info? 5 = some i := by
    have := Bs.size5
    cases h : Try.prog.info? 5 with
    | none => rw [h] at this; cases this
    | some i => exact ⟨i, rfl⟩
  rw [show (10000 : Nat) = 9999 + 1 from rfl, run_equalIn_array w 9999 _ _ Try.underlying68 hi, cells5, show (9999 : Nat) = 9998 + 1 from rfl, eqItems_bytes w 9998 xs ys (List.range 32) (fun i hi => by rw [List.mem_range] at hi; omega)]
  congr 1
  rw [Bool.eq_iff_iff, List.all_eq_true, decide_eq_true_iff]
  constructor
  · intro h
    refine List.ext_getElem (by omega) fun j h1 h2 => ?_
    have := h j (by rw [List.mem_range]; omega)
    rw [nth_lt h1, nth_lt h2] at this
    simpa using this
  · rintro rfl j _
    simp
end Go.Proofs.Ytpcindemkkdbbaa

/- What bytes say, by the program: contract of Decode. -/
namespace Go.Proofs.Ytpcindemkkdbbaa
set_option linter.unusedVariables false
set_option linter.unusedSimpArgs false
open Go.RowKit

def okD (l : List Int) : Bool := decide (l.length = 32) && (rightC (saidC l) && decide (bytesL (saidC l) = l))
def zeroC : Value := .agg #[.int .i64 0, .int .i64 0, .int .i64 0, .int .i64 0, .int .i64 0, .slice none 0 0, .slice none 0 0]
/-- what Decode answers -/
def DecSays (w : World) (l : List Int) (e : Ending) (w' : World) : Prop :=
  (okD l = true ∧ ∃ A' c' A2' d', e = .returned (.tuple #[(saidC l).v A' c' A2' d', .int .i64 0]) ∧ RowI w' w.heap.size A' c' (saidC l).us ∧ RowI w' w.heap.size A2' d' (saidC l).is ∧ (∀ b, own A' = some b → own A2' ≠ some b) ∧ Below w.heap.size w w') ∨ (okD l = false ∧ e = .returned (.tuple #[zeroC, .int .i64 3]) ∧ Below w.heap.size w w')
theorem said_small (l : List Int) : (saidC l).us.length ≤ 1000 ∧ (saidC l).is.length ≤ 1000 := by
  have h1 := Bs.length_onesTo ((l.drop 6).take 8) ((l.drop 6).take 8).length
  have h2 := Bs.length_onesTo ((l.drop 14).take 2) ((l.drop 14).take 2).length
  have h3 : ((l.drop 6).take 8).length ≤ 8 := by rw [List.length_take]; omega
  have h4 : ((l.drop 14).take 2).length ≤ 2 := by rw [List.length_take]; omega
  constructor
  · show (usS l).length ≤ 1000
    unfold usS Bs.ones
    rw [Bs.length_natsI]; omega
  · show (isS l).length ≤ 1000
    unfold isS Bs.ones
    rw [Bs.length_natsI]; omega

set_option maxRecDepth 100000 in
set_option maxHeartbeats 4000000 in
theorem decode_any (A : Option Addr) (c n : Nat) (l : List Int) (w : World) (hn : n = l.length) (hL : Bts w w.heap.size A l) (hm : n ≤ maxLen) : Calls Try.prog 15 #[.slice A n c] w (DecSays w l) := by
  have hlen : Hid (l.length = n) := hn.symm
  by_cases h32 : n = 32
  · subst h32
    have HS : Hid (∀ W, Calls Try.prog 47 #[secV l] W (ForkSays W (saidC l))) := fun W => said_any l W hlen.out hL.1
    have HZ : Hid (∀ W o, W = (w.alloc (.cells #[.int .i64 0, .int .i64 0, .int .i64 0, .int .i64 0, .int .i64 0, .slice none 0 0, .slice none 0 0] 24)).alloc o → W.heap[w.heap.size]? = some (.cells #[.int .i64 0, .int .i64 0, .int .i64 0, .int .i64 0, .int .i64 0, .slice none 0 0, .slice none 0 0] 24 (0, 0)) ∧ W.heap[w.heap.size + 1]? = some o ∧ Below w.heap.size w W ∧ W.heap.size = w.heap.size + 2) := fun W o e => by
      subst e
      have h0 := Go.heap_alloc_new w (.cells #[.int .i64 0, .int .i64 0, .int .i64 0, .int .i64 0, .int .i64 0, .slice none 0 0, .slice none 0 0] 24)
      have hb := (Below.refl _ w).alloc (Nat.le_refl _) (.cells #[.int .i64 0, .int .i64 0, .int .i64 0, .int .i64 0, .int .i64 0, .slice none 0 0, .slice none 0 0] 24)
      have hs : (w.alloc (.cells #[.int .i64 0, .int .i64 0, .int .i64 0, .int .i64 0, .int .i64 0, .slice none 0 0, .slice none 0 0] 24)).heap.size = w.heap.size + 1 := by simp
      generalize w.alloc _ = w1 at h0 hb hs ⊢
      have h1 := Go.heap_alloc_new w1 o
      rw [hs] at h1
      exact ⟨(Go.heap_alloc_old _ o (show w.heap.size < w1.heap.size by omega)).trans h0, h1, hb.alloc hb.size o, by simp [hs]⟩
    obtain ⟨b, off, rfl, hlt, hc⟩ := hL.2 (by rw [hlen.out]; omega)
    have Hc : Hid (∀ W, Below w.heap.size w W → ∀ (j : Nat) v, (Bs.bytesV l)[j]? = some v → W.cell? ((⟨b, off, none⟩ : Addr).add j) = some v) := fun W hW j v hv => by
      have hj : j < l.length := by have := (List.getElem?_eq_some_iff.1 hv).1; rwa [len_bytesV] at this
      rw [Addr.add_lit, hW.cell (p := ⟨b, off + j, none⟩) hlt, hc j hj]
      rw [Bs.bytesV, List.getElem?_map, List.getElem?_eq_getElem hj] at hv
      rw [nth_lt hj, ← Option.some_inj.1 hv]; rfl
    have Hlb : Hid ((Bs.bytesV l).length = 32) := by unfold Hid; rw [len_bytesV, hlen.out]
    have Hone : Hid (∀ v ∈ Bs.bytesV l, v.oneCell' = true) := bytesV_one l
    have Hsz : Hid ((Try.prog.info? 68).map (·.size) = some (Bs.bytesV l).toArray.size) := by unfold Hid; rw [List.size_toArray, Hlb.out]; kernel_rfl
    have Hspl : Hid (((Bs.bytesV (List.replicate 32 0)).toArray.toList.take 0 ++ (Bs.bytesV l ++ (Bs.bytesV (List.replicate 32 0)).toArray.toList.drop (0 + (Bs.bytesV l).length))).toArray = (Bs.bytesV l).toArray) := by
      unfold Hid
      rw [Hlb.out]; simp [Bs.bytesV]
    unfold secV at HS
    clear hL hn hc hlt hm
    go_enter Try.func15, Try.ntmps15
    go_upto_region 4 with fail
    generalize hW0 : World.alloc (World.alloc w _) _ = W0
    obtain ⟨z0, z1, hB0, hs0⟩ := HZ.out _ _ hW0.symm
    have Z0 := Lib.hid z0
    have Z1 := Lib.hid z1
    have HB0 := Lib.hid hB0
    clear hW0 z0 z1 hB0 HZ
    have hmin : (Bs.bytesV l).length = Nat.min 32 32 := by rw [Hlb.out]; rfl
    have hfit : 0 + (Bs.bytesV l).length ≤ (Bs.bytesV (List.replicate 32 0)).toArray.size := by rw [Hlb.out]; decide
    have hsrc := Hc.out W0 HB0.out
    have hz32 : Hid (W0.heap[w.heap.size + 1]? = some (.cells (Bs.bytesV (List.replicate 32 0)).toArray 68 (0, 0))) := Z1.out
    go_wp2_with (first
      | (refine wpList_copy_own rfl (.tmp 10) (.tmp 11) 25 25 rfl 5 Try.underlying25 Bs.size5 (w.heap.size + 1) 0 32 32 ⟨b, off, none⟩ 32 c rfl rfl _ 68 hz32.out (Bs.bytesV l) hmin hsrc hfit Hone.out ?_
         have hr1 := setRow_heap W0 (w.heap.size + 1) _ ((Bs.bytesV (List.replicate 32 0)).toArray.toList.take 0 ++ (Bs.bytesV l ++ (Bs.bytesV (List.replicate 32 0)).toArray.toList.drop (0 + (Bs.bytesV l).length))).toArray _ _ hz32.out
         have hr0 := (setRow_other W0 (w.heap.size + 1) w.heap.size ((Bs.bytesV (List.replicate 32 0)).toArray.toList.take 0 ++ (Bs.bytesV l ++ (Bs.bytesV (List.replicate 32 0)).toArray.toList.drop (0 + (Bs.bytesV l).length))).toArray (by omega)).trans Z0.out
         have hrb := below_setRow HB0.out (Nat.le_succ _) ((Bs.bytesV (List.replicate 32 0)).toArray.toList.take 0 ++ (Bs.bytesV l ++ (Bs.bytesV (List.replicate 32 0)).toArray.toList.drop (0 + (Bs.bytesV l).length))).toArray
         generalize World.setRow W0 (w.heap.size + 1) _ = w1 at hr1 hr0 hrb ⊢
         rw [Hspl.out] at hr1
         have R1 := Lib.hid hr1
         have R0 := Lib.hid hr0
         have RB := Lib.hid hrb
         clear hr1 hr0 hrb)
      | (refine wpList_load_row rfl 68 (.tmp 4) rfl (w.heap.size + 1) rfl 68 (Bs.bytesV l).toArray (0, 0) _ R1.out Try.underlying68 rfl Hsz.out ?_))
    refine (HS.out w1).mono ?_
    rintro e w2 ⟨A2, c2, B2, d2, rfl, hr1, hr2, hap, hB⟩
    have R1b := Lib.hid ((hB.block _ (lt_heap R1.out)).trans R1.out)
    have R0b := Lib.hid ((hB.block _ (lt_heap R0.out)).trans R0.out)
    have HBw := Lib.hid (RB.out.trans (hB.mono RB.out.size))
    have HI1 := Lib.hid hr1
    have HI2 := Lib.hid hr2
    have Hap := Lib.hid hap
    have hs1 : w.heap.size + 1 < w1.heap.size := lt_heap R1.out
    have hs2 : w1.heap.size ≤ w2.heap.size := hB.size
    clear hr1 hr2 hap hB R1 R0 RB HS HB0 Z0 Z1 hz32 hmin hfit hsrc
    have HF : Hid (∀ W, Below w2.heap.size w2 W → Calls Try.prog 23 #[(saidC l).v A2 c2 B2 d2] W fun e w' => e = .returned (.bool (rightC (saidC l))) ∧ Below W.heap.size W w') := fun W hW => right_any (saidC l) A2 c2 B2 d2 W (said_small l).1 (said_small l).2 (HI1.out.ints.next hW) (HI2.out.ints.next hW)
    have HG : Hid (rightC (saidC l) = true → ∀ W, Below w2.heap.size w2 W → Calls Try.prog 46 #[(saidC l).v A2 c2 B2 d2] W fun e w' => e = .returned (secV (bytesL (saidC l))) ∧ Below W.heap.size W w') := fun hr W hW => bytes_any (saidC l) A2 c2 B2 d2 W ((rightC_iff _).1 hr) (HI1.out.ints.next hW) (HI2.out.ints.next hW) (said_small l).1 (said_small l).2
    have Hok : Hid (okD l = (rightC (saidC l) && decide (bytesL (saidC l) = l))) := by unfold Hid okD; rw [hlen.out]; rfl
    have Hs7 : Hid (∀ (W : World) (a b c d e f g : Value), W.heap[w2.heap.size]? = some (.cells #[a, b, c, d, e, f, g] 24 (0, 0)) → W.cell? ⟨w2.heap.size, 0, none⟩ = some a ∧ W.cell? ⟨w2.heap.size, 1, none⟩ = some b ∧ W.cell? ⟨w2.heap.size, 2, none⟩ = some c ∧ W.cell? ⟨w2.heap.size, 3, none⟩ = some d ∧ W.cell? ⟨w2.heap.size, 4, none⟩ = some e ∧ W.cell? ⟨w2.heap.size, 5, none⟩ = some f ∧ W.cell? ⟨w2.heap.size, 6, none⟩ = some g) := fun W a b c d e f g h => seven h
    have Hrg : Hid (∀ W : World, W.heap[w.heap.size + 1]? = some (.cells (Bs.bytesV l).toArray 68 (0, 0)) → W.rangeAt (w.heap.size + 1) 0 (Bs.bytesV l)) := fun W h j hj => by
      rw [Nat.zero_add, cellAt_of h j]; simp
    have HQf : Hid ((rightC (saidC l) && decide (bytesL (saidC l) = l)) = false → ∀ w', Below w.heap.size w w' → DecSays w l (.returned (.tuple #[.agg #[.int .i64 0, .int .i64 0, .int .i64 0, .int .i64 0, .int .i64 0, .slice none 0 0, .slice none 0 0], .int .i64 3])) w') := fun h w' hB => .inr ⟨Hok.out.trans h, rfl, hB⟩
    have HQt : Hid ((rightC (saidC l) && decide (bytesL (saidC l) = l)) = true → ∀ w', RowI w' w.heap.size A2 c2 (saidC l).us → RowI w' w.heap.size B2 d2 (saidC l).is → Below w.heap.size w w' → DecSays w l (.returned (.tuple #[(saidC l).v A2 c2 B2 d2, .int .i64 0])) w') := fun h w' h1 h2 hB => .inl ⟨Hok.out.trans h, A2, c2, B2, d2, rfl, h1, h2, Hap.out, hB⟩
    unfold secV at HG
    have HEq : Hid (∀ W, (Op.equalIn 10000 68 (.agg (Bs.bytesV (bytesL (saidC l))).toArray) (.agg (Bs.bytesV l).toArray)).run Try.prog W = .ok (decide (bytesL (saidC l) = l)) W) := fun W => rows_eq _ _ (length_bytesL _) hlen.out W
    generalize hdq : decide (bytesL (saidC l) = l) = dq at *
    clear hdq
    generalize bytesL (saidC l) = bL at *
    have hu68 := Try.underlying68
    have hi68 : (Try.prog.info? 68).map (·.size) = some (Bs.bytesV l).length := by rw [Hlb.out]; kernel_rfl
    clear hlen Hok
    generalize rightC (saidC l) = rc at *
    generalize saidC l = x at *
    obtain ⟨ix, bl, fb, fi, ro, us, is⟩ := x
    unfold Cy.v at *
    simp only at *
    generalize us.length = nu at *
    generalize is.length = ni at *
    cases rc with
    | false =>
      clear HG HQt
      replace HQf := Lib.hid (HQf.out rfl)
      go_upto_region 6 with fail
      generalize hW3 : World.alloc w2 _ = w3
      have x3 : w3.heap[w2.heap.size]? = some (.cells #[.int .i64 ix, .int .i64 bl, .int .i64 fb, .int .i64 fi, .int .i64 ro, .slice A2 nu c2, .slice B2 ni d2] 24 (0, 0)) := by rw [← hW3]; exact Go.heap_alloc_new w2 _
      have hb3 : Below w2.heap.size w2 w3 := by rw [← hW3]; exact (Below.refl _ w2).alloc (Nat.le_refl _) _
      have X3 := Lib.hid (Hs7.out _ _ _ _ _ _ _ _ x3)
      have X3d := Lib.hid (Hs7.out w3.drew _ _ _ _ _ _ _ x3)
      have H3 := Lib.hid x3
      have HB3 := Lib.hid hb3
      clear hW3 x3 hb3
      obtain ⟨r0, r1, r2, r3, r4, r5, r6⟩ := X3d.out
      go_region_law (go_simp; go_at_call 23; (with_reducible refine (HF.out w3.drew HB3.out.drew).mono ?_); rintro e w4 ⟨rfl, hB4⟩; have HB4 : Hid (Below w2.heap.size w2 w4) := HB3.out.drew.trans (hB4.mono HB3.out.size); have c0' := (HB4.out.block _ (lt_heap R0b.out)).trans R0b.out; obtain ⟨z0, z1, z2, z3, z4, z5, z6⟩ := seven c0'; have g0 := frozen_of_row w4 _ 0 _ 24 c0'; have g1 := frozen_of_row w4 _ 1 _ 24 c0'; have g2 := frozen_of_row w4 _ 2 _ 24 c0'; have g3 := frozen_of_row w4 _ 3 _ 24 c0'; have g4 := frozen_of_row w4 _ 4 _ 24 c0'; have g5 := frozen_of_row w4 _ 5 _ 24 c0'; have g6 := frozen_of_row w4 _ 6 _ 24 c0'; have hz4 := lt_heap c0'; clear hB4 c0')
      all_goals
        have HBn : Hid (Below w.heap.size w w4) := HBw.out.trans (HB4.out.mono HBw.out.size)
        clear r0 r1 r2 r3 r4 r5 r6 X3 X3d H3 HB3
        go_wp2_with fail
        exact bodyPost_ret (v := .tuple #[.agg #[.int .i64 0, .int .i64 0, .int .i64 0, .int .i64 0, .int .i64 0, .slice none 0 0, .slice none 0 0], .int .i64 3]) (by simp [results, Try.results15, go_sem, z0, z1, z2, z3, z4, z5, z6]) rfl (HQf.out _ (HBn.out.trans ((set7 w4 w.heap.size (fun k => k = w.heap.size) _ _ _ _ _ _ _ rfl).below (fun b q => Nat.le_of_eq q.symm) HBn.out.size)))
    | true =>
      replace HG := Lib.hid (HG.out rfl)
      have heq := HEq.out
      go_upto_region 6 with fail
      generalize hW3 : World.alloc w2 _ = w3
      have x3 : w3.heap[w2.heap.size]? = some (.cells #[.int .i64 ix, .int .i64 bl, .int .i64 fb, .int .i64 fi, .int .i64 ro, .slice A2 nu c2, .slice B2 ni d2] 24 (0, 0)) := by rw [← hW3]; exact Go.heap_alloc_new w2 _
      have hb3 : Below w2.heap.size w2 w3 := by rw [← hW3]; exact (Below.refl _ w2).alloc (Nat.le_refl _) _
      have y3 := (hb3.block _ (lt_heap R1b.out)).trans R1b.out
      have Hsv : Hid (∀ W : World, W.heap[w2.heap.size]? = some (.cells #[.int .i64 ix, .int .i64 bl, .int .i64 fb, .int .i64 fi, .int .i64 ro, .slice A2 nu c2, .slice B2 ni d2] 24 (0, 0)) → W.heap[w.heap.size + 1]? = some (.cells (Bs.bytesV l).toArray 68 (0, 0)) → W.cell? ⟨w2.heap.size, 0, none⟩ = some (.int .i64 ix) ∧ W.cell? ⟨w2.heap.size, 1, none⟩ = some (.int .i64 bl) ∧ W.cell? ⟨w2.heap.size, 2, none⟩ = some (.int .i64 fb) ∧ W.cell? ⟨w2.heap.size, 3, none⟩ = some (.int .i64 fi) ∧ W.cell? ⟨w2.heap.size, 4, none⟩ = some (.int .i64 ro) ∧ W.cell? ⟨w2.heap.size, 5, none⟩ = some (.slice A2 nu c2) ∧ W.cell? ⟨w2.heap.size, 6, none⟩ = some (.slice B2 ni d2) ∧ W.rangeAt (w.heap.size + 1) 0 (Bs.bytesV l)) := fun W h1 h2 => by
        obtain ⟨a0, a1, a2, a3, a4, a5, a6⟩ := Hs7.out W _ _ _ _ _ _ _ h1
        exact ⟨a0, a1, a2, a3, a4, a5, a6, Hrg.out W h2⟩
      have X3 := Lib.hid (Hsv.out _ x3 y3)
      have X3d := Lib.hid (Hsv.out w3.drew x3 y3)
      have H3 := Lib.hid x3
      have Y3 := Lib.hid y3
      have HB3 := Lib.hid hb3
      clear hW3 x3 hb3 y3
      go_region_held3 (fun W => W.cell? ⟨w2.heap.size, 0, none⟩ = some (.int .i64 ix) ∧ W.cell? ⟨w2.heap.size, 1, none⟩ = some (.int .i64 bl) ∧ W.cell? ⟨w2.heap.size, 2, none⟩ = some (.int .i64 fb) ∧ W.cell? ⟨w2.heap.size, 3, none⟩ = some (.int .i64 fi) ∧ W.cell? ⟨w2.heap.size, 4, none⟩ = some (.int .i64 ro) ∧ W.cell? ⟨w2.heap.size, 5, none⟩ = some (.slice A2 nu c2) ∧ W.cell? ⟨w2.heap.size, 6, none⟩ = some (.slice B2 ni d2) ∧ W.rangeAt (w.heap.size + 1) 0 (Bs.bytesV l)) (first | (with_reducible exact X3.out) | (with_reducible exact X3d.out) | (with_reducible exact X4.out) | (with_reducible exact X5.out) | go_keep)
        (first | (go_at_call 46; (with_reducible refine (HG.out w4 HB4.out).mono ?_); rintro e w5 ⟨rfl, hB5⟩; have H5 := Lib.hid ((hB5.block _ (lt_heap H4.out)).trans H4.out); have Y5 := Lib.hid ((hB5.block _ (lt_heap Y4.out)).trans Y4.out); have X5 := Lib.hid (Hsv.out _ H5.out Y5.out); have HB5 : Hid (Below w2.heap.size w2 w5) := HB4.out.trans (hB5.mono HB4.out.size); have c0' := (HB5.out.block _ (lt_heap R0b.out)).trans R0b.out; obtain ⟨z0, z1, z2, z3, z4, z5, z6⟩ := seven c0'; have g0 := frozen_of_row w5 _ 0 _ 24 c0'; have g1 := frozen_of_row w5 _ 1 _ 24 c0'; have g2 := frozen_of_row w5 _ 2 _ 24 c0'; have g3 := frozen_of_row w5 _ 3 _ 24 c0'; have g4 := frozen_of_row w5 _ 4 _ 24 c0'; have g5 := frozen_of_row w5 _ 5 _ 24 c0'; have g6 := frozen_of_row w5 _ 6 _ 24 c0'; have hz5 := lt_heap c0'; clear hB5 c0') | (go_at_call 23; (with_reducible refine (HF.out w3.drew HB3.out.drew).mono ?_); rintro e w4 ⟨rfl, hB4⟩; have H4 := Lib.hid ((hB4.block _ (lt_heap H3.out)).trans H3.out); have Y4 := Lib.hid ((hB4.block _ (lt_heap Y3.out)).trans Y3.out); have X4 := Lib.hid (Hsv.out _ H4.out Y4.out); have HB4 : Hid (Below w2.heap.size w2 w4) := HB3.out.drew.trans (hB4.mono HB3.out.size); clear hB4) | fail)
      all_goals
        have HBn : Hid (Below w.heap.size w w5) := HBw.out.trans (HB5.out.mono HBw.out.size)
        have HK : Hid (∀ v0 v1 v2 v3 v4 v5 v6, Below w.heap.size w (((((((w5.setCell ⟨w.heap.size, 0, none⟩ v0).setCell ⟨w.heap.size, 1, none⟩ v1).setCell ⟨w.heap.size, 2, none⟩ v2).setCell ⟨w.heap.size, 3, none⟩ v3).setCell ⟨w.heap.size, 4, none⟩ v4).setCell ⟨w.heap.size, 5, none⟩ v5).setCell ⟨w.heap.size, 6, none⟩ v6)) := fun v0 v1 v2 v3 v4 v5 v6 => HBn.out.trans ((set7 w5 w.heap.size (fun k => k = w.heap.size) v0 v1 v2 v3 v4 v5 v6 rfl).below (fun b q => Nat.le_of_eq q.symm) HBn.out.size)
        clear X3 X3d H3 HB3 heq HB4 H4 Y4 X4
        cases dq with
        | false =>
          replace HQf := Lib.hid (HQf.out rfl)
          go_wp2_with fail
          exact bodyPost_ret (v := .tuple #[.agg #[.int .i64 0, .int .i64 0, .int .i64 0, .int .i64 0, .int .i64 0, .slice none 0 0, .slice none 0 0], .int .i64 3]) (by simp [results, Try.results15, go_sem, z0, z1, z2, z3, z4, z5, z6]) rfl (HQf.out _ (HK.out _ _ _ _ _ _ _))
        | true =>
          replace HQt := Lib.hid (HQt.out rfl)
          obtain ⟨r0, r1, r2, r3, r4, r5, r6, _⟩ := X5.out
          have HR : Hid (∀ v0 v1 v2 v3 v4 v5 v6, RowI (((((((w5.setCell ⟨w.heap.size, 0, none⟩ v0).setCell ⟨w.heap.size, 1, none⟩ v1).setCell ⟨w.heap.size, 2, none⟩ v2).setCell ⟨w.heap.size, 3, none⟩ v3).setCell ⟨w.heap.size, 4, none⟩ v4).setCell ⟨w.heap.size, 5, none⟩ v5).setCell ⟨w.heap.size, 6, none⟩ v6) w.heap.size A2 c2 us) := fun v0 v1 v2 v3 v4 v5 v6 =>
            ((HI1.out.next HB5.out).keep (set7 w5 w.heap.size (fun k => k = w.heap.size) v0 v1 v2 v3 v4 v5 v6 rfl) (fun b q r => by have := (HI1.out.lt q).1; omega)).more (by omega)
          have HR2 : Hid (∀ v0 v1 v2 v3 v4 v5 v6, RowI (((((((w5.setCell ⟨w.heap.size, 0, none⟩ v0).setCell ⟨w.heap.size, 1, none⟩ v1).setCell ⟨w.heap.size, 2, none⟩ v2).setCell ⟨w.heap.size, 3, none⟩ v3).setCell ⟨w.heap.size, 4, none⟩ v4).setCell ⟨w.heap.size, 5, none⟩ v5).setCell ⟨w.heap.size, 6, none⟩ v6) w.heap.size B2 d2 is) := fun v0 v1 v2 v3 v4 v5 v6 =>
            ((HI2.out.next HB5.out).keep (set7 w5 w.heap.size (fun k => k = w.heap.size) v0 v1 v2 v3 v4 v5 v6 rfl) (fun b q r => by have := (HI2.out.lt q).1; omega)).more (by omega)
          go_wp2_with fail
          exact bodyPost_ret (v := .tuple #[.agg #[.int .i64 ix, .int .i64 bl, .int .i64 fb, .int .i64 fi, .int .i64 ro, .slice A2 nu c2, .slice B2 ni d2], .int .i64 0]) (by simp [results, Try.results15, go_sem, z0, z1, z2, z3, z4, z5, z6]) rfl (HQt.out _ (HR.out _ _ _ _ _ _ _) (HR2.out _ _ _ _ _ _ _) (HK.out _ _ _ _ _ _ _))
  · have HQ : Hid (∀ w', Below w.heap.size w w' → DecSays w l (.returned (.tuple #[.agg #[.int .i64 0, .int .i64 0, .int .i64 0, .int .i64 0, .int .i64 0, .slice none 0 0, .slice none 0 0], .int .i64 3])) w') := fun w' hB => .inr ⟨by unfold okD; rw [decide_eq_false (by rw [hlen.out]; exact h32)]; rfl, rfl, hB⟩
    have hni : ¬ (n : Int) = 32 := by omega
    have hz := Go.heap_alloc_new w (.cells #[.int .i64 0, .int .i64 0, .int .i64 0, .int .i64 0, .int .i64 0, .slice none 0 0, .slice none 0 0] 24)
    have hb : Below w.heap.size w (w.alloc (.cells #[.int .i64 0, .int .i64 0, .int .i64 0, .int .i64 0, .int .i64 0, .slice none 0 0, .slice none 0 0] 24)) := (Below.refl _ w).alloc (Nat.le_refl _) _
    have HB := Lib.hid hb
    clear hL hm hn h32 hz hb hlen
    go_enter Try.func15, Try.ntmps15
    go_wp2_with fail
    exact bodyPost_ret (v := .tuple #[.agg #[.int .i64 0, .int .i64 0, .int .i64 0, .int .i64 0, .int .i64 0, .slice none 0 0, .slice none 0 0], .int .i64 3]) (by simp [results, Try.results15, go_sem]) rfl (HQ.out _ HB.out)
end Go.Proofs.Ytpcindemkkdbbaa

/- A group's bytes and back: plain. -/
namespace Go.Proofs.Ytpcindemkkdbbaa
set_option linter.unusedVariables false
set_option linter.unusedSimpArgs false
open Go.RowKit

theorem ones_rise (l : List Int) : (Bs.natsI (Bs.ones l)).Pairwise (· < ·) := by
  unfold Bs.natsI Bs.ones
  rw [Bs.onesTo_filter, List.pairwise_map]
  exact (List.pairwise_lt_range.filter _).imp (fun h => by omega)
/-- LIST OF MAKE IS THE NUMBERS -/
theorem list_make (n : Nat) (l : List Int) (hp : l.Pairwise (· < ·)) (hb : ∀ x ∈ l, Bs.hasB n x = true) : Bs.natsI (Bs.ones (Bs.accB n l)) = l := by
  refine rise_ext (ones_rise _) hp fun x => ⟨fun h => ?_, fun h => ?_⟩
  · obtain ⟨j, hj, rfl⟩ := List.mem_map.1 h
    have := (Bs.mem_ones hj).1
    rw [Bs.bitN_accB n l hb] at this
    exact of_decide_eq_true this
  · have hx := Bs.hasB_out (hb x h)
    refine List.mem_map.2 ⟨x.toNat, Bs.ones_mem ?_ ?_, by omega⟩
    · rw [Bs.bitN_accB n l hb, decide_eq_true_iff, Int.toNat_of_nonneg hx.1]; exact h
    · rw [Bs.length_accB]; omega
theorem six_drop (a0 a1 a2 a3 a4 a5 s : Int) (U I R : List Int) (h8 : U.length = 8) (h2 : I.length = 2) :
    ((([a0, a1, a2, a3, a4, a5] ++ (U ++ (I ++ R))) ++ [s]).drop 6).take 8 = U ∧ ((([a0, a1, a2, a3, a4, a5] ++ (U ++ (I ++ R))) ++ [s]).drop 14).take 2 = I := by
  rcases U with _ | ⟨u0, _ | ⟨u1, _ | ⟨u2, _ | ⟨u3, _ | ⟨u4, _ | ⟨u5, _ | ⟨u6, _ | ⟨u7, _ | ⟨u8, U⟩⟩⟩⟩⟩⟩⟩⟩⟩ <;> simp only [List.length_cons, List.length_nil] at h8 <;> try omega
  rcases I with _ | ⟨i0, _ | ⟨i1, _ | ⟨i2, I⟩⟩⟩ <;> simp only [List.length_cons, List.length_nil] at h2 <;> try omega
  exact ⟨rfl, rfl⟩
/-- what a right group's bytes say -/
theorem said_bytes {x : Cy} (h : RightC x) : saidC (bytesL x) = x := by
  have hd := six_drop 67 x.ix x.bl x.fb x.fi x.ro (sumTo (frontB x) 31) (Bs.accB 8 x.us) (Bs.accB 2 x.is) (List.replicate 15 0) (Bs.length_accB _ _) (Bs.length_accB _ _)
  have hu : usS (bytesL x) = x.us := by
    have := list_make 8 x.us h.us.2 (has8 h)
    unfold usS
    rw [show (bytesL x).drop 6 = _ from rfl]
    exact (congrArg (fun q => Bs.natsI (Bs.ones q)) hd.1).trans this
  have hi : isS (bytesL x) = x.is := by
    have := list_make 2 x.is h.is.2 (has2 h)
    unfold isS
    exact (congrArg (fun q => Bs.natsI (Bs.ones q)) hd.2).trans this
  unfold saidC
  rw [hu, hi]
  rfl
theorem okD_bytes {x : Cy} (h : RightC x) : okD (bytesL x) = true := by
  unfold okD
  rw [said_bytes h, length_bytesL, (rightC_iff x).2 h]
  simp
theorem okD_said {l : List Int} (h : okD l = true) : l.length = 32 ∧ RightC (saidC l) ∧ bytesL (saidC l) = l := by
  unfold okD at h
  simp only [Bool.and_eq_true, decide_eq_true_eq] at h
  exact ⟨h.1, (rightC_iff _).1 h.2.1, h.2.2⟩
/-- bytes that are turned say another group, or none -/
theorem okD_turned {x : Cy} {z : List Int} (h : z ≠ bytesL x) (ho : okD z = true) : saidC z ≠ x := fun e => h (by rw [← e]; exact (okD_said ho).2.2.symm)
end Go.Proofs.Ytpcindemkkdbbaa

/- A byte turned. -/
namespace Go.Proofs.Ytpcindemkkdbbaa
set_option linter.unusedVariables false
open Go.RowKit
theorem xor_u8_nat (a b : Nat) (ha : a < 256) (hb : b < 256) : bits .xor .u8 (a : Int) (b : Int) = ((a ^^^ b : Nat) : Int) := by
  have hx : a ^^^ b < 2 ^ 8 := Nat.xor_lt_two_pow (by omega) (by omega)
  have h1 : (BitVec.ofInt 8 (a : Int)).toNat = a := by
    rw [BitVec.ofInt_natCast, BitVec.toNat_ofNat]; exact Nat.mod_eq_of_lt (by omega)
  have h2 : (BitVec.ofInt 8 (b : Int)).toNat = b := by
    rw [BitVec.ofInt_natCast, BitVec.toNat_ofNat]; exact Nat.mod_eq_of_lt (by omega)
  show IntKind.u8.wrap ((BitVec.ofInt 8 (a : Int) ^^^ BitVec.ofInt 8 (b : Int)).toNat : Int) = _
  rw [BitVec.toNat_xor, h1, h2, IntKind.wrap_u8]
  omega
theorem xor_u8 {a b : Int} (ha : 0 ≤ a ∧ a ≤ 255) (hb : 0 ≤ b ∧ b ≤ 255) : (0 ≤ bits .xor .u8 a b ∧ bits .xor .u8 a b ≤ 255) ∧ (b ≠ 0 → bits .xor .u8 a b ≠ a) := by
  obtain ⟨m, rfl⟩ := Int.eq_ofNat_of_zero_le ha.1
  obtain ⟨n, rfl⟩ := Int.eq_ofNat_of_zero_le hb.1
  have hx : m ^^^ n < 2 ^ 8 := Nat.xor_lt_two_pow (by omega) (by omega)
  rw [xor_u8_nat m n (by omega) (by omega)]
  refine ⟨by omega, fun h0 e => h0 ?_⟩
  have e2 : m ^^^ n = m := by omega
  have : n = 0 := by
    have h3 : m ^^^ (m ^^^ n) = m ^^^ m := by rw [e2]
    rw [← Nat.xor_assoc, Nat.xor_self, Nat.zero_xor] at h3
    exact h3
  omega
/-- a row with one byte turned -/
theorem turned_ne {l : List Int} {j : Nat} {v : Int} (hj : j < l.length) (h : v ≠ nth l j) : l.set j v ≠ l := fun e => h (by
  have this : nth (l.set j v) j = nth l j := congrArg (fun q => nth q j) e
  rw [nth_lt (by rw [List.length_set]; exact hj), List.getElem_set_self] at this
  exact this)
end Go.Proofs.Ytpcindemkkdbbaa
