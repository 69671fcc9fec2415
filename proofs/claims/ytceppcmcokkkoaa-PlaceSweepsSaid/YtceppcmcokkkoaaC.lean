/- Contracts of 'Set' and of the document's own 'Set'. -/
import Derived.Test.YtceppcmcokkkoaaB
import Derived.Deep.OwnRows
import Derived.Laws.CopyOwn
import Derived.Deep.RegionWith
import Derived.Deep.DeepFit
import Derived.IntWalk
namespace Go.Proofs.Ytceppcmcokkkoaa
open Go.RowKit

def byteV (x : Int) : Value := .int .u8 x
def bytesV (l : List Int) : List Value := l.map byteV
def BlkIs (w : World) (g : Nat) (t : TypeId) (l : List Value) : Prop := w.heap[g]? = some (.cells l.toArray t (0, 0))
def setB (l : List Int) (i : Nat) (on : Bool) : List Int := l.set (i / 8) (if on then bits .or .u8 (nth l (i / 8)) (mk8 i) else bits .andNot .u8 (nth l (i / 8)) (mk8 i))

theorem info5 : (Try.prog.info? 5).map (fun i => (i.zero, i.size, i.bytes)) = some (some (.int .u8 0), 1, 1) := by kernel_rfl
theorem size5 : (Try.prog.info? 5).map (·.size) = some 1 := by kernel_rfl
theorem made_bytes (n : Nat) : madeCells #[Value.int .u8 0] n = (bytesV (List.replicate n 0)).toArray := by
  apply Array.ext
  · simp [size_madeCells, bytesV]
  · intro i h1 h2; simp [madeCells, bytesV, Nat.mod_one, byteV]

theorem splice_all {α : Type} (L cs : List α) (h : cs.length = L.length) : splice L 0 cs = cs := by simp [splice, h]

theorem BlkIs.cell {w : World} {g : Nat} {t : TypeId} {l : List Value} (h : BlkIs w g t l) (k : Nat) : w.cell? ⟨g, k, none⟩ = l[k]? := by
  unfold BlkIs at h
  simp [World.cell?, h]
theorem BlkIs.frozen {w : World} {g : Nat} {t : TypeId} {l : List Value} (h : BlkIs w g t l) (k : Nat) : w.frozen? ⟨g, k, none⟩ = false := by
  unfold BlkIs at h
  simp [World.frozen?, h]
theorem BlkIs.set_ {w : World} {g : Nat} {t : TypeId} {l : List Value} (h : BlkIs w g t l) (k : Nat) (v : Value) : BlkIs (w.setCell ⟨g, k, none⟩ v) g t (l.set k v) := by
  unfold BlkIs at h ⊢
  simp [World.setCell, Array.getElem?_modify, h]
theorem BlkIs.lt {w : World} {g : Nat} {t : TypeId} {l : List Value} (h : BlkIs w g t l) : g < w.heap.size := by
  rcases Nat.lt_or_ge g w.heap.size with hlt | hge
  · exact hlt
  · unfold BlkIs at h; rw [Array.getElem?_eq_none hge] at h; cases h
theorem BlkIs.bts {w : World} {g B : Nat} {l : List Int} (h : BlkIs w g 5 (bytesV l)) (hl : AllB l) (hB : g < B) : Bts w B (some ⟨g, 0, none⟩) l :=
  ⟨hl, fun _ => ⟨g, 0, rfl, hB, fun j hj => by
    rw [Nat.zero_add, h.cell j, bytesV, List.getElem?_map, List.getElem?_eq_getElem hj, nth_lt hj]; rfl⟩⟩

theorem AllB.set {l : List Int} (h : AllB l) (i : Nat) {v : Int} (hv : 0 ≤ v ∧ v ≤ 255) : AllB (l.set i v) := by
  intro x hx
  rcases List.mem_or_eq_of_mem_set hx with h1 | rfl
  · exact h _ h1
  · exact hv
theorem wrap_u8 (n : Int) : 0 ≤ IntKind.u8.wrap n ∧ IntKind.u8.wrap n ≤ 255 := by
  have e : IntKind.u8.wrap n = n % 256 := rfl
  omega
theorem bits_u8 (op : BinOp) (x y : Int) : 0 ≤ bits op .u8 x y ∧ bits op .u8 x y ≤ 255 := wrap_u8 _
theorem setB_all {l : List Int} (h : AllB l) (i : Nat) (on : Bool) : AllB (setB l i on) := by
  unfold setB
  refine h.set _ ?_
  split <;> exact bits_u8 _ _ _
theorem length_setB (l : List Int) (i : Nat) (on : Bool) : (setB l i on).length = l.length := by simp [setB]

theorem BlkIs.setByte {w : World} {g : Nat} {l : List Int} {L : List Value} (h : BlkIs w g 5 L) (hL : L = bytesV l) (i : Nat) (v : Int) : BlkIs (w.setCell ⟨g, i, none⟩ (.int .u8 v)).drew g 5 (bytesV (l.set i v)) := by
  subst hL
  have := h.set_ i (.int .u8 v)
  unfold bytesV at this ⊢
  rw [List.map_set]
  exact this

theorem set_no (A : Option Addr) (c : Nat) (l : List Int) (i : Int) (on : Bool) (w : World) (hi : -9223372036854775808 ≤ i ∧ i ≤ 9223372036854775807) (hh : hasB l.length i = false) :
    Calls Try.prog 31 #[.slice A l.length c, .int .i64 i, .bool on] w fun e w' => e = .returned (.tuple #[.slice none 0 0, .int .i64 2]) ∧ w = w' := by
  have H := Lib.hid hh
  clear hh
  go_enter Try.func31, Try.ntmps31
  go_wp2_with (go_at_call 58; refine (there_no _ _ _ hi H.out).mono ?_; rintro e w' ⟨rfl, rfl⟩)
  go_ret2
  exact ⟨rfl, rfl⟩

set_option maxRecDepth 100000 in
set_option maxHeartbeats 400000 in
theorem set_yes (A : Option Addr) (c : Nat) (l : List Int) (k : Nat) (on : Bool) (w : World) (hb : Bts w w.heap.size A l) (hl : l.length ≤ 1000) (hk : k / 8 < l.length) :
    Calls Try.prog 31 #[.slice A l.length c, .int .i64 k, .bool on] w fun e w' => e = .returned (.tuple #[.slice (some ⟨w.heap.size, 0, none⟩) l.length l.length, .int .i64 0]) ∧
      Below w.heap.size w w' ∧ BlkIs w' w.heap.size 5 (bytesV (setB l k on)) := by
  have H : hasB l.length k = true := by simp [hasB]; omega
  have H := Lib.hid H
  obtain ⟨b, off, rfl, hbB, _⟩ := hb.at_ hk
  have hmk := fun W => run_make_row' (P := Try.prog) 43 5 (.int .u8 0) 1 Try.underlying43 info5 rfl .i64 .i64 l.length (by omega) (by omega) W
  rw [made_bytes] at hmk
  obtain ⟨L0, hL0⟩ : ∃ L0, L0 = bytesV (List.replicate l.length 0) := ⟨_, rfl⟩
  rw [← hL0] at hmk
  have hL0l : Hid (L0.length = l.length) := by unfold Hid; rw [hL0]; simp [bytesV]
  clear hL0
  obtain ⟨L1, hL1⟩ : ∃ L1, L1 = bytesV l := ⟨_, rfl⟩
  have HL1 := Lib.hid hL1
  clear hL1
  have hsrc : ∀ j v, L1[j]? = some v → w.cell? ⟨b, off + j, none⟩ = some v := by
    intro j v hj
    rw [HL1.out, bytesV, List.getElem?_map] at hj
    obtain ⟨x, hx, rfl⟩ := Option.map_eq_some_iff.1 hj
    have hj' : j < l.length := by
      rcases Nat.lt_or_ge j l.length with h | h
      · exact h
      · rw [List.getElem?_eq_none h] at hx; cases hx
    obtain ⟨b2, off2, e2, _, hc2⟩ := hb.at_ hj'
    injection e2 with e2; injection e2 with e3 e4; subst e3; subst e4
    rw [nth_lt hj'] at hc2
    rw [List.getElem?_eq_getElem hj'] at hx
    injection hx with hx
    rw [hx] at hc2
    exact hc2
  have hL1l : L1.length = l.length := by rw [HL1.out]; simp [bytesV]
  have HL1l := Lib.hid hL1l
  have h1c : ∀ v ∈ L1, v.oneCell' = true := by
    rw [HL1.out]; intro v hv; obtain ⟨x, _, rfl⟩ := List.mem_map.1 hv; rfl
  have Hsrc := Lib.hid hsrc
  have H1c := Lib.hid h1c
  clear hsrc h1c hL1l
  have hki : (k : Int) / 8 < (l.length : Int) := by omega
  have h0 : (0 : Int) ≤ (k : Int) := by omega
  cases on
  · go_enter Try.func31, Try.ntmps31
    go_wp2_with (first
      | (go_at_call 58; refine (there_yes _ _ _ (by omega) H.out).mono ?_; rintro e w' ⟨rfl, rfl⟩)
      | (with_reducible refine wpList_copy_splice rfl (.tmp 17) (.tmp 18) 43 43 rfl 5 Try.underlying43 size5 (some ⟨w.heap.size, 0, none⟩) (some ⟨b, off, none⟩) l.length l.length l.length c rfl rfl w.heap.size 0 L0 5 ?c1 L1 ?c2 ?c3 ?c4 ?c5 w.heap.size w ?c6 (Nat.le_refl _) ?_))
    case c1 => exact heap_alloc_new _ _
    case c2 => rw [HL1l.out]; simp
    case c3 => intro _; exact Hsrc.out
    case c4 => rw [HL1l.out, hL0l.out]; simp
    case c5 => exact H1c.out
    case c6 => exact (Below.refl _ _).alloc (Nat.le_refl _) _
    rintro w2 hg2 hb2
    rw [splice_all _ _ (by rw [HL1l.out, hL0l.out])] at hg2
    have hg3 : BlkIs w2 w.heap.size 5 L1 := hg2.out
    have hG3 := Lib.hid hg3
    clear hg2 
    have hc2 : w2.cell? ⟨w.heap.size, k / 8, none⟩ = some (.int .u8 (nth l (k / 8))) := by
      rw [hg3.cell, HL1.out, bytesV, List.getElem?_map, List.getElem?_eq_getElem hk, nth_lt hk]; rfl
    have hf2 : w2.frozen? ⟨w.heap.size, k / 8, none⟩ = false := hg3.frozen _
    clear hg3
    go_wp2_with fail
    have hwr : IntKind.i64.wrap ((k : Int) / 8) = (k : Int) / 8 := IntWalk.i64_in _ (by omega)
    have hix : ((k : Int) / 8).toNat = k / 8 := by omega
    go_region_with (go_at_call 59; refine (mask_any _ _ (by omega) (by omega)).mono ?_; rintro e w3 ⟨rfl, rfl⟩)
    all_goals go_wp2
    all_goals go_ret2
    all_goals exact ⟨rfl, (hb2.setCell (p := ⟨w.heap.size, k / 8, none⟩) (Nat.le_refl _) _).drew, hG3.out.setByte HL1.out _ _⟩
  · go_enter Try.func31, Try.ntmps31
    go_wp2_with (first
      | (go_at_call 58; refine (there_yes _ _ _ (by omega) H.out).mono ?_; rintro e w' ⟨rfl, rfl⟩)
      | (with_reducible refine wpList_copy_splice rfl (.tmp 17) (.tmp 18) 43 43 rfl 5 Try.underlying43 size5 (some ⟨w.heap.size, 0, none⟩) (some ⟨b, off, none⟩) l.length l.length l.length c rfl rfl w.heap.size 0 L0 5 ?c1 L1 ?c2 ?c3 ?c4 ?c5 w.heap.size w ?c6 (Nat.le_refl _) ?_))
    case c1 => exact heap_alloc_new _ _
    case c2 => rw [HL1l.out]; simp
    case c3 => intro _; exact Hsrc.out
    case c4 => rw [HL1l.out, hL0l.out]; simp
    case c5 => exact H1c.out
    case c6 => exact (Below.refl _ _).alloc (Nat.le_refl _) _
    rintro w2 hg2 hb2
    rw [splice_all _ _ (by rw [HL1l.out, hL0l.out])] at hg2
    have hg3 : BlkIs w2 w.heap.size 5 L1 := hg2.out
    have hG3 := Lib.hid hg3
    clear hg2 
    have hc2 : w2.cell? ⟨w.heap.size, k / 8, none⟩ = some (.int .u8 (nth l (k / 8))) := by
      rw [hg3.cell, HL1.out, bytesV, List.getElem?_map, List.getElem?_eq_getElem hk, nth_lt hk]; rfl
    have hf2 : w2.frozen? ⟨w.heap.size, k / 8, none⟩ = false := hg3.frozen _
    clear hg3
    go_wp2_with fail
    have hwr : IntKind.i64.wrap ((k : Int) / 8) = (k : Int) / 8 := IntWalk.i64_in _ (by omega)
    have hix : ((k : Int) / 8).toNat = k / 8 := by omega
    go_region_with (go_at_call 59; refine (mask_any _ _ (by omega) (by omega)).mono ?_; rintro e w3 ⟨rfl, rfl⟩)
    all_goals go_wp2
    all_goals go_ret2
    all_goals exact ⟨rfl, (hb2.setCell (p := ⟨w.heap.size, k / 8, none⟩) (Nat.le_refl _) _).drew, hG3.out.setByte HL1.out _ _⟩
end Go.Proofs.Ytceppcmcokkkoaa
