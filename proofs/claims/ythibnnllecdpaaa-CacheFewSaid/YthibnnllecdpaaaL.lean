/- List of a cache: where the ints lie; they stay behind a Use. -/
import Derived.Test.YthibnnllecdpaaaO
namespace Go.Proofs.Ythibnnllecdpaaa
open Go.RowKit

set_option maxRecDepth 100000 in
set_option maxHeartbeats 1000000 in
theorem list_any2 (B g : Nat) (v : Value) (m : Int) (l : List H) (w : World) (hC : CacheAt 69 66 B w g v m l) (hl : l.length ≤ 1000) :
    Calls Try.prog 19 #[.pointer (some ⟨g, 0, none⟩)] w fun e w' => e = .returned (.slice (some ⟨w.heap.size, 0, none⟩) l.length l.length) ∧ Ints w' (some ⟨w.heap.size, 0, none⟩) (blocks l) ∧ Below w.heap.size w w' := by
  have hs := hC.slot
  have hg := hC.glt
  obtain ⟨M, hMl, hmk⟩ := make_ints l.length hl
  obtain ⟨A, cap, rfl, hc1, hc2⟩ := hC.form
  unfold maxLen at hc2
  have HMl := Lib.hid hMl
  have HC := Lib.hid hC
  clear hMl hC
  have hbl : Hid ((blocks l).length = l.length) := by simp [blocks, Hid]
  go_enter Try.func19, Try.ntmps19
  go_wp2
  clear hmk
  go_loopw [19] (fun i wr => ∃ k : Nat, k ≤ l.length ∧ i = .int .i64 k ∧ wr.ownsRow w.heap.size 3 1 (.slice (some ⟨w.heap.size, 0, none⟩) l.length l.length) l.length (intsV ((blocks l).take k ++ List.replicate (l.length - k) 0)) ∧ Below w.heap.size w wr) (fun i _ => l.length - (intOf i).toNat)
  case atStart =>
    refine ⟨0, Nat.zero_le _, rfl, ?_, (Below.refl _ _).alloc (Nat.le_refl _) _⟩
    have := World.ownsRow_lit (size := 1) (e := 3) (base := w.heap.size) w M l.length (Nat.le_refl _) (by unfold maxLen; omega) (by have := congrArg List.length HMl.out; simpa [intsV] using this)
    rw [HMl.out] at this
    simpa using this
  case round =>
    obtain ⟨k, hk, rfl, hrow, hB⟩ := hrel
    rename World => wr
    have HR := Lib.hid hrow
    have HB := Lib.hid hB
    by_cases hlt : k < l.length
    · have hlti : (k : Int) < (l.length : Int) := by omega
      have hk0 : (0 : Int) ≤ (k : Int) := by omega
      have hz := hB.size
      have hblt : w.heap.size < wr.heap.size := (hrow.lt _ rfl).2
      have hcr := (hrow.cellAt k (by omega)).trans (List.getElem?_eq_getElem (by rw [hrow.1]; omega))
      have hfr := hrow.frozenAt k
      generalize (intsV ((blocks l).take k ++ List.replicate (l.length - k) 0))[k]'(by rw [hrow.1]; omega) = u0 at hcr
      obtain ⟨b, cap', hv, h1, h2, hb, _, c0, c1, c2, c3, _⟩ := row_at ((HC.out.fresh hB).row) hlt
      cases hv
      clear hrow hB
      unfold maxLen at h2
      have Hst := Lib.hid (list_step hlt)
      generalize nthH l k = h at c0 c1 c2 c3 Hst
      obtain ⟨hb', hp', hd', ht'⟩ := h
      have hbn : w.heap.size ≠ wr.heap.size := by omega
      have hbn2 : w.heap.size ≠ wr.heap.size + 1 := by omega
      go_wp2
      go_roundw
      case rel =>
        refine ⟨k + 1, by omega, by go_num, ?_, ?_⟩
        · have := (HR.out.stored k (.int .i64 hb')).1.alloc (.cells #[.int .i64 hb', .int .i64 hp', .bool hd', .bool ht'] 66)
          rw [Hst.out] at this
          exact this
        · exact (HB.out.setCell (Nat.le_refl _) _).alloc (by have := HB.out.size; simpa using this) _
      case measure => simp [intOf]; omega
    · obtain rfl : k = l.length := by omega
      go_wp2
      go_ret
      have hr := HR.out
      rw [Nat.sub_self, List.replicate_zero, List.append_nil, List.take_of_length_le (by rw [hbl.out]; omega)] at hr
      obtain ⟨A', c', e, hI⟩ := own_ints hr
      obtain ⟨rfl, _, _⟩ := Value.slice.inj e
      exact ⟨rfl, hI, HB.out⟩

theorem keepI {T E : TypeId} {B : Nat} {w4 w5 : World} {g N : Nat} {v : Value} {m : Int} {l : List H} {L : List Int} (hI : Ints w4 (some ⟨N, 0, none⟩) L) (h : Went T E B w4 g v m l w5) (hn : ¬ At g v N) : Ints w5 (some ⟨N, 0, none⟩) L := fun hp => by
  obtain ⟨b, off, e, hlt, hc⟩ := hI hp
  cases e
  exact ⟨N, 0, rfl, Nat.lt_of_lt_of_le hlt h.size, fun j hj => (h.cell (a := ⟨N, 0 + j, none⟩) hlt hn).trans (hc j hj)⟩
end Go.Proofs.Ythibnnllecdpaaa
