/- Contracts of the two other depsOf. -/
import Derived.Test.YtkfjkhacchbkeaaB
import Derived.Test.YtkfjkhacchbkeaaGYA
namespace Go.Proofs.Ytkfjkhacchbkeaa
set_option linter.unusedVariables false
set_option linter.unusedSimpArgs false
open Go.RowKit

def rowV (l : List It) (Af : Nat → Option Addr) (Cf : Nat → Nat) (j : Nat) : Value := .slice (Af j) (itN l j).d.length (Cf j)
/-- a slice of slices that is its own -/
theorem own_slices {w : World} {B : Nat} {v : Value} {n : Nat} {xs : List Value} (h : w.ownsRow B 29 1 v n xs) : ∃ A c, v = .slice A n c ∧ (0 < n → ∃ g, A = some ⟨g, 0, none⟩ ∧ g < w.heap.size ∧ ∀ j, j < n → w.cell? ⟨g, j, none⟩ = xs[j]?) := by
  rcases h.2 with ⟨rfl, rfl⟩ | ⟨g, cap, cur, rfl, hbg, hg, hnc, hcm, _⟩
  · exact ⟨none, 0, rfl, fun h => by omega⟩
  · exact ⟨_, cap, rfl, fun _ => ⟨g, rfl, (h.lt g rfl).2, fun j hj => h.cellAt j (by omega)⟩⟩
theorem Items.funs {w : World} {B n : Nat} {A : Option Addr} {l : List It} (h : Items w B A l) (hn : n = l.length) : ∃ (Af : Nat → Option Addr) (Cf : Nat → Nat), 0 < n → ∃ b off, A = some ⟨b, off, none⟩ ∧ b < B ∧ ∀ j, j < l.length → ItAt w B b (off + j * 4) (itN l j) (Af j) (Cf j) := by
  by_cases h0 : 0 < l.length
  · obtain ⟨b, off, Af, Cf, h⟩ := h h0
    exact ⟨Af, Cf, fun _ => ⟨b, off, h⟩⟩
  · exact ⟨fun _ => none, fun _ => 0, fun h => by omega⟩

set_option maxRecDepth 100000 in
set_option maxHeartbeats 1000000 in
theorem topDepsOf_any (A : Option Addr) (c n : Nat) (l : List It) (hn : n = l.length) (w : World) (hl : l.length ≤ 1000) (hI : Items w w.heap.size A l) :
    Calls Try.prog 38 #[.slice A n c] w (DepsSays w l) := by
  obtain ⟨i0, hi, hz0, hz1, hz2⟩ := info_parts info29
  obtain ⟨Af, Cf, hAt⟩ := hI.funs hn
  have HAt := Lib.hid hAt
  have Hn := Lib.hid hn
  have hn1 : n ≤ 1000 := by omega
  clear hI hAt hn hl
  go_enter Try.func38, Try.ntmps38
  go_wp2_with fail
  go_loopw [3, 4] (fun v i wr => ∃ k : Nat, k ≤ n ∧ i = .int .i64 k ∧ wr.ownsRow w.heap.size 29 1 v k ((List.range k).map (rowV l Af Cf)) ∧ Below w.heap.size w wr) (fun _ i _ => n - (intOf i).toNat)
  case atStart => exact ⟨0, Nat.zero_le _, rfl, World.ownsRow_nil _ _ _ _, Below.refl _ _⟩
  case round =>
    obtain ⟨k, hk, rfl, hown, hB⟩ := hrel
    rename World => wr
    by_cases hlt : k < n
    · have hlti : (k : Int) < (n : Int) := by omega
      have hk0 : (0 : Int) ≤ (k : Int) := by omega
      obtain ⟨b, off, rfl, hb, hj⟩ := HAt.out (by omega)
      have hx := (hj k (by rw [← Hn.out]; exact hlt)).keep (w' := wr) hb (fun p hp => hB.cell hp)
      obtain ⟨c0, c1, c2, c3, _⟩ := hx
      have Hrange : Hid ((List.range (k + 1)).map (rowV l Af Cf) = (List.range k).map (rowV l Af Cf) ++ [.slice (Af k) (itN l k).d.length (Cf k)]) := by
        unfold Hid
        rw [List.range_succ, List.map_append]
        rfl
      obtain ⟨x, hx⟩ : ∃ x, x = itN l k := ⟨_, rfl⟩
      rw [← hx] at c3 Hrange
      clear hx c0 c1 c2 hj
      obtain ⟨p, d⟩ := x
      simp only at c3 Hrange
      have hsz := hB.size
      go_wp2_with (at_builtin; refine wpList_append_own _ rfl _ _ 27 rfl w.heap.size 29 i0 (.slice none 0 0) 1 24 Try.underlying27 hi hz0 hz1 hz2 rfl (by decide) _ _ _ rfl (hown.alloc _) ⟨wr.heap.size, 0, none⟩ 1 1 [.slice (Af k) d.length (Cf k)] rfl rfl (cell_one_new _ _ _) (by simp [Value.oneCell']) (by unfold maxLen; omega) (by omega) (by simp; omega) ?_)
      intro v' w1 hown' hgrow _
      have hB1 : Below w.heap.size w w1 := hB.trans ((((Below.refl _ wr).alloc hsz _)).grown hgrow (by simp; omega) (fun j e => (hown.lt j e).1))
      go_wp2_with fail
      go_roundw
      case rel => exact ⟨k + 1, by omega, by go_num, by rw [Hrange.out]; exact hown', hB1⟩
      case measure => simp [intOf]; omega
    · have hlti : ¬ (k : Int) < (n : Int) := by omega
      obtain rfl : k = n := by omega
      obtain ⟨A', c', rfl, hout⟩ := own_slices hown
      have Hout := Lib.hid hout
      have HB := Lib.hid hB
      clear hown hout hB
      go_wp2_with fail
      go_ret
      refine ⟨A', c', by rw [← Hn.out]; rfl, fun h0 => ?_, HB.out⟩
      rw [length_depsI, ← Hn.out] at h0
      obtain ⟨g, rfl, hg, hcells⟩ := Hout.out h0
      obtain ⟨b, off, _, hb, hj⟩ := HAt.out h0
      refine ⟨g, 0, rfl, hg, fun j hjn => ?_⟩
      rw [length_depsI, ← Hn.out] at hjn
      have hx := hj j (by rw [← Hn.out]; exact hjn)
      refine ⟨Af j, Cf j, ?_, ?_⟩
      · rw [Nat.zero_add, hcells j hjn, rowI_depsI (by rw [← Hn.out]; exact hjn)]
        simp [rowV, hjn]
      · rw [rowI_depsI (by rw [← Hn.out]; exact hjn)]
        exact (hx.row.below HB.out).more HB.out.size

set_option maxRecDepth 100000 in
set_option maxHeartbeats 1000000 in
theorem refDepsOf_any (A : Option Addr) (c n : Nat) (l : List It) (hn : n = l.length) (w : World) (hl : l.length ≤ 1000) (hI : Items w w.heap.size A l) :
    Calls Try.prog 36 #[.slice A n c] w (DepsSays w l) := by
  obtain ⟨i0, hi, hz0, hz1, hz2⟩ := info_parts info29
  obtain ⟨Af, Cf, hAt⟩ := hI.funs hn
  have HAt := Lib.hid hAt
  have Hn := Lib.hid hn
  have hn1 : n ≤ 1000 := by omega
  clear hI hAt hn hl
  go_enter Try.func36, Try.ntmps36
  go_wp2_with fail
  go_loopw [3, 4] (fun v i wr => ∃ k : Nat, k ≤ n ∧ i = .int .i64 k ∧ wr.ownsRow w.heap.size 29 1 v k ((List.range k).map (rowV l Af Cf)) ∧ Below w.heap.size w wr) (fun _ i _ => n - (intOf i).toNat)
  case atStart => exact ⟨0, Nat.zero_le _, rfl, World.ownsRow_nil _ _ _ _, Below.refl _ _⟩
  case round =>
    obtain ⟨k, hk, rfl, hown, hB⟩ := hrel
    rename World => wr
    by_cases hlt : k < n
    · have hlti : (k : Int) < (n : Int) := by omega
      have hk0 : (0 : Int) ≤ (k : Int) := by omega
      obtain ⟨b, off, rfl, hb, hj⟩ := HAt.out (by omega)
      have hx := (hj k (by rw [← Hn.out]; exact hlt)).keep (w' := wr) hb (fun p hp => hB.cell hp)
      obtain ⟨c0, c1, c2, c3, _⟩ := hx
      have Hrange : Hid ((List.range (k + 1)).map (rowV l Af Cf) = (List.range k).map (rowV l Af Cf) ++ [.slice (Af k) (itN l k).d.length (Cf k)]) := by
        unfold Hid
        rw [List.range_succ, List.map_append]
        rfl
      obtain ⟨x, hx⟩ : ∃ x, x = itN l k := ⟨_, rfl⟩
      rw [← hx] at c3 Hrange
      clear hx c0 c1 c2 hj
      obtain ⟨p, d⟩ := x
      simp only at c3 Hrange
      have hsz := hB.size
      go_wp2_with (at_builtin; refine wpList_append_own _ rfl _ _ 27 rfl w.heap.size 29 i0 (.slice none 0 0) 1 24 Try.underlying27 hi hz0 hz1 hz2 rfl (by decide) _ _ _ rfl (hown.alloc _) ⟨wr.heap.size, 0, none⟩ 1 1 [.slice (Af k) d.length (Cf k)] rfl rfl (cell_one_new _ _ _) (by simp [Value.oneCell']) (by unfold maxLen; omega) (by omega) (by simp; omega) ?_)
      intro v' w1 hown' hgrow _
      have hB1 : Below w.heap.size w w1 := hB.trans ((((Below.refl _ wr).alloc hsz _)).grown hgrow (by simp; omega) (fun j e => (hown.lt j e).1))
      go_wp2_with fail
      go_roundw
      case rel => exact ⟨k + 1, by omega, by go_num, by rw [Hrange.out]; exact hown', hB1⟩
      case measure => simp [intOf]; omega
    · have hlti : ¬ (k : Int) < (n : Int) := by omega
      obtain rfl : k = n := by omega
      obtain ⟨A', c', rfl, hout⟩ := own_slices hown
      have Hout := Lib.hid hout
      have HB := Lib.hid hB
      clear hown hout hB
      go_wp2_with fail
      go_ret
      refine ⟨A', c', by rw [← Hn.out]; rfl, fun h0 => ?_, HB.out⟩
      rw [length_depsI, ← Hn.out] at h0
      obtain ⟨g, rfl, hg, hcells⟩ := Hout.out h0
      obtain ⟨b, off, _, hb, hj⟩ := HAt.out h0
      refine ⟨g, 0, rfl, hg, fun j hjn => ?_⟩
      rw [length_depsI, ← Hn.out] at hjn
      have hx := hj j (by rw [← Hn.out]; exact hjn)
      refine ⟨Af j, Cf j, ?_, ?_⟩
      · rw [Nat.zero_add, hcells j hjn, rowI_depsI (by rw [← Hn.out]; exact hjn)]
        simp [rowV, hjn]
      · rw [rowI_depsI (by rw [← Hn.out]; exact hjn)]
        exact (hx.row.below HB.out).more HB.out.size
end Go.Proofs.Ytkfjkhacchbkeaa
