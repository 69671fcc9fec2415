/- Contract of among. -/
import Derived.Test.YtkfjkhacchbkeaaL
namespace Go.Proofs.Ytkfjkhacchbkeaa
set_option linter.unusedVariables false
set_option linter.unusedSimpArgs false
open Go.RowKit

def zero87 : Array Value := (List.replicate 64 (Value.bool false)).toArray
theorem info87 : (Try.prog.info? 87).map (fun i => (i.zero, i.size)) = some (some (.agg zero87), 64) := by kernel_rfl
theorem marksN_zero : marksN 64 (fun _ => false) = zero87.toList := by
  have h : ∀ n, (List.range n).map (fun _ => Value.bool false) = List.replicate n (Value.bool false) := by
    intro n
    apply List.ext_getElem
    · simp
    · intro i h1 h2; simp
  unfold marksN zero87
  exact h 64
theorem marksN_one (n : Nat) (m : Nat → Bool) : ∀ u ∈ marksN n m, u.oneCell' = true := by
  intro u hu
  obtain ⟨x, _, rfl⟩ := List.mem_map.1 hu
  rfl
theorem run_index87 (T : Array Value) (hT : T.size = 64) (j : Nat) (hj : j < 64) (v : Value) (hv : T.getD j undef = v) (W : World) : (Instr.index 87 (.agg T) (.int .i64 (j : Int))).run Try.prog W = .ok v W := by
  have hu := Try.underlying87
  obtain ⟨i0, hi0, hz0, hz1, hz2⟩ := info_parts info4
  have h1 : (0 : Int) ≤ (j : Int) ∧ (j : Int) < 64 := by omega
  have h2 : j < T.size := by omega
  subst hv
  unfold Instr.index
  simp [asIntOf, part, h1, sizeOf, typeInfo, hi0, hz1, Result.andThen, underlying]
  rw [if_pos hj, Array.getElem?_eq_getElem h2]
  rfl
def amongL (many : Nat) (l : List Int) : List Nat := listM many (markI many l)
theorem amongL_64 {many : Nat} (h : many ≤ 64) (l : List Int) : listM 64 (markI many l) = amongL many l := listM_more h (fun x hx => markI_lt hx)
theorem mem_among {many : Nat} {l : List Int} {x : Nat} : x ∈ amongL many l ↔ x < many ∧ (x : Int) ∈ l := by
  unfold amongL; rw [mem_listM, markI_iff]; exact ⟨fun h => h.2, fun h => ⟨h.1, h⟩⟩
theorem among_rising (many : Nat) (l : List Int) : (amongL many l).Pairwise (· < ·) := listM_rising _ _
theorem among_len (many : Nat) (l : List Int) : (amongL many l).length ≤ many := length_listM _ _

set_option maxRecDepth 100000 in
set_option maxHeartbeats 4000000 in
theorem among_any (A : Option Addr) (c n : Nat) (l : List Int) (many : Nat) (hn : n = l.length) (hm : many ≤ 64) (hl : l.length ≤ 100000) (w : World) (hI : Ints w w.heap.size A l) :
    Calls Try.prog 50 #[.slice A n c, .int .i64 many] w fun e w' => ∃ v, e = .returned v ∧ w'.ownsRow w.heap.size 3 1 v (amongL many l).length (natsV (amongL many l)) ∧ Below w.heap.size w w' := by
  subst hn
  obtain ⟨hz, hs⟩ := zero_of_info (P := Try.prog) info87
  obtain ⟨Z, hZ⟩ : ∃ Z, Z = zero87 := ⟨_, rfl⟩
  rw [← hZ] at hz
  have HZ := Lib.hid hZ
  have HS := Lib.hid hs
  have HI := Lib.hid hI
  obtain ⟨i0, hi, hz0, hz1, hz2⟩ := info_parts info3
  have H64 := Lib.hid (amongL_64 hm l)
  clear hZ hs hI
  go_enter Try.func50, Try.ntmps50
  go_wp2_with fail
  go_loopw [13] (fun i wr => ∃ k : Nat, k ≤ l.length ∧ i = .int .i64 k ∧ BlkIs wr w.heap.size 87 (marksN 64 (markI many (l.take k))) ∧ Below w.heap.size w wr) (fun i _ => l.length - (intOf i).toNat)
  case atStart =>
    have h2 := BlkIs.new w 87 Z
    refine ⟨0, Nat.zero_le _, rfl, ?_, (Below.refl _ _).alloc (Nat.le_refl _) _⟩
    rw [List.take_zero, markI_nil, marksN_zero, ← HZ.out]
    exact h2
  case round =>
    obtain ⟨k, hk, rfl, hmk, hB⟩ := hrel
    rename World => wr
    by_cases hlt : k < l.length
    · have hlti : (k : Int) < (l.length : Int) := by omega
      have hk0 : (0 : Int) ≤ (k : Int) := by omega
      obtain ⟨b, off, rfl, hb, hc⟩ := HI.out.at_ hlt
      have hck := (hB.cell hb).trans hc
      have Htk := Lib.hid (take_nth l k hlt)
      obtain ⟨x, hx⟩ : ∃ x, x = nth l k := ⟨_, rfl⟩
      rw [← hx] at hck Htk
      have Hmk := Lib.hid hmk
      clear hc hmk hx
      by_cases hx0 : 0 ≤ x
      · by_cases hxm : x < (many : Int)
        · obtain ⟨y, rfl⟩ := Int.eq_ofNat_of_zero_le hx0
          have hy : y < many := by omega
          have hyi : (y : Int) < 64 := by omega
          have hcell : wr.cell? ⟨w.heap.size, y, none⟩ = some (.bool (markI many (l.take k) y)) := by rw [Hmk.out.cell, marksN_at _ _ (by omega)]
          have hfr := BlkIs.frozen Hmk.out y
          go_wp2_with fail
          go_roundw
          case rel =>
            refine ⟨k + 1, by omega, by go_num, ?_, hB.setCell (p := ⟨w.heap.size, y, none⟩) (Nat.le_refl _) _⟩
            rw [Htk.out, markI_hit hy, ← marksN_set]
            exact Hmk.out.set_ y _
          case measure => simp [intOf]; omega
        · go_wp2_with fail
          go_roundw
          case rel => exact ⟨k + 1, by omega, by go_num, by rw [Htk.out, markI_miss (fun h => hxm h.2)]; exact Hmk.out, hB⟩
          case measure => simp [intOf]; omega
      · have hxn : x < 0 := by omega
        go_wp2_with fail
        go_roundw
        case rel => exact ⟨k + 1, by omega, by go_num, by rw [Htk.out, markI_miss (fun h => hx0 h.1)]; exact Hmk.out, hB⟩
        case measure => simp [intOf]; omega
    · have hlti : ¬ (k : Int) < (l.length : Int) := by omega
      obtain rfl : k = l.length := by omega
      rw [List.take_length] at hmk
      obtain ⟨m, hm⟩ : ∃ m, m = markI many l := ⟨_, rfl⟩
      rw [← hm] at hmk H64
      obtain ⟨T, hT⟩ : ∃ T, T = (marksN 64 m).toArray := ⟨_, rfl⟩
      have hTs : T.size = 64 := by rw [hT]; simp [length_marksN]
      have hm2 : wr.heap[w.heap.size]? = some (.cells T 87 (0, 0)) := by rw [hT]; exact hmk
      have hs87 : (Try.prog.info? 87).map (·.size) = some T.size := by rw [HS.out, hTs]
      have HT : Hid (∀ k, k < 64 → T.getD k undef = .bool (m k)) := fun k hk => by rw [hT]; simp [marksN, hk]
      have Hm2 := Lib.hid hm2
      have Hs87 := Lib.hid hs87
      have HB := Lib.hid hB
      have HTs := Lib.hid hTs
      clear hmk hT hTs hm2 hs87 hB hm
      go_wp2_with (refine wpList_load_row rfl 87 (.tmp 5) rfl w.heap.size rfl 87 T (0, 0) _ Hm2.out Try.underlying87 rfl Hs87.out ?_)
      go_loopw [8, 28] (fun v i w3 => ∃ j : Nat, j ≤ 64 ∧ i = .int .i64 j ∧ w3.ownsRow w.heap.size 3 1 v (listM j m).length (natsV (listM j m)) ∧ Below w.heap.size w w3) (fun _ i _ => 64 - (intOf i).toNat)
      case atStart => exact ⟨0, Nat.zero_le _, rfl, World.ownsRow_nil _ _ _ _, HB.out⟩
      case round =>
        obtain ⟨j, hj, rfl, hown, hB⟩ := hrel
        rename World => w3
        have hjl := length_listM j m
        have hsz := hB.size
        by_cases hlt : j < 64
        · have hlti : (j : Int) < 64 := by omega
          have hj0 : (0 : Int) ≤ (j : Int) := by omega
          have hTj := HT.out j hlt
          have hTz := HTs.out
          have hsucc := listM_succ j m
          cases hmj : m j with
          | true =>
            rw [hmj] at hTj hsucc
            have hix := run_index87 T hTz j hlt _ hTj
            clear hTj hTz
            simp only [if_true] at hsucc
            have Hs := Lib.hid hsucc
            clear hsucc hmj
            go_wp2_with (at_builtin; refine wpList_append_own _ rfl _ _ 29 rfl w.heap.size 3 i0 (.int .i64 0) 1 8 Try.underlying29 hi hz0 hz1 hz2 rfl (by decide) _ _ _ rfl (hown.alloc _) ⟨w3.heap.size, 0, none⟩ 1 1 [.int .i64 ((j : Nat) : Int)] rfl rfl (cell_one_new _ _ _) (by simp [Value.oneCell']) (by unfold maxLen; omega) (by omega) (by simp; omega) ?_; intro v' w5 hown' hgrow _; have hB5 : Below w.heap.size w w5 := hB.trans ((((Below.refl _ w3).alloc hsz _)).grown hgrow (by simp; omega) (fun j e => (hown.lt j e).1)); have Hown := Lib.hid hown'; have HB5 := Lib.hid hB5; clear hown' hB5 hgrow)
            go_roundw
            case rel => exact ⟨j + 1, by omega, by go_num, by rw [Hs.out]; simpa [natsV] using Hown.out, HB5.out⟩
            case measure => simp [intOf]; omega
          | false =>
            rw [hmj] at hTj hsucc
            have hix := run_index87 T hTz j hlt _ hTj
            clear hTj hTz
            simp only [Bool.false_eq_true, if_false, List.append_nil] at hsucc
            have Hs := Lib.hid hsucc
            clear hsucc hmj
            go_wp2_with fail
            go_roundw
            case rel => exact ⟨j + 1, by omega, by go_num, by rw [Hs.out]; exact hown, hB⟩
            case measure => simp [intOf]; omega
        · have hlti : ¬ (j : Int) < 64 := by omega
          obtain rfl : j = 64 := by omega
          rw [H64.out] at hown
          go_wp2_with fail
          go_ret
          exact ⟨_, rfl, hown, hB⟩
end Go.Proofs.Ytkfjkhacchbkeaa
