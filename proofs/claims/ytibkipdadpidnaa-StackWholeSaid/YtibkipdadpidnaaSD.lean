/- What both stacks tell; rows of numbers that are the same. -/
import Derived.Test.YtibkipdadpidnaaSC
set_option linter.unusedVariables false
set_option linter.unusedSimpArgs false
namespace Go.Proofs.Ytibkipdadpidnaa
open Go.RowKit
open Pat (Pt AllB undoP nth)
set_option maxRecDepth 100000 in
set_option maxHeartbeats 1000000 in
theorem same_ints (A A2 : Option Addr) (c c2 : Nat) (l : List Int) (w : World) (hl : l.length ≤ 1000) (h1 : Ints w w.heap.size A l) (h2 : Ints w w.heap.size A2 l) :
    Calls Try.prog 37 #[.slice A l.length c, .slice A2 l.length c2] w fun e w' => e = .returned (.bool true) ∧ Below w.heap.size w w' := by
  have H1 := Lib.hid h1
  have H2 := Lib.hid h2
  clear h1 h2
  go_enter Try.func37, Try.ntmps37
  go_wp2
  go_loopw [5] (fun i wr => ∃ k : Nat, k ≤ l.length ∧ i = .int .i64 k ∧ Below w.heap.size w wr) (fun i _ => l.length - (intOf i).toNat)
  case atStart => exact ⟨0, Nat.zero_le _, rfl, Below.refl _ _⟩
  case round =>
    obtain ⟨k, hk, rfl, hB⟩ := hrel
    rename World => wr
    have HB := Lib.hid hB
    by_cases hlt : k < l.length
    · have hlti : (k : Int) < (l.length : Int) := by omega
      have hk0 : (0 : Int) ≤ (k : Int) := by omega
      obtain ⟨b1, o1, rfl, l1, c1⟩ := H1.out.at_ hlt
      obtain ⟨b2, o2, rfl, l2, c2'⟩ := H2.out.at_ hlt
      have d1 := (hB.cell (p := ⟨b1, o1 + k, none⟩) l1).trans c1
      have d2 := (hB.cell (p := ⟨b2, o2 + k, none⟩) l2).trans c2'
      have hne : (inn l k != inn l k) = false := by simp
      clear c1 c2' hB
      generalize inn l k = x at *
      go_wp2
      go_quiet (fail)
      go_wp2
      go_roundw
      case rel => exact ⟨k + 1, by omega, by go_num, bdn HB.out _⟩
      case measure => simp [intOf]; omega
    · obtain rfl : k = l.length := by omega
      have hlti : ¬ (l.length : Int) < (l.length : Int) := by omega
      clear hB
      go_wp2
      go_ret
      exact ⟨rfl, HB.out⟩
/-- a slice of numbers came back -/
def GivesI (w : World) (l : List Int) (e : Ending) (w' : World) : Prop := ∃ A' c', e = .returned (.slice A' l.length c') ∧ RowI w' w.heap.size A' c' l ∧ Below w.heap.size w w'
/-- bytes came back -/
def GivesB (w : World) (f : List Int) (e : Ending) (w' : World) : Prop := ∃ d c', e = .returned (.slice (some ⟨d, 0, none⟩) 32 c') ∧ w.heap.size ≤ d ∧ Pat.Bts w' w'.heap.size (some ⟨d, 0, none⟩) f ∧ 32 ≤ c' ∧ Below w.heap.size w w'
def allB (s : Sk) : List Int := withL (fun _ => true) s.f s.l
def undT (s : Sk) (n : Int) : ByteArray := if isOn s.l n = true then underT s.f s.l n else ⟨#[]⟩
def undE (s : Sk) (n : Int) : Int := if isOn s.l n = true then 0 else 5
section
variable {B c g r : Nat} {s u : Sk} {w : World}
theorem q_waiting (t : Two B w g r s u) (hO : Ok c s) (hc : c ≤ 190) : Calls Try.prog 21 #[.pointer (some ⟨g, 0, none⟩)] w (GivesI w (nums s.l)) := by
  obtain ⟨L, h⟩ := t.p
  have h2 := hO.len
  exact pwaiting_any B g L s w h (by omega)
theorem d_waiting (t : Two B w g r u s) (hO : Ok c s) (hc : c ≤ 190) : Calls Try.prog 34 #[.pointer (some ⟨r, 0, none⟩)] w (GivesI w (nums s.l)) := by
  obtain ⟨bA, bc, A, c', h⟩ := t.r
  have h2 := hO.len
  exact rwaiting_any B r bA A bc c' s w h (by omega)
theorem q_needs (t : Two B w g r s u) (hO : Ok c s) (hc : c ≤ 190) (n : Int) : Calls Try.prog 25 #[.pointer (some ⟨g, 0, none⟩), .int .i64 n] w (GivesI w (needsL s.l n)) := by
  obtain ⟨L, h⟩ := t.p
  have h2 := hO.len
  exact pneeds_any B g L s n w h hO.r hO.rise (by omega)
theorem d_needs (t : Two B w g r u s) (hO : Ok c s) (hc : c ≤ 190) (n : Int) : Calls Try.prog 38 #[.pointer (some ⟨r, 0, none⟩), .int .i64 n] w (GivesI w (needsL s.l n)) := by
  obtain ⟨bA, bc, A, c', h⟩ := t.r
  have h2 := hO.len
  exact rneeds_any B r bA A bc c' s n w h hO.r (by omega)
theorem q_get (t : Two B w g r s u) (hO : Ok c s) (n : Int) : Calls Try.prog 26 #[.pointer (some ⟨g, 0, none⟩), .int .i64 n] w fun e w' => e = .returned (.tuple #[(patP s.l n).v, .bool (isOn s.l n)]) ∧ Below w.heap.size w w' := by
  obtain ⟨L, h⟩ := t.p
  exact pget_any B g L s n w h hO.rise
theorem d_get (t : Two B w g r u s) (hO : Ok c s) (hc : c ≤ 190) (n : Int) : Calls Try.prog 36 #[.pointer (some ⟨r, 0, none⟩), .int .i64 n] w fun e w' => e = .returned (.tuple #[(patP s.l n).v, .bool (isOn s.l n)]) ∧ Below w.heap.size w w' := by
  obtain ⟨bA, bc, A, c', h⟩ := t.r
  have h2 := hO.len
  exact rget_any B r bA A bc c' s n w h (by omega)
theorem q_under (t : Two B w g r s u) (hO : Ok c s) (hc : c ≤ 190) (n : Int) : Calls Try.prog 19 #[.pointer (some ⟨g, 0, none⟩), .int .i64 n] w fun e w' => e = .returned (.tuple #[.string (undT s n), .int .i64 (undE s n)]) ∧ Below w.heap.size w w' := by
  obtain ⟨L, h⟩ := t.p
  have h2 := hO.len
  unfold undT undE
  cases q : isOn s.l n with
  | true => rw [if_pos rfl, if_pos rfl]; exact punder_yes B g L s n w h hO.r hO.rise (by omega) q
  | false => rw [if_neg (by decide), if_neg (by decide)]; exact punder_no B g L s n w h q
theorem d_under (t : Two B w g r u s) (hO : Ok c s) (hc : c ≤ 190) (n : Int) : Calls Try.prog 35 #[.pointer (some ⟨r, 0, none⟩), .int .i64 n] w fun e w' => e = .returned (.tuple #[.string (undT s n), .int .i64 (undE s n)]) ∧ Below w.heap.size w w' := by
  obtain ⟨bA, bc, A, c', h⟩ := t.r
  have h2 := hO.len
  unfold undT undE
  cases q : isOn s.l n with
  | true => rw [if_pos rfl, if_pos rfl]; exact runder_yes B r bA A bc c' s n w h hO.r (by omega) q
  | false => rw [if_neg (by decide), if_neg (by decide)]; exact runder_no B r bA A bc c' s n w h (by omega) q
theorem q_bytes (t : Two B w g r s u) (hO : Ok c s) (hc : c ≤ 190) : Calls Try.prog 17 #[.pointer (some ⟨g, 0, none⟩)] w (GivesB w (allB s)) := by
  obtain ⟨L, h⟩ := t.p
  have h2 := hO.len
  exact (pbytes_any B g L s w h hO.r (by omega)).mono fun e w' ⟨d, e1, e2, e3, e4⟩ => ⟨d, 32, e1, e3, bts_blk e2 (withL_all h.all) (withL_len hO.r h.len), by omega, e4⟩
theorem q_base (t : Two B w g r s u) : Calls Try.prog 22 #[.pointer (some ⟨g, 0, none⟩)] w (GivesB w s.f) := by
  obtain ⟨L, h⟩ := t.p
  exact (pbase_any B g L s w h).mono fun e w' ⟨d, e1, e2, e3, e4⟩ => ⟨d, 32, e1, e3, bts_blk e2 h.all h.len, by omega, e4⟩
theorem own_bts {W : World} {B0 c' d : Nat} {f : List Int} (h : W.ownsRow B0 5 1 (.slice (some ⟨d, 0, none⟩) 32 c') 32 (Pat.bytesV f)) (ha : AllB f) (hl : f.length = 32) : B0 ≤ d ∧ Pat.Bts W W.heap.size (some ⟨d, 0, none⟩) f ∧ 32 ≤ c' :=
  ⟨(World.ownsRow.lt h d rfl).1, ⟨ha, fun _ => ⟨d, 0, rfl, (World.ownsRow.lt h d rfl).2, fun j hj => by
    rw [Nat.zero_add, World.ownsRow.cellAt h j (by omega), Pat.bytesV, List.getElem?_map, List.getElem?_eq_getElem hj, Pat.nth_lt hj]; rfl⟩⟩, (own_cap h).1⟩
theorem d_bytes (t : Two B w g r u s) (hO : Ok c s) (hc : c ≤ 190) (hf : s.f.length = 32) : Calls Try.prog 39 #[.pointer (some ⟨r, 0, none⟩)] w (GivesB w (allB s)) := by
  obtain ⟨bA, bc, A, c', h⟩ := t.r
  have h2 := hO.len
  exact (rbytes_any B r bA A bc c' s w h hO.r (by omega)).mono fun e w' ⟨d, c2, e1, e2, e3⟩ => by
    obtain ⟨h1, h2, h3⟩ := own_bts e2 (withL_all h.all) (withL_len hO.r hf)
    exact ⟨d, c2, e1, h1, h2, h3, e3⟩
theorem d_base (t : Two B w g r u s) (hO : Ok c s) (hc : c ≤ 190) (hf : s.f.length = 32) : Calls Try.prog 40 #[.pointer (some ⟨r, 0, none⟩)] w (GivesB w s.f) := by
  obtain ⟨bA, bc, A, c', h⟩ := t.r
  have h2 := hO.len
  exact (rbase_any B r bA A bc c' s w h hO.r (by omega)).mono fun e w' ⟨d, c2, e1, e2, e3⟩ => by
    obtain ⟨h1, h2, h3⟩ := own_bts e2 h.all hf
    exact ⟨d, c2, e1, h1, h2, h3, e3⟩
end
/-- all of a row, so far -/
def hasK (l : List Int) (y : Int) (k : Nat) : Bool := (l.take k).any (fun z => z == y)
theorem hasK_step {l : List Int} {y : Int} {k : Nat} (h : k < l.length) : hasK l y (k + 1) = (hasK l y k || (inn l k == y)) := by
  unfold hasK; rw [take_inn h, List.any_append]; simp
theorem hasK_all {l : List Int} {y : Int} : hasK l y l.length = decide (y ∈ l) := by
  unfold hasK; rw [List.take_length]
  by_cases h : y ∈ l
  · rw [decide_eq_true h]; simp [h]
  · rw [decide_eq_false h]
    cases q : l.any (fun z => z == y) with
    | false => rfl
    | true => obtain ⟨z, hz, e⟩ := List.any_eq_true.1 q; exact absurd hz (by rw [show z = y by simpa using e]; exact h)
set_option maxRecDepth 100000 in
set_option maxHeartbeats 1000000 in
theorem lhas_any (A : Option Addr) (c : Nat) (l : List Int) (y : Int) (w : World) (hl : l.length ≤ 1000) (h1 : Ints w w.heap.size A l) :
    Calls Try.prog 27 #[.slice A l.length c, .int .i64 y] w fun e w' => e = .returned (.bool (decide (y ∈ l))) ∧ w = w' := by
  have H1 := Lib.hid h1
  have HY : Hid (∀ k, k < l.length → inn l k = y → decide (y ∈ l) = true) := fun k hk e => decide_eq_true (by rw [← e]; exact inn_mem hk)
  have HN : Hid ((∀ k, k < l.length → inn l k ≠ y) → decide (y ∈ l) = false) := fun h => decide_eq_false (fun q => by obtain ⟨k, hk, e⟩ := mem_inn q; exact h k hk e)
  clear h1
  generalize decide (y ∈ l) = bt at *
  go_enter Try.func27, Try.ntmps27
  go_wp2
  go_loopw [5] (fun i wr => ∃ k : Nat, k ≤ l.length ∧ i = .int .i64 k ∧ Hid (∀ j, j < k → inn l j ≠ y) ∧ w = wr) (fun i _ => l.length - (intOf i).toNat)
  case atStart => exact ⟨0, Nat.zero_le _, rfl, fun j h => absurd h (by omega), rfl⟩
  case round =>
    obtain ⟨k, hk, rfl, hno, rfl⟩ := hrel
    by_cases hlt : k < l.length
    · have hlti : (k : Int) < (l.length : Int) := by omega
      have hk0 : (0 : Int) ≤ (k : Int) := by omega
      obtain ⟨b1, o1, rfl, l1, c1⟩ := H1.out.at_ hlt
      by_cases he : inn l k = y
      · have HE := Lib.hid (HY.out k hlt he)
        have hb : (inn l k == y) = true := by simpa using he
        clear he
        generalize inn l k = x at *
        go_wp2
        go_ret
        exact ⟨by rw [HE.out]; rfl, rfl⟩
      · have hb : (inn l k == y) = false := by simpa using he
        have HN2 : Hid (∀ j, j < k + 1 → inn l j ≠ y) := fun j hj => by
          by_cases e : j = k
          · rw [e]; exact he
          · exact hno.out j (by omega)
        clear he
        generalize inn l k = x at *
        go_wp2
        go_roundw
        case rel => exact ⟨k + 1, by omega, by go_num, HN2.out, trivial⟩
        case measure => simp [intOf]; omega
    · obtain rfl : k = l.length := by omega
      have hlti : ¬ (l.length : Int) < (l.length : Int) := by omega
      have HE := Lib.hid (HN.out hno.out)
      clear hno
      go_wp2
      go_ret
      exact ⟨by rw [HE.out]; rfl, rfl⟩
end Go.Proofs.Ytibkipdadpidnaa
