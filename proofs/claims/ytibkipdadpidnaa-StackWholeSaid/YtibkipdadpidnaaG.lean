/- The document's may, Roll, Bytes, Base. -/
import Derived.Test.YtibkipdadpidnaaF
set_option linter.unusedVariables false
set_option linter.unusedSimpArgs false
namespace Go.Proofs.Ytibkipdadpidnaa
open Go.RowKit
open Pat (Pt AllB undoP nth)
/-- has each what it needs? -/
def needsIn (l : List On) (m : List Int) (n : Int) : Bool := (needsL l n).all fun y => decide (y ∈ m)
def mayE (l : List On) (m : List Int) : Int := if m.all (isOn l) = true then (if m.all (needsIn l m) = true then 0 else 12) else 2
theorem mayE_off {l : List On} {m : List Int} {k : Nat} (hk : k < m.length) (h : isOn l (inn m k) = false) : mayE l m = 2 := by
  unfold mayE
  rw [if_neg]
  intro q
  have := List.all_eq_true.1 q _ (inn_mem hk)
  rw [h] at this; cases this
theorem mayE_busy {l : List On} {m : List Int} (ho : m.all (isOn l) = true) {k : Nat} (hk : k < m.length) (h : needsIn l m (inn m k) = false) : mayE l m = 12 := by
  unfold mayE
  rw [if_pos ho, if_neg]
  intro q
  have := List.all_eq_true.1 q _ (inn_mem hk)
  rw [h] at this; cases this
theorem all_inn {m : List Int} {f : Int → Bool} (h : ∀ q, q < m.length → f (inn m q) = true) : m.all f = true := by
  rw [List.all_eq_true]
  intro x hx
  obtain ⟨q, hq, rfl⟩ := mem_inn hx
  exact h q hq
section
variable (B r : Nat) (bA A : Option Addr) (bc c : Nat) (s : Sk) (w : World)
set_option maxRecDepth 100000 in
set_option maxHeartbeats 2000000 in
theorem rmay_any (A0 : Option Addr) (c0 : Nat) (m : List Int) (hC : RefAt B w r bA bc A c s) (hr0 : Rights s.l) (hl : s.l.length ≤ 900) (hm : m.length ≤ 1000) (hI : Ints w w.heap.size A0 m) : Calls Try.prog 44 #[.pointer (some ⟨r, 0, none⟩), .slice A0 m.length c0] w fun e w' => e = .returned (.int .i64 (mayE s.l m)) ∧ Below w.heap.size w w' := by
  have hr := hC.glt
  have HC := Lib.hid hC
  have HI := Lib.hid hI
  have HG : Hid (∀ n W, Below w.heap.size w W → Calls Try.prog 36 #[.pointer (some ⟨r, 0, none⟩), .int .i64 n] W fun e w' => e = .returned (.tuple #[(patP s.l n).v, .bool (isOn s.l n)]) ∧ Below W.heap.size W w') := fun n W hW => rget_any B r bA A bc c s n W (hC.fresh hW) (by omega)
  have HN : Hid (∀ n W, Below w.heap.size w W → Calls Try.prog 38 #[.pointer (some ⟨r, 0, none⟩), .int .i64 n] W fun e w' => ∃ A' c', e = .returned (.slice A' (needsL s.l n).length c') ∧ RowI w' W.heap.size A' c' (needsL s.l n) ∧ Below W.heap.size W w') := fun n W hW => rneeds_any B r bA A bc c s n W (hC.fresh hW) hr0 hl
  have HH : Hid (∀ n W, Below w.heap.size w W → Calls Try.prog 68 #[.slice A0 m.length c0, .int .i64 n] W fun e w' => e = .returned (.bool (decide (n ∈ m))) ∧ W = w') := fun n W hW => has_any A0 c0 m n W hm ((hI.below hW).more hW.size)
  have HX : Hid (∀ (w1 : World) (p : Pt), Below w.heap.size w w1 → Below w.heap.size w (w1.alloc (.cells #[.int .i64 p.b, .int .i64 p.o, .string p.s] 38))) := fun w1 p h => h.alloc h.size _
  have HL := Lib.hid (fun n => needsL_len s.l n)
  clear hC hI
  go_enter Try.func44, Try.ntmps44
  go_wp2
  go_loopw [5] (fun i wr => ∃ k : Nat, k ≤ m.length ∧ i = .int .i64 k ∧ Hid (∀ q, q < k → isOn s.l (inn m q) = true) ∧ Hid (Below w.heap.size w wr)) (fun i _ => m.length - (intOf i).toNat)
  case atStart => exact ⟨0, Nat.zero_le _, rfl, fun q h => absurd h (by omega), Below.refl _ _⟩
  case round =>
    obtain ⟨k, hk, rfl, hyes, hB⟩ := hrel
    rename World => wr
    have hk0 : (0 : Int) ≤ (k : Int) := by omega
    by_cases hlt : k < m.length
    · have hki : (k : Int) < (m.length : Int) := by omega
      obtain ⟨b, off, rfl, hb, d0⟩ := (HI.out.below hB.out).at_ hlt
      have hbz : b < wr.heap.size := Nat.lt_of_lt_of_le hb hB.out.size
      have HGk := Lib.hid (HG.out (inn m k) wr hB.out)
      have HXk := Lib.hid (fun w1 (h : Below wr.heap.size wr w1) => HX.out w1 (patP s.l (inn m k)) (Below.trans hB.out (Below.mono h hB.out.size)))
      cases ho : isOn s.l (inn m k) with
      | true =>
        have Hy : Hid (∀ q, q < k + 1 → isOn s.l (inn m q) = true) := fun q hq => by
          by_cases e : q = k
          · rw [e]; exact ho
          · exact hyes.out q (by omega)
        rw [ho] at HGk
        generalize patP s.l (inn m k) = p at *
        obtain ⟨pb, po, ps⟩ := p
        unfold Pat.Pt.v at HGk
        simp only at HGk HXk
        generalize inn m k = y at *
        clear hyes
        go_wp2_with (go_at_call 36; refine HGk.out.mono ?_; rintro e w1 ⟨rfl, hb1⟩; have B1 := Lib.hid (HXk.out w1 hb1); clear hb1)
        go_roundw
        case rel => exact ⟨k + 1, by omega, by go_num, Hy.out, B1.out⟩
        case measure => simp [intOf]; omega
      | false =>
        have HE := Lib.hid (mayE_off hlt ho)
        rw [ho] at HGk
        generalize patP s.l (inn m k) = p at *
        obtain ⟨pb, po, ps⟩ := p
        unfold Pat.Pt.v at HGk
        simp only at HGk HXk
        generalize inn m k = y at *
        clear hyes
        go_wp2_with (go_at_call 36; refine HGk.out.mono ?_; rintro e w1 ⟨rfl, hb1⟩; have B1 := Lib.hid (HXk.out w1 hb1); clear hb1)
        go_ret
        exact ⟨by rw [HE.out]; rfl, B1.out⟩
    · obtain rfl : k = m.length := by omega
      have hki : ¬ (m.length : Int) < (m.length : Int) := by omega
      have HO := Lib.hid (all_inn hyes.out)
      clear hyes
      go_wp2
      go_loopw [8] (fun i wr => ∃ k : Nat, k ≤ m.length ∧ i = .int .i64 k ∧ Hid (∀ q, q < k → needsIn s.l m (inn m q) = true) ∧ Hid (Below w.heap.size w wr)) (fun i _ => m.length - (intOf i).toNat)
      case atStart => exact ⟨0, Nat.zero_le _, rfl, fun q h => absurd h (by omega), hB.out⟩
      case round =>
        clear hB hk hk0
        obtain ⟨k, hk, rfl, hyes, hB⟩ := hrel
        rename World => wr
        have hk0 : (0 : Int) ≤ (k : Int) := by omega
        by_cases hlt : k < m.length
        · have hki2 : (k : Int) < (m.length : Int) := by omega
          obtain ⟨b, off, rfl, hb, d0⟩ := (HI.out.below hB.out).at_ hlt
          have hbz : b < wr.heap.size := Nat.lt_of_lt_of_le hb hB.out.size
          have HNk := Lib.hid (HN.out (inn m k) wr hB.out)
          have HLk := HL.out (inn m k)
          have HBusy := Lib.hid (fun h => mayE_busy HO.out hlt h)
          have Hy : Hid (needsIn s.l m (inn m k) = true → ∀ q, q < k + 1 → needsIn s.l m (inn m q) = true) := fun ho q hq => by
            by_cases e : q = k
            · rw [e]; exact ho
            · exact hyes.out q (by omega)
          have HAll : Hid ((∀ q, q < (needsL s.l (inn m k)).length → decide (inn (needsL s.l (inn m k)) q ∈ m) = true) → needsIn s.l m (inn m k) = true) := fun h => all_inn h
          have HOne : Hid (∀ q, q < (needsL s.l (inn m k)).length → decide (inn (needsL s.l (inn m k)) q ∈ m) = false → needsIn s.l m (inn m k) = false) := fun q hq h => by
            cases z : needsIn s.l m (inn m k) with
            | false => rfl
            | true =>
              have := List.all_eq_true.1 z _ (inn_mem hq)
              rw [h] at this; cases this
          generalize needsIn s.l m (inn m k) = ok at *
          generalize needsL s.l (inn m k) = nl at *
          generalize inn m k = y at *
          clear hyes HO
          go_wp2_with (go_at_call 38; refine HNk.out.mono ?_; rintro e w1 ⟨A1, c1, rfl, hr1, hb1⟩; have B1 := Lib.hid (Below.trans hB.out (Below.mono hb1 hB.out.size)); have R1 := Lib.hid hr1.ints; clear hr1 hb1)
          go_loopw [10] (fun i wz => ∃ j : Nat, j ≤ nl.length ∧ i = .int .i64 j ∧ w1 = wz ∧ Hid (∀ q, q < j → decide (inn nl q ∈ m) = true)) (fun i _ => nl.length - (intOf i).toNat)
          case atStart => exact ⟨0, Nat.zero_le _, rfl, rfl, fun q h => absurd h (by omega)⟩
          case round =>
            obtain ⟨j, hj, rfl, rfl, hys⟩ := hrel
            have hj0 : (0 : Int) ≤ (j : Int) := by omega
            by_cases hjl : j < nl.length
            · have hji : (j : Int) < (nl.length : Int) := by omega
              obtain ⟨b2, off2, rfl, hb2, e0⟩ := R1.out.at_ hjl
              have HHk := Lib.hid (HH.out (inn nl j) w1 B1.out)
              cases hq : decide (inn nl j ∈ m) with
              | true =>
                have Hy2 : Hid (∀ q, q < j + 1 → decide (inn nl q ∈ m) = true) := fun q h => by
                  by_cases e : q = j
                  · rw [e]; exact hq
                  · exact hys.out q (by omega)
                rw [hq] at HHk
                generalize inn nl j = z at *
                clear hys hq HAll HOne
                go_wp2_with (go_at_call 68; refine HHk.out.mono ?_; rintro e w5 ⟨rfl, rfl⟩)
                go_roundw
                case rel => exact ⟨j + 1, by omega, by go_num, trivial, Hy2.out⟩
                case measure => simp [intOf]; omega
              | false =>
                have HE := Lib.hid (HBusy.out (HOne.out j hjl hq))
                rw [hq] at HHk
                generalize inn nl j = z at *
                clear hys hq HAll HOne
                go_wp2_with (go_at_call 68; refine HHk.out.mono ?_; rintro e w5 ⟨rfl, rfl⟩)
                go_ret
                exact ⟨by rw [HE.out]; rfl, B1.out⟩
            · obtain rfl : j = nl.length := by omega
              have hji : ¬ (nl.length : Int) < (nl.length : Int) := by omega
              have Hy3 := Lib.hid (Hy.out (HAll.out hys.out))
              clear hys HAll HOne
              go_wp2
              go_roundw
              case rel => exact ⟨k + 1, by omega, by go_num, Hy3.out, B1.out⟩
              case measure => simp [intOf]; omega
        · obtain rfl : k = m.length := by omega
          have HE : Hid (mayE s.l m = 0) := by unfold Hid mayE; rw [if_pos HO.out, if_pos (all_inn hyes.out)]
          clear hyes
          go_wp2
          go_ret
          exact ⟨by rw [HE.out]; rfl, hB.out⟩
set_option maxRecDepth 100000 in
set_option maxHeartbeats 1000000 in
theorem rroll_ok (A0 : Option Addr) (c0 : Nat) (m : List Int) (hC : RefAt B w r bA bc A c s) (hr0 : Rights s.l) (hl : s.l.length ≤ 900) (hm : m.length ≤ 1000) (hI : Ints w w.heap.size A0 m) (hE : mayE s.l m = 0) : Calls Try.prog 16 #[.pointer (some ⟨r, 0, none⟩), .slice A0 m.length c0] w fun e w' => ∃ g c', e = .returned (.tuple #[.slice (some ⟨g, 0, none⟩) 32 c', .int .i64 0]) ∧ w'.ownsRow w.heap.size 5 1 (.slice (some ⟨g, 0, none⟩) 32 c') 32 (Pat.bytesV (withL (fun n => decide (n ∈ m)) s.f s.l)) ∧ Below w.heap.size w w' := by
  have HM := Lib.hid (rmay_any B r bA A bc c s w A0 c0 m hC hr0 hl hm hI)
  rw [hE] at HM
  have HW := Lib.hid (fun W (hW : Below w.heap.size w W) => rwith_any B r bA A bc c s W A0 c0 m (hC.fresh hW) hr0 (by omega) hm ((hI.below hW).more hW.size))
  clear hC hI hE
  go_enter Try.func16, Try.ntmps16
  go_wp2_with (first
    | (go_at_call 44; refine HM.out.mono ?_; rintro e w1 ⟨rfl, hb1⟩; have B1 := Lib.hid hb1; clear hb1)
    | (go_at_call 45; refine (HW.out _ B1.out).mono ?_; rintro e w2 ⟨g, c', rfl, h2, hb2⟩; have G2 := Lib.hid h2; have B2 := Lib.hid (Below.trans B1.out (Below.mono hb2 B1.out.size)); clear h2 hb2))
  go_ret2
  exact ⟨g, c', rfl, Pat.base_le G2.out B1.out.size, B2.out⟩
set_option maxRecDepth 100000 in
set_option maxHeartbeats 1000000 in
theorem rroll_no (A0 : Option Addr) (c0 : Nat) (m : List Int) (hC : RefAt B w r bA bc A c s) (hr0 : Rights s.l) (hl : s.l.length ≤ 900) (hm : m.length ≤ 1000) (hI : Ints w w.heap.size A0 m) (hE : mayE s.l m ≠ 0) : Calls Try.prog 16 #[.pointer (some ⟨r, 0, none⟩), .slice A0 m.length c0] w fun e w' => e = .returned (.tuple #[.slice none 0 0, .int .i64 (mayE s.l m)]) ∧ Below w.heap.size w w' := by
  have HM := Lib.hid (rmay_any B r bA A bc c s w A0 c0 m hC hr0 hl hm hI)
  generalize mayE s.l m = E at *
  have hne : (E != 0) = true := by simpa using hE
  clear hC hI hE
  go_enter Try.func16, Try.ntmps16
  go_wp2_with (go_at_call 44; refine HM.out.mono ?_; rintro e w1 ⟨rfl, hb1⟩; have B1 := Lib.hid hb1; clear hb1)
  go_ret2
  exact ⟨rfl, B1.out⟩
set_option maxRecDepth 100000 in
set_option maxHeartbeats 1000000 in
theorem rbytes_any (hC : RefAt B w r bA bc A c s) (hr0 : Rights s.l) (hl : s.l.length ≤ 900) : Calls Try.prog 39 #[.pointer (some ⟨r, 0, none⟩)] w fun e w' => ∃ g c', e = .returned (.slice (some ⟨g, 0, none⟩) 32 c') ∧ w'.ownsRow w.heap.size 5 1 (.slice (some ⟨g, 0, none⟩) 32 c') 32 (Pat.bytesV (withL (fun _ => true) s.f s.l)) ∧ Below w.heap.size w w' := by
  have HG := Lib.hid (rwaiting_any B r bA A bc c s w hC (by omega))
  have HW : Hid (∀ W A0 c0, Below w.heap.size w W → Ints W W.heap.size A0 (nums s.l) → Calls Try.prog 45 #[.pointer (some ⟨r, 0, none⟩), .slice A0 (nums s.l).length c0] W fun e w' => ∃ g c', e = .returned (.slice (some ⟨g, 0, none⟩) 32 c') ∧ w'.ownsRow W.heap.size 5 1 (.slice (some ⟨g, 0, none⟩) 32 c') 32 (Pat.bytesV (withL (fun _ => true) s.f s.l)) ∧ Below W.heap.size W w') := fun W A0 c0 hW hI => by
    have := rwith_any B r bA A bc c s W A0 c0 (nums s.l) (hC.fresh hW) hr0 (by omega) (by rw [length_nums]; omega) hI
    rwa [with_congr (k' := fun _ => true) (fun x hx => decide_eq_true (List.mem_map.2 ⟨x, hx, rfl⟩))] at this
  clear hC
  generalize nums s.l = nl at *
  go_enter Try.func39, Try.ntmps39
  go_wp2_with (first
    | (go_at_call 34; refine HG.out.mono ?_; rintro e w1 ⟨A1, c1, rfl, hr1, hb1⟩; have B1 := Lib.hid hb1; have R1 := Lib.hid hr1.ints; clear hb1 hr1)
    | (go_at_call 45; refine (HW.out _ _ _ B1.out R1.out).mono ?_; rintro e w2 ⟨g, c', rfl, h2, hb2⟩; have G2 := Lib.hid h2; have B2 := Lib.hid (Below.trans B1.out (Below.mono hb2 B1.out.size)); clear h2 hb2))
  go_ret
  exact ⟨g, c', rfl, Pat.base_le G2.out B1.out.size, B2.out⟩
set_option maxRecDepth 100000 in
set_option maxHeartbeats 1000000 in
theorem rbase_any (hC : RefAt B w r bA bc A c s) (hr0 : Rights s.l) (hl : s.l.length ≤ 900) : Calls Try.prog 40 #[.pointer (some ⟨r, 0, none⟩)] w fun e w' => ∃ g c', e = .returned (.slice (some ⟨g, 0, none⟩) 32 c') ∧ w'.ownsRow w.heap.size 5 1 (.slice (some ⟨g, 0, none⟩) 32 c') 32 (Pat.bytesV s.f) ∧ Below w.heap.size w w' := by
  have HW := Lib.hid (rwith_any B r bA A bc c s w none 0 [] hC hr0 (by omega) (Nat.zero_le _) Ints.nil)
  rw [with_congr (k' := fun _ => false) (fun x hx => rfl), with_none] at HW
  clear hC
  simp only [List.length_nil] at HW
  go_enter Try.func40, Try.ntmps40
  go_wp2_with (go_at_call 45; refine HW.out.mono ?_; rintro e w2 ⟨g, c', rfl, h2, hb2⟩; have G2 := Lib.hid h2; have B2 := Lib.hid hb2; clear h2 hb2)
  go_ret
  exact ⟨g, c', rfl, G2.out, B2.out⟩
end
end Go.Proofs.Ytibkipdadpidnaa
