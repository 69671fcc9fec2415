/- The contracts of First, and of the document's own First. -/
import Derived.Test.YtceppcmcokkkoaaH
namespace Go.Proofs.Ytceppcmcokkkoaa
open Go.RowKit

theorem Quiet.trans {a b c : World} (h : Quiet a b) (k : Quiet b c) : Quiet a c := by
  obtain ⟨n, rfl⟩ := h
  obtain ⟨m, rfl⟩ := k
  exact ⟨n + m, by rw [World.drewN_drewN]⟩
/-- is it one that may be found? -/
def good (l : List Int) (a z : Int) (i : Nat) : Bool := decide (a ≤ (i : Int)) && decide ((i : Int) < z) && !bitN l i
def firstB (l : List Int) (a z : Int) : Option Nat := (List.range (8 * l.length)).find? (good l a z)
def foundV (o : Option Nat) : Value := match o with | some i => .tuple #[.int .i64 ((i : Nat) : Int), .bool true] | none => .tuple #[.int .i64 0, .bool false]

theorem find_none {p : Nat → Bool} (n : Nat) (h : ∀ j, j < n → p j = false) : (List.range n).find? p = none := by
  rw [List.find?_eq_none]
  intro x hx
  rw [h x (List.mem_range.1 hx)]
  simp
theorem find_some {p : Nat → Bool} (n k : Nat) (hk : k < n) (hp : p k = true) (h : ∀ j, j < k → p j = false) : (List.range n).find? p = some k := by
  obtain ⟨d, rfl⟩ : ∃ d, n = k + (d + 1) := ⟨n - k - 1, by omega⟩
  rw [List.range_add, List.find?_append, find_none k h, Option.none_or]
  rw [List.range_succ_eq_map]
  simp [hp]

theorem good_no {l : List Int} {a z : Int} {j : Nat} (h : ¬ (a ≤ (j : Int) ∧ (j : Int) < z ∧ bitN l j = false)) : good l a z j = false := by
  unfold good
  cases hb : bitN l j
  · rw [hb] at h; simp at h ⊢; omega
  · simp
theorem good_yes {l : List Int} {a z : Int} {j : Nat} (h1 : a ≤ (j : Int)) (h2 : (j : Int) < z) (h3 : bitN l j = false) : good l a z j = true := by
  unfold good; simp [h1, h2, h3]

set_option maxRecDepth 100000 in
set_option maxHeartbeats 1000000 in
theorem first_any (A : Option Addr) (c : Nat) (l : List Int) (a z : Int) (w : World) (B : Nat) (hb : Bts w B A l) (hl : l.length ≤ 1000) (ha : -9223372036854775808 ≤ a ∧ a ≤ 9223372036854775807) (hz : -9223372036854775808 ≤ z ∧ z ≤ 9223372036854775807) :
    Calls Try.prog 42 #[.slice A l.length c, .int .i64 a, .int .i64 z] w fun e w' => e = .returned (foundV (firstB l a z)) ∧ Quiet w w' := by
  have hmax : ∃ m : Nat, (m : Int) = max a 0 := ⟨(max a 0).toNat, by omega⟩
  obtain ⟨m, hm⟩ := hmax
  have hm1 : (m : Int) ≤ 9223372036854775807 := by omega
  have hm2 : a ≤ (m : Int) := by omega
  have hm3 : ∀ j : Nat, j < m → (j : Int) < a := by intro j hj; omega
  have Hm3 := Lib.hid hm3
  have Hm := Lib.hid hm
  clear hm hm3
  by_cases ha0 : 0 ≤ a
  all_goals
    go_enter Try.func42, Try.ntmps42
    go_wp2
    go_loopw [8] (fun i wr => ∃ k : Nat, m ≤ k ∧ (k : Int) ≤ 9223372036854775807 ∧ i = .int .i64 k ∧ (∀ j, j < k → good l a z j = false) ∧ Quiet w wr) (fun i _ => 8 * l.length - (intOf i).toNat)
    case atStart =>
      refine ⟨m, Nat.le_refl _, hm1, ?_, fun j hj => good_no (by have := Hm3.out j hj; omega), 0, rfl⟩
      rw [Hm.out]
      first
        | (rw [show max a 0 = a from by omega])
        | (rw [show max a 0 = 0 from by omega])
    case round =>
      obtain ⟨k, hmk, hk, rfl, hno, hq⟩ := hrel
      have Hno := Lib.hid hno
      have Hq := Lib.hid hq
      clear hno hq
      have hak : a ≤ (k : Int) := by omega
      have hkr : -9223372036854775808 ≤ (k : Int) ∧ (k : Int) ≤ 9223372036854775807 := by omega
      by_cases h2 : (k : Int) < z
      · cases hh : hasB l.length (k : Int) with
        | false =>
          have Hh := Lib.hid hh
          have hge := hasB_not hh
          have hge2 : 8 * l.length ≤ k := by omega
          have hfin := Lib.hid (find_none (p := good l a z) (8 * l.length) (fun j hj => Hno.out j (by omega)))
          clear hh hge hge2
          go_wp2_with (go_at_call 58; refine (there_no _ _ _ hkr Hh.out).mono ?_; rintro e w' ⟨rfl, rfl⟩)
          go_ret2
          refine ⟨?_, Hq.out⟩
          unfold firstB; rw [hfin.out]; rfl
        | true =>
          have Hh := Lib.hid hh
          have hlt := (hasB_out hh).2
          have hlt2 : k < 8 * l.length := by omega
          have hk8 : k ≤ 8000 := by omega
          have hbq := Hq.out.bts hb
          clear hh
          cases hv : bitN l k with
          | false =>
            have Hv := Lib.hid hv
            clear hv
            have hfin := Lib.hid (find_some (8 * l.length) k hlt2 (good_yes hak h2 Hv.out) Hno.out)
            go_wp2_with (first | (go_at_call 58; refine (there_yes _ _ _ hkr Hh.out).mono ?_; rintro e w' ⟨rfl, rfl⟩) | (go_at_call 34; refine (get_in A c l k _ _ _ hbq hl hk8 Hv.out).mono ?_; rintro e w2 ⟨rfl, hq2⟩))
            go_ret2
            refine ⟨?_, Hq.out.trans hq2⟩
            unfold firstB; rw [hfin.out]; rfl
          | true =>
            have Hv := Lib.hid hv
            clear hv
            go_wp2_with (first | (go_at_call 58; refine (there_yes _ _ _ hkr Hh.out).mono ?_; rintro e w' ⟨rfl, rfl⟩) | (go_at_call 34; refine (get_in A c l k _ _ _ hbq hl hk8 Hv.out).mono ?_; rintro e w2 ⟨rfl, hq2⟩))
            go_roundw
            case rel =>
              refine ⟨k + 1, by omega, by omega, by go_num, fun j hj => ?_, Hq.out.trans hq2⟩
              by_cases e : j = k
              · subst e; exact good_no (by rw [Hv.out]; simp)
              · exact Hno.out j (by omega)
            case measure => simp [intOf]; omega
      · have hfin := Lib.hid (find_none (p := good l a z) (8 * l.length) (fun j hj => by
          rcases Nat.lt_or_ge j k with h | h
          · exact Hno.out j h
          · exact good_no (by omega)))
        go_wp2
        go_ret2
        refine ⟨?_, Hq.out⟩
        unfold firstB; rw [hfin.out]; rfl

set_option maxRecDepth 100000 in
set_option maxHeartbeats 1000000 in
theorem reffirst_any (A : Option Addr) (c : Nat) (l : List Int) (a z : Int) (w : World) (B : Nat) (hb : Bts w B A l) (hl : l.length ≤ 1000) :
    Calls Try.prog 43 #[.slice A l.length c, .int .i64 a, .int .i64 z] w fun e w' => e = .returned (foundV (firstB l a z)) ∧ w = w' := by
  go_enter Try.func43, Try.ntmps43
  go_wp2
  go_loop [8] (fun i => ∃ k : Nat, k ≤ 8 * l.length ∧ i = .int .i64 k ∧ ∀ j, j < k → good l a z j = false) (fun i => 8 * l.length - (intOf i).toNat)
  case atStart => exact ⟨0, Nat.zero_le _, rfl, by simp⟩
  case round =>
    obtain ⟨k, hk, rfl, hno⟩ := hrel
    have Hno := Lib.hid hno
    clear hno
    by_cases hlt : k < 8 * l.length
    · have hlti : (k : Int) < 8 * (l.length : Int) := by omega
      have hkb : (k : Int) ≤ 8000 := by omega
      by_cases h1 : a ≤ (k : Int)
      · by_cases h2 : (k : Int) < z
        · cases hv : bitN l k with
          | false =>
            have Hv := Lib.hid hv
            clear hv
            have hfin := Lib.hid (find_some (8 * l.length) k hlt (good_yes h1 h2 Hv.out) Hno.out)
            go_wp2_with (go_at_call 35; refine (refget_at A c l k _ _ _ hb hl (by omega) Hv.out).mono ?_; rintro e w' ⟨rfl, rfl⟩)
            go_ret2
            refine ⟨?_, rfl⟩
            unfold firstB; rw [hfin.out]; rfl
          | true =>
            have Hv := Lib.hid hv
            clear hv
            go_wp2_with (go_at_call 35; refine (refget_at A c l k _ _ _ hb hl (by omega) Hv.out).mono ?_; rintro e w' ⟨rfl, rfl⟩)
            go_round
            case rel =>
              refine ⟨k + 1, by omega, by go_num, fun j hj => ?_⟩
              by_cases e : j = k
              · subst e; exact good_no (by rw [Hv.out]; simp)
              · exact Hno.out j (by omega)
            case measure => simp [intOf]; omega
        · go_wp2
          go_round
          case rel =>
            refine ⟨k + 1, by omega, by go_num, fun j hj => ?_⟩
            by_cases e : j = k
            · subst e; exact good_no (by omega)
            · exact Hno.out j (by omega)
          case measure => simp [intOf]; omega
      · go_wp2
        go_round
        case rel =>
          refine ⟨k + 1, by omega, by go_num, fun j hj => ?_⟩
          by_cases e : j = k
          · subst e; exact good_no (by omega)
          · exact Hno.out j (by omega)
        case measure => simp [intOf]; omega
    · have e : k = 8 * l.length := by omega
      have hlti : ¬ (k : Int) < 8 * (l.length : Int) := by omega
      have hfin := Lib.hid (find_none (p := good l a z) (8 * l.length) (fun j hj => Hno.out j (by omega)))
      clear e
      go_wp2
      go_ret2
      refine ⟨?_, rfl⟩
      unfold firstB; rw [hfin.out]; rfl
end Go.Proofs.Ytceppcmcokkkoaa
