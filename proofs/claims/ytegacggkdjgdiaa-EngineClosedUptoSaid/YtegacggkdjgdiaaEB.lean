/- Where the one of a number stands: find, has. -/
import Derived.Test.YtegacggkdjgdiaaEA
import Derived.Deep.RegionLaw
import Derived.Deep.RegionHeld3
set_option linter.unusedVariables false
set_option linter.unusedSimpArgs false
namespace Go.Proofs.Ytegacggkdjgdiaa
open Go.RowKit

def cmpI (a b : Int) : Int := if a < b then -1 else if b < a then 1 else 0
theorem isNaN_any (a : Int) (w : World) : Calls Try.prog 88 #[.int .i64 a] w fun e w' => e = .returned (.bool false) ∧ w = w' := by
  go_enter Try.func88, Try.ntmps88
  go_wp2
  go_ret
  exact ⟨rfl, rfl⟩
theorem compare_any (a b : Int) (w : World) : Calls Try.prog 70 #[.int .i64 a, .int .i64 b] w fun e w' => e = .returned (.int .i64 (cmpI a b)) ∧ w = w' := by
  have HN := Lib.hid isNaN_any
  unfold cmpI
  by_cases h1 : a < b
  · rw [if_pos h1]
    go_enter Try.func70, Try.ntmps70
    go_wp2_with (refine (HN.out _ _).mono ?_; rintro e w1 ⟨rfl, rfl⟩)
    go_ret
    exact ⟨rfl, rfl⟩
  · rw [if_neg h1]
    by_cases h2 : b < a
    · rw [if_pos h2]
      have h1' : b ≤ a := by omega
      clear h1
      go_enter Try.func70, Try.ntmps70
      go_wp2_with (refine (HN.out _ _).mono ?_; rintro e w1 ⟨rfl, rfl⟩)
      go_ret
      exact ⟨rfl, rfl⟩
    · rw [if_neg h2]
      obtain rfl : a = b := by omega
      clear h1
      go_enter Try.func70, Try.ntmps70
      go_wp2_with (refine (HN.out _ _).mono ?_; rintro e w1 ⟨rfl, rfl⟩)
      go_ret
      exact ⟨rfl, rfl⟩
theorem cmp_any (x : Wr) (n : Int) (w : World) : Calls Try.prog 69 #[x.v, .int .i64 n] w fun e w' => e = .returned (.int .i64 (cmpI x.num n)) ∧ Below w.heap.size w w' := by
  have HC := Lib.hid (compare_any x.num n)
  obtain ⟨num, ⟨b, o, s⟩, ah, A, c, wr⟩ := x
  unfold Wr.v Wr.cs
  generalize ah.length = m at *
  dsimp only at HC ⊢
  generalize cmpI num n = r at HC
  go_enter Try.func69, Try.ntmps69
  go_wp2_with (refine (HC.out _).mono ?_; rintro e w1 ⟨rfl, rfl⟩)
  go_ret
  exact ⟨rfl, (Below.refl _ _).alloc (Nat.le_refl _) _⟩
theorem cmpI_neg {a b : Int} : cmpI a b < 0 ↔ a < b := by unfold cmpI; repeat' split <;> omega
theorem cmpI_zero {a b : Int} : cmpI a b = 0 ↔ a = b := by unfold cmpI; repeat' split <;> omega

set_option maxRecDepth 100000 in
set_option maxHeartbeats 1000000 in
theorem bsf_any (B : Nat) (A : Option Addr) (c : Nat) (l : List Wr) (n : Int) (w : World) (hR : RowW w B A c l) (hs : Asc l) (hl : l.length ≤ 1000) :
    Calls Try.prog 68 #[.slice A l.length c, .int .i64 n, .func (.func 69) #[] #[]] w fun e w' => e = .returned (.tuple #[.int .i64 (posN l n), .bool (hasN l n)]) ∧ Below w.heap.size w w' := by
  have HR := Lib.hid hR
  have HS := Lib.hid hs
  clear hR hs
  go_enter Try.func68, Try.ntmps68
  go_wp2
  go_loopw [9, 10] (fun i j wr => ∃ p q : Nat, p ≤ q ∧ q ≤ l.length ∧ i = .int .i64 p ∧ j = .int .i64 q ∧ Below w.heap.size w wr ∧ Hid (∀ k, k < p → (wn l k).num < n) ∧ Hid (∀ k, q ≤ k → k < l.length → n ≤ (wn l k).num)) (fun i j _ => (intOf j - intOf i).toNat)
  case atStart => exact ⟨0, l.length, Nat.zero_le _, Nat.le_refl _, rfl, rfl, Below.refl _ _, fun k hk => absurd hk (by omega), fun k h1 h2 => absurd h1 (by omega)⟩
  case round =>
    obtain ⟨p, q, hpq, hq, rfl, rfl, hB, h1, h2⟩ := hrel
    rename World => wr
    have HB := Lib.hid hB
    clear hB
    by_cases hlt : p < q
    · have hlti : (p : Int) < (q : Int) := by omega
      have hml : (p + q) / 2 < l.length := by omega
      obtain ⟨ab, hA, h3, h4, hb, hcs, _⟩ := (HR.out.fresh HB.out).at_ hml
      subst hA
      unfold maxLen at h4
      have c0 := hcs 0 (by omega)
      have c1 := hcs 1 (by omega)
      have c2 := hcs 2 (by omega)
      have c3 := hcs 3 (by omega)
      have c4 := hcs 4 (by omega)
      have c5 := hcs 5 (by omega)
      have HE := Lib.hid (fun W => cmp_any (wn l ((p + q) / 2)) n W)
      clear hcs
      by_cases hc : (wn l ((p + q) / 2)).num < n
      · have Hn : Hid (∀ k, k < (p + q) / 2 + 1 → (wn l k).num < n) := fun k hk => by
          rcases Nat.lt_or_ge k ((p + q) / 2) with h | h
          · exact Int.lt_trans (HS.out.lt h hml) hc
          · have e : k = (p + q) / 2 := by omega
            rw [e]; exact hc
        have hr : cmpI (wn l ((p + q) / 2)).num n = -1 := by unfold cmpI; rw [if_pos hc]
        rw [hr] at HE
        clear hc hr
        generalize wn l ((p + q) / 2) = x at c0 c1 c2 c3 c4 c5 HE
        obtain ⟨num, ⟨b, o, s⟩, ah, A, cc, fl⟩ := x
        unfold Wr.v Wr.cs at HE
        simp [Wr.cs] at c0 c1 c2 c3 c4 c5
        generalize ah.length = m at *
        go_wp2_with (refine (HE.out wr).mono ?_; rintro e w1 ⟨rfl, hb1⟩; have HB1 := Lib.hid hb1; clear hb1)
        go_roundw
        case rel => exact ⟨(p + q) / 2 + 1, q, by omega, hq, by go_num, rfl, HB.out.trans (HB1.out.mono HB.out.size), Hn.out, h2⟩
        case measure => simp [intOf]; omega
      · have Hn : Hid (∀ k, (p + q) / 2 ≤ k → k < l.length → n ≤ (wn l k).num) := fun k hk hk2 => by
          rcases Nat.lt_or_ge ((p + q) / 2) k with h | h
          · have := HS.out.lt h hk2; omega
          · have e : k = (p + q) / 2 := by omega
            rw [e]; omega
        have hr : ¬ cmpI (wn l ((p + q) / 2)).num n < 0 := by rw [cmpI_neg]; exact hc
        obtain ⟨r, hr0⟩ : ∃ r, r = cmpI (wn l ((p + q) / 2)).num n := ⟨_, rfl⟩
        rw [← hr0] at HE hr
        have hr2 : (0 : Int) ≤ r := by omega
        clear hc hr hr0
        generalize wn l ((p + q) / 2) = x at c0 c1 c2 c3 c4 c5 HE
        obtain ⟨num, ⟨b, o, s⟩, ah, A, cc, fl⟩ := x
        unfold Wr.v Wr.cs at HE
        simp [Wr.cs] at c0 c1 c2 c3 c4 c5
        generalize ah.length = m at *
        go_wp2_with (refine (HE.out wr).mono ?_; rintro e w1 ⟨rfl, hb1⟩; have HB1 := Lib.hid hb1; clear hb1)
        go_roundw
        case rel => exact ⟨p, (p + q) / 2, by omega, by omega, rfl, by go_num, HB.out.trans (HB1.out.mono HB.out.size), h1, Hn.out⟩
        case measure => simp [intOf]; omega
    · obtain rfl : p = q := by omega
      have Hf := Lib.hid (posN_at HS.out hq h1.out (fun k a b => Int.not_lt.2 (h2.out k a b)))
      have Hh := Lib.hid (hasN_at HS.out hq h1.out (fun k a b => Int.not_lt.2 (h2.out k a b)))
      clear h1 h2
      by_cases hpl : p < l.length
      · have hpi : (p : Int) < (l.length : Int) := by omega
        have hp0 : (0 : Int) ≤ (p : Int) := by omega
        obtain ⟨ab, hA, h3, h4, hb, hcs, _⟩ := (HR.out.fresh HB.out).at_ hpl
        subst hA
        unfold maxLen at h4
        have c0 := hcs 0 (by omega)
        have c1 := hcs 1 (by omega)
        have c2 := hcs 2 (by omega)
        have c3 := hcs 3 (by omega)
        have c4 := hcs 4 (by omega)
        have c5 := hcs 5 (by omega)
        have HE := Lib.hid (fun W => cmp_any (wn l p) n W)
        have Hr : Hid (hasN l n = (cmpI (wn l p).num n == 0)) := by unfold Hid; rw [Hh.out, decide_eq_true hpl, Bool.true_and]; exact decide_eq_decide.2 cmpI_zero.symm
        clear hcs Hh
        obtain ⟨r, hr0⟩ : ∃ r, r = cmpI (wn l p).num n := ⟨_, rfl⟩
        rw [← hr0] at HE Hr
        clear hr0
        generalize wn l p = x at c0 c1 c2 c3 c4 c5 HE
        obtain ⟨num, ⟨b, o, s⟩, ah, A, cc, fl⟩ := x
        unfold Wr.v Wr.cs at HE
        simp [Wr.cs] at c0 c1 c2 c3 c4 c5
        generalize ah.length = m at *
        go_wp2_with (refine (HE.out _).mono ?_; rintro e w1 ⟨rfl, hb1⟩; have HB1 := Lib.hid hb1; clear hb1)
        all_goals
          go_ret2
          rw [Hf.out, Hr.out]
          exact ⟨rfl, HB.out.trans (HB1.out.mono HB.out.size)⟩
      · have hpi : ¬ (p : Int) < (l.length : Int) := by omega
        have Hr : Hid (hasN l n = false) := by unfold Hid; rw [Hh.out, decide_eq_false hpl]; rfl
        clear Hh
        go_wp2
        go_ret2
        rw [Hf.out, Hr.out]
        exact ⟨rfl, HB.out⟩
theorem find_any (B : Nat) (A : Option Addr) (c : Nat) (l : List Wr) (n : Int) (w : World) (hR : RowW w B A c l) (hs : Asc l) (hl : l.length ≤ 1000) :
    Calls Try.prog 43 #[.slice A l.length c, .int .i64 n] w fun e w' => e = .returned (.tuple #[.int .i64 (posN l n), .bool (hasN l n)]) ∧ Below w.heap.size w w' := by
  have HB := Lib.hid (bsf_any B A c l n w hR hs hl)
  generalize l.length = m at *
  generalize posN l n = p at HB ⊢
  generalize hasN l n = t at HB ⊢
  clear hR hs
  go_enter Try.func43, Try.ntmps43
  go_wp2_with (refine HB.out.mono ?_; rintro e w1 ⟨rfl, hb1⟩)
  go_ret2
  exact ⟨rfl, hb1⟩
theorem has_any (B : Nat) (A : Option Addr) (c : Nat) (l : List Wr) (n : Int) (w : World) (hR : RowW w B A c l) (hs : Asc l) (hl : l.length ≤ 1000) :
    Calls Try.prog 64 #[.slice A l.length c, .int .i64 n] w fun e w' => e = .returned (.bool (hasN l n)) ∧ Below w.heap.size w w' := by
  have HB := Lib.hid (find_any B A c l n w hR hs hl)
  generalize l.length = m at *
  generalize posN l n = p at HB
  generalize hasN l n = t at HB ⊢
  clear hR hs
  go_enter Try.func64, Try.ntmps64
  go_wp2_with (refine HB.out.mono ?_; rintro e w1 ⟨rfl, hb1⟩)
  go_ret
  exact ⟨rfl, hb1⟩
end Go.Proofs.Ytegacggkdjgdiaa
