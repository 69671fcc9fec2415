/- The document's own cache: New, Has, Pins, Dirty, Pin, List. -/
import Derived.Test.YthibnnllecdpaaaK
namespace Go.Proofs.Ythibnnllecdpaaa
open Go.RowKit

theorem rgoes_any (h : H) (w : World) : Calls Try.prog 58 #[h.v] w fun e w' => e = .returned (.bool h.can) ∧ Below w.heap.size w w' := by
  obtain ⟨b, p, d, t⟩ := h
  unfold H.v
  by_cases hp : p = 0
  · subst hp
    go_enter Try.func58, Try.ntmps58
    go_wp2
    go_ret
    exact ⟨ret_bool (by simp [H.can]), (Below.refl _ _).alloc (Nat.le_refl _) _⟩
  · have hp' : (p == 0) = false := by simpa using hp
    go_enter Try.func58, Try.ntmps58
    go_wp2
    go_ret
    exact ⟨ret_bool (by simp [H.can, hp]), (Below.refl _ _).alloc (Nat.le_refl _) _⟩
theorem rnew_yes (n : Int) (w : World) (h1 : 1 ≤ n) (h2 : n ≤ 96) : Calls Try.prog 31 #[.int .i64 n] w fun e w' => e = .returned (.pointer (some ⟨w.heap.size, 0, none⟩)) ∧ CacheAt 77 102 w.heap.size w' w.heap.size (.slice none 0 0) n [] ∧ Below w.heap.size w w' := by
  have a1 : ¬ n < 1 := by omega
  have a2 : ¬ 96 < n := by omega
  go_enter Try.func31, Try.ntmps31
  go_wp2
  go_ret
  exact ⟨rfl, ⟨heap_alloc_new w _, World.ownsRow_nil _ _ _ _, by decide, Nat.le_refl _⟩, (Below.refl _ _).alloc (Nat.le_refl _) _⟩
section
variable (B g : Nat) (v : Value) (m : Int) (l : List H) (x : Int) (w : World)
set_option maxRecDepth 100000 in
theorem rat_any (hC : CacheAt 77 102 B w g v m l) (hl : l.length ≤ 1000) :
    Calls Try.prog 55 #[.pointer (some ⟨g, 0, none⟩), .int .i64 x] w fun e w' => e = .returned (.int .i64 (idxI l x)) ∧ w = w' := by
  have hs := hC.slot
  have hg := hC.glt
  obtain ⟨A, cap, rfl, _, _⟩ := hC.form
  have HC := Lib.hid hC
  clear hC
  go_enter Try.func55, Try.ntmps55
  go_wp2
  go_loop [5] (fun i => ∃ k : Nat, k ≤ l.length ∧ i = .int .i64 k ∧ ∀ j, j < k → ((nthH l j).b == x) = false) (fun i => l.length - (intOf i).toNat)
  case atStart => exact ⟨0, Nat.zero_le _, rfl, fun j hj => absurd hj (by omega)⟩
  case round =>
    obtain ⟨k, hk, rfl, hno⟩ := hrel
    have Hno := Lib.hid hno
    clear hno
    by_cases hlt : k < l.length
    · have hlti : (k : Int) < (l.length : Int) := by omega
      have hk0 : (0 : Int) ≤ (k : Int) := by omega
      obtain ⟨b, cap', hv, h1, h2, hb, _, c0, c1, c2, c3, _⟩ := row_at HC.out.row hlt
      cases hv
      unfold maxLen at h2
      cases ht : ((nthH l k).b == x) with
      | true =>
        have Hf := Lib.hid (show idxI l x = (k : Int) from by rw [idxI, has, idx_at hlt Hno.out (by simpa using ht)]; simp [hlt])
        go_wp2
        go_ret
        exact ⟨ret_int Hf.out.symm, rfl⟩
      | false =>
        have Hn : Hid (∀ j, j < k + 1 → ((nthH l j).b == x) = false) := fun j hj => by
          rcases Nat.lt_or_ge j k with h | h
          · exact Hno.out j h
          · obtain rfl : j = k := by omega
            exact ht
        go_wp2
        go_round
        case rel => exact ⟨k + 1, by omega, by go_num, Hn.out⟩
        case measure => simp [intOf]; omega
    · obtain rfl : k = l.length := by omega
      have Hf := Lib.hid (show idxI l x = -1 from by rw [idxI, has, idx_none Hno.out]; simp)
      go_wp2
      go_ret
      exact ⟨ret_int Hf.out.symm, rfl⟩
theorem rhas_any (hC : CacheAt 77 102 B w g v m l) (hl : l.length ≤ 1000) :
    Calls Try.prog 32 #[.pointer (some ⟨g, 0, none⟩), .int .i64 x] w fun e w' => e = .returned (.bool (has l x)) ∧ w = w' := by
  have HF := Lib.hid (rat_any B g v m l x w hC hl)
  clear hC
  cases hx : has l x with
  | true =>
    rw [idxI_yes hx] at HF
    clear hx
    generalize idx l x = n at HF
    have hn : (0 : Int) ≤ (n : Int) := by omega
    go_enter Try.func32, Try.ntmps32
    go_wp2_with (refine HF.out.mono ?_; rintro e w' ⟨rfl, rfl⟩)
    go_ret
    exact ⟨rfl, rfl⟩
  | false =>
    rw [idxI_no hx] at HF
    clear hx
    go_enter Try.func32, Try.ntmps32
    go_wp2_with (refine HF.out.mono ?_; rintro e w' ⟨rfl, rfl⟩)
    go_ret
    exact ⟨rfl, rfl⟩
theorem rpins_any (hC : CacheAt 77 102 B w g v m l) (hl : l.length ≤ 1000) :
    Calls Try.prog 33 #[.pointer (some ⟨g, 0, none⟩), .int .i64 x] w fun e w' => e = .returned (.int .i64 (pinsN l x)) ∧ w = w' := by
  have HF := Lib.hid (rat_any B g v m l x w hC hl)
  unfold pinsN
  have HC := Lib.hid hC
  cases hx : has l x with
  | true =>
    rw [idxI_yes hx] at HF
    have hs := hC.slot
    have hg := hC.glt
    have hk := has_lt hx
    obtain ⟨b, cap, rfl, h1, h2, hb, hBb, c0, c1, c2, c3, cf⟩ := row_at hC.row hk
    clear hC hx
    simp only [if_true]
    generalize idx l x = k at *
    have hk0 : (0 : Int) ≤ (k : Int) := by omega
    have hki : (k : Int) < (l.length : Int) := by omega
    go_enter Try.func33, Try.ntmps33
    go_wp2_with (refine HF.out.mono ?_; rintro e w' ⟨rfl, rfl⟩)
    go_ret
    exact ⟨rfl, rfl⟩
  | false =>
    rw [idxI_no hx] at HF
    clear hx hC
    simp only [Bool.false_eq_true, if_false]
    go_enter Try.func33, Try.ntmps33
    go_wp2_with (refine HF.out.mono ?_; rintro e w' ⟨rfl, rfl⟩)
    go_ret
    exact ⟨rfl, rfl⟩
theorem rdirty_any (on : Bool) (hC : CacheAt 77 102 B w g v m l) (hl : l.length ≤ 1000) :
    Calls Try.prog 46 #[.pointer (some ⟨g, 0, none⟩), .int .i64 x, .bool on] w fun e w' => e = .returned (.int .i64 (dirtyE l x)) ∧ Went 77 102 B w g v m (dirtyL l x on) w' := by
  have HF := Lib.hid (rat_any B g v m l x w hC hl)
  unfold dirtyE dirtyL
  have HC := Lib.hid hC
  cases hx : has l x with
  | true =>
    rw [idxI_yes hx] at HF
    have hs := hC.slot
    have hg := hC.glt
    have hk := has_lt hx
    obtain ⟨b, cap, rfl, h1, h2, hb, hBb, c0, c1, c2, c3, cf⟩ := row_at hC.row hk
    clear hC hx
    simp only [if_true]
    generalize idx l x = k at *
    have hk0 : (0 : Int) ≤ (k : Int) := by omega
    have hki : (k : Int) < (l.length : Int) := by omega
    have Hfin : Hid (Went 77 102 B w g (.slice (some ⟨b, 0, none⟩) l.length cap) m (modH l k (H.dirt · on)) (w.setCell ⟨b, k * 4 + 2, none⟩ (.bool on))) := by
      obtain ⟨r, kp⟩ := HC.out.stored rfl hk (H.dirt · on) 2 (.bool on) (fun _ => rfl) (by omega)
      exact .same r kp
    go_enter Try.func46, Try.ntmps46
    go_wp2_with (refine HF.out.mono ?_; rintro e w' ⟨rfl, rfl⟩)
    go_ret
    exact ⟨rfl, Hfin.out⟩
  | false =>
    rw [idxI_no hx] at HF
    clear hx hC
    simp only [Bool.false_eq_true, if_false]
    go_enter Try.func46, Try.ntmps46
    go_wp2_with (refine HF.out.mono ?_; rintro e w' ⟨rfl, rfl⟩)
    go_ret
    exact ⟨rfl, .same HC.out (Kept.refl _ _)⟩
theorem rpin_any (on : Bool) (hC : CacheAt 77 102 B w g v m l) (hl : l.length ≤ 1000) (hp : Few 1000000 l) :
    Calls Try.prog 45 #[.pointer (some ⟨g, 0, none⟩), .int .i64 x, .bool on] w fun e w' => e = .returned (.int .i64 (pinE l x on)) ∧ Went 77 102 B w g v m (pinL l x on) w' := by
  have HF := Lib.hid (rat_any B g v m l x w hC hl)
  unfold pinE pinL
  have HC := Lib.hid hC
  cases hx : has l x with
  | true =>
    rw [idxI_yes hx] at HF
    have hs := hC.slot
    have hg := hC.glt
    have hk := has_lt hx
    have hpk := hp.nth (by omega) (idx l x)
    obtain ⟨b, cap, rfl, h1, h2, hb, hBb, c0, c1, c2, c3, cf⟩ := row_at hC.row hk
    clear hC hx hp
    simp only [if_true]
    generalize idx l x = k at *
    have hk0 : (0 : Int) ≤ (k : Int) := by omega
    have hki : (k : Int) < (l.length : Int) := by omega
    have Hfin : Hid (∀ d p, p = (nthH l k).p + d → Went 77 102 B w g (.slice (some ⟨b, 0, none⟩) l.length cap) m (modH l k (H.pin · d)) (w.setCell ⟨b, k * 4 + 1, none⟩ (.int .i64 p))) := fun d p hd => by
      obtain ⟨r, kp⟩ := HC.out.stored rfl hk (fun h => ⟨h.b, p, h.d, h.t⟩) 1 (.int .i64 p) (fun _ => rfl) (by omega)
      have e : modH l k (fun h => ⟨h.b, p, h.d, h.t⟩) = modH l k (H.pin · d) := by unfold modH; rw [hd]; rfl
      rw [e] at r
      exact .same r kp
    obtain ⟨h0, h6⟩ := hpk
    generalize (nthH l k).p = p at *
    cases on with
    | true =>
      simp only [Bool.not_true, Bool.false_and, Bool.false_eq_true, if_false, if_true]
      go_enter Try.func45, Try.ntmps45
      go_wp2_with (refine HF.out.mono ?_; rintro e w' ⟨rfl, rfl⟩)
      go_ret
      exact ⟨rfl, Hfin.out 1 _ rfl⟩
    | false =>
      by_cases hp0 : p = 0
      · subst hp0
        simp only [Bool.not_false, Bool.true_and, BEq.rfl, if_true]
        go_enter Try.func45, Try.ntmps45
        go_wp2_with (refine HF.out.mono ?_; rintro e w' ⟨rfl, rfl⟩)
        go_ret
        exact ⟨rfl, .same HC.out (Kept.refl _ _)⟩
      · have hpf : (p == 0) = false := by simpa using hp0
        simp only [Bool.not_false, Bool.true_and, hpf, Bool.false_eq_true, if_false]
        go_enter Try.func45, Try.ntmps45
        go_wp2_with (refine HF.out.mono ?_; rintro e w' ⟨rfl, rfl⟩)
        go_ret
        exact ⟨rfl, Hfin.out (-1) _ (by omega)⟩
  | false =>
    rw [idxI_no hx] at HF
    clear hx hC
    simp only [Bool.false_eq_true, if_false]
    go_enter Try.func45, Try.ntmps45
    go_wp2_with (refine HF.out.mono ?_; rintro e w' ⟨rfl, rfl⟩)
    go_ret
    exact ⟨rfl, .same HC.out (Kept.refl _ _)⟩
end
end Go.Proofs.Ythibnnllecdpaaa
