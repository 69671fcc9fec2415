/- Contracts of the document's Before and Above. -/
import Derived.Test.YtmekffcpbjmffaaZ
import Derived.Test.YtmekffcpbjmffaaWGraphCloses
namespace Go.Proofs.Ytmekffcpbjmffaa
open Go.RowKit

theorem own_lay {w w1 : World} {base : Nat} {e : TypeId} {size : Nat} {v : Value} {n : Nat} {xs : List Value} (h : w.ownsRow base e size v n xs) (hb : Below w.heap.size w w1) : w1.ownsRow base e size v n xs := by
  refine ⟨h.1, ?_⟩
  rcases h.2 with h | ⟨g, cap, cur, h1, h2, h3, h4⟩
  · exact .inl h
  · exact .inr ⟨g, cap, cur, h1, h2, (hb.block g (Array.getElem?_eq_some_iff.1 h3).1).trans h3, h4⟩
theorem mem_natsI' {p : List Nat} {a : Int} : a ∈ natsI p ↔ ∃ x : Nat, a = x ∧ x ∈ p := by
  constructor
  · intro h
    obtain ⟨i, hi, e⟩ := List.mem_map.1 h
    exact ⟨i, e.symm, hi⟩
  · rintro ⟨x, rfl, h⟩; exact mem_natsI.2 h
theorem befB_close {D : List (List Nat)} (hD : Right D) {a b : Int} (hab : a ≠ b) (hb : isN D b = true) : decide (a ∈ natsI (closeL D [b])) = befB D a b := by
  have hm : ∀ x, markI D.length [b] x = true → x < D.length := fun x h => markI_lt h
  rw [Bool.eq_iff_iff]
  rw [decide_eq_true_iff, mem_natsI']
  unfold befB
  constructor
  · rintro ⟨x, rfl, hx⟩
    have hlt := closeL_lt hx
    have hN : isN D (x : Int) = true := by unfold isN; simp; exact hlt
    have hne : ((x : Int) == b) = false := by simp [hab]
    rw [hN, hb, hne, Int.toNat_natCast, (upM_iff hD.2 (fun y h => Nat.lt_of_lt_of_le (hm y h) hD.1) x).2 ((mem_closeL hD).1 hx)]
    rfl
  · intro h
    simp only [Bool.and_eq_true] at h
    obtain ⟨⟨⟨ha, _⟩, _⟩, hu⟩ := h
    simp only [isN, Bool.and_eq_true, decide_eq_true_eq] at ha
    refine ⟨a.toNat, by omega, (mem_closeL hD).2 ((upM_iff hD.2 (fun y h => Nat.lt_of_lt_of_le (hm y h) hD.1) _).1 hu)⟩
theorem befB_same (D : List (List Nat)) (a : Int) : befB D a a = false := by simp [befB]
theorem befB_offb {D : List (List Nat)} {a b : Int} (h : isN D b = false) : befB D a b = false := by simp [befB, h]

theorem refclose_one (A : Option Addr) (c kD : Nat) (D : List (List Nat)) (hkD : kD = D.length) (hD : OkD D) (b : Int) (w : World) (hM : Mat w w.heap.size A (rowsI D)) :
    Calls Try.prog 22 #[.slice A kD c, .slice (some ⟨w.heap.size, 0, none⟩) 1 1] (w.alloc (.cells #[.int .i64 b] 3)) fun e w' => (∃ A' c', e = .returned (.slice A' (closeL D [b]).length c') ∧ Ints w' w'.heap.size A' (natsI (closeL D [b]))) ∧ Below w.heap.size w w' := by
  have hB0 : Below w.heap.size w (w.alloc (.cells #[.int .i64 b] 3)) := (Below.refl _ _).alloc (Nat.le_refl _) _
  refine (refclose_yes A c kD D hkD hD (some ⟨w.heap.size, 0, none⟩) 1 1 [b] rfl (by simp) _ (Mat.next hM hB0) (Ints.one w b _ (by simp))).mono ?_
  rintro e w' ⟨v, rfl, hown, hB⟩
  rw [natsV_intsV] at hown
  obtain ⟨A', c', rfl, _, _, hI⟩ := own_ints hown
  rw [length_natsI]
  exact ⟨⟨A', c', rfl, hI⟩, hB0.trans (hB.mono (by simp))⟩

set_option maxRecDepth 100000 in
set_option maxHeartbeats 1000000 in
theorem refbefore_no (A : Option Addr) (c k : Nat) (R : List (List Int)) (hk : k = R.length) (hok : okB R = false) (a b : Int) (w : World) (hl : R.length ≤ 1000) (hr : ∀ k, k < R.length → (rowI R k).length ≤ 1000) (hM : Mat w w.heap.size A R) :
    Calls Try.prog 26 #[.slice A k c, .int .i64 a, .int .i64 b] w fun e w' => e = .returned (.bool false) ∧ Below w.heap.size w w' := by
  have hB0 : Below w.heap.size w (w.alloc (.cells #[.int .i64 b] 3)) := (Below.refl _ _).alloc (Nat.le_refl _) _
  have H := Lib.hid (refclose_no A c k R hk hok (.slice (some ⟨w.heap.size, 0, none⟩) 1 1) (w.alloc (.cells #[.int .i64 b] 3)) hl hr (Mat.next hM hB0))
  have hn : k ≤ 1000 := by omega
  have HB0 := Lib.hid hB0
  clear hk hok hr hM hB0 hl
  by_cases hab : a = b
  · subst hab
    go_enter Try.func26, Try.ntmps26
    go_wp2_with fail
    go_ret
    exact ⟨rfl, Below.refl _ _⟩
  · by_cases hb0 : 0 ≤ b
    · by_cases hbk : b < (k : Int)
      · go_enter Try.func26, Try.ntmps26
        go_wp2_with (first
          | (go_at_call 22; refine H.out.mono ?_; rintro e w' ⟨rfl, rfl⟩)
          | (go_at_call 34; refine (has_any none 0 0 [] a _ 0 rfl (by simp) Ints.nil).mono ?_; rintro e w' ⟨rfl, rfl⟩))
        go_ret
        exact ⟨rfl, HB0.out⟩
      · go_enter Try.func26, Try.ntmps26
        go_wp2_with fail
        go_ret
        exact ⟨rfl, Below.refl _ _⟩
    · go_enter Try.func26, Try.ntmps26
      go_wp2_with fail
      go_ret
      exact ⟨rfl, Below.refl _ _⟩

set_option maxRecDepth 100000 in
set_option maxHeartbeats 1000000 in
theorem refbefore_yes (A : Option Addr) (c kD : Nat) (D : List (List Nat)) (hkD : kD = D.length) (hD : OkD D) (a b : Int) (w : World)
    (hM : Mat w w.heap.size A (rowsI D)) :
    Calls Try.prog 26 #[.slice A kD c, .int .i64 a, .int .i64 b] w fun e w' => e = .returned (.bool (befB D a b)) ∧ Below w.heap.size w w' := by
  have hD256 := hD.right.1
  by_cases hab : a = b
  · subst hab
    have Hf : Hid (befB D a a = false) := befB_same D a
    go_enter Try.func26, Try.ntmps26
    go_wp2_with fail
    go_ret
    exact ⟨ret_bool Hf.out.symm, Below.refl _ _⟩
  · by_cases hb0 : 0 ≤ b
    · by_cases hbk : b < (kD : Int)
      · have H := Lib.hid (refclose_one A c kD D hkD hD b w hM)
        have Hf := Lib.hid (befB_close hD.right hab (b := b) (by unfold isN; simp; omega))
        have Hcl := Lib.hid (length_closeL D hD [b])
        have hkn : kD ≤ 256 := by omega
        clear hM hD hkD hD256
        go_enter Try.func26, Try.ntmps26
        go_wp2_with (go_at_call 22; refine H.out.mono ?_; rintro e w' ⟨⟨A', c', rfl, hI⟩, hB⟩; have HI := Lib.hid hI; have HB := Lib.hid hB; clear hI hB)
        have Hh := Lib.hid (has_any A' c' _ (natsI (closeL D [b])) a w' _ (length_natsI _).symm (by rw [length_natsI]; have := Hcl.out; omega) HI.out)
        go_wp2_with (go_at_call 34; refine Hh.out.mono ?_; rintro e w'' ⟨rfl, rfl⟩)
        go_ret
        exact ⟨ret_bool (by rw [← Hf.out]; simp [hab]), HB.out⟩
      · have Hf : Hid (befB D a b = false) := befB_offb (by unfold isN; simp; omega)
        clear hM hD hD256 hkD
        go_enter Try.func26, Try.ntmps26
        go_wp2_with fail
        go_ret
        exact ⟨ret_bool Hf.out.symm, Below.refl _ _⟩
    · have Hf : Hid (befB D a b = false) := befB_offb (by unfold isN; simp; omega)
      clear hM hD hD256 hkD
      go_enter Try.func26, Try.ntmps26
      go_wp2_with fail
      go_ret
      exact ⟨ret_bool Hf.out.symm, Below.refl _ _⟩

set_option maxRecDepth 100000 in
set_option maxHeartbeats 1000000 in
theorem refabove_no (A : Option Addr) (c k : Nat) (R : List (List Int)) (hk : k = R.length) (hok : okB R = false) (a : Int) (w : World) (hl : R.length ≤ 1000) (hr : ∀ k, k < R.length → (rowI R k).length ≤ 1000) (hM : Mat w w.heap.size A R) :
    Calls Try.prog 28 #[.slice A k c, .int .i64 a] w fun e w' => e = .returned (.slice none 0 0) ∧ w = w' := by
  have H := Lib.hid (refright_no A c k R hk hok w hl hr hM)
  clear hk hok hr hM
  go_enter Try.func28, Try.ntmps28
  go_wp2_with fail
  go_loopw [5, 6] (fun v i wr => v = .slice none 0 0 ∧ i = .int .i64 0 ∧ wr = w) (fun _ _ _ => 0)
  case atStart => exact ⟨rfl, rfl, rfl⟩
  case round =>
    obtain ⟨rfl, rfl, rfl⟩ := hrel
    go_wp2_with (go_at_call 17; refine H.out.mono ?_; rintro e w' ⟨rfl, rfl⟩)
    go_ret
    exact ⟨rfl, rfl⟩

set_option maxRecDepth 100000 in
set_option maxHeartbeats 1000000 in
theorem refabove_yes (A : Option Addr) (c kD : Nat) (D : List (List Nat)) (hkD : kD = D.length) (hD : OkD D) (a : Int) (w : World)
    (hM : Mat w w.heap.size A (rowsI D)) :
    Calls Try.prog 28 #[.slice A kD c, .int .i64 a] w (AboveSays w D a) := by
  obtain ⟨i0, hi, hz0, hz1, hz2⟩ := info_parts info3
  have HM := Lib.hid hM
  have HDo := Lib.hid hD
  have HkD := Lib.hid hkD
  have hk256 : kD ≤ 256 := by have := hD.right.1; omega
  have HaL : Hid (listM kD (fun x => befB D a x) = aboveL D a) := by unfold Hid aboveL; rw [hkD]
  clear hM hD hkD
  obtain ⟨m, hm⟩ : ∃ m : Nat → Bool, m = fun x : Nat => befB D a x := ⟨_, rfl⟩
  rw [← hm] at HaL
  have Hm : Hid (∀ x : Nat, befB D a x = m x) := fun x => by rw [hm]
  clear hm
  go_enter Try.func28, Try.ntmps28
  go_wp2_with fail
  go_loopw [5, 6] (fun v i wr => ∃ k : Nat, k ≤ kD ∧ i = .int .i64 k ∧ wr.ownsRow w.heap.size 3 1 v (listM k m).length (natsV (listM k m)) ∧ Below w.heap.size w wr) (fun _ i _ => kD - (intOf i).toNat)
  case atStart => exact ⟨0, Nat.zero_le _, rfl, World.ownsRow_nil _ _ _ _, Below.refl _ _⟩
  case round =>
    obtain ⟨k, hk, rfl, hown, hB⟩ := hrel
    rename World => wr
    have HR := Lib.hid (refright_yes A c kD D HkD.out HDo.out wr (Mat.next HM.out hB))
    by_cases hlt : k < kD
    · have hlti : (k : Int) < (kD : Int) := by omega
      have hbf := refbefore_yes A c kD D HkD.out HDo.out a (k : Int) wr (Mat.next HM.out hB)
      rw [Hm.out k] at hbf
      have Hbf := Lib.hid hbf
      have hs := listM_succ k m
      have hcl := length_listM k m
      have HB := Lib.hid hB
      have Hown := Lib.hid hown
      clear hbf hB hown
      cases hv : m k with
      | false =>
        rw [hv] at hs Hbf
        simp only [Bool.false_eq_true, if_false, List.append_nil] at hs
        have Hs := Lib.hid hs
        clear hs hv
        go_wp2_with (first
          | (go_at_call 17; refine HR.out.mono ?_; rintro e w' ⟨rfl, rfl⟩)
          | (go_at_call 26; refine Hbf.out.mono ?_; rintro e w1 ⟨rfl, hB1⟩; have HB1 := Lib.hid hB1; clear hB1))
        go_roundw
        case rel => exact ⟨k + 1, by omega, by go_num, by rw [Hs.out]; exact own_lay Hown.out HB1.out, HB.out.trans (HB1.out.mono HB.out.size)⟩
        case measure => simp [intOf]; omega
      | true =>
        rw [hv] at hs Hbf
        simp only [if_true] at hs
        have Hs := Lib.hid hs
        clear hs hv
        go_wp2_with (first
          | (go_at_call 17; refine HR.out.mono ?_; rintro e w' ⟨rfl, rfl⟩)
          | (go_at_call 26; refine Hbf.out.mono ?_; rintro e w1 ⟨rfl, hB1⟩; have hown1 := own_lay Hown.out hB1; have HB1 := Lib.hid (HB.out.trans (hB1.mono HB.out.size)); have hsz := HB1.out.size; clear hB1)
          | (at_builtin; refine wpList_append_own _ rfl _ _ 23 rfl w.heap.size 3 i0 (.int .i64 0) 1 8 Try.underlying23 hi hz0 hz1 hz2 rfl (by decide) _ _ _ rfl (hown1.alloc _) ⟨w1.heap.size, 0, none⟩ 1 1 [.int .i64 (k : Int)] rfl rfl (cell_one_new _ _ _) (by simp [Value.oneCell']) (by unfold maxLen; omega) (by omega) (by simp; omega) ?_))
        intro v' w2 hown' hgrow _
        have hB2 : Below w.heap.size w w2 := HB1.out.trans ((((Below.refl _ w1).alloc hsz _)).grown hgrow (by simp; omega) (fun j e => (hown1.lt j e).1))
        go_wp2_with fail
        go_roundw
        case rel => exact ⟨k + 1, by omega, by go_num, by rw [Hs.out]; simpa [natsV] using hown', hB2⟩
        case measure => simp [intOf]; omega
    · have hlti : ¬ (k : Int) < (kD : Int) := by omega
      obtain rfl : k = kD := by omega
      rw [HaL.out] at hown
      go_wp2_with (go_at_call 17; refine HR.out.mono ?_; rintro e w' ⟨rfl, rfl⟩)
      rw [natsV_intsV] at hown
      obtain ⟨A', c', rfl, _, _, hI⟩ := own_ints hown
      rw [length_natsI]
      go_ret
      exact ⟨A', c', rfl, hI, hB⟩
end Go.Proofs.Ytmekffcpbjmffaa
