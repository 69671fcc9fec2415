/- The program's arm: the first that waited too long, Scan, the choice. -/
import Derived.Test.YtpelocpjfmmceaaK
set_option linter.unusedVariables false
set_option linter.unusedSimpArgs false
namespace Go.Proofs.Ytpelocpjfmmceaa
open Go.RowKit

theorem oldI_at {l : List Rq} {k : Nat} (hk : k < l.length) (h1 : ∀ j, j < k → old (rn l j) = false) (h2 : old (rn l k) = true) : oldI l = some (rn l k).b := by
  have e : l.find? old = some (rn l k) := by
    rw [List.find?_eq_some_iff_getElem]
    refine ⟨h2, k, hk, (rn_lt hk).symm, fun j hj => ?_⟩
    have := h1 j hj
    rw [rn_lt (by omega)] at this
    rw [this]; rfl
  unfold oldI; rw [e]; rfl
theorem oldI_none {l : List Rq} (h1 : ∀ j, j < l.length → old (rn l j) = false) : oldI l = none := by
  have e : l.find? old = none := by
    rw [List.find?_eq_none]
    intro r hr
    obtain ⟨j, hj, rfl⟩ := mem_rn hr
    rw [h1 j hj]; decide
  unfold oldI; rw [e]; rfl
section
variable (B g : Nat) (A : Option Addr) (c : Nat) (x : Ar) (w : World)
set_option maxRecDepth 100000 in
set_option maxHeartbeats 1000000 in
theorem firstOld_any (hC : PAt B w g A c x) (hl : x.l.length ≤ 1000) :
    Calls Try.prog 57 #[.pointer (some ⟨g, 0, none⟩)] w fun e w' => e = .returned (.tuple #[.int .i64 ((oldI x.l).getD 0), .bool (oldI x.l).isSome]) ∧ Below w.heap.size w w' := by
  obtain ⟨_, _, _, _, _, hs⟩ := pcells hC
  have hg := hC.glt
  have HR := Lib.hid hC.row
  have hcap := own_cap hC.row
  unfold maxLen at hcap
  obtain ⟨xp, xn, xs, xm, xu, l⟩ := x
  dsimp only at *
  obtain ⟨Q, hQ⟩ : ∃ Q : Option Int, Q = oldI l := ⟨_, rfl⟩
  rw [← hQ]
  have HQ := Lib.hid hQ
  clear hC hQ
  go_enter Try.func57, Try.ntmps57
  go_wp2
  go_loopw [11] (fun i wr => ∃ k : Nat, k ≤ l.length ∧ i = .int .i64 k ∧ Hid (∀ j, j < k → old (rn l j) = false) ∧ Below w.heap.size w wr) (fun i _ => l.length - (intOf i).toNat)
  case atStart => exact ⟨0, Nat.zero_le _, rfl, fun j hj => absurd hj (by omega), Below.refl _ _⟩
  case round =>
    obtain ⟨k, hk, rfl, hno, hB⟩ := hrel
    rename World => wr
    have HB := Lib.hid hB
    by_cases hlt : k < l.length
    · have hlti : (k : Int) < (l.length : Int) := by omega
      have hk0 : (0 : Int) ≤ (k : Int) := by omega
      obtain ⟨ab, hA, h3, h4, hb, _, c0, c1, _⟩ := ((show RowQ 74 w B A c l from HR.out).fresh hB).at_ hlt
      subst hA
      cases ho : old (rn l k) with
      | true =>
        have He : Hid (Q = some (rn l k).b) := by unfold Hid; rw [HQ.out]; exact oldI_at hlt hno.out ho
        have h12 : (12 : Int) ≤ (rn l k).a := by unfold old at ho; simpa using ho
        generalize (rn l k).b = rb at *
        generalize (rn l k).a = ra at *
        clear ho hB
        go_wp2
        go_ret2
        rw [He.out]
        exact ⟨rfl, HB.out.alloc HB.out.size _⟩
      | false =>
        have Hn : Hid (∀ j, j < k + 1 → old (rn l j) = false) := fun j hj => by
          rcases Nat.lt_or_ge j k with h | h
          · exact hno.out j h
          · obtain rfl : j = k := by omega
            exact ho
        have h12 : decide ((12 : Int) ≤ (rn l k).a) = false := ho
        generalize (rn l k).b = rb at *
        generalize (rn l k).a = ra at *
        clear ho hB
        go_wp2
        go_roundw
        case rel => exact ⟨k + 1, by omega, by go_num, Hn.out, HB.out.alloc HB.out.size _⟩
        case measure => simp [intOf]; omega
    · obtain rfl : k = l.length := by omega
      have hlti : ¬ (l.length : Int) < (l.length : Int) := by omega
      have He : Hid (Q = none) := by unfold Hid; rw [HQ.out]; exact oldI_none hno.out
      clear hB
      go_wp2
      go_ret2
      rw [He.out]
      exact ⟨rfl, HB.out⟩
set_option maxRecDepth 100000 in
theorem old_any (hC : PAt B w g A c x) (hl : x.l.length ≤ 1000) (b : Int) (hb : oldI x.l = some b) :
    Calls Try.prog 58 #[.pointer (some ⟨g, 0, none⟩)] w fun e w' => e = .returned (.int .i64 b) ∧ PWent B w g A { x with u := decide ((x.s : Int) < b) } w' := by
  have HF := Lib.hid (firstOld_any B g A c x w hC hl)
  rw [hb] at HF
  have Hfin : Hid (∀ W, Below w.heap.size w W → W.cell? ⟨g, 2, none⟩ = some (.int .i64 x.s) ∧ W.cell? ⟨g, 4, none⟩ = some (.bool x.u) ∧ W.frozen? ⟨g, 4, none⟩ = false ∧ g < W.heap.size ∧ PWent B w g A { x with u := decide ((x.s : Int) < b) } (W.setCell ⟨g, 4, none⟩ (.bool (decide ((x.s : Int) < b))))) := fun W hW => by
    have hC1 := hC.fresh hW
    obtain ⟨_, _, c2, _, c4, _⟩ := pcells hC1
    obtain ⟨r, kp⟩ := field B g A c x W (y := { x with u := decide ((x.s : Int) < b) }) (j := 4) (v := .bool (decide ((x.s : Int) < b))) hC1 rfl (fun _ => rfl)
    exact ⟨c2, c4, hC1.free 4, hC1.glt, A, c, r, (Kept.fresh (S := Of g A) hW).trans kp (fun k q => .inl (.inl q)), fun k e => .inl e⟩
  simp only [Option.getD_some, Option.isSome_some] at HF
  clear hC hb hl
  go_enter Try.func58, Try.ntmps58
  go_wp2_with (refine HF.out.mono ?_; rintro e w1 ⟨rfl, hb1⟩; obtain ⟨c2, c4, hf4, hg4, hfin⟩ := Hfin.out w1 hb1; have HX := Lib.hid hfin; clear hfin hb1)
  go_ret
  exact ⟨rfl, HX.out⟩
set_option maxRecDepth 100000 in
set_option maxHeartbeats 1000000 in
theorem scan_any (hC : PAt B w g A c x) (hl : x.l.length ≤ 1000) :
    Calls Try.prog 60 #[.pointer (some ⟨g, 0, none⟩)] w fun e w' => e = .returned (.int .i64 (scanL x.s x.u (blk x.l)).1) ∧ PWent B w g A { x with u := (scanL x.s x.u (blk x.l)).2 } w' := by
  have HO := Lib.hid (onward_any B g A c x w hC hl)
  have HC := Lib.hid hC
  have Hturn : Hid (∀ W, Below w.heap.size w W → W.cell? ⟨g, 4, none⟩ = some (.bool x.u) ∧ W.frozen? ⟨g, 4, none⟩ = false ∧ g < W.heap.size ∧ PAt B (W.setCell ⟨g, 4, none⟩ (.bool (!x.u))) g A c { x with u := !x.u } ∧ Kept w (W.setCell ⟨g, 4, none⟩ (.bool (!x.u))) (Of g A)) := fun W hW => by
    have hC1 := hC.fresh hW
    obtain ⟨_, _, _, _, c4, _⟩ := pcells hC1
    obtain ⟨r, kp⟩ := field B g A c x W (y := { x with u := !x.u }) (j := 4) (v := .bool (!x.u)) hC1 rfl (fun _ => rfl)
    exact ⟨c4, hC1.free 4, hC1.glt, r, (Kept.fresh (S := Of g A) hW).trans kp (fun k q => .inl (.inl q))⟩
  have HO2 : Hid (∀ W, PAt B W g A c { x with u := !x.u } → Kept w W (Of g A) → Calls Try.prog 79 #[.pointer (some ⟨g, 0, none⟩)] W fun e w' => e = .returned (.tuple #[.int .i64 (if (!x.u) = true then bestL lessB (upL x.s (blk x.l)) else bestL greatB (downL x.s (blk x.l))), .bool (if (!x.u) = true then !(upL x.s (blk x.l)).isEmpty else !(downL x.s (blk x.l)).isEmpty)]) ∧ PWent B w g A { x with u := !x.u } w') := fun W h1 h2 =>
    (onward_any B g A c { x with u := !x.u } W h1 hl).mono fun e w' ⟨h3, h4⟩ => ⟨h3, A, c, h1.fresh h4, h2.trans (Kept.fresh (S := Of g A) h4) (fun k q => .inl q), fun k e => .inl e⟩
  unfold scanL
  generalize hu : upL x.s (blk x.l) = lu at *
  generalize hd : downL x.s (blk x.l) = ld at *
  clear hu hd hC hl
  obtain ⟨xp, xn, xs, xm, xu, l⟩ := x
  dsimp only at *
  have HW0 : Hid (∀ W, Below w.heap.size w W → PWent B w g A ⟨xp, xn, xs, xm, xu, l⟩ W) := fun W hW => ⟨A, c, HC.out.fresh hW, Kept.fresh hW, fun k e => .inl e⟩
  cases xu with
  | true =>
    simp only [Bool.not_true, Bool.false_eq_true, if_true, if_false] at *
    cases hq : lu.isEmpty with
    | true =>
      rw [hq] at HO
      simp only [Bool.not_true, if_true] at HO ⊢
      generalize bestL lessB lu = m at *
      generalize bestL greatB ld = m2 at *
      generalize (!ld.isEmpty) = q2 at *
      clear hq
      go_enter Try.func60, Try.ntmps60
      go_wp2_with (first
        | (go_at_call 79; refine HO.out.mono ?_; rintro e w1 ⟨rfl, hb1⟩; obtain ⟨c4, f4, g4, hp, hk⟩ := Hturn.out w1 hb1; have HP := Lib.hid hp; have HK := Lib.hid hk; clear hp hk hb1)
        | (go_at_call 79; refine (HO2.out _ HP.out HK.out).mono ?_; rintro e w2 ⟨rfl, hw2⟩; have HW2 := Lib.hid hw2; clear hw2))
      go_ret
      exact ⟨rfl, HW2.out⟩
    | false =>
      rw [hq] at HO
      simp only [Bool.not_false, Bool.false_eq_true, if_false] at HO ⊢
      generalize bestL lessB lu = m at *
      clear hq HO2
      go_enter Try.func60, Try.ntmps60
      go_wp2_with (refine HO.out.mono ?_; rintro e w1 ⟨rfl, hb1⟩; have HW1 := Lib.hid (HW0.out w1 hb1); clear hb1)
      go_ret
      exact ⟨rfl, HW1.out⟩
  | false =>
    simp only [Bool.not_false, Bool.false_eq_true, if_true, if_false] at *
    cases hq : ld.isEmpty with
    | true =>
      rw [hq] at HO
      simp only [Bool.not_true, if_true] at HO ⊢
      generalize bestL lessB lu = m at *
      generalize bestL greatB ld = m2 at *
      generalize (!lu.isEmpty) = q2 at *
      clear hq
      go_enter Try.func60, Try.ntmps60
      go_wp2_with (first
        | (go_at_call 79; refine HO.out.mono ?_; rintro e w1 ⟨rfl, hb1⟩; obtain ⟨c4, f4, g4, hp, hk⟩ := Hturn.out w1 hb1; have HP := Lib.hid hp; have HK := Lib.hid hk; clear hp hk hb1)
        | (go_at_call 79; refine (HO2.out _ HP.out HK.out).mono ?_; rintro e w2 ⟨rfl, hw2⟩; have HW2 := Lib.hid hw2; clear hw2))
      go_ret
      exact ⟨rfl, HW2.out⟩
    | false =>
      rw [hq] at HO
      simp only [Bool.not_false, Bool.false_eq_true, if_false] at HO ⊢
      generalize bestL greatB ld = m at *
      clear hq HO2
      go_enter Try.func60, Try.ntmps60
      go_wp2_with (refine HO.out.mono ?_; rintro e w1 ⟨rfl, hb1⟩; have HW1 := Lib.hid (HW0.out w1 hb1); clear hb1)
      go_ret
      exact ⟨rfl, HW1.out⟩
/-- which method the choice is -/
def choiceN (x : Ar) : Nat := if (oldI x.l).isSome then 58 else if x.p = 2 then 59 else if x.p = 3 then 60 else if x.p = 4 then 61 else 62
set_option maxRecDepth 100000 in
set_option maxHeartbeats 1000000 in
theorem choice_any (hC : PAt B w g A c x) (hl : x.l.length ≤ 1000) :
    Calls Try.prog 42 #[.pointer (some ⟨g, 0, none⟩)] w fun e w' => e = .returned (.func (.func (choiceN x)) #[.pointer (some ⟨g, 0, none⟩)] #[]) ∧ Below w.heap.size w w' := by
  have HF := Lib.hid (firstOld_any B g A c x w hC hl)
  have Hc0 : Hid (∀ W, Below w.heap.size w W → W.cell? ⟨g, 0, none⟩ = some (.int .u8 x.p)) := fun W hW => (pcells (hC.fresh hW)).1
  have hg := hC.glt
  clear hC hl
  unfold choiceN
  generalize (oldI x.l).getD 0 = b at *
  cases ho : (oldI x.l).isSome with
  | true =>
    rw [ho] at HF
    simp only [if_true]
    clear ho
    go_enter Try.func42, Try.ntmps42
    go_wp2_with (refine HF.out.mono ?_; rintro e w1 ⟨rfl, hb1⟩; have HB1 := Lib.hid hb1; clear hb1)
    go_ret
    exact ⟨rfl, HB1.out⟩
  | false =>
    rw [ho] at HF
    simp only [Bool.false_eq_true, if_false]
    clear ho
    generalize x.p = p at *
    by_cases h2 : p = 2
    · subst h2
      simp only [if_true]
      go_enter Try.func42, Try.ntmps42
      go_wp2_with (refine HF.out.mono ?_; rintro e w1 ⟨rfl, hb1⟩; have hc0 := Hc0.out _ hb1; have HB1 := Lib.hid hb1; clear hb1)
      go_ret
      exact ⟨rfl, HB1.out⟩
    · have e2 : ((p : Int) == 2) = false := by rw [beq_eq_false_iff_ne]; omega
      rw [if_neg h2]
      by_cases h3 : p = 3
      · subst h3
        simp only [if_true]
        clear e2 h2
        go_enter Try.func42, Try.ntmps42
        go_wp2_with (refine HF.out.mono ?_; rintro e w1 ⟨rfl, hb1⟩; have hc0 := Hc0.out _ hb1; have HB1 := Lib.hid hb1; clear hb1)
        go_ret
        exact ⟨rfl, HB1.out⟩
      · have e3 : ((p : Int) == 3) = false := by rw [beq_eq_false_iff_ne]; omega
        rw [if_neg h3]
        by_cases h4 : p = 4
        · subst h4
          simp only [if_true]
          clear e2 e3 h2 h3
          go_enter Try.func42, Try.ntmps42
          go_wp2_with (refine HF.out.mono ?_; rintro e w1 ⟨rfl, hb1⟩; have hc0 := Hc0.out _ hb1; have HB1 := Lib.hid hb1; clear hb1)
          go_ret
          exact ⟨rfl, HB1.out⟩
        · have e4 : ((p : Int) == 4) = false := by rw [beq_eq_false_iff_ne]; omega
          have n2 : (p == 2) = false := by simpa using h2
          have n3 : (p == 3) = false := by simpa using h3
          have n4 : (p == 4) = false := by simpa using h4
          rw [if_neg h4]
          clear h2 h3 h4
          go_enter Try.func42, Try.ntmps42
          go_wp2_with (refine HF.out.mono ?_; rintro e w1 ⟨rfl, hb1⟩; have hc0 := Hc0.out _ hb1; have HB1 := Lib.hid hb1; clear hb1)
          go_ret
          exact ⟨rfl, HB1.out⟩
end
end Go.Proofs.Ytpelocpjfmmceaa
