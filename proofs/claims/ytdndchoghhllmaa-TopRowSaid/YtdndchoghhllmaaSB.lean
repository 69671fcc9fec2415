/- What both groups tell; they tell the same. -/
import Derived.Test.YtdndchoghhllmaaSA
import Derived.Test.YtdndchoghhllmaaZC
set_option linter.unusedVariables false
set_option linter.unusedSimpArgs false
namespace Go.Proofs.Ytdndchoghhllmaa
open Go.RowKit
/-- a slice of numbers came back -/
def GivesI (w : World) (l : List Int) (e : Ending) (w' : World) : Prop := ∃ A' c', e = .returned (.slice A' l.length c') ∧ Ints w' w'.heap.size A' l ∧ Below w.heap.size w w'
def pU (x : Gs) : List Int := x.l.flatMap (·.p)
theorem pU_len {c : Nat} {x : Gs} (h : x.Ok c) : (pU x).length ≤ 8 * c := by
  have key : ∀ l : List Gp, (∀ g ∈ l, g.p.length ≤ c) → (l.flatMap (·.p)).length ≤ l.length * c := by
    intro l
    induction l with
    | nil => intro _; simp
    | cons g r ih =>
      intro hh
      have h1 := hh g (List.mem_cons_self ..)
      have h2 := ih (fun q hq => hh q (List.mem_cons_of_mem _ hq))
      rw [List.flatMap_cons, List.length_append, List.length_cons, Nat.add_mul]
      omega
  have h1 := key x.l (fun g hg => (h.pr g hg).2.1)
  have h2 := h.len
  have : x.l.length * c ≤ 8 * c := Nat.mul_le_mul_right _ h2
  unfold pU; omega
theorem pU_in {x : Gs} {m y : Int} (h : y ∈ (ofN x.l m).p) : y ∈ pU x := by
  by_cases hn : m ∈ nos x.l
  · exact List.mem_flatMap.2 ⟨_, (ofN_in hn).1, h⟩
  · rw [ofN_out hn] at h; cases h
theorem behind_len {c : Nat} {x : Gs} (h : x.Ok c) : x.behind.length ≤ 8 * c := by
  refine Nat.le_trans (sub_len (rises_nodup (behind_rises x)) (fun y hy => ?_)) (pU_len h)
  obtain ⟨m, _, hm⟩ := mem_behind.1 hy
  exact pU_in hm
section
variable {B c g : Nat} {x y : Gs} {w : World} {h : Nat}
theorem q_state (t : Two B c w g h x y) {n : Int} (hn : WfI n) : Calls Try.prog 17 #[.pointer (some ⟨g, 0, none⟩), .int .i64 n] w fun e w' => e = .returned (.int .u8 (stG x.l n)) ∧ w = w' := by
  obtain ⟨_, ⟨mb, L, hP, hg⟩, _⟩ := t
  have := state_any B (8 * c) g mb L x.k n w hP hn
  rwa [hg] at this
theorem q_patches (t : Two B c w g h x y) (hO : x.Ok c) (hc : c ≤ 900) {n : Int} (hn : WfI n) : Calls Try.prog 18 #[.pointer (some ⟨g, 0, none⟩), .int .i64 n] w (GivesI w (ofN x.l n).p) := by
  obtain ⟨_, ⟨mb, L, hP, hg⟩, _⟩ := t
  have := patches_any B (8 * c) g mb L x.k n w hP hn (by omega) (by rw [hg]; exact (hO.pofN n).1)
  rw [hg] at this
  exact this.mono fun e w' ⟨A, c', e1, e2, e3⟩ => ⟨A, c', e1, e2.ints, e3⟩
theorem q_ahead (t : Two B c w g h x y) (hO : x.Ok c) (hc : c ≤ 900) {n : Int} (hn : WfI n) : Calls Try.prog 16 #[.pointer (some ⟨g, 0, none⟩), .int .i64 n] w (GivesI w (aheadR x.l n)) := by
  obtain ⟨_, ⟨mb, L, hP, hg⟩, _⟩ := t
  have hl : L.length ≤ 100 := by have := hO.len; rw [← hg, length_gp] at this; omega
  have := ahead_any B (8 * c) g mb L x.k n w hP (by omega) hn (by rw [hg]; exact hO.wf (by omega)) (by rw [hg]; exact hO.hin) hl
  rw [hg] at this
  exact this.mono fun e w' ⟨A, c', e1, e2, e3⟩ => ⟨A, c', e1, e2.ints, e3⟩
theorem q_behind (t : Two B c w g h x y) (hO : x.Ok c) (hc : c ≤ 900) : Calls Try.prog 25 #[.pointer (some ⟨g, 0, none⟩)] w (GivesI w x.behind) := by
  obtain ⟨_, ⟨mb, L, hP, hg⟩, _⟩ := t
  have hl : L.length ≤ 100 := by have := hO.len; rw [← hg, length_gp] at this; omega
  have := behind_any B (8 * c) g mb L x.k w hP (by omega) (by rw [hg]; exact hO.wf (by omega)) (by rw [hg]; exact hO.hin) hl (by rw [gs_eta hg]; exact hO.engaged_rises)
  rw [gs_eta hg] at this
  exact this.mono fun e w' ⟨A, c', e1, e2, e3⟩ => ⟨A, c', e1, e2.ints, e3⟩
theorem q_engaged (t : Two B c w g h x y) (hO : x.Ok c) (hc : c ≤ 900) : Calls Try.prog 26 #[.pointer (some ⟨g, 0, none⟩)] w (GivesI w x.engaged) := by
  obtain ⟨_, ⟨mb, L, hP, hg⟩, _⟩ := t
  have := engaged_any B (8 * c) g mb L x.k w hP (by omega) (by rw [gs_eta hg]; exact hO.engaged_rises)
  rw [gs_eta hg] at this
  exact this.mono fun e w' ⟨A, c', e1, e2, e3⟩ => ⟨A, c', e1, e2.ints, e3⟩
theorem d_state (t : Two B c w g h x y) (hO : y.Ok c) (n : Int) : Calls Try.prog 34 #[.pointer (some ⟨h, 0, none⟩), .int .i64 n] w fun e w' => e = .returned (.int .u8 (stG y.l n)) ∧ w = w' := by
  obtain ⟨_, _, A, q, L, hR, hg⟩ := t
  have := rstate_any B h A q L y.k n w hR (rlen hg hO) (by rw [hg]; exact hO.nd)
  rwa [hg] at this
theorem d_patches (t : Two B c w g h x y) (hO : y.Ok c) (hc : c ≤ 900) (n : Int) : Calls Try.prog 35 #[.pointer (some ⟨h, 0, none⟩), .int .i64 n] w (GivesI w (ofN y.l n).p) := by
  obtain ⟨_, _, A, q, L, hR, hg⟩ := t
  have := rpatches_any B h A q L y.k n w hR (rlen hg hO) (by rw [hg]; exact hO.nd) (by rw [hg]; have := (hO.pofN n).2; omega)
  rw [hg] at this
  exact this.mono fun e w' ⟨A, c', e1, e2, e3⟩ => ⟨A, c', e1, e2.ints, e3⟩
theorem al_of {L : List Gr} {y : Gs} (hg : gs L = y.l) (hO : y.Ok c) (hc : c ≤ 900) : ∀ q ∈ L, q.g.a.length ≤ 1000 := fun z hz => by
  have := (hO.al z.g (by rw [← hg]; exact List.mem_map.2 ⟨z, hz, rfl⟩)).1
  omega
theorem d_ahead (t : Two B c w g h x y) (hO : y.Ok c) (hc : c ≤ 900) (n : Int) : Calls Try.prog 36 #[.pointer (some ⟨h, 0, none⟩), .int .i64 n] w (GivesI w (aheadR y.l n)) := by
  obtain ⟨_, _, A, q, L, hR, hg⟩ := t
  have := rahead_any B h A q L y.k n w hR (rlen hg hO) (by rw [hg]; exact hO.nd) (by rw [hg]; exact hO.hin) (al_of hg hO hc)
  rw [hg] at this
  exact this
theorem d_behind (t : Two B c w g h x y) (hO : y.Ok c) (hc : c ≤ 110) : Calls Try.prog 37 #[.pointer (some ⟨h, 0, none⟩)] w (GivesI w y.behind) := by
  obtain ⟨_, _, A, q, L, hR, hg⟩ := t
  have := rbehind_any B h A q L y.k w (pU y) hR (rlen hg hO) (by rw [hg]; exact hO.nd) (by rw [hg]; exact hO.hin) (al_of hg hO (by omega)) (by have := pU_len hO; omega) (by rw [hg]; exact fun m z hz => pU_in hz) (by rw [hg]; exact fun m => by have := (hO.pofN m).2; omega)
  rw [gs_eta hg] at this
  exact this
theorem d_engaged (t : Two B c w g h x y) (hO : y.Ok c) : Calls Try.prog 38 #[.pointer (some ⟨h, 0, none⟩)] w (GivesI w y.engaged) := by
  obtain ⟨_, _, A, q, L, hR, hg⟩ := t
  have := rengaged_any B h A q L y.k w hR (rlen hg hO)
  rw [gs_eta hg] at this
  exact this.mono fun e w' ⟨A, c', e1, e2, e3⟩ => ⟨A, c', e1, e2.ints, e3⟩
end
set_option maxRecDepth 100000 in
set_option maxHeartbeats 4000000 in
theorem same_any (B g h : Nat) (x : Gs) (w : World) {c : Nat} (hO : x.Ok c) (hc : c ≤ 110) (t : Two B c w g h x x) :
    Calls Try.prog 15 #[.pointer (some ⟨g, 0, none⟩), .pointer (some ⟨h, 0, none⟩)] w fun e w' => e = .returned (.bool true) ∧ Below w.heap.size w w' := by
  have HSm : Hid (∀ (W : World) (l : List Int) A3 A4 c3 c4, l.length ≤ 1000 → Ints W W.heap.size A3 l → Ints W W.heap.size A4 l → Calls Try.prog 20 #[.slice A3 l.length c3, .slice A4 l.length c4] W fun e w' => e = .returned (.bool true) ∧ Below W.heap.size W w') := fun W l A3 A4 c3 c4 hl h1 h2 => same_ints A3 A4 c3 c4 l W hl h1 h2
  have HT : Hid (∀ W, Below w.heap.size w W → Two B c W g h x x) := fun W hW => t.fresh hW
  have HO := Lib.hid hO
  clear t hO
  go_enter Try.func15, Try.ntmps15
  go_wp2
  go_loopw [5] (fun i wr => ∃ k : Int, -1 ≤ k ∧ k ≤ 30 ∧ i = .int .i64 k ∧ Below w.heap.size w wr) (fun i _ => (30 - intOf i).toNat)
  case atStart => exact ⟨-1, by omega, by omega, rfl, Below.refl _ _⟩
  case round =>
    obtain ⟨k, hk0, hk, rfl, hB⟩ := hrel
    rename World => wr
    have HB := Lib.hid hB
    by_cases hlt : k < 30
    · have hwf : WfI k := by unfold WfI; omega
      have HsP := Lib.hid (q_state (HT.out _ hB) hwf)
      have HsD := Lib.hid (d_state (HT.out _ hB) HO.out k)
      have HpP := Lib.hid (q_patches (HT.out _ hB) HO.out (by omega) hwf)
      have HpD : Hid (∀ W, Below wr.heap.size wr W → Calls Try.prog 35 #[.pointer (some ⟨h, 0, none⟩), .int .i64 k] W (GivesI W (ofN x.l k).p)) := fun W hW => d_patches (HT.out _ (HB.out.trans (hW.mono HB.out.size))) HO.out (by omega) k
      have HaP : Hid (∀ W, Below wr.heap.size wr W → Calls Try.prog 16 #[.pointer (some ⟨g, 0, none⟩), .int .i64 k] W (GivesI W (aheadR x.l k))) := fun W hW => q_ahead (HT.out _ (HB.out.trans (hW.mono HB.out.size))) HO.out (by omega) hwf
      have HaD : Hid (∀ W, Below wr.heap.size wr W → Calls Try.prog 36 #[.pointer (some ⟨h, 0, none⟩), .int .i64 k] W (GivesI W (aheadR x.l k))) := fun W hW => d_ahead (HT.out _ (HB.out.trans (hW.mono HB.out.size))) HO.out (by omega) k
      have hl1 : (ofN x.l k).p.length ≤ 1000 := by have := (HO.out.pofN k).2; omega
      have hl2 : (aheadR x.l k).length ≤ 1000 := by have := aheadR_len HO.out.hin k; have := HO.out.len; omega
      have HS1 := Lib.hid (fun W A3 A4 c3 c4 => HSm.out W (ofN x.l k).p A3 A4 c3 c4 hl1)
      have HS2 := Lib.hid (fun W A3 A4 c3 c4 => HSm.out W (aheadR x.l k) A3 A4 c3 c4 hl2)
      clear hl1 hl2 hB hwf
      generalize stG x.l k = st at *
      generalize (ofN x.l k).p = lp at *
      generalize aheadR x.l k = la at *
      go_wp2_with (first
        | (go_at_call 17; refine HsP.out.mono ?_; rintro e w' ⟨rfl, rfl⟩)
        | (go_at_call 34; refine HsD.out.mono ?_; rintro e w' ⟨rfl, rfl⟩)
        | (go_at_call 18; refine HpP.out.mono ?_; rintro e w1 ⟨A1, c1, rfl, i1, b1⟩; have I1 := Lib.hid i1; have B1 := Lib.hid b1; clear i1 b1)
        | (go_at_call 35; refine (HpD.out w1 B1.out).mono ?_; rintro e w2 ⟨A2, c2, rfl, i2, b2⟩; have I2 := Lib.hid i2; have I12 := Lib.hid (I1.out.next b2); have B2 := Lib.hid (B1.out.trans (b2.mono B1.out.size)); clear i2 b2)
        | (go_at_call 16; refine (HaP.out w3 B3.out).mono ?_; rintro e w4 ⟨A4, c4, rfl, i4, b4⟩; have I4 := Lib.hid i4; have B4 := Lib.hid (B3.out.trans (b4.mono B3.out.size)); clear i4 b4)
        | (go_at_call 36; refine (HaD.out w4 B4.out).mono ?_; rintro e w5 ⟨A5, c5, rfl, i5, b5⟩; have I5 := Lib.hid i5; have I45 := Lib.hid (I4.out.next b5); have B5 := Lib.hid (B4.out.trans (b5.mono B4.out.size)); clear i5 b5)
        | (go_at_call 20; refine (HS2.out w5 A4 A5 c4 c5 I45.out I5.out).mono ?_; rintro e w6 ⟨rfl, b6⟩; have B6 := Lib.hid (B5.out.trans (b6.mono B5.out.size)); clear b6)
        | (go_at_call 20; refine (HS1.out w2 A1 A2 c1 c2 I12.out I2.out).mono ?_; rintro e w3 ⟨rfl, b3⟩; have B3 := Lib.hid (B2.out.trans (b3.mono B2.out.size)); clear b3))
      go_roundw
      case rel => exact ⟨k + 1, by omega, by omega, by go_num, HB.out.trans (B6.out.mono HB.out.size)⟩
      case measure => simp [intOf]; omega
    · obtain rfl : k = 30 := by omega
      have HbP := Lib.hid (q_behind (HT.out _ hB) HO.out (by omega))
      have HbD : Hid (∀ W, Below wr.heap.size wr W → Calls Try.prog 37 #[.pointer (some ⟨h, 0, none⟩)] W (GivesI W x.behind)) := fun W hW => d_behind (HT.out _ (HB.out.trans (hW.mono HB.out.size))) HO.out hc
      have HeP : Hid (∀ W, Below wr.heap.size wr W → Calls Try.prog 26 #[.pointer (some ⟨g, 0, none⟩)] W (GivesI W x.engaged)) := fun W hW => q_engaged (HT.out _ (HB.out.trans (hW.mono HB.out.size))) HO.out (by omega)
      have HeD : Hid (∀ W, Below wr.heap.size wr W → Calls Try.prog 38 #[.pointer (some ⟨h, 0, none⟩)] W (GivesI W x.engaged)) := fun W hW => d_engaged (HT.out _ (HB.out.trans (hW.mono HB.out.size))) HO.out
      have hl1 : x.behind.length ≤ 1000 := by have := behind_len HO.out; omega
      have hl2 : x.engaged.length ≤ 1000 := by have := HO.out.eng8; omega
      have HS1 := Lib.hid (fun W A3 A4 c3 c4 => HSm.out W x.behind A3 A4 c3 c4 hl1)
      have HS2 := Lib.hid (fun W A3 A4 c3 c4 => HSm.out W x.engaged A3 A4 c3 c4 hl2)
      clear hl1 hl2 hB
      generalize x.behind = lp at *
      generalize x.engaged = la at *
      go_wp2_with (first
        | (go_at_call 25; refine HbP.out.mono ?_; rintro e w1 ⟨A1, c1, rfl, i1, b1⟩; have I1 := Lib.hid i1; have B1 := Lib.hid b1; clear i1 b1)
        | (go_at_call 37; refine (HbD.out w1 B1.out).mono ?_; rintro e w2 ⟨A2, c2, rfl, i2, b2⟩; have I2 := Lib.hid i2; have I12 := Lib.hid (I1.out.next b2); have B2 := Lib.hid (B1.out.trans (b2.mono B1.out.size)); clear i2 b2)
        | (go_at_call 26; refine (HeP.out w3 B3.out).mono ?_; rintro e w4 ⟨A4, c4, rfl, i4, b4⟩; have I4 := Lib.hid i4; have B4 := Lib.hid (B3.out.trans (b4.mono B3.out.size)); clear i4 b4)
        | (go_at_call 38; refine (HeD.out w4 B4.out).mono ?_; rintro e w5 ⟨A5, c5, rfl, i5, b5⟩; have I5 := Lib.hid i5; have I45 := Lib.hid (I4.out.next b5); have B5 := Lib.hid (B4.out.trans (b5.mono B4.out.size)); clear i5 b5)
        | (go_at_call 20; refine (HS2.out w5 A4 A5 c4 c5 I45.out I5.out).mono ?_; rintro e w6 ⟨rfl, b6⟩; have B6 := Lib.hid (B5.out.trans (b6.mono B5.out.size)); clear b6)
        | (go_at_call 20; refine (HS1.out w2 A1 A2 c1 c2 I12.out I2.out).mono ?_; rintro e w3 ⟨rfl, b3⟩; have B3 := Lib.hid (B2.out.trans (b3.mono B2.out.size)); clear b3))
      go_ret
      exact ⟨rfl, HB.out.trans (B6.out.mono HB.out.size)⟩
end Go.Proofs.Ytdndchoghhllmaa
