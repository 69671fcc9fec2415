/- The document's own arm: its choice. -/
import Derived.Test.YtpelocpjfmmceaaRX
set_option linter.unusedVariables false
set_option linter.unusedSimpArgs false
namespace Go.Proofs.Ytpelocpjfmmceaa
open Go.RowKit

theorem near_lt (s n : Nat) (a b : Int) : nearB s n a b = (decide (far s a.toNat n < far s b.toNat n) || (decide (far s a.toNat n = far s b.toNat n) && decide (a < b))) := rfl
def SrcAt (W : World) (g ab : Nat) (v : Value) (k m : Nat) (x y : Int) : Prop := W.cell? ⟨g, 5, none⟩ = some v ∧ W.cell? ⟨ab, k * 2, none⟩ = some (.int .i64 x) ∧ W.cell? ⟨ab, m * 2, none⟩ = some (.int .i64 y)
section
variable (B g : Nat) (A : Option Addr) (c : Nat) (x : Ar) (w : World)
set_option maxRecDepth 100000 in
set_option maxHeartbeats 4000000 in
theorem choose_near (hp : x.p = 2) (hC : RAt B w g A c x) (hl : x.l.length ≤ 1000) (h0 : 0 < x.l.length) (hs : x.s < 1024) (hn : 1 ≤ x.n) (hn64 : x.n ≤ 64) (hr : ∀ r ∈ x.l, 0 ≤ r.b ∧ r.b < 1024) :
    Calls Try.prog 54 #[.pointer (some ⟨g, 0, none⟩)] w fun e w' => e = .returned (.int .i64 (nearK x.l x.s x.n x.l.length : Nat)) ∧ Below w.heap.size w w' := by
  obtain ⟨cp, _, _, _, _, cs⟩ := rcells hC
  rw [hp] at cp
  have hg := hC.glt
  have HR := Lib.hid hC.row
  have hcap := own_cap hC.row
  unfold maxLen at hcap
  have HW : Hid (∀ W b, Below w.heap.size w W → 0 ≤ b → b < 1024 → Calls Try.prog 55 #[.pointer (some ⟨g, 0, none⟩), .int .i64 b] W fun e w' => e = .returned (.int .i64 (far x.s b.toNat x.n : Nat)) ∧ Below W.heap.size W w') := fun W b hW h0 h1 => raway_any B g A c x b W (hC.fresh hW) hs hn hn64 h0 h1
  obtain ⟨xp, xn, xs, xm, xu, l⟩ := x
  dsimp only at *
  have Hr : Hid (∀ k, k < l.length → 0 ≤ (rn l k).b ∧ (rn l k).b < 1024) := fun k hk => hr _ (rn_mem hk)
  clear hC hs hn hn64 hr hp
  go_enter Try.func54, Try.ntmps54
  go_wp2
  go_loopw [3, 4] (fun t i wr => ∃ k : Nat, 1 ≤ k ∧ k ≤ l.length ∧ i = .int .i64 k ∧ t = .int .i64 (nearK l xs xn k : Nat) ∧ Below w.heap.size w wr) (fun _ i _ => l.length - (intOf i).toNat)
  case atStart => exact ⟨1, by omega, h0, rfl, by simp [nearK], Below.refl _ _⟩
  case round =>
    obtain ⟨k, hk1, hk, rfl, rfl, hB⟩ := hrel
    rename World => wr
    have HB := Lib.hid hB
    have hsr : wr.cell? ⟨g, 5, none⟩ = some (.slice A l.length c) := (hB.cell (p := ⟨g, 5, none⟩) hg).trans cs
    by_cases hlt : k < l.length
    · have hlti : (k : Int) < (l.length : Int) := by omega
      have hk0 : (0 : Int) ≤ (k : Int) := by omega
      have hrow := (show RowQ 81 w B A c l from HR.out).fresh hB
      obtain ⟨ab, hA, h3, h4, hb, _, c0, _, _⟩ := hrow.at_ hlt
      subst hA
      have HRo := Lib.hid hrow
      have hm := nearK_lt l xs xn (k - 1)
      rw [show k - 1 + 1 = k by omega] at hm
      have hs1 : nearK l xs xn (k + 1) = if k ≠ 0 ∧ nearB xs xn (rn l k).b (rn l (nearK l xs xn k)).b = true then k else nearK l xs xn k := rfl
      generalize nearK l xs xn k = m at *
      have cm := HRo.out.cell_at (show m < l.length by omega)
      have hm0 : (0 : Int) ≤ (m : Int) := by omega
      have hml : (m : Int) < (l.length : Int) := by omega
      have hbk := Hr.out k hlt
      have hbm := Hr.out m (by omega)
      rw [near_lt] at hs1
      have HWk := Lib.hid (fun W hW => HW.out W (rn l k).b hW hbk.1 hbk.2)
      have HWm := Lib.hid (fun W hW => HW.out W (rn l m).b hW hbm.1 hbm.2)
      clear hrow hbk hbm cs
      generalize far xs (rn l k).b.toNat xn = dk at *
      generalize far xs (rn l m).b.toNat xn = dm at *
      generalize (rn l k).b = bk at *
      generalize (rn l m).b = bm at *
      have HS : Hid (∀ W, Below wr.heap.size wr W → SrcAt W g ab (.slice (some ⟨ab, 0, none⟩) l.length c) k m bk bm) := fun W hW =>
        ⟨(hW.cell (p := ⟨g, 5, none⟩) (Nat.lt_of_lt_of_le hg HB.out.size)).trans hsr, (hW.cell (p := ⟨ab, k * 2, none⟩) hb).trans c0, (hW.cell (p := ⟨ab, m * 2, none⟩) hb).trans cm⟩
      have X0 := Lib.hid (HS.out wr.drew (Below.refl _ _).drew)
      have X1 := Lib.hid (HS.out wr (Below.refl _ _))
      unfold SrcAt at X0 X1
      go_wp2
      go_region_held3 (fun W => W.cell? ⟨g, 5, none⟩ = some (.slice (some ⟨ab, 0, none⟩) l.length c) ∧ W.cell? ⟨ab, k * 2, none⟩ = some (.int .i64 bk) ∧ W.cell? ⟨ab, m * 2, none⟩ = some (.int .i64 bm))
        (first | exact X0.out | exact X1.out | exact X3.out | exact X4.out)
        (first
          | (go_at_call 55; (with_reducible refine (HWk.out _ (HB.out.drew)).mono ?_); rintro e w3 ⟨rfl, hb3⟩; have HB3 := Lib.hid ((Below.refl wr.heap.size wr).drew.trans hb3); have X3 := Lib.hid (HS.out w3 HB3.out); unfold SrcAt at X3; have HB3w := Lib.hid (HB.out.trans (HB3.out.mono HB.out.size)); clear hb3)
          | (go_at_call 55; (with_reducible refine (HWm.out _ HB3w.out).mono ?_); rintro e w4 ⟨rfl, hb4⟩; have HB4 := Lib.hid (HB3.out.trans (hb4.mono HB3.out.size)); have X4 := Lib.hid (HS.out w4 HB4.out); unfold SrcAt at X4; have HB4w := Lib.hid (HB3w.out.trans (hb4.mono HB3w.out.size)); clear hb4)
          | fail)
      all_goals
        obtain ⟨e5, ek, em⟩ := X4.out
        by_cases hd : dk < dm
        · have Hs := Lib.hid (show nearK l xs xn (k + 1) = k by rw [hs1, if_pos ⟨by omega, by simp [hd]⟩])
          have hdi : (dk : Int) < (dm : Int) := by omega
          clear hs1 hd
          go_wp2
          go_quiet (fail)
          go_wp2
          go_roundw
          case rel => exact ⟨k + 1, by omega, by omega, by go_num, by rw [Hs.out], bdn HB4w.out _⟩
          case measure => simp [intOf]; omega
        · have hdi : (dm : Int) ≤ (dk : Int) := by omega
          have hdd : decide ((dk : Int) < (dm : Int)) = false := decide_eq_false (by omega)
          have hddn : decide (dk < dm) = false := decide_eq_false hd
          by_cases he : dk = dm
          · subst he
            by_cases hbb : bk < bm
            · have Hs := Lib.hid (show nearK l xs xn (k + 1) = k by rw [hs1, if_pos ⟨by omega, by simp [hbb]⟩])
              clear hs1 hd
              go_wp2
              go_quiet (fail)
              go_wp2
              go_roundw
              case rel => exact ⟨k + 1, by omega, by omega, by go_num, by rw [Hs.out], bdn HB4w.out _⟩
              case measure => simp [intOf]; omega
            · have Hs := Lib.hid (show nearK l xs xn (k + 1) = m by rw [hs1, if_neg (fun q => by have := q.2; simp [hbb] at this)])
              have hbi : bm ≤ bk := by omega
              have hbd : decide (bk < bm) = false := decide_eq_false hbb
              clear hs1 hd hbb
              go_wp2
              go_quiet (fail)
              go_wp2
              go_roundw
              case rel => exact ⟨k + 1, by omega, by omega, by go_num, by rw [Hs.out], bdn HB4w.out _⟩
              case measure => simp [intOf]; omega
          · have Hs := Lib.hid (show nearK l xs xn (k + 1) = m by rw [hs1, if_neg (fun q => by have := q.2; simp [hd, he] at this)])
            have hei : ((dk : Int) == (dm : Int)) = false := by rw [beq_eq_false_iff_ne]; omega
            have hen : (dk == dm) = false := by rw [beq_eq_false_iff_ne]; exact he
            clear hs1 hd he
            go_wp2
            go_quiet (fail)
            go_wp2
            go_roundw
            case rel => exact ⟨k + 1, by omega, by omega, by go_num, by rw [Hs.out], bdn HB4w.out _⟩
            case measure => simp [intOf]; omega
    · obtain rfl : k = l.length := by omega
      have hlti : ¬ (l.length : Int) < (l.length : Int) := by omega
      clear hB cs
      go_wp2
      go_ret
      exact ⟨rfl, HB.out⟩
end
end Go.Proofs.Ytpelocpjfmmceaa
