/- Contract of the document's own Ready; Ready anyhow. -/
import Derived.Test.YtmekffcpbjmffaaV
namespace Go.Proofs.Ytmekffcpbjmffaa
open Go.RowKit

theorem ready_yes (A : Option Addr) (c kD : Nat) (D : List (List Nat)) (hkD : kD = D.length) (hD : OkD D) (A2 : Option Addr) (c2 k2 : Nat) (l : List Int) (hk2 : k2 = l.length) (hl : l.length ≤ 100000)
    (A3 : Option Addr) (c3 k3 : Nat) (k : List Int) (hk3 : k3 = k.length) (hk : k.length ≤ 100000) (w : World)
    (hM : Mat w w.heap.size A (rowsI D)) (hI : Ints w w.heap.size A2 l) (hI3 : Ints w w.heap.size A3 k) :
    Calls Try.prog 23 #[.slice A kD c, .slice A2 k2 c2, .slice A3 k3 c3] w fun e w' => ∃ A' c', e = .returned (.slice A' (readyL D l k).length c') ∧ Ints w' w'.heap.size A' (natsI (readyL D l k)) ∧ Below w.heap.size w w' := by
  refine (callsIn_wide.1 (ready_in 4 (Nat.le_refl _) A c kD D hkD hD A2 c2 k2 l hk2 hl A3 c3 k3 k hk3 hk w hM hI hI3)).mono ?_
  rintro e w' ⟨v, rfl, ho, hB⟩
  rw [natsV_intsV] at ho
  obtain ⟨A', c', rfl, _, _, hI'⟩ := own_ints ho
  exact ⟨A', c', by rw [length_natsI], hI', hB⟩
set_option maxRecDepth 100000 in
set_option maxHeartbeats 1000000 in
theorem ready_no (A : Option Addr) (c k : Nat) (R : List (List Int)) (hk : k = R.length) (hok : okB R = false) (v2 v3 : Value) (w : World) (hl : R.length ≤ 1000) (hr : ∀ k, k < R.length → (rowI R k).length ≤ 1000) (hM : Mat w w.heap.size A R) :
    Calls Try.prog 23 #[.slice A k c, v2, v3] w fun e w' => e = .returned (.slice none 0 0) ∧ Below w.heap.size w w' := by
  have hw0 : Below w.heap.size w (w.alloc (.cells #[.slice A k c] 22)) := (Below.refl _ _).alloc (Nat.le_refl _) _
  have H := Lib.hid (right_no A c k R hk hok (w.alloc (.cells #[.slice A k c] 22)) hl hr ((hM.below hw0).more (by simp)))
  clear hk hok hr hM
  go_enter Try.func23, Try.ntmps23
  go_wp2_with fail
  refine wp_scope_straight ?_
  go_wp2_with (go_at_call 16; refine H.out.mono ?_; rintro e w' ⟨rfl, rfl⟩)
  rw [Exit.noGoto_ret]
  go_ret
  exact ⟨rfl, hw0⟩
set_option maxRecDepth 100000 in
set_option maxHeartbeats 1000000 in
theorem refready_no (A : Option Addr) (c k : Nat) (R : List (List Int)) (hk : k = R.length) (hok : okB R = false) (v2 v3 : Value) (w : World) (hl : R.length ≤ 1000) (hr : ∀ k, k < R.length → (rowI R k).length ≤ 1000) (hM : Mat w w.heap.size A R) :
    Calls Try.prog 24 #[.slice A k c, v2, v3] w fun e w' => e = .returned (.slice none 0 0) ∧ w = w' := by
  have H := Lib.hid (refright_no A c k R hk hok w hl hr hM)
  clear hk hok hr hM
  go_enter Try.func24, Try.ntmps24
  go_wp2_with (go_at_call 17; refine H.out.mono ?_; rintro e w' ⟨rfl, rfl⟩)
  go_ret
  exact ⟨rfl, rfl⟩

/-- what is asked so far and not done -/
theorem ask_hit {m7 : Nat → Bool} {n y : Nat} {l : List Int} (hy : y < n) (h : m7 y = false) : askM m7 (markI n (l ++ [(y : Int)])) = fun z => askM m7 (markI n l) z || z == y := by
  funext z
  simp only [askM, markI_hit hy]
  by_cases e : z = y
  · subst e; simp [h]
  · have : (z == y) = false := by simp [e]
    simp [this]
theorem ask_done {m7 : Nat → Bool} {n y : Nat} {l : List Int} (hy : y < n) (h : m7 y = true) : askM m7 (markI n (l ++ [(y : Int)])) = askM m7 (markI n l) := by
  funext z
  simp only [askM, markI_hit hy]
  by_cases e : z = y
  · subst e; simp [h]
  · have : (z == y) = false := by simp [e]
    simp [this]
theorem marksN_put (n : Nat) (m : Nat → Bool) (x : Nat) (v : Bool) : (marksN n m).set x (.bool v) = marksN n fun y => if y = x then v else m y := by
  apply List.ext_getElem
  · simp [marksN]
  · intro i h1 h2
    rw [List.getElem_set]
    by_cases e : x = i
    · subst e; simp [marksN]
    · rw [if_neg e]
      simp [marksN, Ne.symm e]
theorem MarksN.put {w : World} {g n : Nat} {m : Nat → Bool} (h : MarksN w g n m) (x : Nat) (v : Bool) : MarksN (w.setCell ⟨g, x, none⟩ (.bool v)) g n (fun y => if y = x then v else m y) := by
  have := BlkIs.set_ h x (.bool v); rw [marksN_put] at this; exact this
theorem MarksN.other {w : World} {g g' o n : Nat} {m : Nat → Bool} (h : MarksN w g n m) (hne : g ≠ g') (v : Value) : MarksN (w.setCell ⟨g', o, none⟩ v) g n m := BlkIs.other h hne v
/-- the marks while a row is asked to its q-th number -/
def rowQ (c0 : Nat → Bool) (m7 : Nat → Bool) (x : Nat) (l : List Nat) : Nat → Bool := fun y => if y = x then c0 x && l.all (fun d => m7 d || c0 d) else c0 y
theorem rowQ_nil (c0 m7 : Nat → Bool) (x : Nat) : rowQ c0 m7 x [] = c0 := by funext y; unfold rowQ; split <;> simp [*]
theorem rowQ_snoc {c0 m7 : Nat → Bool} {x d : Nat} {l : List Nat} : (fun y => if y = x then rowQ c0 m7 x l x && (m7 d || c0 d) else rowQ c0 m7 x l y) = rowQ c0 m7 x (l ++ [d]) := by
  funext y; unfold rowQ; split
  · simp [List.all_append, Bool.and_assoc]
  · rfl

set_option maxRecDepth 100000 in
set_option maxHeartbeats 4000000 in
theorem refready_yes (A : Option Addr) (c kD : Nat) (D : List (List Nat)) (hkD : kD = D.length) (hD : OkD D) (A2 : Option Addr) (c2 k2 : Nat) (l : List Int) (hk2 : k2 = l.length) (hl : l.length ≤ 100000)
    (A3 : Option Addr) (c3 k3 : Nat) (k : List Int) (hk3 : k3 = k.length) (hk : k.length ≤ 100000) (w : World)
    (hM : Mat w w.heap.size A (rowsI D)) (hI : Ints w w.heap.size A2 l) (hI3 : Ints w w.heap.size A3 k) :
    Calls Try.prog 24 #[.slice A kD c, .slice A2 k2 c2, .slice A3 k3 c3] w fun e w' => ∃ v, e = .returned v ∧ w'.ownsRow w.heap.size 3 1 v (readyL D l k).length (natsV (readyL D l k)) ∧ Below w.heap.size w w' := by
  subst hkD hk2 hk3
  have HR := Lib.hid (refright_yes A c D.length D rfl hD w hM)
  obtain ⟨M, hMl, hmk⟩ := make_bools D.length hD.right.1
  have HMl := Lib.hid hMl
  have HM := Lib.hid hM
  have HI := Lib.hid hI
  have HI3 := Lib.hid hI3
  have HDo := Lib.hid hD
  have hD256 := hD.right.1
  have HL := Lib.hid (readyL_eq hD.right l k)
  clear hMl hM hI hI3 hD
  go_enter Try.func24, Try.ntmps24
  go_wp2_with (go_at_call 17; refine HR.out.mono ?_; rintro e w' ⟨rfl, rfl⟩)
  clear hmk
  go_loopw [9] (fun i wr => ∃ p : Nat, p ≤ l.length ∧ i = .int .i64 p ∧ MarksN wr (w.heap.size + 1) D.length (markI D.length (l.take p)) ∧ MarksN wr w.heap.size D.length (fun _ => false) ∧ Below w.heap.size w wr) (fun i _ => l.length - (intOf i).toNat)
  case atStart =>
    refine ⟨0, Nat.zero_le _, rfl, ?_, BlkIs.alloc (MarksN.made w _ M HMl.out) _, ((Below.refl _ _).alloc (Nat.le_refl _) _).alloc (by simp) _⟩
    rw [List.take_zero, markI_nil]
    have := MarksN.made (w.alloc (.cells M 4)) _ M HMl.out
    simpa only [World.size_alloc] using this
  case round =>
    obtain ⟨p, hp, rfl, hmk, hmz, hB⟩ := hrel
    rename World => wr
    by_cases hlt : p < l.length
    · have hlti : (p : Int) < (l.length : Int) := by omega
      have hp0 : (0 : Int) ≤ (p : Int) := by omega
      obtain ⟨b, off, rfl, hb, hcw⟩ := HI.out.at_ hlt
      have hc := (Below.cell hB (p := ⟨b, off + p, none⟩) hb).trans hcw
      have Htk := Lib.hid (take_nth l p hlt)
      obtain ⟨x, hx⟩ : ∃ x, x = nth l p := ⟨_, rfl⟩
      rw [← hx] at hc Htk
      have Hmk := Lib.hid hmk
      have Hmz := Lib.hid hmz
      clear hmk hmz hx hcw
      by_cases hx0 : 0 ≤ x
      · by_cases hxn : x < (D.length : Int)
        · obtain ⟨y, rfl⟩ := Int.eq_ofNat_of_zero_le hx0
          have hyn : y < D.length := by omega
          have hcell := Hmk.out.cell hyn
          have hfr := BlkIs.frozen Hmk.out y
          go_wp2_with fail
          go_roundw
          case rel =>
            refine ⟨p + 1, by omega, by go_num, ?_, Hmz.out.other (by omega) _, hB.setCell (p := ⟨w.heap.size + 1, y, none⟩) (by show w.heap.size ≤ w.heap.size + 1; omega) _⟩
            rw [Htk.out, markI_hit hyn]
            exact Hmk.out.set_ y
          case measure => simp [intOf]; omega
        · have Hno : Hid (markI D.length (l.take p ++ [x]) = markI D.length (l.take p)) := markI_miss (fun h => hxn h.2)
          go_wp2_with fail
          go_roundw
          case rel => exact ⟨p + 1, by omega, by go_num, by rw [Htk.out, Hno.out]; exact Hmk.out, Hmz.out, hB⟩
          case measure => simp [intOf]; omega
      · have Hno : Hid (markI D.length (l.take p ++ [x]) = markI D.length (l.take p)) := markI_miss (fun h => hx0 h.1)
        have hx1 : x < 0 := by omega
        go_wp2_with fail
        go_roundw
        case rel => exact ⟨p + 1, by omega, by go_num, by rw [Htk.out, Hno.out]; exact Hmk.out, Hmz.out, hB⟩
        case measure => simp [intOf]; omega
    · have hlti : ¬ (p : Int) < (l.length : Int) := by omega
      obtain rfl : p = l.length := by omega
      rw [List.take_length] at hmk
      obtain ⟨m7, hm7⟩ : ∃ m, m = markI D.length l := ⟨_, rfl⟩
      rw [← hm7] at hmk
      have Hm7 := Lib.hid hm7
      have Hmk := Lib.hid hmk
      have Hmz := Lib.hid hmz
      have HB := Lib.hid hB
      have h7 : ∀ x, m7 x = true → x < D.length := fun x h => by rw [hm7] at h; exact markI_lt h
      have H7 := Lib.hid h7
      clear hm7 hmk hmz hB h7
      go_wp2_with fail
      go_loopw [10] (fun i w2 => ∃ p : Nat, p ≤ k.length ∧ i = .int .i64 p ∧ MarksN w2 (w.heap.size + 1) D.length m7 ∧ MarksN w2 w.heap.size D.length (askM m7 (markI D.length (k.take p))) ∧ Below w.heap.size w w2) (fun i _ => k.length - (intOf i).toNat)
      case atStart =>
        refine ⟨0, Nat.zero_le _, rfl, Hmk.out, ?_, HB.out⟩
        rw [List.take_zero, markI_nil]
        have : askM m7 (fun _ => false) = fun _ => false := by funext x; simp [askM]
        rw [this]
        exact Hmz.out
      case round =>
        obtain ⟨p, hp, rfl, hmk2, hmz2, hB2⟩ := hrel
        rename World => w2
        by_cases hlt2 : p < k.length
        · have hlti : (p : Int) < (k.length : Int) := by omega
          have hp0 : (0 : Int) ≤ (p : Int) := by omega
          obtain ⟨b, off, rfl, hb, hcw⟩ := HI3.out.at_ hlt2
          have hc := (Below.cell hB2 (p := ⟨b, off + p, none⟩) hb).trans hcw
          have Htk := Lib.hid (take_nth k p hlt2)
          obtain ⟨x, hx⟩ : ∃ x, x = nth k p := ⟨_, rfl⟩
          rw [← hx] at hc Htk
          have Hmk2 := Lib.hid hmk2
          have Hmz2 := Lib.hid hmz2
          clear hmk2 hmz2 hx hcw
          by_cases hx0 : 0 ≤ x
          · by_cases hxn : x < (D.length : Int)
            · obtain ⟨y, rfl⟩ := Int.eq_ofNat_of_zero_le hx0
              have hyn : y < D.length := by omega
              have hcell := Hmk2.out.cell hyn
              cases h7y : m7 y with
              | false =>
                have hcell2 := Hmz2.out.cell hyn
                have hfr := BlkIs.frozen Hmz2.out y
                have Hah := Lib.hid (ask_hit (n := D.length) (l := k.take p) hyn h7y)
                rw [h7y] at hcell
                clear h7y
                go_wp2_with fail
                go_roundw
                case rel =>
                  refine ⟨p + 1, by omega, by go_num, Hmk2.out.other (by omega) _, ?_, hB2.setCell (p := ⟨w.heap.size, y, none⟩) (Nat.le_refl _) _⟩
                  rw [Htk.out, Hah.out]
                  exact Hmz2.out.set_ y
                case measure => simp [intOf]; omega
              | true =>
                have Hah := Lib.hid (ask_done (n := D.length) (l := k.take p) hyn h7y)
                rw [h7y] at hcell
                clear h7y
                go_wp2_with fail
                go_roundw
                case rel => exact ⟨p + 1, by omega, by go_num, Hmk2.out, by rw [Htk.out, Hah.out]; exact Hmz2.out, hB2⟩
                case measure => simp [intOf]; omega
            · have Hno : Hid (markI D.length (k.take p ++ [x]) = markI D.length (k.take p)) := markI_miss (fun h => hxn h.2)
              go_wp2_with fail
              go_roundw
              case rel => exact ⟨p + 1, by omega, by go_num, Hmk2.out, by rw [Htk.out, Hno.out]; exact Hmz2.out, hB2⟩
              case measure => simp [intOf]; omega
          · have Hno : Hid (markI D.length (k.take p ++ [x]) = markI D.length (k.take p)) := markI_miss (fun h => hx0 h.1)
            have hx1 : x < 0 := by omega
            go_wp2_with fail
            go_roundw
            case rel => exact ⟨p + 1, by omega, by go_num, Hmk2.out, by rw [Htk.out, Hno.out]; exact Hmz2.out, hB2⟩
            case measure => simp [intOf]; omega
        · have hlti : ¬ (p : Int) < (k.length : Int) := by omega
          obtain rfl : p = k.length := by omega
          rw [List.take_length] at hmz2
          obtain ⟨m8, hm8⟩ : ∃ m, m = markI D.length k := ⟨_, rfl⟩
          rw [← hm8] at hmz2
          have Hm8 := Lib.hid hm8
          have Hmk2 := Lib.hid hmk2
          have Hmz2 := Lib.hid hmz2
          have HB2 := Lib.hid hB2
          clear hm8 hmk2 hmz2 hB2 Hmk Hmz
          go_wp2_with fail
          go_loopw [11] (fun i w3 => ∃ j : Nat, j ≤ D.length ∧ i = .int .i64 j ∧ MarksN w3 (w.heap.size + 1) D.length m7 ∧ MarksN w3 w.heap.size D.length (accT D m7 m8 j) ∧ Below w.heap.size w w3) (fun i _ => D.length - (intOf i).toNat)
          case atStart => exact ⟨0, Nat.zero_le _, rfl, Hmk2.out, Hmz2.out, HB2.out⟩
          case round =>
            obtain ⟨x, hxle, rfl, hmk3, hmz3, hB3⟩ := hrel
            rename World => w3
            by_cases hxD : x < D.length
            · have hxi : (x : Int) < (D.length : Int) := by omega
              have hx256 : (x : Int) < 256 := by omega
              have hx0 : (0 : Int) ≤ (x : Int) := by omega
              obtain ⟨b, off, Ak, ck, rfl, hb, hcw, hIw⟩ := HM.out.at_ (k := x) (by rw [length_rowsI]; exact hxD)
              rw [rowI_rowsI, length_natsI] at hcw
              rw [rowI_rowsI] at hIw
              have hrl := HDo.out.len x
              have hrlt := HDo.out.right.2 x
              obtain ⟨c0, hc0⟩ : ∃ c0, c0 = accT D m7 m8 x := ⟨_, rfl⟩
              have hend : accT D m7 m8 (x + 1) = rowQ c0 m7 x (rowN D x) := by rw [hc0]; rfl
              obtain ⟨row, hrow⟩ : ∃ row, row = rowN D x := ⟨_, rfl⟩
              rw [← hrow] at hcw hIw hrl hrlt hend
              rw [← hc0] at hmz3
              have hc := (Below.cell hB3 (p := ⟨b, off + x, none⟩) hb).trans hcw
              have Hend := Lib.hid hend
              have Hcw := Lib.hid hcw
              have HIw := Lib.hid hIw
              have Hrlt := Lib.hid hrlt
              have Hmk3 := Lib.hid hmk3
              have Hmz3 := Lib.hid hmz3
              have HB3 := Lib.hid hB3
              clear hcw hIw hrlt hrow hc0 hmk3 hmz3 hB3 hend
              go_wp2_with fail
              go_loopw [12] (fun i w4 => ∃ q : Nat, q ≤ row.length ∧ i = .int .i64 q ∧ MarksN w4 (w.heap.size + 1) D.length m7 ∧ MarksN w4 w.heap.size D.length (rowQ c0 m7 x (row.take q)) ∧ Below w.heap.size w w4) (fun i _ => row.length - (intOf i).toNat)
              case atStart => exact ⟨0, Nat.zero_le _, rfl, Hmk3.out, by rw [List.take_zero, rowQ_nil]; exact Hmz3.out, HB3.out⟩
              case round =>
                obtain ⟨q, hq, rfl, hmk4, hmz4, hB4⟩ := hrel
                rename World => w4
                have hcR := (Below.cell hB4 (p := ⟨b, off + x, none⟩) hb).trans Hcw.out
                by_cases hltq : q < row.length
                · have hltqi : (q : Int) < (row.length : Int) := by omega
                  have hq0 : (0 : Int) ≤ (q : Int) := by omega
                  obtain ⟨bj, oj, rfl, hbj, hcj⟩ := HIw.out.at_ (k := q) (by rw [length_natsI]; exact hltq)
                  rw [nth_nats row q hltq] at hcj
                  have hc3 := (Below.cell hB4 (p := ⟨bj, oj + q, none⟩) hbj).trans hcj
                  have htk := take_el row q hltq
                  have hdx := Hrlt.out (el row q) (by rw [el_lt hltq]; exact List.getElem_mem _)
                  obtain ⟨d, hd⟩ : ∃ d, d = el row q := ⟨_, rfl⟩
                  rw [← hd] at hc3 htk hdx
                  have Htk := Lib.hid htk
                  have hdi : (d : Int) < (D.length : Int) := by omega
                  have hd0 : (0 : Int) ≤ (d : Int) := by omega
                  have hcx := hmz4.cell hxD
                  have hcd7 := hmk4.cell (x := d) (by omega)
                  have hcd := hmz4.cell (x := d) (by omega)
                  have hdd : rowQ c0 m7 x (row.take q) d = c0 d := by unfold rowQ; rw [if_neg (by omega)]
                  rw [hdd] at hcd
                  have hfr := BlkIs.frozen hmz4 x
                  have Hsn := Lib.hid (@rowQ_snoc c0 m7 x d (row.take q))
                  obtain ⟨cx, hcxe⟩ : ∃ cx, cx = rowQ c0 m7 x (row.take q) x := ⟨_, rfl⟩
                  rw [← hcxe] at hcx Hsn
                  have Hmk4 := Lib.hid hmk4
                  have Hmz4 := Lib.hid hmz4
                  have HB4 := Lib.hid hB4
                  clear htk hd hcj hmk4 hmz4 hB4 hc hdd hcxe
                  cases cx with
                  | false =>
                    have Hp := Lib.hid (Hmz4.out.put x false)
                    go_wp2_with fail
                    go_roundw
                    case rel =>
                      refine ⟨q + 1, by omega, by go_num, Hmk4.out.other (by omega) _, ?_, HB4.out.setCell (p := ⟨w.heap.size, x, none⟩) (Nat.le_refl _) _⟩
                      rw [Htk.out, ← Hsn.out]
                      simpa using Hp.out
                    case measure => simp [intOf]; omega
                  | true =>
                    cases h7d : m7 d with
                    | true =>
                      have Hp := Lib.hid (Hmz4.out.put x true)
                      have H7d := Lib.hid h7d
                      rw [h7d] at hcd7
                      clear h7d
                      go_wp2_with fail
                      go_roundw
                      case rel =>
                        refine ⟨q + 1, by omega, by go_num, Hmk4.out.other (by omega) _, ?_, HB4.out.setCell (p := ⟨w.heap.size, x, none⟩) (Nat.le_refl _) _⟩
                        rw [Htk.out, ← Hsn.out, H7d.out]
                        simpa using Hp.out
                      case measure => simp [intOf]; omega
                    | false =>
                      have Hp := Lib.hid (Hmz4.out.put x (c0 d))
                      have H7d := Lib.hid h7d
                      rw [h7d] at hcd7
                      clear h7d
                      go_wp2_with fail
                      go_roundw
                      case rel =>
                        refine ⟨q + 1, by omega, by go_num, Hmk4.out.other (by omega) _, ?_, HB4.out.setCell (p := ⟨w.heap.size, x, none⟩) (Nat.le_refl _) _⟩
                        rw [Htk.out, ← Hsn.out, H7d.out]
                        simpa using Hp.out
                      case measure => simp [intOf]; omega
                · have hltqi : ¬ (q : Int) < (row.length : Int) := by omega
                  obtain rfl : q = row.length := by omega
                  rw [List.take_length] at hmz4
                  have Hmk4 := Lib.hid hmk4
                  have Hmz4 := Lib.hid hmz4
                  have HB4 := Lib.hid hB4
                  clear hmk4 hmz4 hB4 hc
                  go_wp2_with fail
                  go_roundw
                  case rel => exact ⟨x + 1, by omega, by go_num, Hmk4.out, by rw [Hend.out]; exact Hmz4.out, HB4.out⟩
                  case measure => simp [intOf]; omega
            · have hxe : x = D.length := by omega
              have hxi : ¬ (x : Int) < (D.length : Int) := by omega
              rw [hxe] at hmz3
              have Hth := Lib.hid (those_any w.heap.size D.length D.length _ w3 hD256 hmz3)
              have Hac : Hid (accT D m7 m8 D.length = accD D l k) := by unfold Hid accD; rw [Hm7.out, Hm8.out]
              have HB3 := Lib.hid hB3
              clear hmk3 hmz3 hB3 hxe
              go_wp2_with fail
              refine Hth.out.mono ?_
              rintro e w5 ⟨v5, rfl, hown, hB5⟩
              rw [Hac.out, ← HL.out] at hown
              have HO := Lib.hid (own_mono hown HB3.out.size)
              have HB5 := Lib.hid (HB3.out.trans (hB5.mono HB3.out.size))
              clear hown hB5
              go_wp2_with fail
              go_ret
              exact ⟨_, rfl, HO.out, HB5.out⟩
end Go.Proofs.Ytmekffcpbjmffaa
