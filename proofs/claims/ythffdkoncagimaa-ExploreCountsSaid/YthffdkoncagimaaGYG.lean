/- Contract of the document's Ups: rows of marks, what comes ahead of each number. -/
import Derived.Test.YthffdkoncagimaaGYF
namespace Go.Proofs.Ythffdkoncagimaa
set_option linter.unusedVariables false
set_option linter.unusedSimpArgs false
set_option maxRecDepth 100000
open Go.RowKit
theorem own_lay {w w1 : World} {base : Nat} {e : TypeId} {size : Nat} {v : Value} {n : Nat} {xs : List Value} (h : w.ownsRow base e size v n xs) (hb : Below w.heap.size w w1) : w1.ownsRow base e size v n xs := by
  refine ⟨h.1, ?_⟩
  rcases h.2 with h | ⟨g, cap, cur, h1, h2, h3, h4⟩
  · exact .inl h
  · exact .inr ⟨g, cap, cur, h1, h2, (hb.block g (Array.getElem?_eq_some_iff.1 h3).1).trans h3, h4⟩


theorem mem_natsI' {p : List Nat} {a : Int} : a ∈ natsI p ↔ ∃ x : Nat, a = x ∧ x ∈ p := by
  constructor
  · intro h
    obtain ⟨i, hi, e⟩ := List.mem_map.1 h
    exact ⟨i, e.symm, hi⟩
  · rintro ⟨x, rfl, h⟩; exact mem_natsI.2 h
theorem befB_close {D : List (List Nat)} (hD : Right D) {a b : Int} (hab : a ≠ b) (hb : isN D b = true) : decide (a ∈ natsI (closeL D [b])) = befB D a b := by
  have hm : ∀ x, markI D.length [b] x = true → x < D.length := fun x h => markI_lt h
  rw [Bool.eq_iff_iff]
  rw [decide_eq_true_iff, mem_natsI']
  unfold befB
  constructor
  · rintro ⟨x, rfl, hx⟩
    have hlt := closeL_lt hx
    have hN : isN D (x : Int) = true := by unfold isN; simp; exact hlt
    have hne : ((x : Int) == b) = false := by simp [hab]
    rw [hN, hb, hne, Int.toNat_natCast, (upM_iff hD.2 (fun y h => Nat.lt_of_lt_of_le (hm y h) hD.1) x).2 ((mem_closeL hD).1 hx)]
    rfl
  · intro h
    simp only [Bool.and_eq_true] at h
    obtain ⟨⟨⟨ha, _⟩, _⟩, hu⟩ := h
    simp only [isN, Bool.and_eq_true, decide_eq_true_eq] at ha
    refine ⟨a.toNat, by omega, (mem_closeL hD).2 ((upM_iff hD.2 (fun y h => Nat.lt_of_lt_of_le (hm y h) hD.1) _).1 hu)⟩
theorem befB_same (D : List (List Nat)) (a : Int) : befB D a a = false := by simp [befB]
theorem befB_iff {D : List (List Nat)} (hD : Right D) {a b : Int} : befB D a b = true ↔ ∃ x y : Nat, a = x ∧ b = y ∧ Must D x y := by
  have hm : ∀ x, markI D.length [b] x = true → x < D.length := fun x h => markI_lt h
  unfold befB isN
  simp only [Bool.and_eq_true, decide_eq_true_eq, Bool.not_eq_true', beq_eq_false_iff_ne]
  rw [upM_iff hD.2 (fun x h => Nat.lt_of_lt_of_le (hm x h) hD.1)]
  constructor
  · rintro ⟨⟨⟨⟨h1, h2⟩, h3, h4⟩, h5⟩, h6⟩
    refine ⟨a.toNat, b.toNat, by omega, by omega, ?_⟩
    rcases h6 with h | ⟨y, hy, hk⟩
    · have := (markI_iff.1 h).2
      simp at this; omega
    · have := (markI_iff.1 hy).2
      simp at this
      have e : y = b.toNat := by omega
      rw [← e]; exact hk
  · rintro ⟨x, y, rfl, rfl, hk⟩
    have := hk.lt hD
    exact ⟨⟨⟨⟨by omega, by omega⟩, by omega, by omega⟩, by omega⟩, .inr ⟨y, markI_iff.2 ⟨this.2, by simp⟩, by simpa using hk⟩⟩

theorem marksN_put (n : Nat) (m : Nat → Bool) (x : Nat) (v : Bool) : (marksN n m).set x (.bool v) = marksN n fun y => if y = x then v else m y := by
  apply List.ext_getElem
  · simp [marksN]
  · intro i h1 h2
    rw [List.getElem_set]
    by_cases e : x = i
    · subst e; simp [marksN]
    · rw [if_neg e]
      simp [marksN, Ne.symm e]
theorem MarksN.put {w : World} {g n : Nat} {m : Nat → Bool} (h : MarksN w g n m) (x : Nat) (v : Bool) : MarksN (w.setCell ⟨g, x, none⟩ (.bool v)) g n (fun y => if y = x then v else m y) := by
  have := BlkIs.set_ h x (.bool v); rw [marksN_put] at this; exact this
theorem MarksN.other {w : World} {g g' o n : Nat} {m : Nat → Bool} (h : MarksN w g n m) (hne : g ≠ g') (v : Value) : MarksN (w.setCell ⟨g', o, none⟩ v) g n m := BlkIs.other h hne v
theorem info57 : (Try.prog.info? 57).map (fun i => (i.zero, i.size, i.bytes)) = some (some (.slice none 0 0), 1, 24) := by kernel_rfl
theorem MarksN.drew {w : World} {g n : Nat} {m : Nat → Bool} (h : MarksN w g n m) : MarksN w.drew g n m := h
theorem own_drew {w : World} {base : Nat} {e : TypeId} {size : Nat} {v : Value} {n : Nat} {xs : List Value} (h : w.ownsRow base e size v n xs) : w.drew.ownsRow base e size v n xs := h
theorem BlkIs.not_row {W : World} {B : Nat} {t e : TypeId} {l : List Value} (h : BlkIs W B t l) (hte : t ≠ e) {base size k : Nat} {v : Value} {xs : List Value} (hr : W.ownsRow base e size v k xs) : some B ≠ v.ownBlock := by
  rcases hr.2 with ⟨rfl, _⟩ | ⟨g, cap, cur, rfl, _, hgb, _⟩
  · simp [Value.ownBlock]
  · intro e'
    obtain rfl : B = g := by simpa [Value.ownBlock] using e'
    have := (show W.heap[B]? = _ from h).symm.trans hgb
    simp at this
    exact hte this.2
/-- rows of marks -/
def MatB (w : World) (A : Option Addr) (n : Nat) (m : Nat → Nat → Bool) : Prop :=
  ∀ k, k < n → ∃ b off g, A = some ⟨b, off, none⟩ ∧ b < w.heap.size ∧ w.cell? ⟨b, off + k, none⟩ = some (.slice (some ⟨g, 0, none⟩) n n) ∧ g < w.heap.size ∧ MarksN w g n (m k)
theorem MatB.next {w w' : World} {A : Option Addr} {n : Nat} {m : Nat → Nat → Bool} (h : MatB w A n m) (hb : Below w.heap.size w w') : MatB w' A n m := fun k hk => by
  obtain ⟨b, off, g, e, hbl, hc, hg, hM⟩ := h k hk
  exact ⟨b, off, g, e, Nat.lt_of_lt_of_le hbl hb.size, (Below.cell hb (p := ⟨b, off + k, none⟩) hbl).trans hc, Nat.lt_of_lt_of_le hg hb.size, BlkIs.below hM hb hg⟩
structure UpSt (w wr : World) (n : Nat) (m : Nat → Nat → Bool) (v : Value) (k : Nat) (xs : List Value) : Prop where
  own : wr.ownsRow w.heap.size 57 1 v k xs
  rows : ∀ j, j < k → ∃ g, xs[j]? = some (.slice (some ⟨g, 0, none⟩) n n) ∧ MarksN wr g n (m j)
  below : Below w.heap.size w wr
theorem UpSt.mat {w wr : World} {n : Nat} {m : Nat → Nat → Bool} {v : Value} {xs : List Value} (h : UpSt w wr n m v n xs) : ∃ A c, v = .slice A n c ∧ MatB wr A n m := by
  rcases h.own.2 with ⟨rfl, hn⟩ | ⟨g, cap, cur, rfl, hbg, hg, hnc, hcm, _⟩
  · subst hn; exact ⟨none, 0, rfl, fun k hk => by omega⟩
  · refine ⟨some ⟨g, 0, none⟩, cap, rfl, fun k hk => ?_⟩
    obtain ⟨gk, hx, hM⟩ := h.rows k hk
    refine ⟨g, 0, gk, rfl, (h.own.lt g rfl).2, ?_, BlkIs.lt hM, hM⟩
    rw [Nat.zero_add, h.own.cellAt k (by omega), hx]
/-- one row more -/
theorem UpSt.more {w wr w3 w4 : World} {n : Nat} {m : Nat → Nat → Bool} {v v' : Value} {k g : Nat} {xs : List Value} {tmp : Obj} (h : UpSt w wr n m v k xs) (hb : Below wr.heap.size wr w3) (hM : MarksN w3 g n (m k))
    (hown : w4.ownsRow w.heap.size 57 1 v' (k + 1) (xs ++ [.slice (some ⟨g, 0, none⟩) n n])) (hg : (w3.alloc tmp).grownBy w4 v.ownBlock) : UpSt w w4 n m v' (k + 1) (xs ++ [.slice (some ⟨g, 0, none⟩) n n]) := by
  have ho3 := own_lay h.own hb
  have hlen : xs.length = k := by have := h.own.1; omega
  have hB3 : Below w.heap.size w w3 := h.below.trans (hb.mono h.below.size)
  have key : ∀ {g' : Nat} {m' : Nat → Bool}, MarksN w3 g' n m' → MarksN w4 g' n m' := fun hm => BlkIs.kept (BlkIs.alloc hm tmp) hg (BlkIs.not_row hm (by decide) ho3)
  refine ⟨hown, fun j hj => ?_, hB3.trans (((Below.refl _ w3).alloc hB3.size _).grown hg (by simp; have := hB3.size; omega) (fun j e => (ho3.lt j e).1))⟩
  rcases Nat.lt_or_ge j k with hjk | hjk
  · obtain ⟨gj, hx, hMj⟩ := h.rows j hjk
    refine ⟨gj, ?_, key (BlkIs.below hMj hb (BlkIs.lt hMj))⟩
    rw [List.getElem?_append_left (by omega)]; exact hx
  · obtain rfl : j = k := by omega
    refine ⟨g, ?_, key hM⟩
    rw [List.getElem?_append_right (by omega)]; simp [hlen]
def UpsSays (w : World) (D : List (List Nat)) (e : Ending) (w' : World) : Prop := (∃ A' c', e = .returned (.slice A' D.length c') ∧ MatB w' A' D.length (fun k y => befB D y k)) ∧ Below w.heap.size w w'
def upM' (cl : List Nat) (k : Nat) : Nat → Bool := fun y => decide (y ∈ cl) && !(y == k)
theorem upM'_nil (k : Nat) : upM' [] k = fun _ => false := by funext y; simp [upM']
theorem upM'_snoc {cl : List Nat} {k d : Nat} {v : Bool} (hv : v = !(d == k)) : (fun y => if y = d then v else upM' cl k y) = upM' (cl ++ [d]) k := by
  funext y
  subst hv
  unfold upM'
  by_cases e : y = d
  · subst e; simp
  · simp [e]
theorem upM'_all {D : List (List Nat)} (hD : Right D) {k : Nat} (hk : k < D.length) : upM' (closeL D [(k : Int)]) k = fun y : Nat => befB D y k := by
  funext y
  unfold upM'
  by_cases e : y = k
  · subst e; simp [befB_same]
  · rw [← befB_close hD (a := (y : Int)) (b := (k : Int)) (by omega) (by unfold isN; simp; exact hk)]
    have : (y == k) = false := by simp [e]
    rw [this]
    simp [mem_natsI]
theorem own_cell {w : World} {B : Nat} {A : Option Addr} {n c : Nat} {l : List Nat} (h : w.ownsRow B 3 1 (.slice A n c) n (natsV l)) {j : Nat} (hj : j < l.length) : ∃ b off, A = some ⟨b, off, none⟩ ∧ b < w.heap.size ∧ w.cell? ⟨b, off + j, none⟩ = some (.int .i64 (el l j : Nat)) := by
  rw [natsV_intsV] at h
  obtain ⟨A', c', e, _, _, hI⟩ := own_ints h
  cases e
  obtain ⟨b, off, rfl, hb, hc⟩ := hI.at_ (k := j) (by rw [length_natsI]; exact hj)
  rw [nth_nats l j hj] at hc
  exact ⟨b, off, rfl, hb, hc⟩

theorem refclose_own (A : Option Addr) (c kD : Nat) (D : List (List Nat)) (hkD : kD = D.length) (hD : OkD D) (b : Int) (w : World) (hM : Mat w w.heap.size A (rowsI D)) :
    Calls Try.prog 42 #[.slice A kD c, .slice (some ⟨w.heap.size, 0, none⟩) 1 1] (w.alloc (.cells #[.int .i64 b] 3)) fun e w' => (∃ A' c', e = .returned (.slice A' (closeL D [b]).length c') ∧ w'.ownsRow w.heap.size 3 1 (.slice A' (closeL D [b]).length c') (closeL D [b]).length (natsV (closeL D [b]))) ∧ Below w.heap.size w w' := by
  have hB0 : Below w.heap.size w (w.alloc (.cells #[.int .i64 b] 3)) := (Below.refl _ _).alloc (Nat.le_refl _) _
  refine (refclose_yes A c kD D hkD hD (some ⟨w.heap.size, 0, none⟩) 1 1 [b] rfl (by simp) _ (Mat.next hM hB0) (Ints.one w b _ (by simp))).mono ?_
  rintro e w' ⟨v, rfl, hown, hB⟩
  have hown' := hown
  rw [natsV_intsV] at hown'
  obtain ⟨A', c', rfl, _, _, _⟩ := own_ints hown'
  rw [length_natsI] at hown ⊢
  exact ⟨⟨A', c', rfl, own_mono hown (by simp)⟩, hB0.trans (hB.mono (by simp))⟩

set_option maxRecDepth 100000 in
set_option maxHeartbeats 2000000 in
theorem ups_any (A : Option Addr) (c kD : Nat) (D : List (List Nat)) (hkD : kD = D.length) (hD : OkD D) (w : World) (hM : Mat w w.heap.size A (rowsI D)) :
    Calls Try.prog 31 #[.slice A kD c] w (UpsSays w D) := by
  obtain ⟨i0, hi, hz0, hz1, hz2⟩ := info_parts info57
  have hk256 : kD ≤ 256 := by have := hD.right.1; omega
  obtain ⟨M, hMl, hmk⟩ := make_bools kD hk256
  have HMl := Lib.hid hMl
  have HM := Lib.hid hM
  have HDo := Lib.hid hD
  have HkD := Lib.hid hkD
  clear hMl hM hD hkD
  go_enter Try.func31, Try.ntmps31
  go_wp2_with fail
  go_loopw [3, 4] (fun v i wr => ∃ (k : Nat) (xs : List Value), k ≤ kD ∧ i = .int .i64 k ∧ UpSt w wr kD (fun k y => befB D y k) v k xs) (fun _ i _ => kD - (intOf i).toNat)
  case atStart => exact ⟨0, [], Nat.zero_le _, rfl, ⟨World.ownsRow_nil _ _ _ _, fun j hj => by omega, Below.refl _ _⟩⟩
  case round =>
    obtain ⟨k, xs, hk, rfl, hS⟩ := hrel
    rename World => wr
    have HS := Lib.hid hS
    clear hS
    by_cases hlt : k < kD
    · have hlti : (k : Int) < (kD : Int) := by omega
      have hb1 : Below wr.heap.size wr (wr.alloc (.cells M 4)) := (Below.refl _ _).alloc (Nat.le_refl _) _
      have hcl0 := refclose_own A c kD D HkD.out HDo.out (k : Int) (wr.alloc (.cells M 4)) (Mat.next (Mat.next HM.out HS.out.below) hb1)
      simp only [World.size_alloc] at hcl0
      have Hcl := Lib.hid hcl0
      clear hcl0
      have hcs := length_closeL D HDo.out [(k : Int)]
      have Hall := Lib.hid (upM'_all HDo.out.right (k := k) (by rw [← HkD.out]; exact hlt))
      have hclt : ∀ x ∈ closeL D [(k : Int)], x < D.length := fun x hx => closeL_lt hx
      obtain ⟨cl, hcl⟩ : ∃ cl, cl = closeL D [(k : Int)] := ⟨_, rfl⟩
      rw [← hcl] at Hcl hcs Hall hclt
      have Hclt := Lib.hid hclt
      have HB1 := Lib.hid hb1
      clear hb1 hcl hclt
      go_wp2_with fail
      refine Hcl.out.mono ?_
      rintro e w2 ⟨⟨A6, c6, rfl, hown⟩, hB2⟩
      have hm2 : MarksN w2 wr.heap.size kD (fun _ => false) := BlkIs.below (MarksN.made wr kD M HMl.out) hB2 (by simp)
      have Hown := Lib.hid hown
      have Hm2 := Lib.hid hm2
      have HB2 := Lib.hid (HB1.out.trans (hB2.mono (Nat.le_succ _)))
      clear hown hm2 hB2 Hcl
      go_wp2_with fail
      clear hmk
      go_loopw [7] (fun i w3 => ∃ j : Nat, j ≤ cl.length ∧ i = .int .i64 j ∧ w3.ownsRow (wr.heap.size + 1) 3 1 (.slice A6 cl.length c6) cl.length (natsV cl) ∧ MarksN w3 wr.heap.size kD (upM' (cl.take j) k) ∧ Below wr.heap.size wr w3) (fun i _ => cl.length - (intOf i).toNat)
      case atStart =>
        refine ⟨0, Nat.zero_le _, rfl, ?_, ?_, HB2.out⟩
        · exact Hown.out
        · rw [List.take_zero, upM'_nil]; exact Hm2.out
      case round =>
        obtain ⟨j, hj, rfl, ho3, hm3, hB3⟩ := hrel
        rename World => w3
        have HB3 := Lib.hid hB3
        have Ho3 := Lib.hid ho3
        have Hm3 := Lib.hid hm3
        clear hB3 ho3 hm3
        by_cases hltj : j < cl.length
        · have hltji : (j : Int) < (cl.length : Int) := by omega
          have hj0 : (0 : Int) ≤ (j : Int) := by omega
          obtain ⟨b, off, rfl, hb, hc⟩ := own_cell Ho3.out hltj
          have htk := take_el cl j hltj
          have hdk := Hclt.out (el cl j) (by rw [el_lt hltj]; exact List.getElem_mem _)
          obtain ⟨d, hd⟩ : ∃ d, d = el cl j := ⟨_, rfl⟩
          rw [← hd] at hc htk hdk
          rw [← HkD.out] at hdk
          have Htk := Lib.hid htk
          have hdi : (d : Int) < (kD : Int) := by omega
          have hd0 : (0 : Int) ≤ (d : Int) := by omega
          have hcell := Hm3.out.cell hdk
          have hfr := BlkIs.frozen Hm3.out d
          clear htk hd
          by_cases hdk' : d = k
          · have hsn : Hid (upM' (cl.take (j + 1)) k = fun y => if y = d then false else upM' (cl.take j) k y) := by
              unfold Hid; rw [Htk.out, upM'_snoc (by simp [hdk'])]
            subst hdk'
            go_wp2_with fail
            go_region
            go_wp2_with fail
            go_roundw
            case rel =>
              refine ⟨j + 1, by omega, by go_num, ownsRow_setCell_below (own_drew Ho3.out) (a := ⟨wr.heap.size, d, none⟩) (Nat.lt_succ_self _) _, ?_, HB3.out.drew.setCell (p := ⟨wr.heap.size, d, none⟩) (Nat.le_refl _) _⟩
              rw [hsn.out]
              exact Hm3.out.drew.put d false
            case measure => simp [intOf]; omega
          · have hsn : Hid (upM' (cl.take (j + 1)) k = fun y => if y = d then true else upM' (cl.take j) k y) := by
              unfold Hid; rw [Htk.out, upM'_snoc (by simp [hdk'])]
            have Hbt : Hid (((d : Int) != (k : Int)) = true) := by unfold Hid; simp; omega
            go_wp2_with fail
            go_region
            go_wp2_with fail
            go_roundw
            case rel =>
              refine ⟨j + 1, by omega, by go_num, ownsRow_setCell_below (own_drew Ho3.out) (a := ⟨wr.heap.size, d, none⟩) (Nat.lt_succ_self _) _, ?_, HB3.out.drew.setCell (p := ⟨wr.heap.size, d, none⟩) (Nat.le_refl _) _⟩
              rw [hsn.out, Hbt.out]
              exact Hm3.out.drew.put d true
            case measure => simp [intOf]; omega
        · obtain rfl : j = cl.length := by omega
          have hm3 := Hm3.out
          rw [List.take_length, Hall.out] at hm3
          have Hmm := Lib.hid hm3
          have how := own_lay HS.out.own HB3.out
          have hsz : w.heap.size ≤ w3.heap.size := Nat.le_trans HS.out.below.size HB3.out.size
          clear hm3
          go_wp2_with (at_builtin; refine wpList_append_own _ rfl _ _ 54 rfl w.heap.size 57 i0 (.slice none 0 0) 1 24 Try.underlying54 hi hz0 hz1 hz2 rfl (by decide) _ _ _ rfl (how.alloc _) ⟨w3.heap.size, 0, none⟩ 1 1 [.slice (some ⟨wr.heap.size, 0, none⟩) kD kD] rfl rfl (cell_one_new _ _ _) (by simp [Value.oneCell']) (by unfold maxLen; omega) (by omega) (by simp; omega) ?_)
          intro v' w4 hown' hgrow _
          have HS4 := Lib.hid (HS.out.more HB3.out Hmm.out hown' hgrow)
          clear hown' hgrow how
          go_wp2_with fail
          go_roundw
          case rel => exact ⟨k + 1, _, by omega, by go_num, HS4.out⟩
          case measure => simp [intOf]; omega
    · obtain rfl : k = kD := by omega
      obtain ⟨A', c', rfl, hMb⟩ := HS.out.mat
      have HX : Hid (UpsSays w D (.returned (.slice A' k c')) wr) := by
        refine ⟨⟨A', c', by rw [HkD.out], ?_⟩, HS.out.below⟩
        rw [← HkD.out]; exact hMb
      clear hMb
      go_wp2_with fail
      go_ret
      exact HX.out
end Go.Proofs.Ythffdkoncagimaa
