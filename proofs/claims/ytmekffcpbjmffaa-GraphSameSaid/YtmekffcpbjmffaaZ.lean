/- What must come behind one; contract of Above; what Before says. -/
import Derived.Test.YtmekffcpbjmffaaJ
import Derived.Test.YtmekffcpbjmffaaYA
namespace Go.Proofs.Ytmekffcpbjmffaa
open Go.RowKit

theorem befB_iff {D : List (List Nat)} (hD : Right D) {a b : Int} : befB D a b = true ↔ ∃ x y : Nat, a = x ∧ b = y ∧ Must D x y := by
  have hm : ∀ x, markI D.length [b] x = true → x < D.length := fun x h => markI_lt h
  unfold befB isN
  simp only [Bool.and_eq_true, decide_eq_true_eq, Bool.not_eq_true', beq_eq_false_iff_ne]
  rw [upM_iff hD.2 (fun x h => Nat.lt_of_lt_of_le (hm x h) hD.1)]
  constructor
  · rintro ⟨⟨⟨⟨h1, h2⟩, h3, h4⟩, h5⟩, h6⟩
    refine ⟨a.toNat, b.toNat, by omega, by omega, ?_⟩
    rcases h6 with h | ⟨y, hy, hk⟩
    · have := (markI_iff.1 h).2
      simp at this; omega
    · have := (markI_iff.1 hy).2
      simp at this
      have e : y = b.toNat := by omega
      rw [← e]; exact hk
  · rintro ⟨x, y, rfl, rfl, hk⟩
    have := hk.lt hD
    exact ⟨⟨⟨⟨by omega, by omega⟩, by omega, by omega⟩, by omega⟩, .inr ⟨y, markI_iff.2 ⟨this.2, by simp⟩, by simpa using hk⟩⟩

def abT (D : List (List Nat)) (a : Nat) (m : Nat → Bool) : Nat → Nat → Bool
  | 0 => m
  | j + 1 => fun x => if x = a + 1 + j then abT D a m j x || (rowN D x).any (abT D a m j) else abT D a m j x
theorem Must.first {D : List (List Nat)} {a x : Nat} : Must D a x ↔ ∃ d ∈ rowN D x, a = d ∨ Must D a d := by
  constructor
  · intro h; obtain ⟨z, hz, hk⟩ := h.last; exact ⟨z, hz, hk⟩
  · rintro ⟨d, hd, rfl | hk⟩
    · exact .one hd
    · exact hk.trans (.one hd)
theorem abT_iff {D : List (List Nat)} (hD : Right D) (a : Nat) (m : Nat → Bool) (hm : ∀ x, m x = true ↔ x = a) (j x : Nat) : abT D a m j x = true ↔ x = a ∨ (x < a + 1 + j ∧ Must D a x) := by
  induction j generalizing x with
  | zero =>
    show m x = true ↔ _
    rw [hm]
    constructor
    · exact .inl
    · rintro (h | ⟨h, hk⟩)
      · exact h
      · have := (hk.lt hD).1; omega
  | succ j ih =>
    simp only [abT]
    split
    · rename_i e
      rw [Bool.or_eq_true, ih, List.any_eq_true]
      constructor
      · rintro ((h | ⟨h, hk⟩) | ⟨d, hd, h⟩)
        · exact .inl h
        · exact .inr ⟨by omega, hk⟩
        · refine .inr ⟨by omega, Must.first.2 ⟨d, hd, ?_⟩⟩
          rcases (ih d).1 h with h | ⟨_, hk⟩
          · exact .inl h.symm
          · exact .inr hk
      · rintro (h | ⟨_, hk⟩)
        · exact .inl (.inl h)
        · obtain ⟨d, hd, h⟩ := Must.first.1 hk
          have := hD.2 x d hd
          refine .inr ⟨d, hd, (ih d).2 ?_⟩
          rcases h with h | h
          · exact .inl h.symm
          · exact .inr ⟨by omega, h⟩
    · rename_i e
      rw [ih]
      constructor
      · rintro (h | ⟨h, hk⟩)
        · exact .inl h
        · exact .inr ⟨by omega, hk⟩
      · rintro (h | ⟨h, hk⟩)
        · exact .inl h
        · exact .inr ⟨by omega, hk⟩
/-- Above -/
def aboveL (D : List (List Nat)) (a : Int) : List Nat := listM D.length fun x => befB D a x
theorem mem_aboveL {D : List (List Nat)} (hD : Right D) {a : Int} {x : Nat} : x ∈ aboveL D a ↔ ∃ y : Nat, a = y ∧ Must D y x := by
  unfold aboveL
  rw [mem_listM, befB_iff hD]
  constructor
  · rintro ⟨_, y, z, e1, e2, hk⟩
    have : x = z := by omega
    rw [this]; exact ⟨y, e1, hk⟩
  · rintro ⟨y, e, hk⟩; exact ⟨(hk.lt hD).2, y, x, e, rfl, hk⟩
theorem above_list {D : List (List Nat)} (hD : Right D) (a : Nat) (m : Nat → Bool) (hm : ∀ x, m x = true ↔ x = a) : listM 256 (fun y => abT D a m (D.length - a - 1) y && !(y == a)) = aboveL D a := by
  refine rising_ext _ _ (listM_rising _ _) (listM_rising _ _) fun x => ?_
  have h256 := hD.1
  rw [mem_aboveL hD, mem_listM, Bool.and_eq_true, abT_iff hD a m hm]
  simp only [Bool.not_eq_true', beq_eq_false_iff_ne]
  constructor
  · rintro ⟨_, h | ⟨_, hk⟩, hne⟩
    · exact absurd h hne
    · exact ⟨a, rfl, hk⟩
  · rintro ⟨y, e, hk⟩
    have e : a = y := by omega
    subst e
    have := hk.lt hD
    exact ⟨by omega, .inr ⟨by omega, hk⟩, by omega⟩
theorem above_none {D : List (List Nat)} (hD : Right D) {a : Int} (h : isN D a = false) : aboveL D a = [] := by
  refine List.eq_nil_iff_forall_not_mem.2 fun x hx => ?_
  obtain ⟨y, e, hk⟩ := (mem_aboveL hD).1 hx
  have := hk.lt hD
  rw [Bool.eq_false_iff] at h
  exact h (by unfold isN; simp; omega)
/-- while a row is read to its q-th number -/
def anyQ (c0 : Nat → Bool) (x : Nat) (l : List Nat) : Nat → Bool := fun y => if y = x then c0 x || l.any c0 else c0 y
theorem anyQ_nil (c0 : Nat → Bool) (x : Nat) : anyQ c0 x [] = c0 := by funext y; unfold anyQ; split <;> simp [*]
theorem anyQ_snoc {c0 : Nat → Bool} {x d : Nat} {l : List Nat} : (fun y => if y = x then anyQ c0 x l x || c0 d else anyQ c0 x l y) = anyQ c0 x (l ++ [d]) := by
  funext y; unfold anyQ; split
  · simp [List.any_append, Bool.or_assoc]
  · rfl
theorem marksV_put (m : Nat → Bool) (x : Nat) (v : Bool) : (marksV m).set x (.bool v) = marksV fun y => if y = x then v else m y := by
  apply List.ext_getElem
  · simp [marksV]
  · intro i h1 h2
    rw [List.getElem_set]
    by_cases e : x = i
    · subst e; simp [marksV]
    · rw [if_neg e]
      simp [marksV, Ne.symm e]
theorem Marks.put {w : World} {g : Nat} {m : Nat → Bool} (h : Marks w g m) (x : Nat) (v : Bool) : Marks (w.setCell ⟨g, x, none⟩ (.bool v)) g (fun y => if y = x then v else m y) := by
  have := BlkIs.set_ h x (.bool v); rw [marksV_put] at this; exact this

set_option maxRecDepth 100000 in
set_option maxHeartbeats 1000000 in
theorem above_out (A : Option Addr) (c k : Nat) (R : List (List Int)) (hk : k = R.length) (hok : okB R = false) (a : Int) (w : World) (hl : R.length ≤ 1000) (hr : ∀ k, k < R.length → (rowI R k).length ≤ 1000) (hM : Mat w w.heap.size A R) :
    Calls Try.prog 27 #[.slice A k c, .int .i64 a] w fun e w' => e = .returned (.slice none 0 0) ∧ w = w' := by
  have H := Lib.hid (right_no A c k R hk hok w hl hr hM)
  clear hk hok hr hM
  go_enter Try.func27, Try.ntmps27
  go_wp2_with (go_at_call 16; refine H.out.mono ?_; rintro e w' ⟨rfl, rfl⟩)
  go_ret
  exact ⟨rfl, rfl⟩

def AboveSays (w : World) (D : List (List Nat)) (a : Int) (e : Ending) (w' : World) : Prop := ∃ A' c', e = .returned (.slice A' (aboveL D a).length c') ∧ Ints w' w'.heap.size A' (natsI (aboveL D a)) ∧ Below w.heap.size w w'

set_option maxRecDepth 100000 in
set_option maxHeartbeats 2000000 in
theorem above_yes (A : Option Addr) (c kD : Nat) (D : List (List Nat)) (hkD : kD = D.length) (hD : OkD D) (a : Int) (w : World)
    (hM : Mat w w.heap.size A (rowsI D)) :
    Calls Try.prog 27 #[.slice A kD c, .int .i64 a] w (AboveSays w D a) := by
  have HR := Lib.hid (right_yes A c kD D hkD hD w hM)
  have HkD := Lib.hid hkD
  cases ha : isN D a with
  | false =>
    have Hf : Hid (AboveSays w D a (.returned (.slice none 0 0)) w) := ⟨none, 0, by rw [above_none hD.right ha]; rfl, by rw [above_none hD.right ha]; exact Ints.nil, Below.refl _ _⟩
    have Ha := Lib.hid ha
    clear ha hM hkD
    go_enter Try.func27, Try.ntmps27
    go_wp2_with (first | (go_at_call 16; refine HR.out.mono ?_; rintro e w' ⟨rfl, rfl⟩) | (go_at_call 38; ((with_reducible refine (there_is A c kD D HkD.out a false Ha.out _).mono ?_); rintro e w' ⟨rfl, rfl⟩)))
    go_ret
    exact Hf.out
  | true =>
    have Ha := Lib.hid ha
    simp only [isN, Bool.and_eq_true, decide_eq_true_eq] at ha
    obtain ⟨x, hx⟩ : ∃ x : Nat, a = x := ⟨a.toNat, by omega⟩
    subst hx
    have hxD : x < D.length := by omega
    have hD256 := hD.right.1
    have hx256 : x < 256 := by omega
    have hxi : (x : Int) < 256 := by omega
    have hx0 : (0 : Int) ≤ (x : Int) := by omega
    obtain ⟨hz, hs⟩ := zero_of_info (P := Try.prog) info51
    obtain ⟨Z, hZ⟩ : ∃ Z, Z = zero51 := ⟨_, rfl⟩
    rw [← hZ] at hz
    have HMk := Lib.hid (mark_one A kD c D hkD hD.right.1 (x : Int) w)
    have hmx : ∀ y, markI D.length [(x : Int)] y = true ↔ y = x := fun y => by rw [markI_iff]; simp; omega
    obtain ⟨m, hm⟩ : ∃ m, m = markI D.length [(x : Int)] := ⟨_, rfl⟩
    rw [← hm] at HMk hmx
    have HL := Lib.hid (above_list hD.right x m hmx)
    obtain ⟨Tm, hT⟩ : ∃ Tm, Tm = (marksV m).toArray := ⟨_, rfl⟩
    have hTs : Tm.size = 256 := by rw [hT]; simp [length_marksV]
    have H1 : Hid (∀ v ∈ Tm.toList, v.oneCell' = true) := by unfold Hid; rw [hT]; exact marksV_one _
    have Hs51 : Hid ((Try.prog.info? 51).map (·.size) = some Tm.size) := by unfold Hid; rw [hs, hTs]
    have HZl : Hid (Z.size = Tm.size) := by unfold Hid; rw [hTs, hZ]; rfl
    have HT := Lib.hid hT
    rw [← hT] at HMk
    have HM := Lib.hid hM
    have HDo := Lib.hid hD
    have hkn : (kD : Int) = (D.length : Int) := by rw [hkD]
    have hkn1 : (kD : Int) ≤ (D.length : Int) := by omega
    have hkn2 : (D.length : Int) ≤ (kD : Int) := by omega
    clear hZ hs hm hmx hT hTs ha hM hkD hD hkn
    go_enter Try.func27, Try.ntmps27
    go_wp2_with (first | (go_at_call 16; refine HR.out.mono ?_; rintro e w' ⟨rfl, rfl⟩) | (go_at_call 38; ((with_reducible refine (there_is A c kD D HkD.out (x : Int) true Ha.out _).mono ?_); rintro e w' ⟨rfl, rfl⟩)))
    refine HMk.out.mono ?_
    rintro e w1 ⟨rfl, hB1⟩
    go_wp2_with (refine wpList_store_new rfl 51 (.tmp 5) (.tmp 21) rfl w1.heap.size rfl Tm Z rfl rfl Hs51.out HZl.out H1.out ?_)
    have hM1 : Marks (w1.alloc (.cells Tm 51)) w1.heap.size m := by
      have := BlkIs.new w1 51 Tm
      rw [HT.out] at this ⊢
      exact this
    have hB2 : Below w.heap.size w (w1.alloc (.cells Tm 51)) := hB1.alloc hB1.size _
    have hg := hB1.size
    obtain ⟨g, hge⟩ : ∃ g, g = w1.heap.size := ⟨_, rfl⟩
    rw [← hge] at hM1 hg ⊢
    have HM1 := Lib.hid hM1
    have HB2 := Lib.hid hB2
    clear hM1 hB2 hB1 hge
    go_loopw [6] (fun i wr => ∃ j : Nat, x + 1 + j ≤ D.length ∧ i = .int .i64 ((x : Int) + 1 + (j : Int)) ∧ Marks wr g (abT D x m j) ∧ Below w.heap.size w wr) (fun i _ => D.length - (intOf i).toNat)
    case atStart => exact ⟨0, by omega, by simp, HM1.out, HB2.out⟩
    case round =>
      obtain ⟨j, hj, rfl, hmk, hB⟩ := hrel
      rename World => wr
      obtain ⟨y, hy⟩ : ∃ y, y = x + 1 + j := ⟨_, rfl⟩
      have ey : (x : Int) + 1 + (j : Int) = (y : Int) := by omega
      have Ey : Hid ((y : Int) + 1 = (x : Int) + 1 + ((j + 1 : Nat) : Int)) := by show _ = _; omega
      rw [ey]
      by_cases hyD : y < D.length
      · have hyi : (y : Int) < (kD : Int) := by omega
        have hy256 : (y : Int) < 256 := by omega
        have hy0 : (0 : Int) ≤ (y : Int) := by omega
        obtain ⟨b, off, Ak, ck, rfl, hb, hcw, hIw⟩ := HM.out.at_ (k := y) (by rw [length_rowsI]; exact hyD)
        rw [rowI_rowsI, length_natsI] at hcw
        rw [rowI_rowsI] at hIw
        have hc := (Below.cell hB (p := ⟨b, off + y, none⟩) hb).trans hcw
        have hrl := HDo.out.len y
        have hrlt := HDo.out.right.2 y
        obtain ⟨c0, hc0⟩ : ∃ c0, c0 = abT D x m j := ⟨_, rfl⟩
        have hend : abT D x m (j + 1) = anyQ c0 y (rowN D y) := by
          rw [hc0]; funext z; simp only [abT, anyQ, ← hy]
          by_cases e : z = y
          · subst e; simp
          · simp [e]
        obtain ⟨row, hrow⟩ : ∃ row, row = rowN D y := ⟨_, rfl⟩
        rw [← hrow] at hcw hc hIw hrl hrlt hend
        rw [← hc0] at hmk
        have Hend := Lib.hid hend
        have HIw := Lib.hid hIw
        have Hrlt := Lib.hid hrlt
        have Hmk := Lib.hid hmk
        have HB := Lib.hid hB
        have hj2 : x + 1 + (j + 1) ≤ D.length := by omega
        clear hcw hIw hrlt hrow hc0 hmk hB hend hy ey
        go_wp2_with fail
        go_loopw [35] (fun i w2 => ∃ q : Nat, q ≤ row.length ∧ i = .int .i64 q ∧ Marks w2 g (anyQ c0 y (row.take q)) ∧ Below w.heap.size w w2) (fun i _ => row.length - (intOf i).toNat)
        case atStart => exact ⟨0, Nat.zero_le _, rfl, by rw [List.take_zero, anyQ_nil]; exact Hmk.out, HB.out⟩
        case round =>
          obtain ⟨q, hq, rfl, hmk2, hB2⟩ := hrel
          rename World => w2
          by_cases hltq : q < row.length
          · have hltqi : (q : Int) < (row.length : Int) := by omega
            have hq0 : (0 : Int) ≤ (q : Int) := by omega
            obtain ⟨bj, oj, rfl, hbj, hcj⟩ := HIw.out.at_ (k := q) (by rw [length_natsI]; exact hltq)
            rw [nth_nats row q hltq] at hcj
            have hc3 := (Below.cell hB2 (p := ⟨bj, oj + q, none⟩) hbj).trans hcj
            have htk := take_el row q hltq
            have hdx := Hrlt.out (el row q) (by rw [el_lt hltq]; exact List.getElem_mem _)
            obtain ⟨d, hd⟩ : ∃ d, d = el row q := ⟨_, rfl⟩
            rw [← hd] at hc3 htk hdx
            have Htk := Lib.hid htk
            have hdi : (d : Int) < 256 := by omega
            have hd0 : (0 : Int) ≤ (d : Int) := by omega
            have hcy := hmk2.cell (x := y) (by omega)
            have hcd := hmk2.cell (x := d) (by omega)
            have hdd : anyQ c0 y (row.take q) d = c0 d := by unfold anyQ; rw [if_neg (by omega)]
            rw [hdd] at hcd
            have hfr := BlkIs.frozen hmk2 y
            have Hsn := Lib.hid (@anyQ_snoc c0 y d (row.take q))
            obtain ⟨cy, hcye⟩ : ∃ cy, cy = anyQ c0 y (row.take q) y := ⟨_, rfl⟩
            rw [← hcye] at hcy Hsn
            have Hmk2 := Lib.hid hmk2
            have HB2b := Lib.hid hB2
            clear htk hd hcj hmk2 hB2 hdd hcye
            cases cy with
            | true =>
              have Hp := Lib.hid (Hmk2.out.put y true)
              go_wp2_with fail
              go_roundw
              case rel =>
                refine ⟨q + 1, by omega, by go_num, ?_, HB2b.out.setCell (p := ⟨g, y, none⟩) hg _⟩
                rw [Htk.out, ← Hsn.out]
                simpa using Hp.out
              case measure => simp [intOf]; omega
            | false =>
              have Hp := Lib.hid (Hmk2.out.put y (c0 d))
              go_wp2_with fail
              go_roundw
              case rel =>
                refine ⟨q + 1, by omega, by go_num, ?_, HB2b.out.setCell (p := ⟨g, y, none⟩) hg _⟩
                rw [Htk.out, ← Hsn.out]
                simpa using Hp.out
              case measure => simp [intOf]; omega
          · have hltqi : ¬ (q : Int) < (row.length : Int) := by omega
            obtain rfl : q = row.length := by omega
            rw [List.take_length] at hmk2
            have Hmk2 := Lib.hid hmk2
            have HB2b := Lib.hid hB2
            clear hmk2 hB2
            go_wp2_with fail
            go_roundw
            case rel => exact ⟨j + 1, hj2, by rw [Ey.out], by rw [Hend.out]; exact Hmk2.out, HB2b.out⟩
            case measure =>
              have e1 : intOf (Value.int .i64 ((y : Int) + 1)) = (y : Int) + 1 := rfl
              have e2 : intOf (Value.int .i64 (y : Int)) = (y : Int) := rfl
              rw [e1, e2]
              omega
      · have hyi : ¬ (y : Int) < (kD : Int) := by omega
        have hjl : j = D.length - x - 1 := by omega
        rw [hjl] at hmk
        have hcx := hmk.cell hx256
        have hfr := BlkIs.frozen hmk x
        have hcl := hmk.clear_ x
        have HB := Lib.hid hB
        have Hcl := Lib.hid hcl
        have HB3 := Lib.hid (hB.setCell (p := ⟨g, x, none⟩) hg (.bool false))
        clear hmk hB hjl hcl hy ey
        go_wp2_with fail
        refine (list_any _ _ _ Hcl.out).mono ?_
        rintro e w4 ⟨v4, rfl, hown, hB4⟩
        rw [HL.out, natsV_intsV] at hown
        obtain ⟨A4, c4, rfl, _, _, hI4⟩ := own_ints hown
        have HX : Hid (AboveSays w D (x : Int) (.returned (.slice A4 (natsI (aboveL D (x : Int))).length c4)) w4) := ⟨A4, c4, by rw [length_natsI], hI4, HB3.out.trans (hB4.mono HB3.out.size)⟩
        clear hown hI4 hB4
        go_wp2_with fail
        go_ret
        exact HX.out
end Go.Proofs.Ytmekffcpbjmffaa
