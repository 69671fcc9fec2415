/- The document's own Without; what Make answers, in one form. -/
import Derived.Test.YtceppcmcokkkoaaX
namespace Go.Proofs.Ytceppcmcokkkoaa
open Go.RowKit Go.Shelf

theorem notIn_take (bs : List Int) (p : List Nat) (k : Nat) (h : k < p.length) : notIn bs (p.take (k + 1)) = notIn bs (p.take k) ++ (if bitN bs p[k] then [] else [p[k]]) := by
  rw [take_snoc' p k h]
  cases hb : bitN bs p[k]
  · rw [notIn_hit _ _ hb]; simp
  · rw [notIn_miss _ _ hb]; simp
theorem length_notIn (bs : List Int) (p : List Nat) : (notIn bs p).length ≤ p.length := List.length_filter_le _ _

set_option maxRecDepth 100000 in
set_option maxHeartbeats 1000000 in
theorem refwithout_any (A : Option Addr) (c : Nat) (xs : List Int) (A2 : Option Addr) (c2 : Nat) (bs : List Int) (w : World) (hxs : xs.length ≤ 1000) (hbs : bs.length ≤ 1000)
    (hL : Bts w w.heap.size A xs) (hL2 : Bts w w.heap.size A2 bs) :
    Calls Try.prog 47 #[.slice A xs.length c, .slice A2 bs.length c2] w fun e W' => ∃ v, e = .returned v ∧ W'.ownsRow w.heap.size 3 1 v (notIn bs (ones xs)).length (natsV (notIn bs (ones xs))) ∧ Below w.heap.size w W' := by
  obtain ⟨i0, hi, hz0, hz1, hz2⟩ := info_parts info3
  have H := Lib.hid (reflist_any A c xs w hxs hL)
  have hno := length_onesTo xs xs.length
  have hp8 : (ones xs).length ≤ 8000 := by unfold ones; omega
  have Hlt := Lib.hid (ones_lt8 xs hxs)
  clear hno
  go_enter Try.func47, Try.ntmps47
  go_wp2_with fail
  refine H.out.mono ?_
  rintro e w1 ⟨v, rfl, hr, hB⟩
  rw [natsV_intsV] at hr
  obtain ⟨A1, c1, rfl, _, _, hin⟩ := own_ints hr
  rw [length_natsI]
  obtain ⟨p, hpe⟩ : ∃ p, p = ones xs := ⟨_, rfl⟩
  rw [← hpe] at hin hp8 ⊢
  have Hlt2 : Hid (∀ k, (h : k < p.length) → p[k] < 8000) := fun k h => Hlt.out _ (by rw [← hpe]; exact List.getElem_mem h)
  have hb2 := hL2.below hB
  have Hpe := Lib.hid hpe
  clear hr H Hlt hpe
  go_wp2
  go_loopw [5, 7] (fun v i wr => ∃ k : Nat, k ≤ p.length ∧ i = .int .i64 k ∧ wr.ownsRow w1.heap.size 3 1 v (notIn bs (p.take k)).length (natsV (notIn bs (p.take k))) ∧ Below w1.heap.size w1 wr) (fun _ i _ => p.length - (intOf i).toNat)
  case atStart => exact ⟨0, Nat.zero_le _, rfl, World.ownsRow_nil _ _ _ _, Below.refl _ _⟩
  case round =>
    obtain ⟨k, hk, rfl, hown, hBr⟩ := hrel
    rename World => wr
    by_cases hlt : k < p.length
    · have hlti : (k : Int) < (p.length : Int) := by omega
      have hk0 : (0 : Int) ≤ (k : Int) := by omega
      have hinr := hin.below hBr
      have hsz := hBr.size
      have hb3 := hb2.below (hBr.mono hB.size)
      obtain ⟨b, off, rfl, hbb, hck⟩ := hinr.at_ (k := k) (by rw [length_natsI]; exact hlt)
      rw [nth_natsI p k hlt] at hck
      have hst := notIn_take bs p k hlt
      have hnl := length_notIn bs (p.take k)
      rw [List.length_take] at hnl
      have hx8 := Hlt2.out k hlt
      obtain ⟨x, hx⟩ : ∃ x, x = p[k] := ⟨_, rfl⟩
      rw [← hx] at hck hx8 hst
      have hx8' : x ≤ 8000 := by omega
      have hnl8 : (notIn bs (p.take k)).length ≤ 8000 := by omega
      clear hx hnl
      cases hv : bitN bs x with
      | true =>
        rw [hv] at hst
        simp only [if_true, List.append_nil] at hst
        have Hst := Lib.hid hst
        have Hv := Lib.hid hv
        clear hv hst
        go_wp2_with (go_at_call 35; refine (refget_at A2 c2 bs x _ _ _ hb3 hbs hx8' Hv.out).mono ?_; rintro e w' ⟨rfl, rfl⟩)
        go_roundw
        case rel => exact ⟨k + 1, by omega, by go_num, by rw [Hst.out]; exact hown, hBr⟩
        case measure => simp [intOf]; omega
      | false =>
        rw [hv] at hst
        simp only [Bool.false_eq_true, if_false] at hst
        have Hst := Lib.hid hst
        have Hv := Lib.hid hv
        clear hv hst
        go_wp2_with (first
          | (go_at_call 35; refine (refget_at A2 c2 bs x _ _ _ hb3 hbs hx8' Hv.out).mono ?_; rintro e w' ⟨rfl, rfl⟩)
          | (at_builtin; refine wpList_append_own _ rfl _ _ 22 rfl w1.heap.size 3 i0 (.int .i64 0) 1 8 Try.underlying22 hi hz0 hz1 hz2 rfl (by decide) _ _ _ rfl (hown.alloc _) ⟨wr.heap.size, 0, none⟩ 1 1 [.int .i64 (x : Int)] rfl rfl (cell_one_new _ _ _) (by simp [Value.oneCell']) (by unfold maxLen; omega) (by omega) (by simp; omega) ?_))
        intro v' w3 hown' hgrow _
        have hB3 : Below w1.heap.size w1 w3 := hBr.trans ((((Below.refl _ wr).alloc hsz _)).grown hgrow (by simp; omega) (fun j e => (hown.lt j e).1))
        go_wp2
        go_roundw
        case rel => exact ⟨k + 1, by omega, by go_num, by rw [Hst.out]; simpa [natsV] using hown', hB3⟩
        case measure => simp [intOf]; omega
    · obtain rfl : k = p.length := by omega
      rw [List.take_length, Hpe.out] at hown
      go_wp2
      go_ret
      exact ⟨_, rfl, own_mono hown hB.size, hB.trans (hBr.mono hB.size)⟩

/-- the bytes and the error that Make answers -/
def mkOut (size : Int) (l : List Int) : List Int × Int := if 0 ≤ size ∧ size ≤ 64 ∧ ∀ k, k < l.length → hasB size.toNat (nth l k) = true then (accB size.toNat l, 0) else ([], 2)
def MakeOut (w : World) (size : Int) (l : List Int) (e : Ending) (w' : World) : Prop :=
  Below w.heap.size w w' ∧ ∃ A c, e = .returned (.tuple #[.slice A (mkOut size l).1.length c, .int .i64 (mkOut size l).2]) ∧ Bts w' w'.heap.size A (mkOut size l).1
theorem makeOut_of {w : World} {n : Nat} {l : List Int} {e : Ending} {w' : World} (hn : n ≤ 64) (h : MakeSays w n l e w') : MakeOut w n l e w' := by
  obtain ⟨hB, ⟨v, rfl, ho, hall⟩ | ⟨rfl, k, hk, hf⟩⟩ := h
  · have e1 : mkOut n l = (accB n l, 0) := by unfold mkOut; rw [Int.toNat_natCast, if_pos ⟨by omega, by omega, hall⟩]
    obtain ⟨A, c, rfl, _, _, hb⟩ := ho.form (accB_all _ _)
    refine ⟨hB, A, c, ?_, ?_⟩ <;> rw [e1]
    exact hb
  · have e1 : mkOut n l = ([], 2) := by
      unfold mkOut
      rw [if_neg]
      rintro ⟨_, _, h⟩
      have := h k hk
      rw [Int.toNat_natCast, hf] at this
      cases this
    refine ⟨hB, none, 0, ?_, ?_⟩ <;> rw [e1]
    · rfl
    · exact Bts.nil
theorem makeOut_no {w : World} {size : Int} {l : List Int} {e : Ending} {w' : World} (hs : size < 0 ∨ 64 < size) (h : e = .returned (.tuple #[.slice none 0 0, .int .i64 2]) ∧ w = w') : MakeOut w size l e w' := by
  obtain ⟨rfl, rfl⟩ := h
  have e1 : mkOut size l = ([], 2) := by unfold mkOut; rw [if_neg (by omega)]
  refine ⟨Below.refl _ _, none, 0, ?_, ?_⟩ <;> rw [e1]
  · rfl
  · exact Bts.nil
theorem make_all (A : Option Addr) (c m : Nat) (size : Int) (l : List Int) (w : World) (hm : m = l.length) (hI : Ints w w.heap.size A l) (hl : l.length ≤ 100000) (hw : inI l) :
    Calls Try.prog 44 #[.int .i64 size, .slice A m c] w (MakeOut w size l) := by
  by_cases hs : size < 0 ∨ 64 < size
  · exact (make_out A c m size w hs).mono fun _ _ h => makeOut_no hs h
  · obtain ⟨n, rfl⟩ := Int.eq_ofNat_of_zero_le (show 0 ≤ size by omega)
    exact (make_any A c n m l w hm (by omega) hI hl hw).mono fun _ _ h => makeOut_of (by omega) h
theorem refmake_all (A : Option Addr) (c m : Nat) (size : Int) (l : List Int) (w : World) (hm : m = l.length) (hI : Ints w w.heap.size A l) (hl : l.length ≤ 100000) (hw : inI l) :
    Calls Try.prog 45 #[.int .i64 size, .slice A m c] w (MakeOut w size l) := by
  by_cases hs : size < 0 ∨ 64 < size
  · exact (refmake_out A c m size w hs).mono fun _ _ h => makeOut_no hs h
  · obtain ⟨n, rfl⟩ := Int.eq_ofNat_of_zero_le (show 0 ≤ size by omega)
    exact (refmake_any A c n m l w hm (by omega) hI hl hw).mono fun _ _ h => makeOut_of (by omega) h
/-- ints that came in -/
theorem IsRow.ints {w : World} {a : Option Addr} {len cap : Nat} {zs : List Int} (h : IsRow .i64 w a len cap zs) : len ≤ cap ∧ cap ≤ maxLen ∧ Ints w w.heap.size a (zs.take len) ∧ (zs.take len).length = len ∧ inI (zs.take len) := by
  rcases h with ⟨rfl, rfl, rfl, rfl⟩ | ⟨x, rfl, hl, hm, hz, hc, hw⟩
  · exact ⟨Nat.le_refl _, Nat.zero_le _, Ints.nil, rfl, by intro x hx; simp at hx⟩
  · have hn : (zs.take len).length = len := by rw [List.length_take]; omega
    refine ⟨hl, hm, fun hp => ?_, hn, fun y hy => bounds_i64 (hw y (List.mem_of_mem_take hy))⟩
    obtain ⟨b, off, spot⟩ := x
    have hc0 := hc 0 (by omega)
    have hspot : spot = none := by simpa [Addr.add] using World.cell?_spot hc0
    subst hspot
    refine ⟨b, off, rfl, lt_of_cell (by simpa [Addr.add] using hc0), fun j hj => ?_⟩
    have hcj := hc j (by omega)
    have e : (⟨b, off, none⟩ : Addr).add j = ⟨b, off + j, none⟩ := by unfold Addr.add; split <;> simp_all
    rw [e] at hcj
    rw [hcj]
    unfold nth
    rw [List.getD_eq_getElem?_getD, List.getD_eq_getElem?_getD, List.getElem?_take, if_pos (by omega)]
theorem Ints.take {w : World} {B : Nat} {A : Option Addr} {l : List Int} (h : Ints w B A l) (k : Nat) : Ints w B A (l.take k) := fun hn => by
  rw [List.length_take] at hn
  obtain ⟨b, off, e, hb, hc⟩ := h (by omega)
  refine ⟨b, off, e, hb, fun j hj => ?_⟩
  rw [List.length_take] at hj
  rw [hc j (by omega)]
  unfold nth
  rw [List.getD_eq_getElem?_getD, List.getD_eq_getElem?_getD, List.getElem?_take, if_pos (by omega)]
theorem without_n (A : Option Addr) (c n m : Nat) (xs : List Int) (A2 : Option Addr) (c2 : Nat) (bs : List Int) (w : World) (hn : n = xs.length) (hm : m = bs.length) (hxs : xs.length ≤ 1000) (hbs : bs.length ≤ 1000)
    (hL : Bts w w.heap.size A xs) (hL2 : Bts w w.heap.size A2 bs) :
    Calls Try.prog 46 #[.slice A n c, .slice A2 m c2] w fun e W' => ∃ A' c', e = .returned (.slice A' (natsI (notIn bs (ones xs))).length c') ∧ Below w.heap.size w W' ∧ Ints W' W'.heap.size A' (natsI (notIn bs (ones xs))) := by
  subst hn hm
  refine (without_any A c xs A2 c2 bs w hxs hbs hL hL2).mono ?_
  rintro e W' ⟨v, rfl, hr, hB⟩
  rw [natsV_intsV] at hr
  obtain ⟨A', c', rfl, _, _, hi⟩ := own_ints hr
  exact ⟨A', c', rfl, hB, hi⟩
theorem refwithout_n (A : Option Addr) (c n m : Nat) (xs : List Int) (A2 : Option Addr) (c2 : Nat) (bs : List Int) (w : World) (hn : n = xs.length) (hm : m = bs.length) (hxs : xs.length ≤ 1000) (hbs : bs.length ≤ 1000)
    (hL : Bts w w.heap.size A xs) (hL2 : Bts w w.heap.size A2 bs) :
    Calls Try.prog 47 #[.slice A n c, .slice A2 m c2] w fun e W' => ∃ A' c', e = .returned (.slice A' (natsI (notIn bs (ones xs))).length c') ∧ Below w.heap.size w W' ∧ Ints W' W'.heap.size A' (natsI (notIn bs (ones xs))) := by
  subst hn hm
  refine (refwithout_any A c xs A2 c2 bs w hxs hbs hL hL2).mono ?_
  rintro e W' ⟨v, rfl, hr, hB⟩
  rw [natsV_intsV] at hr
  obtain ⟨A', c', rfl, _, _, hi⟩ := own_ints hr
  exact ⟨A', c', rfl, hB, hi⟩
end Go.Proofs.Ytceppcmcokkkoaa
