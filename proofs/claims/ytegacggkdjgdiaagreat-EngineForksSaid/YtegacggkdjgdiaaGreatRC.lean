/- The document's engine: Block, Ready, Waiting, Next, Size, Crash as they are asked. -/
import Derived.Test.YtegacggkdjgdiaaGreatQU
import Derived.Test.YtegacggkdjgdiaaGreatDRG
set_option linter.unusedVariables false
set_option linter.unusedSimpArgs false
namespace Go.Proofs.YtegacggkdjgdiaaGreat
open Go.RowKit

section
variable {w : World} {g n cc : Nat} {S : Nat → Bk} {k : Int} {l : List Vr} {t : List Tr} {F : Nat → Prop}
set_option maxRecDepth 100000 in
set_option maxHeartbeats 1000000 in
theorem qblock (h : Qe w g n S cc k l t F) (hl : l.length ≤ 1000) (hr : ∀ x ∈ l, x.p.right = true) {i : Nat} (hi : i < n) :
    Calls Tryz.prog 31 #[.pointer (some ⟨g, 0, none⟩), .int .i64 (i : Int)] w fun e w' => ∃ A c, e = .returned (.tuple #[.slice A 32 c, .int .i64 0]) ∧ Bts w' w'.heap.size A (putS i true [] l (S i).s) ∧ (putS i true [] l (S i).s).length = 32 ∧ Below w.heap.size w w' := by
  obtain ⟨d, A, c, A2, c2, Fd, h, rfl⟩ := h
  have HM := Lib.hid (qmay_any h (i : Int))
  rw [if_pos (by omega)] at HM
  have HB := Lib.hid (qbytes_any h hl hr hi true none 0 0 [] rfl (by simp) (fun h => absurd h (by simp)))
  clear h
  go_enter Tryz.func31, Tryz.ntmps31
  go_wp2_with (first
    | (go_at_call 69; refine HM.out.mono ?_; rintro e w' ⟨rfl, rfl⟩)
    | (go_at_call 70; refine HB.out.mono ?_; rintro e w2 ⟨hb2, gb, c', rfl, _, _, _, h4, h5⟩; have HB2 := Lib.hid hb2; have H4 := Lib.hid h4; have H5 := Lib.hid h5; clear hb2 h4 h5))
  go_ret2
  exact ⟨_, _, rfl, H4.out, H5.out, HB2.out⟩
theorem qblock_no (h : Qe w g n S cc k l t F) (i : Int) (hi : ¬ (0 ≤ i ∧ i < n)) :
    Calls Tryz.prog 31 #[.pointer (some ⟨g, 0, none⟩), .int .i64 i] w fun e w' => e = .returned (.tuple #[.slice none 0 0, .int .i64 2]) ∧ w = w' := by
  obtain ⟨d, A, c, A2, c2, Fd, h, rfl⟩ := h
  have HM := Lib.hid (qmay_any h i)
  rw [if_neg hi] at HM
  clear h hi
  go_enter Tryz.func31, Tryz.ntmps31
  go_wp2_with (go_at_call 69; refine HM.out.mono ?_; rintro e w' ⟨rfl, rfl⟩)
  go_ret2
  exact ⟨rfl, rfl⟩
theorem qready_no (h : Qe w g n S cc k l t F) (i : Int) (hi : ¬ (0 ≤ i ∧ i < n)) :
    Calls Tryz.prog 34 #[.pointer (some ⟨g, 0, none⟩), .int .i64 i] w fun e w' => e = .returned (.slice none 0 0) ∧ w = w' := by
  obtain ⟨d, A, c, A2, c2, Fd, h, rfl⟩ := h
  have HM := Lib.hid (qmay_any h i)
  rw [if_neg hi] at HM
  clear h hi
  go_enter Tryz.func34, Tryz.ntmps34
  go_wp2_with (go_at_call 69; refine HM.out.mono ?_; rintro e w' ⟨rfl, rfl⟩)
  go_ret
  exact ⟨rfl, rfl⟩
theorem qnext (h : Qe w g n S cc k l t F) : Calls Tryz.prog 19 #[.pointer (some ⟨g, 0, none⟩)] w fun e w' => e = .returned (.int .i64 k) ∧ w = w' := by
  obtain ⟨d, A, c, A2, c2, Fd, h, rfl⟩ := h
  have e3 := h.head.c3
  clear h
  go_enter Tryz.func19, Tryz.ntmps19
  go_wp2
  go_ret
  exact ⟨rfl, rfl⟩
theorem qsize (h : Qe w g n S cc k l t F) : Calls Tryz.prog 30 #[.pointer (some ⟨g, 0, none⟩)] w fun e w' => e = .returned (.int .i64 n) ∧ w = w' := by
  obtain ⟨d, A, c, A2, c2, Fd, h, rfl⟩ := h
  have e0 := h.head.c0
  have HS := Lib.hid (rsize h.disk)
  clear h
  go_enter Tryz.func30, Tryz.ntmps30
  go_wp2_with (go_at_call 68; refine HS.out.mono ?_; rintro e w' ⟨rfl, rfl⟩)
  go_ret
  exact ⟨rfl, rfl⟩
set_option maxRecDepth 100000 in
set_option maxHeartbeats 1000000 in
theorem qcrash (h : Qe w g n S cc k l t F) (hc : cc < 100000) (pick : List Int) (hpw : ∀ x ∈ pick, -9223372036854775808 ≤ x ∧ x ≤ 9223372036854775807) (P : Option Addr) (pc : Nat) (hP : PickAt w (fun b => w.heap.size ≤ b) P pick) :
    Calls Tryz.prog 35 #[.pointer (some ⟨g, 0, none⟩), .slice P pick.length pc] w fun e w' => ∃ d F', e = .returned (.pointer (some ⟨d, 0, none⟩)) ∧ Ref w' d n (crashed n S pick) cc F' ∧ Below w.heap.size w w' := by
  obtain ⟨d, A, c, A2, c2, Fd, h, rfl⟩ := h
  have e0 := h.head.c0
  have HF := Lib.hid (rfork h.disk hc)
  have HPk : Hid (∀ W G, Below w.heap.size w W → (∀ b, G b → w.heap.size ≤ b) → PickAt W G P pick) := fun W G hW hG => by
    rcases hP with q | ⟨b, o, q1, q2, q3, q4⟩
    · exact .inl q
    · exact .inr ⟨b, o, q1, Nat.lt_of_lt_of_le q2 hW.size, fun q => by have := hG b q; omega, fun j u hj => by rw [World.cell?_of_block (a := ⟨b, o + j, none⟩) (hW.block b q2)]; exact q4 j u hj⟩
  have HW := Lib.hid hpw
  generalize hpl : pick.length = pl
  have Hpl := Lib.hid hpl
  clear h hP hpw hpl
  go_enter Tryz.func35, Tryz.ntmps35
  go_wp2_with (first
    | (go_at_call 53; refine HF.out.mono ?_; rintro e w1 ⟨d1, F1, rfl, hr1, hf1, hb1⟩; have HF1 := Lib.hid hf1; have HB1 := Lib.hid hb1; have HCr := Lib.hid (rcrash hr1 hc pick HW.out P pc (HPk.out w1 F1 hb1 hf1)); rw [Hpl.out] at HCr; clear hr1 hf1 hb1)
    | (go_at_call 73; refine HCr.out.mono ?_; rintro e w2 ⟨rfl, F2, hr2, hk2, hf2⟩; have HR2 := Lib.hid hr2; have HK2 := Lib.hid hk2; clear hr2 hk2 hf2))
  go_ret
  exact ⟨d1, F2, rfl, HR2.out, HB1.out.trans (HK2.out.below HF1.out HB1.out.size)⟩
theorem numsV_take {l : List Vr} {j : Nat} (h : j < l.length) : intsI ((l.take j).map Vr.num) ++ [.int .i64 (vn l j).num] = intsI ((l.take (j + 1)).map Vr.num) := by
  rw [take_vn h]; simp [intsI]
set_option maxRecDepth 100000 in
set_option maxHeartbeats 1000000 in
theorem qwaiting (h : Qe w g n S cc k l t F) (hl : l.length ≤ 1000) : Calls Tryz.prog 37 #[.pointer (some ⟨g, 0, none⟩)] w (Says w (l.map Vr.num)) := by
  obtain ⟨d, A, c, A2, c2, Fd, h, rfl⟩ := h
  have HQ := Lib.hid h
  obtain ⟨j0, hj0i, hj0z, hj01, hj02⟩ := info_parts infoI
  clear h
  go_enter Tryz.func37, Tryz.ntmps37
  go_wp2
  go_loopw [3, 4] (fun v q wr => ∃ (j : Nat) (A5 : Option Addr) (c5 : Nat), j ≤ l.length ∧ q = .int .i64 j ∧ v = .slice A5 j c5 ∧ Hid (wr.ownsRow w.heap.size 3 1 (.slice A5 j c5) j (intsI ((l.take j).map Vr.num))) ∧ Hid (Below w.heap.size w wr)) (fun _ q _ => l.length - (intOf q).toNat)
  case atStart => exact ⟨0, none, 0, Nat.zero_le _, rfl, rfl, World.ownsRow_nil _ _ _ _, Below.refl _ _⟩
  case round =>
    obtain ⟨j, A5, c5, hj, rfl, rfl, hrow, hB⟩ := hrel
    rename World => wr
    have hsz := hB.out.size
    have HQr := Lib.hid (HQ.out.fresh hB.out)
    have e1 := HQr.out.head.c1
    have hgl := HQr.out.head.lt
    by_cases hlt : j < l.length
    · have hlti : (j : Int) < (l.length : Int) := by omega
      have hj0 : (0 : Int) ≤ (j : Int) := by omega
      obtain ⟨ab, hA, h3, h4, hb, hcs, _⟩ := HQr.out.row.at_ hlt
      subst hA
      unfold maxLen at h4
      have d0 := hcs 0 (by omega)
      clear hcs
      have Hst := Lib.hid (numsV_take hlt)
      obtain ⟨x, hx⟩ : ∃ x, x = vn l j := ⟨_, rfl⟩
      rw [← hx] at d0 Hst
      clear hx
      obtain ⟨num, ⟨b, o, s⟩, ds, a4, c4⟩ := x
      simp [Vr.cs] at d0
      dsimp only at Hst
      have Hrow : Hid ((wr.alloc (.cells #[.int .i64 num] 3)).ownsRow w.heap.size 3 1 (.slice A5 j c5) j (intsI ((l.take j).map Vr.num))) := hrow.out.alloc _
      have Hnew : Hid (∀ ad, some (⟨wr.heap.size, 0, none⟩ : Addr) = some ad → ∀ q x, ([.int .i64 num] : List Value)[q]? = some x → (wr.alloc (.cells #[.int .i64 num] 3)).cell? (ad.add q) = some x) := fun ad e q x hx => by
        cases e
        exact World.news_of_block (heap_alloc_new wr _) q x hx
      have Hold : Hid (∀ q, (Value.slice A5 j c5).ownBlock = some q → w.heap.size ≤ q) := fun q e => (hrow.out.lt q e).1
      go_wp2_with (at_builtin; go_loud (refine wpList_append_src rfl (.tmp 18) (.tmp 27) 23 rfl w.heap.size 3 j0 (.int .i64 0) 1 8 Tryz.underlying23 hj0i hj0z hj01 hj02 rfl (by decide) (.slice A5 j c5) j (intsI ((l.take j).map Vr.num)) rfl Hrow.out (some ⟨wr.heap.size, 0, none⟩) 1 1 _ rfl rfl Hnew.out (fun e => by cases e) (by intro u hu; rw [List.mem_singleton] at hu; rw [hu]; rfl) (by unfold maxLen; omega) (by omega) (by simp; omega) (j + 1) rfl ?_; intro A7 c7 w7 ho7 hg7 hor7; have HB7 : Hid (Below w.heap.size w w7) := (hB.out.alloc hsz _).grown hg7 (by simp; omega) Hold.out; have HO7 := Lib.hid ho7; clear ho7 hg7 hor7))
      go_roundw
      case rel => exact ⟨j + 1, A7, c7, by omega, by go_num, rfl, by have h := HO7.out; rw [Hst.out] at h; exact h, HB7.out⟩
      case measure => simp [intOf]; omega
    · obtain rfl : j = l.length := by omega
      have hlti : ¬ (l.length : Int) < (l.length : Int) := by omega
      rw [List.take_length] at hrow
      go_wp2
      go_ret
      refine ⟨A5, c5, by rw [List.length_map]; rfl, ?_, hB.out⟩
      rw [List.length_map]
      exact hrow.out
end
/-- those of all that wait on a block -/
theorem Tw.all {l0 r : List Wr} {rv : List Vr} (h : Tw l0 r rv) (i : Int) : ∀ s : List Int, putS i true [] rv s = putL s (onL r i) := by
  induction h with
  | nil => intro s; rfl
  | @cons x y r rv hn hp hd h ih =>
    intro s
    unfold putS
    rw [List.foldl_cons]
    have e : selV i true [] y = (x.p.b == i) := by unfold selV; rw [← hp]; simp; exact Bool.eq_iff_iff.2 (by simp)
    rw [e]
    unfold onL
    cases hb : (x.p.b == i) with
    | true =>
      simp only [List.filter_cons, hb, if_true]
      rw [← hp]
      exact ih _
    | false =>
      simp only [List.filter_cons, hb, Bool.false_eq_true, if_false]
      exact ih _
end Go.Proofs.YtegacggkdjgdiaaGreat
