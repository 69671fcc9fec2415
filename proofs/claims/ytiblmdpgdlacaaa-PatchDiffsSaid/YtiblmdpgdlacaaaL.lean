/- The document's own 'Idle' and 'All'. -/
import Derived.Test.YtiblmdpgdlacaaaK
namespace Go.Proofs.Ytiblmdpgdlacaaa
open Go.RowKit

theorem toList_beq (a b : ByteArray) : (a.toList == b.toList) = decide (a = b) := by
  have := toList_iff a b
  by_cases h : a = b
  · subst h; simp
  · have h2 : ¬ a.toList = b.toList := by rw [this]; exact h
    simp [h, h2]
theorem convert_empty (w : World) (A : Option Addr) (c : Nat) : (convert 22 9 (.slice A 0 c)).run Try.prog w = .ok (.string (strOfNums [])) w := by
  rw [run_convert_bytes_string w 22 9 5 _ 0 c Try.underlying22 Try.underlying5 Try.underlying9]
  cases A <;> simp [Conv.bytesToString, loadCells]
  all_goals rfl
theorem Bts.text {w : World} {B : Nat} {A : Option Addr} {l : List Int} (h : Bts w B A l) (c n : Nat) (hn : n = l.length) : (convert 22 9 (.slice A n c)).run Try.prog w = .ok (.string (strOfNums l)) w := by
  subst hn
  cases l with
  | nil => exact convert_empty w A c
  | cons x l =>
    obtain ⟨b, off, rfl, _, hc⟩ := h.2 (by simp)
    exact run_convert_bytes_arg w 22 5 Try.underlying22 Try.underlying5 b off _ c (x :: l) rfl hc 9 Try.underlying9

theorem strOf_inj {a b : List Int} (ha : AllB a) (hb : AllB b) : (strOfNums a = strOfNums b) = (a = b) := by
  apply propext
  constructor
  · intro h
    rw [← sb_strOf a ha, ← sb_strOf b hb, h]
  · intro h; rw [h]
theorem nth_put {l : List Int} {p : Pt} (hp : p.right = true) (hl : l.length = 32) (i : Nat) : nth (put l p) i = if p.o.toNat ≤ i ∧ i < p.o.toNat + p.s.size then nth (sb p.s) (i - p.o.toNat) else nth l i := by
  obtain ⟨_, _, h3, h4, h5, h6⟩ := Pt.right_out hp
  unfold put
  rw [nth_splice _ _ _ _ (by rw [length_sb]; omega), length_sb]
theorem undo_sb {l : List Int} {p : Pt} (ha : AllB l) : sb (undoP l p).s = part l p.o.toNat (p.o.toNat + p.s.size) := sb_strOf _ (part_all ha _ _)
/-- a patch changes nothing just if what would take it back is it -/
theorem idle_iff {l : List Int} {p : Pt} (hp : p.right = true) (hl : l.length = 32) (ha : AllB l) : ((undoP l p).s = p.s) = (put l p = l) := by
  obtain ⟨_, _, h3, h4, h5, h6⟩ := Pt.right_out hp
  have hpl := length_part l p.o.toNat (p.o.toNat + p.s.size) (by omega)
  apply propext
  constructor
  · intro h
    have h1 : part l p.o.toNat (p.o.toNat + p.s.size) = sb p.s := by rw [← undo_sb ha, h]
    refine ext_nth (by rw [length_put hp hl, hl]) fun i _ => ?_
    rw [nth_put hp hl]
    split
    · next hi => rw [← h1, nth_part _ _ _ _ (by omega), show p.o.toNat + (i - p.o.toNat) = i by omega]
    · rfl
  · intro h
    refine sb_inj ?_
    rw [undo_sb ha]
    refine ext_nth (by rw [hpl, length_sb]; omega) fun i hi => ?_
    rw [hpl] at hi
    have := nth_put hp hl (p.o.toNat + i)
    rw [h, if_pos (by omega), show p.o.toNat + i - p.o.toNat = i by omega] at this
    rw [nth_part _ _ _ _ (by omega), this]

theorem refapply_ans (A : Option Addr) (c : Nat) (l : List Int) (p : Pt) (w : World) (hb : Bts w w.heap.size A l) (hl : l.length = 32) (hp : p.ok) :
    Calls Try.prog 13 #[.slice A 32 c, p.v] w (Ans w (allP l [p])) := by
  cases hr : p.right with
  | true =>
    have : allP l [p] = some (put l p) := by simp [allP, hr]
    rw [this]
    exact ref_yes A c l p w hb hl hr
  | false =>
    have : allP l [p] = none := by simp [allP, hr]
    rw [this]
    exact (ref_no A c p w hp hr).mono fun e w' h => ⟨h.2, h.1⟩

set_option maxRecDepth 100000 in
theorem refidle_yes (A : Option Addr) (c : Nat) (l : List Int) (p : Pt) (w : World) (hb : Bts w w.heap.size A l) (hl : l.length = 32) (hr : p.right = true) :
    Calls Try.prog 18 #[.slice A 32 c, p.v] w fun e w' => e = .returned (.bool (decide ((undoP l p).s = p.s))) ∧ Below w.heap.size w w' := by
  have hi := idle_iff hr hl hb.1
  have U := Lib.hid (ref_yes A c l p (w.alloc (.cells p.cs.toArray 24)) ((hb.below (below_alloc1 w _)).more (by simp)) hl hr)
  have HT : Hid (∀ w1, Below (w.heap.size + 1) (w.alloc (.cells p.cs.toArray 24)) w1 → St1 w p w1) := fun w1 h => (St1.start w p).next (by simpa using h)
  have hdec : decide ((undoP l p).s = p.s) = decide (strOfNums (put l p) = strOfNums l) := by
    have := strOf_inj (put_all hb.1 p) hb.1
    simp only [hi, this]
  rw [hdec]
  have HB := Lib.hid hb
  have Hl := Lib.hid hl
  obtain ⟨m, hm⟩ : ∃ m, m = put l p := ⟨_, rfl⟩
  rw [← hm] at U ⊢
  clear hb hl hr hi hdec hm
  obtain ⟨b, o, s⟩ := p
  unfold Pt.v at *
  simp only [Pt.cs] at *
  go_enter Try.func18, Try.ntmps18
  go_wp2_with fail
  refine U.out.mono ?_
  rintro e w1 ⟨hB1, A1, c1, rfl, h1, h2, h3, h4⟩
  have t := Lib.hid (HT.out _ (by simpa using hB1))
  have x1 := (HB.out.below t.out.1).text c 32 Hl.out.symm
  have x2 := h3.text c1 32 h4.symm
  clear hB1 h3 h4 h1 h2
  go_wp2
  go_ret
  exact ⟨ret_bool (toList_beq _ _), t.out.1⟩
theorem refidle_bad (A : Option Addr) (n c : Nat) (p : Pt) (w : World) (hp : p.ok) (h : n ≠ 32 ∨ p.right = false) :
    Calls Try.prog 18 #[.slice A n c, p.v] w fun e w' => e = .returned (.bool false) ∧ Below w.heap.size w w' := by
  have U : Hid (Calls Try.prog 13 #[.slice A n c, p.v] (w.alloc (.cells p.cs.toArray 24)) fun e w' => e = .returned (.tuple #[.slice none 0 0, .int .i64 3]) ∧ Below (w.alloc (.cells p.cs.toArray 24)).heap.size (w.alloc (.cells p.cs.toArray 24)) w') := by
    unfold Hid
    by_cases h1 : n = 32
    · subst h1
      exact ref_no A c p _ hp (h.resolve_left (by simp))
    · exact ref_short A n c p _ h1
  have HT : Hid (∀ w1, Below (w.heap.size + 1) (w.alloc (.cells p.cs.toArray 24)) w1 → St1 w p w1) := fun w1 h => (St1.start w p).next (by simpa using h)
  clear h hp
  obtain ⟨b, o, s⟩ := p
  unfold Pt.v at *
  simp only [Pt.cs] at *
  go_enter Try.func18, Try.ntmps18
  go_wp2_with fail
  refine U.out.mono ?_
  rintro e w1 ⟨rfl, hB1⟩
  have t := Lib.hid (HT.out _ (by simpa using hB1))
  clear hB1
  go_wp2
  go_ret
  exact ⟨rfl, t.out.1⟩

theorem refall_short (A A2 : Option Addr) (n c m c2 : Nat) (w : World) (h : n ≠ 32) :
    Calls Try.prog 23 #[.slice A n c, .slice A2 m c2] w fun e w' => e = .returned (.tuple #[.slice none 0 0, .int .i64 3]) ∧ w = w' := by
  have h0 : ((n : Int) == 32) = false := by rw [beq_eq_false_iff_ne]; omega
  have h1 : (n == 32) = false := by rw [beq_eq_false_iff_ne]; exact h
  go_enter Try.func23, Try.ntmps23
  go_wp2
  go_ret2
  exact ⟨rfl, rfl⟩

set_option maxRecDepth 100000 in
set_option maxHeartbeats 2000000 in
theorem refall_any (A A2 : Option Addr) (c c2 : Nat) (l : List Int) (ps : List Pt) (w : World) (hb : Bts w w.heap.size A l) (hl : l.length = 32) (hP : Pats w w.heap.size A2 ps) (hn : ps.length ≤ 1000) (hok : ∀ k, k < ps.length → (pn ps k).ok) :
    Calls Try.prog 23 #[.slice A 32 c, .slice A2 ps.length c2] w (Ans w (allP l ps)) := by
  have HP := Lib.hid hP
  have Hok := Lib.hid hok
  have Hl := Lib.hid hl
  have Hall := Lib.hid hb.1
  have hb' : Bts (w.alloc (.cells #[] 5)) w.heap.size A l := hb.below (below_alloc1 w _)
  clear hP hok hl hb
  go_enter Try.func23, Try.ntmps23
  go_wp2_with (at_builtin; refine wpList_append_bytes rfl (.tmp 13) (.tmp 14) rfl w.heap.size _ 0 [] rfl (own_empty w) w.heap.size A l c 32 Hl.out.symm rfl hb' (by omega) (by simp) ?_)
  intro v' w2 hown hgrow
  have hB2 := below_copy hgrow
  obtain ⟨g, cap, rfl, hg1, hg2⟩ := hown.form (by omega)
  have hi := info_own (l := l) (by simpa using hown) Hall.out
  have hcap : 32 ≤ cap ∧ cap ≤ maxLen := by
    rcases hown.2 with ⟨e, _⟩ | ⟨g', cap', cur, e, _, _, h1, h2, _⟩
    · cases e
    · injection e with e1 e2 e3; subst e3; exact ⟨h1, h2⟩
  have HI := Lib.hid hi
  have Hcap := Lib.hid hcap
  have HB2 := Lib.hid hB2
  clear hown hgrow hb' hB2 hi hcap
  go_wp2
  go_loopw [6, 7] (fun v i wr => ∃ (k : Nat) (A1 : Option Addr) (c1 : Nat), k ≤ ps.length ∧ i = .int .i64 k ∧ v = .slice A1 32 c1 ∧ Below w.heap.size w wr ∧ (ps.take k).all Pt.right = true ∧ 32 ≤ c1 ∧ c1 ≤ maxLen ∧ Bts wr wr.heap.size A1 ((ps.take k).foldl put l)) (fun _ i _ => ps.length - (intOf i).toNat)
  case atStart => exact ⟨0, _, _, Nat.zero_le _, rfl, rfl, HB2.out, by simp, Hcap.out.1, Hcap.out.2, HI.out.1⟩
  case round =>
    obtain ⟨k, A1, c1, hk, rfl, rfl, hB, hall, hc1, hc2, hbt⟩ := hrel
    rename World => wr
    have H := Lib.hid (show (ps.take k).all Pt.right = true ∧ 32 ≤ c1 ∧ c1 ≤ maxLen ∧ Bts wr wr.heap.size A1 ((ps.take k).foldl put l) from ⟨hall, hc1, hc2, hbt⟩)
    clear hall hc1 hc2 hbt HI Hcap HB2
    by_cases hlt : k < ps.length
    · have hlti : (k : Int) < (ps.length : Int) := by omega
      have hk0 : (0 : Int) ≤ (k : Int) := by omega
      obtain ⟨b2, o2, rfl, hb2, hcs⟩ := (HP.out.below hB) (by omega)
      obtain ⟨c0, c1', c3⟩ := hcs k hlt
      have hpk := Hok.out k hlt
      have hst := take_step ps k hlt
      obtain ⟨p, hp⟩ : ∃ p, p = pn ps k := ⟨_, rfl⟩
      rw [← hp] at c0 c1' c3 hpk hst
      have Hst := Lib.hid hst
      have Hp := Lib.hid hp
      have HS := Lib.hid hB
      have hC := Lib.hid (refapply_ans A1 c1 _ p wr H.out.2.2.2 (length_putAll Hl.out _ H.out.1) hpk)
      clear hcs hst hp hB
      cases hr : p.right with
      | false =>
        have hans : allP ((ps.take k).foldl put l) [p] = none := by simp [allP, hr]
        rw [hans] at hC
        have hnone : Hid (allP l ps = none) := by
          unfold Hid allP
          rw [if_neg]
          intro h
          rw [List.all_eq_true] at h
          have := h _ (List.getElem_mem hlt)
          rw [← pn_lt hlt, ← Hp.out, hr] at this
          cases this
        clear hr hans hpk
        obtain ⟨pb, po, psx⟩ := p
        unfold Pt.v at *
        simp only at c0 c1' c3
        go_wp2_with fail
        refine hC.out.mono ?_
        rintro e w3 ⟨hB3, he⟩
        subst he
        go_wp2
        go_ret2
        rw [hnone.out]
        exact ⟨HS.out.trans (hB3.mono HS.out.size), rfl⟩
      | true =>
        have hans : allP ((ps.take k).foldl put l) [p] = some (put ((ps.take k).foldl put l) p) := by simp [allP, hr]
        rw [hans] at hC
        have hAll' : Hid ((ps.take (k + 1)).all Pt.right = true) := by
          unfold Hid
          rw [Hst.out, List.all_append, H.out.1]
          simp [hr]
        have hput : Hid ((ps.take (k + 1)).foldl put l = put ((ps.take k).foldl put l) p) := by unfold Hid; rw [Hst.out, List.foldl_append]; rfl
        obtain ⟨m, hm⟩ : ∃ m, m = put ((ps.take k).foldl put l) p := ⟨_, rfl⟩
        rw [← hm] at hC hput
        clear hm hans hr hpk
        obtain ⟨pb, po, psx⟩ := p
        unfold Pt.v at *
        simp only at c0 c1' c3
        go_wp2_with fail
        refine hC.out.mono ?_
        rintro e w3 ⟨hB3, A3, c3', rfl, h1, h2, h3, h4⟩
        have H3 := Lib.hid (show 32 ≤ c3' ∧ c3' ≤ maxLen ∧ Bts w3 w3.heap.size A3 m from ⟨h1, h2, h3⟩)
        clear h1 h2 h3 h4
        go_wp2
        go_roundw
        case rel => exact ⟨k + 1, _, _, by omega, by go_num, rfl, HS.out.trans (hB3.mono HS.out.size), hAll'.out, H3.out.1, H3.out.2.1, by rw [hput.out]; exact H3.out.2.2⟩
        case measure => simp [intOf]; omega
    · have hlti : ¬ (k : Int) < (ps.length : Int) := by omega
      obtain rfl : k = ps.length := by omega
      rw [List.take_length] at H
      have hans : Hid (allP l ps = some (ps.foldl put l)) := by unfold Hid allP; rw [if_pos H.out.1]
      go_wp2
      go_ret2
      rw [hans.out]
      exact ⟨hB, _, _, rfl, H.out.2.1, H.out.2.2.1, H.out.2.2.2, length_putAll Hl.out _ H.out.1⟩
end Go.Proofs.Ytiblmdpgdlacaaa
