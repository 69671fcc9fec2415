/- The contract of 'Idle'. -/
import Derived.Test.YtiblmdpgdlacaaaH
import Derived.Laws.Strings
namespace Go.Proofs.Ytiblmdpgdlacaaa
open Go.RowKit

theorem toList_iff (a b : ByteArray) : (a.toList = b.toList) = (a = b) := by
  rw [ByteArray.toList_eq, ByteArray.toList_eq]
  apply propext
  constructor
  · intro h
    have : a.data = b.data := Array.ext' h
    cases a; cases b; simp_all
  · intro h; rw [h]
set_option maxRecDepth 100000 in
theorem idle_yes (A : Option Addr) (c : Nat) (l : List Int) (p : Pt) (w : World) (hb : Bts w w.heap.size A l) (hl : l.length = 32) (hc : 32 ≤ c) (hr : p.right = true) :
    Calls Try.prog 17 #[.slice A 32 c, p.v] w fun e w' => e = .returned (.bool (decide ((undoP l p).s = p.s))) ∧ Below w.heap.size w w' := by
  have U := Lib.hid (undo_yes A c l p (w.alloc (.cells p.cs.toArray 24)) ((hb.below (below_alloc1 w _)).more (by simp)) hl hc hr)
  have HT : Hid (∀ w1, Below (w.heap.size + 1) (w.alloc (.cells p.cs.toArray 24)) w1 → St1 w p w1) := fun w1 h => (St1.start w p).next (by simpa using h)
  obtain ⟨q, hq⟩ : ∃ q, q = undoP l p := ⟨_, rfl⟩
  have hqb : Hid (q.b = p.b ∧ q.o = p.o) := by
    unfold Hid
    rw [hq]
    obtain ⟨p1, p2, p3, _⟩ := Pt.right_out hr
    exact ⟨rfl, by simp only [undoP, cutP]; omega⟩
  rw [← hq] at U ⊢
  clear hb hl hc hr hq
  obtain ⟨b, o, s⟩ := p
  obtain ⟨b', o', s'⟩ := q
  obtain ⟨rfl, rfl⟩ := hqb.out
  unfold Pt.v at *
  simp only [Pt.cs] at *
  go_enter Try.func17, Try.ntmps17
  go_wp2_with fail
  refine U.out.mono ?_
  rintro e w1 ⟨rfl, hB1⟩
  have t := Lib.hid (HT.out _ (by simpa using hB1))
  have t2 : St1 w ⟨b', o', s⟩ (w1.alloc (.cells #[.int .i64 b', .int .i64 o', .string s'] 24)) := t.out.next (below_alloc1 _ _)
  obtain ⟨d0, d1, d2⟩ := t2.2.cells
  simp only at d0 d1 d2
  clear hB1
  go_wp2
  all_goals go_ret
  all_goals refine ⟨ret_bool ?_, t2.1⟩
  all_goals simp_all [toList_iff]
theorem idle_bad (A : Option Addr) (n c : Nat) (p : Pt) (w : World) (hp : p.ok) (h : n ≠ 32 ∨ p.right = false) :
    Calls Try.prog 17 #[.slice A n c, p.v] w fun e w' => e = .returned (.bool false) ∧ Below w.heap.size w w' := by
  have U : Hid (Calls Try.prog 14 #[.slice A n c, p.v] (w.alloc (.cells p.cs.toArray 24)) fun e w' => e = .returned (.tuple #[zeroP.v, .int .i64 3]) ∧ Below (w.alloc (.cells p.cs.toArray 24)).heap.size (w.alloc (.cells p.cs.toArray 24)) w') := by
    unfold Hid
    by_cases h1 : n = 32
    · subst h1
      exact undo_no A c p _ hp (h.resolve_left (by simp))
    · exact undo_short A n c p _ h1
  have HT : Hid (∀ w1, Below (w.heap.size + 1) (w.alloc (.cells p.cs.toArray 24)) w1 → St1 w p w1) := fun w1 h => (St1.start w p).next (by simpa using h)
  clear h hp
  obtain ⟨b, o, s⟩ := p
  unfold Pt.v at *
  simp only [Pt.cs, zeroP] at *
  go_enter Try.func17, Try.ntmps17
  go_wp2_with fail
  refine U.out.mono ?_
  rintro e w1 ⟨rfl, hB1⟩
  have t := Lib.hid (HT.out _ (by simpa using hB1))
  clear hB1
  go_wp2
  go_ret
  exact ⟨rfl, (t.out.next (below_alloc1 _ _)).1⟩
end Go.Proofs.Ytiblmdpgdlacaaa
