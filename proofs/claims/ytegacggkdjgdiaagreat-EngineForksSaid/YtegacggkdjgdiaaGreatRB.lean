/- Dirty of an engine on which nothing waits. -/
import Derived.Test.YtegacggkdjgdiaaGreatEV
import Derived.Test.YtegacggkdjgdiaaGreatET
set_option linter.unusedVariables false
set_option linter.unusedSimpArgs false
namespace Go.Proofs.YtegacggkdjgdiaaGreat
open Go.RowKit
theorem pick_of {w W : World} {A : Option Addr} {n c : Nat} {l : List Int} (h : NumsIn w A n c l) (hB : Below w.heap.size w W) : PickAt W (fun b => W.heap.size ≤ b) A l := by
  by_cases hl : l = []
  · exact .inl hl
  · obtain ⟨b, o, e, hb, _, hc⟩ := h.2.2.2.2 (List.length_pos_iff.2 hl)
    refine .inr ⟨b, o, e, Nat.lt_of_lt_of_le hb hB.size, fun q => by have := hB.size; omega, fun j u hj => ?_⟩
    rw [List.getElem?_map] at hj
    cases hq : l[j]? with
    | none => rw [hq] at hj; cases hj
    | some y =>
      rw [hq] at hj
      obtain ⟨hj1, hj2⟩ := List.getElem?_eq_some_iff.1 hq
      have := (hB.cell (p := ⟨b, o + j, none⟩) hb).trans (hc j hj1)
      rw [this, hj2]
      exact hj
theorem bts_text {w : World} {B : Nat} {A : Option Addr} {l : List Int} (hb : Bts w B A l) {n : Nat} (c : Nat) (hn : l.length = n) (h0 : 0 < n) : (convert 36 9 (.slice A n c)).run Tryz.prog w = .ok (.string (strOfNums l)) w := by
  subst hn
  obtain ⟨b, o, e, _, hc⟩ := hb.2 h0
  subst e
  refine run_convert_bytes_arg w 36 5 Tryz.underlying36 Tryz.underlying5 b o l.length c l rfl (fun i hi => ?_) 9 Tryz.underlying9
  exact hc i hi
theorem convert_empty (w : World) (A : Option Addr) (c : Nat) : (convert 36 9 (.slice A 0 c)).run Tryz.prog w = .ok (.string (strOfNums [])) w := by
  rw [run_convert_bytes_string w 36 9 5 _ 0 c Tryz.underlying36 Tryz.underlying5 Tryz.underlying9]
  cases A <;> simp [Conv.bytesToString, loadCells]
  all_goals rfl
theorem compact_nil (w : World) : Calls Tryz.prog 49 #[.slice none 0 0] w fun e w' => e = .returned (.slice none 0 0) ∧ w = w' := by
  go_enter Tryz.func49, Tryz.ntmps49
  go_wp2
  go_ret
  exact ⟨rfl, rfl⟩
set_option maxRecDepth 100000 in
set_option maxHeartbeats 1000000 in
theorem edirty_nil {w : World} {ge n cc : Nat} {S : Nat → Bk} {k : Int} {F : Nat → Prop} (h : Eng w ge n S cc k [] F) :
    Calls Tryz.prog 16 #[.pointer (some ⟨ge, 0, none⟩)] w fun e w' => e = .returned (.slice none 0 0) ∧ w = w' := by
  obtain ⟨gd, A, c, Fd, h, rfl⟩ := h
  have e2 : w.cell? ⟨ge, 2, none⟩ = some (.slice A 0 c) := h.head.c2
  have hgl := h.head.lt
  have HS := Lib.hid (AnyM.slices_Sort_int_none Tryz.sort48 none 0 w)
  clear h
  go_enter Tryz.func16, Tryz.ntmps16
  go_wp2
  go_loopw [3, 14] (fun s i wr => s = .slice none 0 0 ∧ i = .int .i64 0 ∧ w = wr) (fun _ _ _ => 0)
  case atStart => exact ⟨rfl, rfl, rfl⟩
  case round =>
    obtain ⟨rfl, rfl, hw⟩ := hrel
    subst hw
    have h0 : ¬ (0 : Int) < 0 := by omega
    go_wp2_with (first
      | (go_at_call 48; refine HS.out.mono ?_; rintro e w3 ⟨rfl, rfl⟩)
      | (go_at_call 49; refine (compact_nil _).mono ?_; rintro e w4 ⟨rfl, rfl⟩))
    go_ret
    exact ⟨rfl, rfl⟩
end Go.Proofs.YtegacggkdjgdiaaGreat
