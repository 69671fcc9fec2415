/- Insert and Delete at rows of one's own. -/
import Derived.Test.YtpcindemkkdbbaaT
namespace Go.Proofs.Ytpcindemkkdbbaa
set_option linter.unusedVariables false
set_option linter.unusedSimpArgs false
open Go.RowKit

/-- what a call that turns one row of one's own leaves -/
def Turned (w : World) (B : Nat) (A : Option Addr) (l' : List Int) (e : Ending) (w' : World) : Prop :=
  ∃ A' c', e = .returned (.slice A' l'.length c') ∧ RowI w' B A' c' l' ∧ Kept w w' (fun b => own A = some b) ∧ ∀ b, own A' = some b → own A = some b ∨ w.heap.size ≤ b
theorem drew_kept (w : World) (n : Nat) (S : Nat → Prop) : Kept w (w.drewN n) S := ⟨rfl, rfl, rfl, Nat.le_refl _, fun _ _ _ => rfl⟩
theorem alloc_kept (w : World) (o : Obj) (S : Nat → Prop) : Kept w (w.alloc o) S := Kept.fresh ((Below.refl _ w).alloc (Nat.le_refl _) o)
def insI (l : List Int) (i : Nat) (x : Int) : List Int := l.take i ++ x :: l.drop i
theorem length_insI (l : List Int) (i : Nat) (x : Int) : (insI l i x).length = l.length + 1 := by
  have := List.take_append_drop i l
  have h : (l.take i).length + (l.drop i).length = l.length := by rw [← List.length_append, this]
  simp only [insI, List.length_append, List.length_cons]; omega
theorem insI_end (l : List Int) (x : Int) : insI l l.length x = l ++ [x] := by simp [insI]
theorem intsV_append (a b : List Int) : intsV (a ++ b) = intsV a ++ intsV b := by simp [intsV]
theorem intsV_ins (l : List Int) (i : Nat) (x : Int) : intsV (insI l i x) = (intsV l).take i ++ ([.int .i64 x] ++ (intsV l).drop i) := by
  simp [intsV, insI, List.map_append, List.map_take, List.map_drop]
theorem zero_cells : (Value.int .i64 0).cells.size = 1 := rfl

set_option maxHeartbeats 1000000 in
theorem insert_any (A : Option Addr) (c i : Nat) (l : List Int) (x : Int) (B : Nat) (w : World) (hl : l.length ≤ 1000) (hi : i ≤ l.length) (hB : B ≤ w.heap.size) (h : RowI w B A c l) :
    Calls Try.prog 80 #[.slice A l.length c, .int .i64 i, .slice (some ⟨w.heap.size, 0, none⟩) 1 1] (w.alloc (.cells #[.int .i64 x] 3)) (Turned w B A (insI l i x)) := by
  have hW : (w.alloc (.cells #[.int .i64 x] 3)).heap[w.heap.size]? = some (.cells #[.int .i64 x] 3 (0, 0)) := Go.heap_alloc_new w _
  have hvs : ∀ (j : Nat) v, ([Value.int .i64 x] : List Value)[j]? = some v → (w.alloc (.cells #[.int .i64 x] 3)).cell? ⟨w.heap.size, 0 + j, none⟩ = some v := fun j v hj => by
    rw [Nat.zero_add, cellAt_of hW, ← hj]; simp
  have h1v : ∀ v ∈ ([Value.int .i64 x] : List Value), v.oneCell' = true := fun v hv => by rw [List.mem_singleton.1 hv]; rfl
  have hlen := length_insI l i x
  have hK0 : ∀ S, Kept w (w.alloc (.cells #[.int .i64 x] 3)) S := alloc_kept w _
  have hsz : (w.alloc (.cells #[.int .i64 x] 3)).heap.size = w.heap.size + 1 := by simp
  have hr := h.next ((Below.refl _ w).alloc (Nat.le_refl _) (.cells #[.int .i64 x] 3))
  obtain ⟨W, hWe⟩ : ∃ W, W = w.alloc (.cells #[.int .i64 x] 3) := ⟨_, rfl⟩
  rw [← hWe] at hW hvs hK0 hsz hr ⊢
  clear hWe
  have hgc := grownCap_ge W (l.length + 1) c 3
  have hgm := grownCap_le_maxLen W (l.length + 1) c 3 (by unfold maxLen; omega)
  by_cases hroom : l.length + 1 ≤ c
  · rcases hr.open_ with ⟨rfl, rfl, rfl⟩ | ⟨g, cur, rfl, hg, hcur, hc, hm, hs, ht⟩
    · simp at hroom
    · have hgw : g < w.heap.size := (h.lt (b := g) rfl).2
      have hcell : ∀ j, j < c → (W.cell? ⟨g, j, none⟩).isSome = true := fun j hj => by rw [cellAt_of hcur, Array.getElem?_eq_getElem (by omega)]; rfl
      have hfr : ∀ j, W.frozen? ⟨g, j, none⟩ = false := fun j => frozen_of_row W g j cur 3 hcur
      have hcl : cur.toList.length = c := by simpa using hs
      have fin : ∀ w', (∃ cur', w'.heap[g]? = some (.cells cur' 3 (0, 0)) ∧ cur'.size = c ∧ cur'.toList.take (l.length + 1) = intsV (insI l i x)) → Kept W w' (fun k => k = g) →
          Turned w B (some ⟨g, 0, none⟩) (insI l i x) (.returned (.slice (some ⟨g, 0, none⟩) (l.length + 1) c)) w' := by
        rintro w' ⟨cur', h1, h2, h3⟩ hk
        refine ⟨some ⟨g, 0, none⟩, c, by rw [hlen], rowI_some hg h1 (by omega) hm h2 (by rw [hlen]; exact h3), (hK0 _).trans hk (fun b q => .inl (by rw [q]; rfl)), fun b q => .inl q⟩
      by_cases hend : i = l.length
      · subst hend
        refine (Any2.slices_Insert_int_end_room Try.insert g 0 l.length c w.heap.size 0 1 1 [.int .i64 x] W (by omega) hroom (by unfold maxLen at hm; omega) rfl (fun j hj => hcell _ (by omega)) (fun j hj => hfr _) hvs h1v).mono ?_
        rintro e w' ⟨rfl, rfl⟩
        refine fin _ ⟨_, setCells_cells g 3 _ _ W cur hcur, ?_, ?_⟩ (setCells_kept g _ _ W)
        · rw [putL_eq _ _ _ (by simp [hcl]; omega)]; simp [hcl]; omega
        · rw [putL_eq _ _ _ (by simp [hcl]; omega), insI_end, intsV_append, ← ht]
          simp only [Nat.zero_add, List.append_assoc]
          rw [← List.append_assoc, List.take_left' (by simp [hcl]; omega)]
          rfl
      · refine (Any2.slices_Insert_int_shift Try.insert g 0 l.length c i w.heap.size 0 1 1 (intsV l) [.int .i64 x] W (by omega) (by omega) hroom (by unfold maxLen at hm; omega) (by omega) (length_intsV l) rfl (fun j v hj => ?_) (fun j hj => hcell _ (by omega)) (fun j hj => hfr _) hvs (intsV_one l) h1v 3 3 1 c (by simp [World.shape?, hW]) (by simp [World.shape?, hcur, hs]) (by omega) (frozen_of_row W _ 0 _ 3 hW) (frozen_of_row W _ 1 _ 3 hW)).mono ?_
        · rw [Nat.zero_add, cellAt_of hcur, ← Array.getElem?_toList, ← hj, ← ht, List.getElem?_take]
          have : j < (intsV l).length := (List.getElem?_eq_some_iff.1 hj).1
          rw [length_intsV] at this
          rw [if_pos this]
        · rintro e w' ⟨rfl, rfl⟩
          have hd : (intsV l).drop i = (intsV (l.drop i)) := by simp [intsV, List.map_drop]
          have hdl : ((intsV l).drop i).length = l.length - i := by rw [List.length_drop, length_intsV]
          have h1 := setCells_cells g 3 ((intsV l).drop i) (0 + (i + 1)) W.drew cur hcur
          have h2 := setCells_cells g 3 [.int .i64 x] (0 + i) _ _ h1
          have hp1 := putL_eq ((intsV l).drop i) cur.toList (0 + (i + 1)) (by rw [hdl, hcl]; omega)
          have hl1 : (putL cur.toList (0 + (i + 1)) ((intsV l).drop i)).length = c := by rw [hp1]; simp [hcl, length_intsV]; omega
          have hp2 := putL_eq [.int .i64 x] (putL cur.toList (0 + (i + 1)) ((intsV l).drop i)) (0 + i) (by rw [hl1]; simp; omega)
          refine fin _ ⟨_, h2, ?_, ?_⟩ ?_
          · rw [List.size_toArray, List.toList_toArray, hp2, List.length_append, List.length_append, List.length_take, List.length_drop, hl1, List.length_singleton]; omega
          · rw [List.toList_toArray, List.toList_toArray, hp2, hp1, intsV_ins]
            simp only [Nat.zero_add]
            have e1 : (cur.toList.take (i + 1) ++ (intsV l).drop i ++ cur.toList.drop (i + 1 + ((intsV l).drop i).length)).take i = (intsV l).take i := by
              rw [List.append_assoc, List.take_append_of_le_length (by rw [List.length_take, hcl]; omega), List.take_take, ← ht, List.take_take]
              congr 1; omega
            have e2 : (cur.toList.take (i + 1) ++ (intsV l).drop i ++ cur.toList.drop (i + 1 + ((intsV l).drop i).length)).drop (i + ([Value.int .i64 x] : List Value).length) = (intsV l).drop i ++ cur.toList.drop (i + 1 + ((intsV l).drop i).length) := by
              rw [List.append_assoc, List.drop_append_of_le_length (by rw [List.length_take, hcl]; simp; omega), List.drop_of_length_le (by rw [List.length_take]; simp; omega), List.nil_append]
            rw [e1, e2]
            rw [← List.append_assoc, ← List.append_assoc, List.take_left' (by simp [length_intsV]; omega), List.append_assoc]
          · exact (Kept.refl W _).drew.trans ((setCells_kept g _ _ W.drew).trans (setCells_kept g _ _ _) (fun b q => .inl q)) (fun b q => .inl q)
  · have fin : ∀ w' cur', w'.heap[W.heap.size]? = some (.cells cur' 3 (0, 0)) → cur'.size = grownCap W (l.length + 1) c 3 → cur'.toList.take (l.length + 1) = intsV (insI l i x) → Below W.heap.size W w' →
        Turned w B A (insI l i x) (.returned (.slice (some ⟨W.heap.size, 0, none⟩) (l.length + 1) (grownCap W (l.length + 1) c 3))) w' := by
      intro w' cur' h1 h2 h3 hb
      refine ⟨_, _, by rw [hlen], rowI_some (by omega) h1 (by omega) hgm h2 (by rw [hlen]; exact h3), (hK0 _).trans (Kept.fresh (S := fun _ => False) hb) (fun b q => q.elim), fun b q => .inr (by have q' : W.heap.size = b := Option.some.inj q; omega)⟩
    have hcs : ∀ a, A = some a → ∀ (j : Nat) v, (intsV l)[j]? = some v → W.cell? (a.add j) = some v := fun a ha j v hj => by
      rcases hr.open_ with ⟨rfl, _⟩ | ⟨g, cur, rfl, hg, hcur, hc, hm, hs, ht⟩
      · cases ha
      · cases ha
        have hjl : j < (intsV l).length := (List.getElem?_eq_some_iff.1 hj).1
        rw [length_intsV] at hjl
        rw [Addr.add_lit, Nat.zero_add, cellAt_of hcur, ← Array.getElem?_toList, ← hj, ← ht, List.getElem?_take, if_pos hjl]
    have hnc : l.length ≤ c := by
      rcases hr.open_ with ⟨_, rfl, rfl⟩ | ⟨_, _, _, _, _, hc, _⟩
      · simp
      · exact hc
    by_cases hend : i = l.length
    · subst hend
      refine (Any2.slices_Insert_int_end_grow Try.insert A l.length c w.heap.size 0 1 1 (intsV l) [.int .i64 x] W (by omega) hnc (by omega) (by omega) (length_intsV l) rfl (fun e => ?_) hcs hvs h1v).mono ?_
      · rcases hr.open_ with ⟨_, rfl, rfl⟩ | ⟨g, cur, rfl, _⟩
        · rfl
        · cases e
      · rintro e w' ⟨rfl, rfl⟩
        refine fin _ _ (Go.heap_alloc_new W.drew _) ?_ ?_ ((Below.refl _ W).drew.alloc (Nat.le_refl _) _)
        · show Array.size _ = grownCap W (l.length + 1) c 3
          simp only [Array.size_append, List.size_toArray, List.length_append, length_intsV, size_zeroCells, zero_cells, List.length_singleton]
          show l.length + 1 + (grownCap W (l.length + 1) c 3 - (l.length + 1)) * 1 = _
          omega
        · simp only [Array.toList_append, insI_end, intsV_append]
          rw [List.take_left' (by simp [length_intsV])]
          rfl
    · rcases hr.open_ with ⟨_, rfl, rfl⟩ | ⟨g, cur, rfl, hg, hcur, hc, hm, hs, ht⟩
      · simp at hi; exact absurd hi hend
      · refine (Any2.slices_Insert_int_grow Try.insert g 0 l.length c i w.heap.size 0 1 1 (intsV l) [.int .i64 x] W (by omega) (by omega) hnc (by omega) (by omega) (length_intsV l) rfl (fun j v hj => ?_) hvs (intsV_one l) h1v).mono ?_
        · have := hcs _ rfl j v hj
          rwa [Addr.add_lit] at this
        · rintro e w' ⟨rfl, rfl⟩
          obtain ⟨gc, hgc'⟩ : ∃ gc, gc = grownCap W (l.length + 1) c 3 := ⟨_, rfl⟩
          have hgc2 : grownCap W (l.length + 1) c ((Try.insert_ren).t 3) = gc := hgc'.symm
          rw [hgc2]
          rw [← hgc'] at hgc hgm fin
          obtain ⟨C, hC⟩ : ∃ C, C = (((intsV l).take i).toArray ++ Builtin.zeroCells (Value.int .i64 0).cells (l.length + 1 - i) ++ Builtin.zeroCells (Value.int .i64 0).cells (gc - (l.length + 1))) := ⟨_, rfl⟩
          have hCs : C.toList.length = gc := by
            rw [hC]
            simp only [Array.toList_append, List.length_append, Array.length_toList, List.size_toArray, size_zeroCells, zero_cells, List.length_take, length_intsV]
            omega
          have hCt : C.toList.take i = (intsV l).take i := by
            rw [hC]
            simp only [Array.toList_append, List.append_assoc]
            rw [List.take_left' (by simp [length_intsV]; omega)]
          rw [← hC]
          have h0 : (W.alloc (.cells C 3)).drew.heap[W.heap.size]? = some (.cells C 3 (0, 0)) := Go.heap_alloc_new W _
          have h1 := setCells_cells W.heap.size 3 [.int .i64 x] i _ C h0
          have h2 := setCells_cells W.heap.size 3 ((intsV l).drop i) (i + 1) ((W.alloc (.cells C 3)).drew.setCells W.heap.size i [.int .i64 x]).drew _ h1
          have hdl : ((intsV l).drop i).length = l.length - i := by rw [List.length_drop, length_intsV]
          have hp1 := putL_eq [.int .i64 x] C.toList i (by rw [hCs]; simp; omega)
          have hl1 : (putL C.toList i [.int .i64 x]).length = gc := by rw [hp1]; simp [hCs]; omega
          have hp2 := putL_eq ((intsV l).drop i) (putL C.toList i [.int .i64 x]) (i + 1) (by rw [hl1, hdl]; omega)
          refine fin _ _ h2 ?_ ?_ ?_
          · rw [List.size_toArray, List.toList_toArray, hp2]; simp [hl1, length_intsV]; omega
          · rw [List.toList_toArray, List.toList_toArray, hp2, hp1, intsV_ins, hCt]
            have e1 : ((intsV l).take i ++ [Value.int .i64 x] ++ C.toList.drop (i + ([Value.int .i64 x] : List Value).length)).take (i + 1) = (intsV l).take i ++ [Value.int .i64 x] := List.take_left' (by simp [length_intsV]; omega)
            rw [e1, List.take_left' (by simp [length_intsV]; omega), List.append_assoc]
          · exact ((((Below.refl _ W).alloc (Nat.le_refl _) _).drew.trans ((setCells_kept _ _ _ _).below (fun b q => by rw [q]; exact Nat.le_refl _) (by simp))).drew.trans ((setCells_kept _ _ _ _).below (fun b q => by rw [q]; exact Nat.le_refl _) (Nat.le_trans (show W.heap.size ≤ (W.alloc (.cells C 3)).drew.heap.size by simp) (setCells_kept W.heap.size [Value.int .i64 x] i (W.alloc (.cells C 3)).drew).size)))
end Go.Proofs.Ytpcindemkkdbbaa
