/- What waits, and its units: the keys of both maps, sorted. -/
import Derived.Test.YtkldiofleepkfaaHD
import Derived.Deep.Onto
set_option linter.unusedVariables false
set_option linter.unusedSimpArgs false
namespace Go.Proofs.Ytkldiofleepkfaa.Hd
open Go.RowKit
open Go.Maps (Keyed)
theorem nums_rise {l : List Hw} (h : Asc l) : (nums l).Pairwise (· < ·) := by unfold nums; rw [List.pairwise_map]; exact h
theorem units_rise {l : List Hw} (h : Asc l) : (units l).Pairwise (· < ·) := by unfold units heads; rw [List.pairwise_map]; exact h.filter _
theorem keys_rise {w : World} {b c : Nat} {ks ss : List Int} {D : DataW Value} (h1 : w.ownsMap Try.prog 3 RV b c D) (h2 : ∀ x, Maps.has D (.int .i64 x) = true ↔ x ∈ ks) (hks : ks.Pairwise (· < ·)) (hp : ss.Perm (intKeys D)) : ss.mergeSort (fun x y => decide (x ≤ y)) = ks := by
  have hp2 : ks.Perm (intKeys D) := by
    obtain ⟨es, hD, hpw, hk⟩ := h1.entries law3
    obtain ⟨es', hD', hko⟩ := h1.keysOf
    obtain rfl : es = es' := by rw [hD] at hD'; simpa using hD'
    subst hD
    refine perm_intKeys hpw (fun p hp => by obtain ⟨v, hv⟩ := hko p hp; obtain ⟨x, _, hx, _⟩ := Maps.keyOf_i64 Try.underlying3 hv; exact ⟨x, hx⟩) (hks.imp (fun h e => by omega)) (fun x => ?_)
    exact (h2 x).symm
  rw [mergeSort_of_perm_i (hp.trans hp2.symm)]
  refine List.mergeSort_of_pairwise (hks.imp (fun h => ?_))
  simp only [leI, decide_eq_true_eq]
  exact Int.le_of_lt h
/-- numbers that a call answers, a row of its own -/
def Says (w : World) (xs : List Int) (e : Ending) (w' : World) : Prop := ∃ A c, e = .returned (.slice A xs.length c) ∧ w'.ownsRow w.heap.size 3 1 (.slice A xs.length c) xs.length (intsI xs) ∧ Below w.heap.size w w'
theorem row_form {w : World} {B E n : Nat} {v : Value} {xs : List Value} (h : w.ownsRow B E 1 v n xs) : ∃ A c, v = .slice A n c := by
  rcases h.2 with ⟨rfl, rfl⟩ | ⟨g, cap, cur, rfl, _⟩
  · exact ⟨none, 0, rfl⟩
  · exact ⟨_, _, rfl⟩
theorem keysW_any (mb : Nat) (W : World) : Calls Try.prog 45 #[.map (some mb)] W fun e w' => e = .returned (.func (.func 60) #[] #[.pointer (some ⟨W.heap.size, 0, none⟩)]) ∧ w' = W.alloc (.cells #[.map (some mb)] 42) :=
  (callsIn_wide (n := 5)).1 (AnyZI.keys_in Try.keys45 Fence.wide 5 trivial rfl (some mb) W)
set_option maxHeartbeats 1000000 in
theorem sortedW_any (b nn : Nat) (D0 : DataW Value) (w : World) (hown : w.ownsMap Try.prog 3 RV b nn D0) (hsz : Maps.size D0 ≤ 1000000) :
    Calls Try.prog 21 #[.func (.func 60) #[] #[.pointer (some ⟨w.heap.size, 0, none⟩)]] (w.alloc (.cells #[.map (some b)] 42)) fun e w' => ∃ (v : Value) (ss : List Int), e = .returned v ∧ ss.Perm (intKeys D0) ∧
      w'.ownsRow (w.alloc (.cells #[.map (some b)] 42)).heap.size 3 1 v ss.length ((ss.mergeSort (fun x y => decide (x ≤ y))).map encZ) ∧ (v = .slice none 0 0 ↔ ss = []) ∧ Below (w.alloc (.cells #[.map (some b)] 42)).heap.size (w.alloc (.cells #[.map (some b)] 42)) w' := by
  have hbl := hown.lt
  have hseq : SeqGives Fence.wide 2 Try.prog 60 #[.pointer (some ⟨w.heap.size, 0, none⟩)] encZ (fun ss => ss.Perm (intKeys D0)) (Maps.size D0) (w.alloc (.cells #[.map (some b)] 42)) :=
    AnyZI.keys_gives (ρ := Try.keys45_ren) { Try.keys45 with } Fence.wide _ trivial rfl (by omega) w.heap.size b nn D0 _ (by simp) (by simp) (by
      obtain ⟨es, clock, hb, Ft, hs, hD⟩ := hown
      exact ⟨es, clock, (Below.heap_alloc _ _ b hbl).trans hb, Ft, hs, hD⟩)
  have cS := AnyZI.sorted_in Try.sorted21 Fence.wide 5 trivial trivial trivial trivial rfl (by omega) (sorts39 _) (enters_of Try.func42 (by kernel_rfl) rfl) 60 #[.pointer (some ⟨w.heap.size, 0, none⟩)] trivial (enters_of Try.func60 (by kernel_rfl) rfl) _ _ (by unfold maxLen; omega) (by omega) _ hseq
  change CallsIn _ _ Try.prog 21 _ _ _ at cS
  exact (callsIn_wide (n := 5)).1 cS
set_option maxRecDepth 100000 in
set_option maxHeartbeats 1000000 in
theorem hwaiting {w : World} {g n cc : Nat} {S : Nat → Bk} {k jo id : Int} {l : List Hw} {sent : List Int} {F : Nat → Prop} (h : Eng w g n S cc k jo id l sent F) (hc : cc ≤ 1000000) : Calls Try.prog 25 #[.pointer (some ⟨g, 0, none⟩)] w (Says w (nums l)) := by
  obtain ⟨gd, m, Fd, h, rfl⟩ := h
  have e0 := h.c4
  have hge := h.glt
  obtain ⟨D, h1, h2, h3⟩ := h.wmap
  have hsz : Maps.size D ≤ 1000000 := by have := h1.size_le; omega
  have KA := Lib.hid (keysW_any m.gw)
  have KS : Hid (Calls Try.prog 21 #[.func (.func 60) #[] #[.pointer (some ⟨w.heap.size, 0, none⟩)]] (w.alloc (.cells #[.map (some m.gw)] 42)) (Says w (nums l))) := by
    refine (sortedW_any m.gw cc D w h1 hsz).mono ?_
    rintro e w' ⟨v, ss, rfl, hp, hr, _, hB⟩
    rw [keys_rise h1 h2 (nums_rise h.ok.asc) hp] at hr
    have hl : ss.length = (nums l).length := by
      have := congrArg List.length (keys_rise h1 h2 (nums_rise h.ok.asc) hp)
      rwa [List.length_mergeSort] at this
    rw [hl] at hr
    obtain ⟨A, c, rfl⟩ := row_form hr
    exact ⟨A, c, rfl, hr.mono (by simp), (((Below.refl _ _).alloc (Nat.le_refl _) _).trans (hB.mono (by simp)))⟩
  clear h h1 h2 h3 hsz
  generalize nums l = xs at *
  generalize m.gw = gb at *
  go_enter Try.func25, Try.ntmps25
  go_wp2_with (first
    | (go_at_call 45; refine (KA.out _).mono ?_; rintro e w1 ⟨rfl, rfl⟩)
    | (go_at_call 21; refine KS.out.mono ?_; rintro e w2 hq; have HQ := Lib.hid hq; obtain ⟨A1, c1, rfl, _, _⟩ := hq))
  go_ret
  exact HQ.out
theorem keysU_any (mb : Nat) (W : World) : Calls Try.prog 22 #[.map (some mb)] W fun e w' => e = .returned (.func (.func 43) #[] #[.pointer (some ⟨W.heap.size, 0, none⟩)]) ∧ w' = W.alloc (.cells #[.map (some mb)] 43) :=
  (callsIn_wide (n := 5)).1 (AnyZI.keys_in Try.keys22 Fence.wide 5 trivial rfl (some mb) W)
set_option maxHeartbeats 1000000 in
theorem sortedU_any (b nn : Nat) (D0 : DataW Value) (w : World) (hown : w.ownsMap Try.prog 3 RV b nn D0) (hsz : Maps.size D0 ≤ 1000000) :
    Calls Try.prog 21 #[.func (.func 43) #[] #[.pointer (some ⟨w.heap.size, 0, none⟩)]] (w.alloc (.cells #[.map (some b)] 43)) fun e w' => ∃ (v : Value) (ss : List Int), e = .returned v ∧ ss.Perm (intKeys D0) ∧
      w'.ownsRow (w.alloc (.cells #[.map (some b)] 43)).heap.size 3 1 v ss.length ((ss.mergeSort (fun x y => decide (x ≤ y))).map encZ) ∧ (v = .slice none 0 0 ↔ ss = []) ∧ Below (w.alloc (.cells #[.map (some b)] 43)).heap.size (w.alloc (.cells #[.map (some b)] 43)) w' := by
  have hbl := hown.lt
  have hseq : SeqGives Fence.wide 2 Try.prog 43 #[.pointer (some ⟨w.heap.size, 0, none⟩)] encZ (fun ss => ss.Perm (intKeys D0)) (Maps.size D0) (w.alloc (.cells #[.map (some b)] 43)) :=
    AnyZI.keys_gives (ρ := Try.keys22_ren) { Try.keys22 with } Fence.wide _ trivial rfl (by omega) w.heap.size b nn D0 _ (by simp) (by simp) (by
      obtain ⟨es, clock, hb, Ft, hs, hD⟩ := hown
      exact ⟨es, clock, (Below.heap_alloc _ _ b hbl).trans hb, Ft, hs, hD⟩)
  have cS := AnyZI.sorted_in Try.sorted21 Fence.wide 5 trivial trivial trivial trivial rfl (by omega) (sorts39 _) (enters_of Try.func42 (by kernel_rfl) rfl) 43 #[.pointer (some ⟨w.heap.size, 0, none⟩)] trivial (enters_of Try.func43 (by kernel_rfl) rfl) _ _ (by unfold maxLen; omega) (by omega) _ hseq
  change CallsIn _ _ Try.prog 21 _ _ _ at cS
  exact (callsIn_wide (n := 5)).1 cS
set_option maxRecDepth 100000 in
set_option maxHeartbeats 1000000 in
theorem hunits {w : World} {g n cc : Nat} {S : Nat → Bk} {k jo id : Int} {l : List Hw} {sent : List Int} {F : Nat → Prop} (h : Eng w g n S cc k jo id l sent F) (hc : cc ≤ 1000000) : Calls Try.prog 8 #[.pointer (some ⟨g, 0, none⟩)] w (Says w (units l)) := by
  obtain ⟨gd, m, Fd, h, rfl⟩ := h
  have e0 := h.c5
  have hge := h.glt
  obtain ⟨D, h1, h2, h3⟩ := h.umap
  have hsz : Maps.size D ≤ 1000000 := by have := h1.size_le; omega
  have KA := Lib.hid (keysU_any m.gu)
  have KS : Hid (Calls Try.prog 21 #[.func (.func 43) #[] #[.pointer (some ⟨w.heap.size, 0, none⟩)]] (w.alloc (.cells #[.map (some m.gu)] 43)) (Says w (units l))) := by
    refine (sortedU_any m.gu cc D w h1 hsz).mono ?_
    rintro e w' ⟨v, ss, rfl, hp, hr, _, hB⟩
    rw [keys_rise h1 h2 (units_rise h.ok.asc) hp] at hr
    have hl : ss.length = (units l).length := by
      have := congrArg List.length (keys_rise h1 h2 (units_rise h.ok.asc) hp)
      rwa [List.length_mergeSort] at this
    rw [hl] at hr
    obtain ⟨A, c, rfl⟩ := row_form hr
    exact ⟨A, c, rfl, hr.mono (by simp), (((Below.refl _ _).alloc (Nat.le_refl _) _).trans (hB.mono (by simp)))⟩
  clear h h1 h2 h3 hsz
  generalize units l = xs at *
  generalize m.gu = gb at *
  go_enter Try.func8, Try.ntmps8
  go_wp2_with (first
    | (go_at_call 22; refine (KA.out _).mono ?_; rintro e w1 ⟨rfl, rfl⟩)
    | (go_at_call 21; refine KS.out.mono ?_; rintro e w2 hq; have HQ := Lib.hid hq; obtain ⟨A1, c1, rfl, _, _⟩ := hq))
  go_ret
  exact HQ.out
end Go.Proofs.Ytkldiofleepkfaa.Hd
