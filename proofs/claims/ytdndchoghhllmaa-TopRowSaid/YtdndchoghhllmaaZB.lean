/- The program's groups: maps.Copy of sets; walk; Ahead. -/
import Derived.Test.YtdndchoghhllmaaZA
set_option linter.unusedVariables false
set_option linter.unusedSimpArgs false
namespace Go.Proofs.Ytdndchoghhllmaa
open Go.RowKit Go.Maps Go.Sort Go.Shelf
set_option maxRecDepth 100000 in
set_option maxHeartbeats 2000000 in
theorem mcopy_any (bd bs cd cs : Nat) (ld ls : List Int) (w : World) (hd : SetAt w bd cd ld) (hs : SetAt w bs cs ls) (hne : bd ≠ bs) (hc : cd + cs < 100000000) : Calls Try.prog 53 #[.map (some bd), .map (some bs)] w fun e w' =>
    e = .returned (.tuple #[]) ∧ (∀ m, (∀ y, y ∈ m ↔ y ∈ ld ∨ y ∈ ls) → SetAt w' bd (cd + cs) m) ∧ w.grownBy w' (some bd) := by
  obtain ⟨D, m1, m2⟩ := hs
  have hsz := m1.size_le
  have M1 := Lib.hid m1
  have M2 := Lib.hid m2
  have HD := Lib.hid hd
  have hbd := hd.lt
  have hbs := m1.lt
  clear hd m1 m2
  go_enter Try.func53, Try.ntmps53
  go_wp2_with (at_range; refine wpList_range_own _ rfl _ 61 rfl 3 69 lawI Try.underlying61 unitElem bs cs D rfl M1.out ?_; intro w0 hrg0 hg0 hs0; have HR0 := Lib.hid hrg0; have HG0 := Lib.hid hg0; clear hrg0 hg0 hs0)
  go_frame
  go_loopw [4, 5] (fun _ _ wr => ∃ (left : Lit → Bool) (cnt : Nat) (l : List Int) (d : Nat), Hid (wr.ranges Try.prog 3 unitElem bs w.heap.size cs D left cnt) ∧ d + cnt ≤ cd + Maps.size D ∧ Hid (SetAt wr bd d l) ∧ Hid (∀ y, y ∈ l ↔ y ∈ ld ∨ (y ∈ ls ∧ left (.int .i64 y) = false)) ∧ Hid (w.grownBy wr (some bd))) (fun _ _ wr => wr.rangeLeft bs w.heap.size)
  case atStart =>
    refine ⟨_, _, ld, cd, HR0.out, Nat.le_refl _, HD.out.keep (S := fun _ => False) (Kept.grown HG0.out (fun _ e => by cases e)) (fun q => q), fun y => ?_, HG0.out.but _⟩
    constructor
    · intro h; exact .inl h
    · rintro (h | ⟨h1, h2⟩)
      · exact h
      · rw [(M2.out y).2 h1] at h2; cases h2
  case round =>
    obtain ⟨left, cnt, l, d, hrg, hdc, hS, hl, hg⟩ := hrel
    rename World => wr
    have HrgL := Lib.hid hrg.out
    go_wp2_with (at_next; refine wpList_next_ranges _ rfl _ rfl 3 lawI unitElem (Value.int .i64) (fun _ : Unit => Value.agg #[]) (fun key kl hkey => by obtain ⟨x, rfl, _⟩ := Maps.keyOf_int_inv Try.underlying3 hkey; exact ⟨x, rfl⟩) (fun v y hv => ⟨(), (unitElem_inv hv).1⟩) bs w.heap.size cs D left cnt rfl HrgL.out ?_ ?_)
    · intro hc0 hl0
      have HE : Hid (∀ m, (∀ y, y ∈ m ↔ y ∈ ld ∨ y ∈ ls) → SetAt wr bd (cd + cs) m) := fun m hm => (hS.out.more (by omega)).same (fun y => by
        rw [hm, hl.out]
        constructor
        · rintro (h | h)
          · exact .inl h
          · exact .inr ⟨h, hl0 _⟩
        · rintro (h | ⟨h, _⟩)
          · exact .inl h
          · exact .inr h)
      clear hl0 hc0 hrg hS hl HrgL
      go_wp2
      go_end0
      exact ⟨rfl, HE.out, hg.out⟩
    · intro x cv kl yv w1 cnt1 hkey hlx hv hat hrg1 hlt hg1 hs1 hen
      obtain ⟨x', ex, rfl, hwx⟩ := Maps.keyOf_int_inv Try.underlying3 hkey
      cases ex
      have hwr := hg.out.size
      have hK := keyI (WfI.of_wf hwx)
      have hk1 : Kept wr w1 (fun b => b = w.heap.size) := Kept.grown hg1 (fun b e => by cases e; exact .inl rfl)
      have hS1 : SetAt w1 bd d l := hS.out.keep hk1 (by omega)
      have hB : Below w1.heap.size w1 (w1.alloc (.cells #[] 69)) := (Below.refl _ w1).alloc (Nat.le_refl _) _
      have hS2 := hS1.fresh hB
      have hr2 := hrg1.alloc (.cells #[] 69)
      obtain ⟨D2, z1, z2⟩ := hS2
      have Z1 := Lib.hid z1
      have HK := Lib.hid hK
      have HLt := Lib.hid hlt
      have HrgO := Lib.hid hrg.out
      have hxs : x ∈ ls := by
        have := hrg1.owns
        have h2 := M2.out x
        apply h2.1
        exact Maps.has_true_of_atKey hat
      have hdm : d < maxLen := by unfold maxLen; omega
      have HEnd : Hid (∀ w7, w7.ownsMap Try.prog 3 unitElem bd (d + 1) (D2.put (.int .i64 x) (.agg [])) → (w1.alloc (.cells #[] 69)).grownBy w7 (some bd) → w7.ranges Try.prog 3 unitElem bs w.heap.size cs D (fun z => left z && !z.sameKey (.int .i64 x)) cnt1 ∧ SetAt w7 bd (d + 1) (x :: l) ∧ w.grownBy w7 (some bd)) := fun w7 h7 hg7 => by
        refine ⟨hr2.kept hg7 (fun e => hne (Option.some.inj e).symm) (fun e => by have := Option.some.inj e; omega), ⟨_, h7, fun y => ?_⟩, ((hg.out.andThen hg1 (fun j hj => .inl (by cases hj; exact Nat.le_refl _))).andThen (below_grown hB) (fun j hj => by cases hj)).andThen hg7 (fun j hj => .inr hj)⟩
        by_cases e : y = x
        · rw [e, Maps.has_put_same z1.isMap (isKey x)]; simp
        · rw [Maps.has_put_other (ne_key e), z2 y]; simp [e]
      have HL2 : Hid (∀ y, y ∈ x :: l ↔ y ∈ ld ∨ (y ∈ ls ∧ (fun z => left z && !z.sameKey (.int .i64 x)) (.int .i64 y) = false)) := fun y => by
        rw [List.mem_cons, hl.out]
        by_cases e : y = x
        · rw [e]
          constructor
          · intro _; exact .inr ⟨hxs, strike_self left x⟩
          · intro _; exact .inl rfl
        · rw [strike_other left e]
          constructor
          · rintro (h | h)
            · exact absurd h e
            · exact h
          · intro h; exact .inr h
      clear hkey hlx hv hat hrg1 hlt hg1 hs1 hwx hrg hS hl hg HrgL hk1 hS1 hB hr2 z1 z2 hxs hK
      go_wp2_with (at_mapUpdate; refine wpList_mapUpdate_own _ rfl _ _ _ 61 rfl 3 69 lawI Try.underlying61 unitElem bd d D2 rfl Z1.out hdm _ _ (.int .i64 x) rfl rfl HK.out (.agg []) [] rfl ?_; intro w7 h7 hg7; have H7 := Lib.hid (HEnd.out w7 h7 hg7); clear h7 hg7)
      go_roundw
      case rel => exact ⟨_, cnt1, H7.out.1, x :: l, d + 1, by have := HLt.out; omega, H7.out.2.1, HL2.out, H7.out.2.2⟩
      case measure => have := HLt.out; rw [H7.out.1.left_eq, HrgO.out.left_eq]; omega
set_option maxRecDepth 100000 in
theorem walk_any (g : Nat) (A : Option Addr) (n c : Nat) (w : World) : Calls Try.prog 41 #[.pointer (some ⟨g, 0, none⟩), .slice A n c] w fun e w' => e = .returned (.func (.func 59) #[] #[.pointer (some ⟨w.heap.size + 1, 0, none⟩), .pointer (some ⟨w.heap.size, 0, none⟩)]) ∧ w' = (w.alloc (.cells #[.pointer (some ⟨g, 0, none⟩)] 23)).alloc (.cells #[.slice A n c] 30) := by
  go_enter Try.func41, Try.ntmps41
  go_wp2
  go_ret
  exact ⟨rfl, rfl⟩
theorem aheadR_all {l : List Gp} (hin : ∀ n, ∀ y ∈ (ofN l n).a, y ∈ nos l) (n : Int) : AllFar l [n] (aheadR l n) := by
  refine ⟨rises_nodup (aheadR_rises l n), fun y => ?_⟩
  rw [mem_aheadR hin]
  constructor
  · intro h; exact ⟨n, by simp, h⟩
  · rintro ⟨m, hm, h⟩
    rw [List.mem_singleton] at hm
    rw [← hm]; exact h
theorem aheadR_len {l : List Gp} (hin : ∀ n, ∀ y ∈ (ofN l n).a, y ∈ nos l) (n : Int) : (aheadR l n).length ≤ l.length := by
  have hg : GoodO l (aheadR l n) := ((GoodO.nil _).withL (hin n)).rounds hin _
  exact hg.len
section
variable (B c g mb : Nat) (L : List Pr) (k n : Int) (w : World)
set_option maxRecDepth 100000 in
set_option maxHeartbeats 2000000 in
theorem ahead_any (h : PrgAt B c w g mb L k) (hc : c < 1000000) (hn : WfI n) (hwf : ∀ n ∈ nos (gp L), WfI n) (hin : ∀ n, ∀ y ∈ (ofN (gp L) n).a, y ∈ nos (gp L)) (hl : L.length ≤ 100) : Calls Try.prog 16 #[.pointer (some ⟨g, 0, none⟩), .int .i64 n] w fun e w' =>
    ∃ A' c', e = .returned (.slice A' (aheadR (gp L) n).length c') ∧ RowI w' w.heap.size A' c' (aheadR (gp L) n) ∧ Below w.heap.size w w' := by
  by_cases hno : n ∈ nos (gp L)
  · obtain ⟨q, hq, e1, e2⟩ := h.of_ hno
    have HA := ask_in B c g mb L k w h hq (by rw [e2]; exact hn)
    rw [e2] at HA
    replace HA := Lib.hid HA
    have hlen := aheadR_len hin n
    rw [length_gp] at hlen
    obtain ⟨w3, hw3⟩ : ∃ w3, w3 = ((w.alloc (.cells #[.int .i64 n] 3)).alloc (.cells #[.pointer (some ⟨g, 0, none⟩)] 23)).alloc (.cells #[.slice (some ⟨w.heap.size, 0, none⟩) 1 1] 30) := ⟨_, rfl⟩
    have hB3 : Below w.heap.size w w3 := by rw [hw3]; exact ((((Below.refl _ w).alloc (Nat.le_refl _) _).alloc (by simp) _).alloc (by simp; omega) _)
    have hs3 : w3.heap.size = w.heap.size + 3 := by rw [hw3]; simp
    have hz0 : w3.heap[w.heap.size]? = some (.cells #[.int .i64 n] 3 (0, 0)) := by
      rw [hw3, Below.heap_alloc _ _ _ (by simp; omega), Below.heap_alloc _ _ _ (by simp)]; exact heap_alloc_new w _
    have hz1 : w3.heap[w.heap.size + 1]? = some (.cells #[.pointer (some ⟨g, 0, none⟩)] 23 (0, 0)) := by
      rw [hw3, Below.heap_alloc _ _ _ (by simp)]
      have := heap_alloc_new (w.alloc (.cells #[.int .i64 n] 3)) (.cells #[.pointer (some ⟨g, 0, none⟩)] 23)
      rwa [World.size_alloc] at this
    have hz2 : w3.heap[w.heap.size + 2]? = some (.cells #[.slice (some ⟨w.heap.size, 0, none⟩) 1 1] 30 (0, 0)) := by
      rw [hw3]
      have := heap_alloc_new ((w.alloc (.cells #[.int .i64 n] 3)).alloc (.cells #[.pointer (some ⟨g, 0, none⟩)] 23)) (.cells #[.slice (some ⟨w.heap.size, 0, none⟩) 1 1] 30)
      simpa using this
    have hso : RowI w3 w.heap.size (some ⟨w.heap.size, 0, none⟩) 1 [n] := ⟨by simp [intsV], .inr ⟨w.heap.size, 1, _, rfl, Nat.le_refl _, hz0, Nat.le_refl _, by unfold maxLen; omega, rfl, rfl⟩⟩
    have hseq := walk_gives B c g mb L k w3 (h.fresh hB3) hc hwf hin (w.heap.size + 2) (w.heap.size + 1) w.heap.size 1 (some ⟨w.heap.size, 0, none⟩) [n] (aheadR (gp L) n) (cell_of_row w3 _ 0 _ _ (0, 0) hz2) (by omega) (cell_of_row w3 _ 0 _ _ (0, 0) hz1) (by omega) hso (fun y hy => by rw [List.mem_singleton] at hy; rw [hy]; exact hno) (by simp) (aheadR_all hin n) (by omega) (fun b => b < w3.heap.size) (fun b q => q) (fun b o => (h.fresh hB3).lt b o) ⟨by omega, by omega⟩ (fun b e => (hso.lt b e).2)
    have HSo := Lib.hid ((sorted_f (fun b q => q) (aheadR_rises (gp L) n) (by omega) (enters_of Try.func59 (by kernel_rfl) rfl) hseq (fun pre x hx => by have := hx.1; omega)).mono (fun e w' ⟨A, c', q1, q2, q3⟩ => (⟨A, c', q1, q2.base (by omega), hB3.trans (q3.mono (by omega))⟩ : ∃ A c', e = Ending.returned (.slice A (aheadR (gp L) n).length c') ∧ RowI w' w.heap.size A c' (aheadR (gp L) n) ∧ Below w.heap.size w w')))
    rw [hw3] at HSo
    clear h hn hno e1 e2 hwf hin hlen hw3 hB3 hs3 hz0 hz1 hz2 hso hseq
    generalize aheadR (gp L) n = p at *
    go_enter Try.func16, Try.ntmps16
    go_wp2_with (first
      | (go_at_call 39; refine HA.out.mono ?_; rintro e w' ⟨rfl, rfl⟩)
      | (go_at_call 41; refine (walk_any g (some ⟨w.heap.size, 0, none⟩) 1 1 (w.alloc (.cells #[.int .i64 n] 3))).mono ?_; rintro e w' ⟨rfl, rfl⟩)
      | (go_at_call 40; refine HSo.out.mono ?_; rintro e w' ⟨A, c', rfl, hr, hb⟩; have HR := Lib.hid hr; have HB := Lib.hid hb; clear hr hb))
    go_ret
    exact ⟨A, c', rfl, HR.out, HB.out⟩
  · have HA := Lib.hid (ask_out B c g mb L k n w h hn hno)
    rw [aheadR_out hno]
    clear h hn hno hwf hin
    go_enter Try.func16, Try.ntmps16
    go_wp2_with (refine HA.out.mono ?_; rintro e w' ⟨rfl, rfl⟩)
    go_ret
    exact ⟨none, 0, rfl, World.ownsRow_nil _ _ _ _, Below.refl _ _⟩
end
end Go.Proofs.Ytdndchoghhllmaa
