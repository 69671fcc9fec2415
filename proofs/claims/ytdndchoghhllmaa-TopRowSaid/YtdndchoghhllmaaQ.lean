/- The shelf's contracts at this program: rising, Clone, Contains, maps.Clone. -/
import Derived.Test.YtdndchoghhllmaaP
import Derived.Test.YtdndchoghhllmaaSh
import Derived.Shelf.SlicesE.Kit
set_option linter.unusedVariables false
set_option linter.unusedSimpArgs false
namespace Go.Proofs.Ytdndchoghhllmaa
open Go.RowKit Go.Maps Go.Sort Go.Shelf
theorem sortsI (m : Nat) : AnyZI.SortsIn Try.prog Try.sorted_ren Fence.wide m :=
  ⟨fun blk off cap ss W hH hblk hsz => callsIn_wide.2 (AnyM.slices_Sort_int Try.sort blk off cap ss W hH hblk hsz),
   fun p cap W => callsIn_wide.2 (AnyM.slices_Sort_int_none Try.sort p cap W)⟩
theorem keys_any (mb : Nat) (W : World) : Calls Try.prog 61 #[.map (some mb)] W fun e w' => e = .returned (.func (.func 69) #[] #[.pointer (some ⟨W.heap.size, 0, none⟩)]) ∧ w' = W.alloc (.cells #[.map (some mb)] 61) :=
  (callsIn_wide (n := 5)).1 (AnyZI.keys_in Try.keys Fence.wide 5 trivial rfl (some mb) W)
set_option maxHeartbeats 1000000 in
theorem sorted_any (b nn : Nat) (D0 : DataW Value) (w : World) (hown : w.ownsMap Try.prog 3 unitElem b nn D0) (hsz : Maps.size D0 ≤ 100000000) :
    Calls Try.prog 40 #[.func (.func 69) #[] #[.pointer (some ⟨w.heap.size, 0, none⟩)]] (w.alloc (.cells #[.map (some b)] 61)) fun e w' => ∃ (v : Value) (ss : List Int), e = .returned v ∧ ss.Perm (intKeys D0) ∧
      w'.ownsRow (w.alloc (.cells #[.map (some b)] 61)).heap.size 3 1 v ss.length ((ss.mergeSort (fun x y => decide (x ≤ y))).map encZ) ∧ (v = .slice none 0 0 ↔ ss = []) ∧ Below (w.alloc (.cells #[.map (some b)] 61)).heap.size (w.alloc (.cells #[.map (some b)] 61)) w' := by
  have hbl := hown.lt
  have hseq : SeqGives Fence.wide 2 Try.prog 69 #[.pointer (some ⟨w.heap.size, 0, none⟩)] encZ (fun ss => ss.Perm (intKeys D0)) (Maps.size D0) (w.alloc (.cells #[.map (some b)] 61)) :=
    AnyZI.keys_gives (ρ := Try.keys_ren) { Try.keys with } Fence.wide _ trivial rfl (by omega) w.heap.size b nn D0 _ (by simp) (by simp) (by
      obtain ⟨es, clock, hb, Ft, hs, hD⟩ := hown
      exact ⟨es, clock, (Below.heap_alloc _ _ b hbl).trans hb, Ft, hs, hD⟩)
  have cS := AnyZI.sorted_in Try.sorted Fence.wide 5 trivial trivial trivial trivial rfl (by omega) (sortsI _) (enters_of Try.func58 (by kernel_rfl) rfl) 69 #[.pointer (some ⟨w.heap.size, 0, none⟩)] trivial (enters_of Try.func69 (by kernel_rfl) rfl) _ _ (by unfold maxLen; omega) (by omega) _ hseq
  change CallsIn _ _ Try.prog 40 _ _ _ at cS
  exact (callsIn_wide (n := 5)).1 cS
/-- rising numbers are what sorting makes of them in any order -/
theorem sort_rises {ss p : List Int} (hp : Rises p) (h : ss.Perm p) : ss.mergeSort (fun x y => decide (x ≤ y)) = p := by
  rw [mergeSort_of_perm_i h]
  refine List.mergeSort_of_pairwise (hp.imp (fun h => ?_))
  simp only [leI, decide_eq_true_eq]
  exact Int.le_of_lt h
theorem encZ_ints (l : List Int) : l.map encZ = intsV l := rfl
/-- the row that sorting answers -/
theorem row_sorted {w : World} {B n : Nat} {v : Value} {ss p : List Int} (hp : Rises p) (h : ss.Perm p) (hr : w.ownsRow B 3 1 v n ((ss.mergeSort (fun x y => decide (x ≤ y))).map encZ)) : ∃ A c, v = .slice A p.length c ∧ RowI w B A c p := by
  rw [sort_rises hp h, encZ_ints] at hr
  exact (own_ints hr).2
theorem SetAt.keys {w : World} {b c : Nat} {l p : List Int} (hp : Rises p) (hm : ∀ x, x ∈ p ↔ x ∈ l) {D : DataW Value} (h1 : w.ownsMap Try.prog 3 unitElem b c D) (h2 : ∀ x : Int, Maps.has D (.int .i64 x) = true ↔ x ∈ l) : p.Perm (intKeys D) := by
  obtain ⟨es, hD, hpw, hk⟩ := h1.entries lawI
  obtain ⟨es', hD', hko⟩ := h1.keysOf
  obtain rfl : es = es' := by rw [hD] at hD'; simpa using hD'
  subst hD
  exact perm_intKeys hpw (fun p hp => by obtain ⟨v, hv⟩ := hko p hp; obtain ⟨x, _, hx, _⟩ := Maps.keyOf_i64 Try.underlying3 hv; exact ⟨x, hx⟩) (rises_nodup hp) (fun x => (hm x).trans (h2 x).symm)
section
variable (b c : Nat) (l p : List Int) (w : World)
set_option maxRecDepth 100000 in
set_option maxHeartbeats 1000000 in
theorem rising_any (h : SetAt w b c l) (hc : c < 10000000) (hp : Rises p) (hm : ∀ x, x ∈ p ↔ x ∈ l) : Calls Try.prog 42 #[.map (some b)] w fun e w' => ∃ A' c', e = .returned (.slice A' p.length c') ∧ RowI w' w.heap.size A' c' p ∧ Below w.heap.size w w' := by
  obtain ⟨D, h1, h2⟩ := h
  have hperm := SetAt.keys hp hm h1 h2
  have hsz := h1.size_le
  have HS := Lib.hid ((sorted_any b c D w h1 (by omega)).mono (fun e w' ⟨v, ss, q1, q2, q3, _, q5⟩ => by
    obtain ⟨A, c', e1, e2⟩ := row_sorted hp (q2.trans hperm.symm) q3
    exact (⟨A, c', by rw [q1, e1], e2.base (by simp), ((Below.refl _ w).alloc (Nat.le_refl _) _).trans (q5.mono (by simp))⟩ : ∃ A c', e = .returned (.slice A p.length c') ∧ RowI w' w.heap.size A c' p ∧ Below w.heap.size w w')))
  clear h1 h2 hp hm hperm hsz
  go_enter Try.func42, Try.ntmps42
  go_wp2_with (first
    | (go_at_call 61; refine (keys_any b w).mono ?_; rintro e w' ⟨rfl, rfl⟩)
    | (go_at_call 40; refine HS.out.mono ?_; rintro e w' ⟨A, c', rfl, hr, hb⟩; have HR := Lib.hid hr; have HB := Lib.hid hb; clear hr hb))
  go_ret
  exact ⟨A, c', rfl, HR.out, HB.out⟩
end
theorem infoI2 : ∃ i0, Try.prog.info? 3 = some i0 ∧ i0.zero = some (.int .i64 0) ∧ i0.size = 1 ∧ i0.bytes = 8 := info_parts infoI
set_option maxHeartbeats 1000000 in
theorem clone_any (A : Option Addr) (c : Nat) (l : List Int) (w : World) (hl : l.length ≤ 100000) (hI : Ints w w.heap.size A l) (hA : l ≠ [] ∨ A = none) : Calls Try.prog 60 #[.slice A l.length c] w fun e w' => ∃ A' c', e = .returned (.slice A' l.length c') ∧ RowI w' w.heap.size A' c' l ∧ Below w.heap.size w w' := by
  rcases A with _ | ⟨b, off, x⟩
  · have h0 : l = [] := by
      rcases l with _ | ⟨a, r⟩
      · rfl
      · obtain ⟨_, _, e, _⟩ := hI (by simp); cases e
    subst h0
    exact (AnyE.slices_Clone_nil Try.clone _ _ w).mono fun e w' ⟨he, hw⟩ => ⟨none, 0, he, by rw [hw]; exact World.ownsRow_nil _ _ _ _, by rw [hw]; exact Below.refl _ _⟩
  · have hne : l ≠ [] := hA.resolve_right (by simp)
    have h0 : 0 < l.length := List.length_pos_iff.2 hne
    obtain ⟨b', off', e, hb, hc⟩ := hI h0
    obtain ⟨rfl, rfl, rfl⟩ : b = b' ∧ off = off' ∧ x = none := by simpa using e
    obtain ⟨i0, i1, i2, i3, i4⟩ := infoI2
    refine (AnyE.slices_Clone Try.clone i0 (.int .i64 0) 1 8 i1 i2 i3 i4 rfl (by decide) Try.sizeOf3 b off l.length c (intsV l) w (by rw [length_intsV]; omega) (by unfold maxLen; omega) (by omega) (fun j u hu => ?_) (intsV_one l)).mono fun e w' ⟨v, q1, q2, _, q4⟩ => ?_
    · have hj := (List.getElem?_eq_some_iff.1 hu).1
      rw [length_intsV] at hj
      rw [intsV_at hj] at hu
      rw [hc j hj]; exact hu
    · obtain ⟨A', c', rfl, hr⟩ := (own_ints q2).2
      exact ⟨A', c', q1, hr, q4⟩
set_option maxHeartbeats 1000000 in
theorem contains_any (b c : Nat) (zs : List Int) (x : Int) (w : World) (hl : zs.length ≤ 1000) (hz : ∀ j, j < zs.length → w.cell? ⟨b, j, none⟩ = some (.int .u8 (inn zs j))) : Calls Try.prog 64 #[.slice (some ⟨b, 0, none⟩) zs.length c, .int .u8 x] w fun e w' => e = .returned (.bool (zs.any fun y => x == y)) ∧ w' = w := by
  have := AnyE.slices_Contains Try.contains (Value.int .u8) (fun x y => x == y) (EqlAt.int _ _ .u8) b 0 zs.length c zs x w (Nat.le_refl _) (by omega) (fun j hj => by rw [Nat.zero_add, hz j hj, inn_lt hj, getElem!_pos zs j hj])
  rwa [List.take_length] at this
theorem mclone_any (b c : Nat) (l : List Int) (w : World) (h : SetAt w b c l) : Calls Try.prog 51 #[.map (some b)] w fun e w' => e = .returned (.map (some w.heap.size)) ∧ SetAt w' w.heap.size c l ∧ Below w.heap.size w w' ∧ w'.heap.size = w.heap.size + 1 := by
  obtain ⟨D, ⟨es, clock, hb, F, hs, hD⟩, h2⟩ := h
  refine (AnyW.maps_Clone Try.mclone b es clock w hb).mono fun e w' ⟨he, hw⟩ => ?_
  subst hw
  exact ⟨he, ⟨D, ⟨es, clock, (MapKept.heap_alloc w _).1, F, hs, hD⟩, h2⟩, (Below.refl _ w).alloc (Nat.le_refl _) _, by simp⟩
end Go.Proofs.Ytdndchoghhllmaa
