/- Delete; contracts of has, with, without. -/
import Derived.Test.YtpcindemkkdbbaaU
namespace Go.Proofs.Ytpcindemkkdbbaa
set_option linter.unusedVariables false
set_option linter.unusedSimpArgs false
open Go.RowKit

def delI (l : List Int) (i : Nat) : List Int := l.take i ++ l.drop (i + 1)
theorem length_delI {l : List Int} {i : Nat} (h : i < l.length) : (delI l i).length = l.length - 1 := by
  rw [delI, List.length_append, List.length_take, List.length_drop]; omega
theorem delete_any (A : Option Addr) (c i : Nat) (l : List Int) (B : Nat) (w : World) (hl : l.length ≤ 1000) (hi : i < l.length) (h : RowI w B A c l) :
    Calls Try.prog 73 #[.slice A l.length c, .int .i64 i, .int .i64 ((i + 1 : Nat) : Int)] w (Turned w B A (delI l i)) := by
  rcases h.open_ with ⟨_, rfl, _⟩ | ⟨g, cur, rfl, hg, hcur, hc, hm, hs, ht⟩
  · simp at hi
  · have hcl : cur.toList.length = c := by simpa using hs
    have hcell : ∀ j, j < l.length → w.cell? ⟨g, 0 + j, none⟩ = some (.int .i64 (l.getD j 0)) := fun j hj => by
      rw [Nat.zero_add, cellAt_of hcur, ← Array.getElem?_toList]
      have : (cur.toList.take l.length)[j]? = (intsV l)[j]? := by rw [ht]
      rw [List.getElem?_take, if_pos hj] at this
      rw [this, intsV_at hj]; rfl
    refine (Any.slices_Delete_int_cells Try.delete g 0 l.length c i (i + 1) l w (Nat.le_refl _) hc (by unfold maxLen at hm; omega) (by omega) (by omega) hcell (fun j hj => frozen_of_row w g _ cur 3 hcur)).mono ?_
    rintro e w' ⟨rfl, q, rfl⟩
    have hlen := length_delI hi
    rw [List.take_length]
    obtain ⟨vs, hvs⟩ : ∃ vs, vs = (l.take i ++ l.drop (i + 1) ++ List.replicate (i + 1 - i) 0).map (Value.int .i64) := ⟨_, rfl⟩
    have hvl : vs.length = l.length := by rw [hvs, List.length_map, List.length_append, ← delI, hlen, List.length_replicate]; omega
    have hvt : vs.take (l.length - 1) = intsV (delI l i) := by
      rw [hvs, List.map_append, List.take_left' (by rw [List.length_map, ← delI, hlen])]; rfl
    have e0 : (l.take i ++ l.drop (i + 1) ++ List.replicate (i + 1 - i) 0).map (Value.int .i64) = vs := hvs.symm
    rw [e0]
    have h1 := setCells_cells g 3 vs 0 (w.drewN q) cur hcur
    have hp := putL_eq vs cur.toList 0 (by rw [hvl, hcl]; omega)
    refine ⟨some ⟨g, 0, none⟩, c, by rw [hlen]; congr 2; omega, rowI_some hg h1 (by omega) hm ?_ ?_, (drew_kept w q _).trans (setCells_kept g _ _ _) (fun b q => .inl (by rw [q]; rfl)), fun b q => .inl q⟩
    · rw [List.size_toArray, hp, List.take_zero, List.nil_append, List.length_append, List.length_drop, hcl]; omega
    · rw [List.toList_toArray, hp, List.take_zero, List.nil_append, List.take_append_of_le_length (by omega), hlen, hvt]

theorem Turned.more {w w1 : World} {B : Nat} {A : Option Addr} {l : List Int} {e : Ending} {w' : World} (h : Turned w1 B A l e w') (hk : ∀ S, Kept w w1 S) : Turned w B A l e w' := by
  obtain ⟨A', c', he, hr, hK, hn⟩ := h
  exact ⟨A', c', he, hr, (hk _).trans hK (fun b q => .inl q), fun b q => (hn b q).imp id (fun r => by have := (hk (fun _ => False)).size; omega)⟩
theorem contains_iff {l : List Int} {x : Int} : l.contains x = true ↔ x ∈ l := by simp

set_option maxHeartbeats 1000000 in
/-- a list that rises has a number, or not -/
theorem has_any (A : Option Addr) (c : Nat) (l : List Int) (x : Int) (w : World) (hl : l.length ≤ 1000) (hI : Ints w w.heap.size A l) (hs : l.Pairwise (· < ·)) :
    Calls Try.prog 55 #[.slice A l.length c, .int .i64 x] w fun e w' => e = .returned (.bool (l.contains x)) ∧ ∃ q, w' = w.drewN q := by
  have HS := Lib.hid (search_any A c l x w hl hI hs)
  clear hI hs
  obtain ⟨r, hr⟩ : ∃ r, r = l.contains x := ⟨_, rfl⟩
  obtain ⟨p, hp⟩ : ∃ p, p = posI l x := ⟨_, rfl⟩
  obtain ⟨n, hn⟩ : ∃ n, n = l.length := ⟨_, rfl⟩
  rw [← hr, ← hp, ← hn] at HS
  rw [← hr, ← hn]
  clear hr hp hn hl
  go_enter Try.func55, Try.ntmps55
  go_wp2_with (go_at_call 71; refine HS.out.mono ?_; rintro e w' ⟨rfl, q, rfl⟩)
  go_ret
  exact ⟨rfl, q, rfl⟩

set_option maxHeartbeats 1000000 in
theorem with_any (A : Option Addr) (c : Nat) (l : List Int) (x : Int) (B : Nat) (w : World) (hl : l.length ≤ 1000) (hB : B ≤ w.heap.size) (h : RowI w B A c l) (hs : l.Pairwise (· < ·)) :
    Calls Try.prog 72 #[.slice A l.length c, .int .i64 x] w (Turned w B A (withI l x)) := by
  have HS := Lib.hid (search_any A c l x w hl h.ints hs)
  have HN : Hid (∀ q, Calls Try.prog 80 #[.slice A l.length c, .int .i64 (posI l x : Nat), .slice (some ⟨w.heap.size, 0, none⟩) 1 1] ((w.drewN q).alloc (.cells #[.int .i64 x] 3)) (Turned w B A (withI l x))) := fun q =>
    (insert_any A c (posI l x) l x B (w.drewN q) hl (posI_le l x) hB (h.keep (S := fun _ => False) (drew_kept w q _) (fun _ _ t => t))).mono fun e w' k => k.more (drew_kept w q)
  clear h hs
  obtain ⟨r, hr⟩ : ∃ r, r = l.contains x := ⟨_, rfl⟩
  obtain ⟨p, hp⟩ : ∃ p, p = posI l x := ⟨_, rfl⟩
  obtain ⟨n, hn⟩ : ∃ n, n = l.length := ⟨_, rfl⟩
  rw [← hr, ← hp, ← hn] at HS
  rw [← hp, ← hn] at HN
  rw [← hn]
  clear hr hp hn hl
  obtain ⟨Q, hQ⟩ : ∃ Q, Q = Turned w B A (withI l x) := ⟨_, rfl⟩
  rw [← hQ] at HN ⊢
  have HQ : Hid (∀ e w', Q e w' → Turned w B A (withI l x) e w') := by unfold Hid; rw [hQ]; exact fun _ _ h => h
  have HQ2 : Hid (∀ e w', Turned w B A (withI l x) e w' → Q e w') := by unfold Hid; rw [hQ]; exact fun _ _ h => h
  clear hQ
  go_enter Try.func72, Try.ntmps72
  go_wp2_with (first | (go_at_call 71; refine HS.out.mono ?_; rintro e w' ⟨rfl, q, rfl⟩) | (go_at_call 80; refine (HN.out _).mono ?_; rintro e w' hq; have HT := Lib.hid (HQ.out _ _ hq); clear hq; obtain ⟨A', c', rfl, ht⟩ := HT.out; have Ht := Lib.hid ht; clear ht HT))
  exact HQ2.out _ _ ⟨A', c', rfl, Ht.out⟩

set_option maxHeartbeats 1000000 in
theorem without_any (A : Option Addr) (c : Nat) (l : List Int) (x : Int) (B : Nat) (w : World) (hl : l.length ≤ 1000) (h : RowI w B A c l) (hs : l.Pairwise (· < ·)) (hx : x ∈ l) :
    Calls Try.prog 61 #[.slice A l.length c, .int .i64 x] w (Turned w B A (withoutI l x)) := by
  have HS := Lib.hid (search_any A c l x w hl h.ints hs)
  obtain ⟨hp1, _⟩ := at_pos hs hx
  have HN : Hid (∀ q, Calls Try.prog 73 #[.slice A l.length c, .int .i64 (posI l x : Nat), .int .i64 ((posI l x : Nat) + 1 : Int)] (w.drewN q) (Turned w B A (withoutI l x))) := fun q => by
    have := delete_any A c (posI l x) l B (w.drewN q) hl hp1 (h.keep (S := fun _ => False) (drew_kept w q _) (fun _ _ t => t))
    unfold delI at this
    rw [without_pos hs hx] at this
    exact this.mono fun e w' k => k.more (drew_kept w q)
  have hpp : posI l x ≤ 1000 := by omega
  clear h hs hx hp1
  obtain ⟨r, hr⟩ : ∃ r, r = l.contains x := ⟨_, rfl⟩
  obtain ⟨p, hp⟩ : ∃ p, p = posI l x := ⟨_, rfl⟩
  obtain ⟨n, hn⟩ : ∃ n, n = l.length := ⟨_, rfl⟩
  rw [← hr, ← hp, ← hn] at HS
  rw [← hp, ← hn] at HN
  rw [← hp] at hpp
  rw [← hn]
  clear hr hp hn hl
  obtain ⟨Q, hQ⟩ : ∃ Q, Q = Turned w B A (withoutI l x) := ⟨_, rfl⟩
  rw [← hQ] at HN ⊢
  have HQ : Hid (∀ e w', Q e w' → Turned w B A (withoutI l x) e w') := by unfold Hid; rw [hQ]; exact fun _ _ h => h
  have HQ2 : Hid (∀ e w', Turned w B A (withoutI l x) e w' → Q e w') := by unfold Hid; rw [hQ]; exact fun _ _ h => h
  clear hQ
  go_enter Try.func61, Try.ntmps61
  go_wp2_with (first | (go_at_call 71; refine HS.out.mono ?_; rintro e w' ⟨rfl, q, rfl⟩) | (go_at_call 73; refine (HN.out _).mono ?_; rintro e w' hq; have HT := Lib.hid (HQ.out _ _ hq); clear hq; obtain ⟨A', c', rfl, ht⟩ := HT.out; have Ht := Lib.hid ht; clear ht HT))
  exact HQ2.out _ _ ⟨A', c', rfl, Ht.out⟩
end Go.Proofs.Ytpcindemkkdbbaa
