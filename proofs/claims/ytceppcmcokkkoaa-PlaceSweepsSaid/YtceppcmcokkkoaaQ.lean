/- The document's own List and Count; slices of ints; Same. -/
import Derived.Test.YtceppcmcokkkoaaM
namespace Go.Proofs.Ytceppcmcokkkoaa
open Go.RowKit Go.Shelf

/-- a slice's address under which, below block B, the cells are the ints l -/
def Ints (w : World) (B : Nat) (A : Option Addr) (l : List Int) : Prop :=
  0 < l.length → ∃ b off, A = some ⟨b, off, none⟩ ∧ b < B ∧ ∀ j, j < l.length → w.cell? ⟨b, off + j, none⟩ = some (.int .i64 (nth l j))
section
variable {w w' : World} {B B' : Nat} {A : Option Addr} {l : List Int}
theorem Ints.at_ (h : Ints w B A l) {k : Nat} (hk : k < l.length) : ∃ b off, A = some ⟨b, off, none⟩ ∧ b < B ∧ w.cell? ⟨b, off + k, none⟩ = some (.int .i64 (nth l k)) := by
  obtain ⟨b, off, e, hb, hc⟩ := h (by omega)
  exact ⟨b, off, e, hb, hc k hk⟩
theorem Ints.keep (h : Ints w B A l) (hk : ∀ p : Addr, p.block < B → w'.cell? p = w.cell? p) : Ints w' B A l := fun hn => by
  obtain ⟨b, off, e, hb, hc⟩ := h hn
  exact ⟨b, off, e, hb, fun j hj => (hk _ hb).trans (hc j hj)⟩
theorem Ints.more (h : Ints w B A l) (hB : B ≤ B') : Ints w B' A l := fun hn => by
  obtain ⟨b, off, e, hb, hc⟩ := h hn
  exact ⟨b, off, e, by omega, hc⟩
theorem Ints.below (h : Ints w B A l) (hb : Below B w w') : Ints w' B A l := h.keep fun _ hp => hb.cell hp
theorem Ints.nil : Ints w B A [] := fun h => by simp at h
end
def intsV (l : List Int) : List Value := l.map fun i => Value.int .i64 i
def natsI (l : List Nat) : List Int := l.map fun i : Nat => (i : Int)
theorem natsV_intsV (l : List Nat) : natsV l = intsV (natsI l) := by simp [natsV, intsV, natsI]
theorem length_natsI (l : List Nat) : (natsI l).length = l.length := by simp [natsI]

/-- a slice that owns ints is such a slice -/
theorem own_ints {w : World} {B : Nat} {v : Value} {n : Nat} {l : List Int} (h : w.ownsRow B 3 1 v n (intsV l)) : ∃ A c, v = .slice A l.length c ∧ l.length ≤ c ∧ c ≤ maxLen ∧ Ints w w.heap.size A l := by
  have hn : l.length = n := by have := h.1; simpa [intsV] using this
  subst hn
  rcases h.2 with ⟨rfl, hn⟩ | ⟨g, cap, cur, rfl, _, hg, hnc, hcm, _⟩
  · have hl : l = [] := List.eq_nil_of_length_eq_zero hn
    subst hl
    exact ⟨none, 0, rfl, Nat.le_refl _, Nat.zero_le _, Ints.nil⟩
  · refine ⟨some ⟨g, 0, none⟩, cap, rfl, hnc, hcm, fun _ => ⟨g, 0, rfl, (h.lt g rfl).2, fun j hj => ?_⟩⟩
    rw [Nat.zero_add, h.cellAt j (by omega), intsV, List.getElem?_map, List.getElem?_eq_getElem hj, nth_lt hj]; rfl

def onesK (l : List Int) (k : Nat) : List Nat := (List.range k).filter (bitN l)
theorem onesK_all (l : List Int) : onesK l (8 * l.length) = ones l := (onesTo_filter l l.length).symm
theorem onesK_succ (l : List Int) (k : Nat) : onesK l (k + 1) = onesK l k ++ (if bitN l k then [k] else []) := by
  unfold onesK
  rw [List.range_succ, List.filter_append]
  cases h : bitN l k <;> simp [h]
theorem length_onesK (l : List Int) (k : Nat) : (onesK l k).length ≤ k := by
  have := List.length_filter_le (bitN l) (List.range k)
  simpa [onesK] using this

set_option maxRecDepth 100000 in
set_option maxHeartbeats 1000000 in
theorem reflist_any (A : Option Addr) (c : Nat) (l : List Int) (w : World) (hl : l.length ≤ 1000) (hb : Bts w w.heap.size A l) :
    Calls Try.prog 39 #[.slice A l.length c] w fun e W' => ∃ v, e = .returned v ∧ W'.ownsRow w.heap.size 3 1 v (ones l).length (natsV (ones l)) ∧ Below w.heap.size w W' := by
  obtain ⟨i0, hi, hz0, hz1, hz2⟩ := info_parts info3
  have Hall := Lib.hid (onesK_all l)
  go_enter Try.func39, Try.ntmps39
  go_wp2
  go_loopw [3, 4] (fun v i wr => ∃ k : Nat, k ≤ 8 * l.length ∧ i = .int .i64 k ∧ wr.ownsRow w.heap.size 3 1 v (onesK l k).length (natsV (onesK l k)) ∧ Below w.heap.size w wr) (fun _ i _ => 8 * l.length - (intOf i).toNat)
  case atStart => exact ⟨0, Nat.zero_le _, rfl, World.ownsRow_nil _ _ _ _, Below.refl _ _⟩
  case round =>
    obtain ⟨k, hk, rfl, hown, hB⟩ := hrel
    rename World => wr
    have hbr := hb.below hB
    by_cases hlt : k < 8 * l.length
    · have hlti : (k : Int) < 8 * (l.length : Int) := by omega
      have hcl := length_onesK l k
      have hsz := hB.size
      cases hv : bitN l k with
      | false =>
        have Hv := Lib.hid hv
        have hs : onesK l (k + 1) = onesK l k := by rw [onesK_succ, hv]; simp
        have Hs := Lib.hid hs
        clear hv hs
        go_wp2_with (go_at_call 35; refine (refget_at A c l k _ _ _ hbr hl (by omega) Hv.out).mono ?_; rintro e w' ⟨rfl, rfl⟩)
        go_roundw
        case rel => exact ⟨k + 1, by omega, by go_num, by rw [Hs.out]; exact hown, hB⟩
        case measure => simp [intOf]; omega
      | true =>
        have Hv := Lib.hid hv
        have hs : onesK l (k + 1) = onesK l k ++ [k] := by rw [onesK_succ, hv]; simp
        have Hs := Lib.hid hs
        clear hv hs
        go_wp2_with (first
          | (go_at_call 35; refine (refget_at A c l k _ _ _ hbr hl (by omega) Hv.out).mono ?_; rintro e w' ⟨rfl, rfl⟩)
          | (at_builtin; refine wpList_append_own _ rfl _ _ 22 rfl w.heap.size 3 i0 (.int .i64 0) 1 8 Try.underlying22 hi hz0 hz1 hz2 rfl (by decide) _ _ _ rfl (hown.alloc _) ⟨wr.heap.size, 0, none⟩ 1 1 [.int .i64 (k : Int)] rfl rfl (cell_one_new _ _ _) (by simp [Value.oneCell']) (by unfold maxLen; omega) (by omega) (by simp; omega) ?_))
        intro v' w1 hown' hgrow _
        have hB1 : Below w.heap.size w w1 := hB.trans ((((Below.refl _ wr).alloc hsz _)).grown hgrow (by simp; omega) (fun j e => (hown.lt j e).1))
        go_wp2
        go_roundw
        case rel => exact ⟨k + 1, by omega, by go_num, by rw [Hs.out]; simpa [natsV] using hown', hB1⟩
        case measure => simp [intOf]; omega
    · have e : k = 8 * l.length := by omega
      subst e
      go_wp2
      go_ret
      exact ⟨_, rfl, by rw [← Hall.out]; exact hown, hB⟩

set_option maxHeartbeats 400000 in
theorem refcount_any (A : Option Addr) (c : Nat) (l : List Int) (w : World) (hl : l.length ≤ 1000) (hb : Bts w w.heap.size A l) :
    Calls Try.prog 41 #[.slice A l.length c] w fun e W' => e = .returned (.int .i64 ((ones l).length : Int)) ∧ Below w.heap.size w W' := by
  have H := Lib.hid (reflist_any A c l w hl hb)
  go_enter Try.func41, Try.ntmps41
  go_wp2_with fail
  refine H.out.mono ?_
  rintro e w1 ⟨v, rfl, hr, hB⟩
  rw [natsV_intsV] at hr
  obtain ⟨A1, c1, rfl, _, _, _⟩ := own_ints hr
  rw [length_natsI]
  go_wp2
  go_ret
  exact ⟨rfl, hB⟩

set_option maxRecDepth 100000 in
set_option maxHeartbeats 1000000 in
/-- two slices of the same ints are the same -/
theorem same_any (A1 A2 : Option Addr) (c1 c2 : Nat) (l : List Int) (w : World) (B1 B2 : Nat) (h1 : Ints w B1 A1 l) (h2 : Ints w B2 A2 l) (hl : l.length ≤ 100000) :
    Calls Try.prog 26 #[.slice A1 l.length c1, .slice A2 l.length c2] w fun e w' => e = .returned (.bool true) ∧ Quiet w w' := by
  go_enter Try.func26, Try.ntmps26
  go_wp2
  go_loopw [5] (fun i wr => ∃ k : Nat, k ≤ l.length ∧ i = .int .i64 k ∧ Quiet w wr) (fun i _ => l.length - (intOf i).toNat)
  case atStart => exact ⟨0, Nat.zero_le _, rfl, 0, rfl⟩
  case round =>
    obtain ⟨k, hk, rfl, hq⟩ := hrel
    rename World => wr
    by_cases hlt : k < l.length
    · have hlti : (k : Int) < (l.length : Int) := by omega
      have hk0 : (0 : Int) ≤ (k : Int) := by omega
      obtain ⟨b1, o1, rfl, _, e1⟩ := h1.at_ hlt
      obtain ⟨b2, o2, rfl, _, e2⟩ := h2.at_ hlt
      have e1' : wr.cell? ⟨b1, o1 + k, none⟩ = some (.int .i64 (nth l k)) := by obtain ⟨n, rfl⟩ := hq; exact e1
      have e2' : wr.cell? ⟨b2, o2 + k, none⟩ = some (.int .i64 (nth l k)) := by obtain ⟨n, rfl⟩ := hq; exact e2
      have Hq := Lib.hid hq
      clear hq
      go_wp2_with fail
      go_quiet (fail)
      go_wp2
      go_roundw
      case rel => exact ⟨k + 1, by omega, by go_num, Hq.out.trans ⟨_, rfl⟩⟩
      case measure => simp [intOf]; omega
    · have hlti : ¬ (k : Int) < (l.length : Int) := by omega
      go_wp2
      go_ret
      exact ⟨rfl, hq⟩
end Go.Proofs.Ytceppcmcokkkoaa
