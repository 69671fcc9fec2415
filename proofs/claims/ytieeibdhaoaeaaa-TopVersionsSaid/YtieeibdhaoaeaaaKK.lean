/- Which blocks wait, in order; what a crash leaves; a block of which nothing waits any more; the keys of the map, sorted. -/
import Derived.Test.YtieeibdhaoaeaaaKJ
import Derived.Test.YtieeibdhaoaeaaaSh
set_option linter.unusedVariables false
set_option linter.unusedSimpArgs false
namespace Go.Proofs.Ytieeibdhaoaeaaa
open Go.RowKit

/-- the blocks of which something waits -/
def waits (n : Nat) (S : Nat → Bk) : List Nat := (List.range n).filter fun j => !(S j).v.isEmpty
theorem mem_waits {n : Nat} {S : Nat → Bk} {j : Nat} : j ∈ waits n S ↔ j < n ∧ (S j).v ≠ [] := by
  unfold waits
  rw [List.mem_filter, List.mem_range]
  refine and_congr_right fun _ => ?_
  cases (S j).v <;> simp
theorem waits_sorted (n : Nat) (S : Nat → Bk) : (waits n S).Pairwise (· < ·) := List.Pairwise.filter _ List.pairwise_lt_range
theorem waits_nodup (n : Nat) (S : Nat → Bk) : (waits n S).Nodup := (waits_sorted n S).imp (fun h => Nat.ne_of_lt h)
/-- what a crash leaves of a block, by what is picked for it -/
def Bk.left (b : Bk) (p : Option Int) : Bk := ⟨(p.bind (pickAt b.v)).getD b.s, [], b.b⟩
/-- what a crash leaves -/
def crashed (n : Nat) (S : Nat → Bk) (pick : List Int) : Nat → Bk := fun j => (S j).left (pick[(waits n S).idxOf j]?)
/-- .. on the way: the first k blocks of which something waits are done -/
def crashK (n : Nat) (S : Nat → Bk) (pick : List Int) (k : Nat) : Nat → Bk := fun j => if j ∈ (waits n S).take k then crashed n S pick j else S j
theorem crashK_zero (n : Nat) (S : Nat → Bk) (pick : List Int) : crashK n S pick 0 = S := by funext j; simp [crashK]
theorem idx_at {l : List Nat} (h : l.Nodup) {k : Nat} (hk : k < l.length) : l.idxOf l[k] = k := h.idxOf_getElem k hk
theorem crashK_next (n : Nat) (S : Nat → Bk) (pick : List Int) {k : Nat} (hk : k < (waits n S).length) : crashK n S pick (k + 1) = upd (crashK n S pick k) (waits n S)[k] ((S (waits n S)[k]).left pick[k]?) := by
  funext j
  by_cases e : j = (waits n S)[k]
  · subst e
    rw [upd_same]
    unfold crashK crashed
    rw [if_pos (by rw [List.take_succ_eq_append_getElem hk]; exact List.mem_append_right _ (List.mem_singleton.2 rfl)), idx_at (waits_nodup n S) hk]
  · rw [upd_other _ _ e]
    unfold crashK
    have : (j ∈ (waits n S).take (k + 1)) ↔ j ∈ (waits n S).take k := by
      rw [List.take_succ_eq_append_getElem hk, List.mem_append, List.mem_singleton]
      exact ⟨fun h => h.resolve_right e, .inl⟩
    simp only [this]
theorem crashK_now (n : Nat) (S : Nat → Bk) (pick : List Int) {k : Nat} (hk : k < (waits n S).length) : crashK n S pick k (waits n S)[k] = S (waits n S)[k] := by
  unfold crashK
  rw [if_neg]
  intro h
  obtain ⟨i, hi, e⟩ := List.mem_take_iff_getElem.1 h
  have := (List.getElem_inj (waits_nodup n S)).1 e
  omega
theorem crashK_end (n : Nat) (S : Nat → Bk) (pick : List Int) {j : Nat} (hj : j < n) : crashK n S pick (waits n S).length j = crashed n S pick j := by
  unfold crashK
  rw [List.take_length]
  split
  · rfl
  · next h =>
    have hv : (S j).v = [] := by
      refine Classical.byContradiction fun e => h (mem_waits.2 ⟨hj, e⟩)
    unfold crashed Bk.left
    have : ∀ o : Option Int, o.bind (pickAt (S j).v) = none := by
      intro o
      rw [hv]
      cases o with
      | none => rfl
      | some p => simp [pickAt]
    rw [this]
    cases hS : S j with
    | mk s v b => rw [hS] at hv; simp at hv; subst hv; rfl
theorem CodeAt.congr {w : World} {g n c mb k : Nat} {S S' : Nat → Bk} {L : List Int} {B : List Bool} {D : DataW Value} {V : Nat → List Run} {A : Nat → Option Addr} {C : Nat → Nat} (h : CodeAt w g n S c L B mb k D V A C) (e : ∀ j, j < n → S j = S' j) : CodeAt w g n S' c L B mb k D V A C :=
  ⟨h.disk, h.map, h.kc, h.keys, h.here, h.gone, h.row, h.ok, fun j hj => by rw [← e j hj]; exact h.sec j hj, fun j hj => by rw [← e j hj]; exact h.bad j hj, fun j hj => by rw [← e j hj]; exact h.ver j hj, fun j hj => by rw [← e j hj]; exact h.few j hj, h.apart⟩
section
variable {w w' : World} {g n c mb k : Nat} {S : Nat → Bk} {L : List Int} {B : List Bool} {D : DataW Value} {V : Nat → List Run} {A : Nat → Option Addr} {C : Nat → Nat}
theorem CodeAt.drop (h : CodeAt w g n S c L B mb k D V A C) {i : Nat} (hi : i < n) {L' : List Int} {s' : List Int} (hd : DiskAt w' g n L' B mb) (hs : ∀ j, j < n → Go.Proofs.Ytieeibdhaoaeaaa.sec L' j = if j = i then s' else Go.Proofs.Ytieeibdhaoaeaaa.sec L j)
    (hm : w'.ownsMap Try.prog 3 RV mb k (D.del (.int .i64 (i : Int)))) (hk : Kept w w' (fun b => b = g ∨ b = mb)) :
    CodeAt w' g n (upd S i ⟨s', [], (S i).b⟩) c L' B mb k (D.del (.int .i64 (i : Int))) (fun j => if j = i then [] else V j) (fun j => if j = i then none else A j) (fun j => if j = i then 0 else C j) ∧
      ∀ b, foot g n mb (fun j => if j = i then none else A j) b → foot g n mb A b := by
  refine ⟨⟨hd, hm, h.kc, ?_, ?_, ?_, ?_, ?_, ?_, ?_, ?_, ?_, ?_⟩, ?_⟩
  · intro x hx
    by_cases e : (Lit.int .i64 x) = .int .i64 (i : Int)
    · injection e with _ e; exact ⟨i, e, hi⟩
    · rw [Maps.has_del_other e] at hx; exact h.keys x hx
  · intro j hj hne z
    by_cases e : j = i
    · subst e; simp at hne
    · simp only [if_neg e] at hne ⊢
      rw [Maps.atKey_del_other (key_ne e)]
      exact h.here j hj hne z
  · intro j hj he
    by_cases e : j = i
    · subst e; exact ⟨Maps.has_del_same, by simp, by simp⟩
    · simp only [if_neg e] at he ⊢
      rw [Maps.has_del_other (key_ne e)]
      exact h.gone j hj he
  · intro j hj
    by_cases e : j = i
    · subst e; simp only [if_true]; exact World.ownsRow_nil _ _ _ _
    · simp only [if_neg e]
      refine hk.row (h.row j hj) fun b hb => ?_
      rw [own_eq] at hb
      rintro (q | q)
      · exact h.row_g hj hb q
      · exact h.row_m hj hb q
  · intro j hj
    by_cases e : j = i
    · subst e; simp only [if_true]; intro x hx; cases hx
    · simpa only [if_neg e] using h.ok j hj
  · intro j hj
    rw [hs j hj]
    by_cases e : j = i
    · subst e; rw [upd_same]; simp
    · rw [upd_other _ _ e, if_neg e]; exact h.sec j hj
  · intro j hj
    by_cases e : j = i
    · subst e; rw [upd_same]; exact h.bad j hj
    · rw [upd_other _ _ e]; exact h.bad j hj
  · intro j hj
    by_cases e : j = i
    · subst e; rw [upd_same]; simp [unrun]
    · rw [upd_other _ _ e]; simpa only [if_neg e] using h.ver j hj
  · intro j hj
    by_cases e : j = i
    · subst e; rw [upd_same]; simp
    · rw [upd_other _ _ e]; exact h.few j hj
  · intro x y hx hy hxy b hb
    by_cases e1 : x = i
    · subst e1; simp [own] at hb
    · by_cases e2 : y = i
      · subst e2; simp [own]
      · simp only [if_neg e1, if_neg e2] at hb ⊢
        exact h.apart x y hx hy hxy b hb
  · rintro b (q | q | ⟨j, hj, q⟩)
    · exact .inl q
    · exact .inr (.inl q)
    · by_cases e : j = i
      · subst e; simp [own] at q
      · simp only [if_neg e] at q
        exact .inr (.inr ⟨j, hj, q⟩)
/-- the keys of the map, sorted -/
def ks (n : Nat) (S : Nat → Bk) : List Int := (waits n S).map Int.ofNat
theorem CodeAt.keys_sorted (h : CodeAt w g n S c L B mb k D V A C) {ss : List Int} (hp : ss.Perm (intKeys D)) : ss.mergeSort (fun x y => decide (x ≤ y)) = ks n S := by
  have hks : (ks n S).Pairwise (· < ·) := by
    unfold ks
    rw [List.pairwise_map]
    exact (waits_sorted n S).imp (fun h => by simpa using h)
  have hp2 : (ks n S).Perm (intKeys D) := by
    obtain ⟨es, hD, hpw, hk⟩ := h.map.entries law3
    obtain ⟨es', hD', hko⟩ := h.map.keysOf
    obtain rfl : es = es' := by rw [hD] at hD'; simpa using hD'
    subst hD
    refine perm_intKeys hpw (fun p hp => by obtain ⟨v, hv⟩ := hko p hp; obtain ⟨x, _, hx, _⟩ := Maps.keyOf_i64 Try.underlying3 hv; exact ⟨x, hx⟩) (hks.imp (fun h e => by omega)) (fun x => ?_)
    unfold ks
    rw [List.mem_map]
    constructor
    · rintro ⟨j, hj, rfl⟩
      obtain ⟨h1, h2⟩ := mem_waits.1 hj
      have := h.has_eq h1
      rw [show Int.ofNat j = (j : Int) from rfl, this]
      have hv := h.ver j h1
      cases e : V j with
      | nil => rw [e] at hv; exact absurd hv.symm h2
      | cons a b => rfl
    · intro hx
      obtain ⟨j, rfl, hj⟩ := h.keys x hx
      rw [h.has_eq hj] at hx
      refine ⟨j, mem_waits.2 ⟨hj, ?_⟩, rfl⟩
      rw [← h.ver j hj]
      intro e
      rw [(unrun_nil (h.ok j hj)).1 e] at hx
      simp at hx
  rw [mergeSort_of_perm_i (hp.trans hp2.symm)]
  refine List.mergeSort_of_pairwise (hks.imp (fun h => ?_))
  simp only [leI, decide_eq_true_eq]
  exact Int.le_of_lt h
end
theorem sorts39 (m : Nat) : AnyZI.SortsIn Try.prog Try.sorted39_ren Fence.wide m :=
  ⟨fun blk off cap ss W hH hblk hsz => callsIn_wide.2 (AnyM.slices_Sort_int Try.sort53 blk off cap ss W hH hblk hsz),
   fun p cap W => callsIn_wide.2 (AnyM.slices_Sort_int_none Try.sort53 p cap W)⟩
theorem keys_any (mb : Nat) (W : World) : Calls Try.prog 40 #[.map (some mb)] W fun e w' => e = .returned (.func (.func 54) #[] #[.pointer (some ⟨W.heap.size, 0, none⟩)]) ∧ w' = W.alloc (.cells #[.map (some mb)] 78) :=
  (callsIn_wide (n := 5)).1 (AnyZI.keys_in Try.keys40 Fence.wide 5 trivial rfl (some mb) W)
set_option maxHeartbeats 1000000 in
theorem sorted_any (b nn : Nat) (D0 : DataW Value) (w : World) (hown : w.ownsMap Try.prog 3 RV b nn D0) (hsz : Maps.size D0 ≤ 1000000) :
    Calls Try.prog 39 #[.func (.func 54) #[] #[.pointer (some ⟨w.heap.size, 0, none⟩)]] (w.alloc (.cells #[.map (some b)] 78)) fun e w' => ∃ (v : Value) (ss : List Int), e = .returned v ∧ ss.Perm (intKeys D0) ∧
      w'.ownsRow (w.alloc (.cells #[.map (some b)] 78)).heap.size 3 1 v ss.length ((ss.mergeSort (fun x y => decide (x ≤ y))).map encZ) ∧ (v = .slice none 0 0 ↔ ss = []) ∧ Below (w.alloc (.cells #[.map (some b)] 78)).heap.size (w.alloc (.cells #[.map (some b)] 78)) w' := by
  have hbl := hown.lt
  have hseq : SeqGives Fence.wide 2 Try.prog 54 #[.pointer (some ⟨w.heap.size, 0, none⟩)] encZ (fun ss => ss.Perm (intKeys D0)) (Maps.size D0) (w.alloc (.cells #[.map (some b)] 78)) :=
    AnyZI.keys_gives (ρ := Try.keys40_ren) { Try.keys40 with } Fence.wide _ trivial rfl (by omega) w.heap.size b nn D0 _ (by simp) (by simp) (by
      obtain ⟨es, clock, hb, Ft, hs, hD⟩ := hown
      exact ⟨es, clock, (Below.heap_alloc _ _ b hbl).trans hb, Ft, hs, hD⟩)
  have cS := AnyZI.sorted_in Try.sorted39 Fence.wide 5 trivial trivial trivial trivial rfl (by omega) (sorts39 _) (enters_of Try.func53 (by kernel_rfl) rfl) 54 #[.pointer (some ⟨w.heap.size, 0, none⟩)] trivial (enters_of Try.func54 (by kernel_rfl) rfl) _ _ (by unfold maxLen; omega) (by omega) _ hseq
  change CallsIn _ _ Try.prog 39 _ _ _ at cS
  exact (callsIn_wide (n := 5)).1 cS
end Go.Proofs.Ytieeibdhaoaeaaa
