/- Texts in one: DRA DRB DRC DRD DRE DRF DRH. -/
import Derived.Test.YtegacggkdjgdiaaH4
import Derived.Test.YtegacggkdjgdiaaH3
import Derived.Laws.MakeOwn
/- The document's own disk in memory. -/
set_option linter.unusedVariables false
set_option linter.unusedSimpArgs false
namespace Go.Proofs.Ytegacggkdjgdiaa
open Go.RowKit

/-- the cells of a block of the document's disk -/
def blkV (b : Bk) (a : Option Addr) (c : Nat) : List Value := bytesV b.s ++ [.slice a b.v.length c, .bool b.b]
def blksL (l : List Nat) (S : Nat → Bk) (A : Nat → Option Addr) (C : Nat → Nat) : List Value := l.flatMap fun i => blkV (S i) (A i) (C i)
def secsV (v : List (List Int)) : List Value := v.flatMap bytesV
theorem length_blkV {b : Bk} (h : b.s.length = 32) (a : Option Addr) (c : Nat) : (blkV b a c).length = 34 := by simp [blkV, length_bytesV, h]
theorem length_blksL (l : List Nat) (S : Nat → Bk) (A : Nat → Option Addr) (C : Nat → Nat) (h : ∀ i ∈ l, (S i).s.length = 32) : (blksL l S A C).length = l.length * 34 := by
  induction l with
  | nil => rfl
  | cons x l ih =>
    have := ih (fun i hi => h i (List.mem_cons_of_mem _ hi))
    have e : blksL (x :: l) S A C = blkV (S x) (A x) (C x) ++ blksL l S A C := by simp [blksL]
    rw [e, List.length_append, this, length_blkV (h x (by simp)), List.length_cons]; omega
theorem blksL_congr {l : List Nat} {S S' : Nat → Bk} {A A' : Nat → Option Addr} {C C' : Nat → Nat} (h : ∀ i ∈ l, S i = S' i ∧ A i = A' i ∧ C i = C' i) : blksL l S A C = blksL l S' A' C' := by
  induction l with
  | nil => rfl
  | cons x l ih =>
    have e : ∀ S A C, blksL (x :: l) S A C = blkV (S x) (A x) (C x) ++ blksL l S A C := fun S A C => by simp [blksL]
    obtain ⟨h1, h2, h3⟩ := h x (by simp)
    rw [e, e, ih (fun i hi => h i (List.mem_cons_of_mem _ hi)), h1, h2, h3]
theorem range_split {n i : Nat} (h : i < n) : ∃ rest, List.range n = List.range i ++ i :: rest ∧ ∀ j ∈ rest, i < j ∧ j < n := by
  obtain ⟨m, rfl⟩ : ∃ m, n = i + (m + 1) := ⟨n - i - 1, by omega⟩
  refine ⟨((List.range m).map Nat.succ).map (i + ·), ?_, ?_⟩
  · rw [List.range_add, List.range_succ_eq_map]; simp
  · intro j hj
    simp only [List.map_map, List.mem_map, List.mem_range] at hj
    obtain ⟨a, ha, rfl⟩ := hj
    simp; omega
/-- the blocks with one of them shown -/
theorem blks_split {n i : Nat} (h : i < n) (S : Nat → Bk) (A : Nat → Option Addr) (C : Nat → Nat) : ∃ post, blksL (List.range n) S A C = blksL (List.range i) S A C ++ (blkV (S i) (A i) (C i) ++ post) ∧
    ∀ S' A' C', (∀ j, j ≠ i → S' j = S j ∧ A' j = A j ∧ C' j = C j) → blksL (List.range n) S' A' C' = blksL (List.range i) S A C ++ (blkV (S' i) (A' i) (C' i) ++ post) := by
  obtain ⟨rest, e, hr⟩ := range_split h
  refine ⟨blksL rest S A C, ?_, fun S' A' C' hs => ?_⟩
  · rw [e]; simp [blksL]
  · rw [e]
    have h1 : blksL (List.range i) S' A' C' = blksL (List.range i) S A C := blksL_congr (fun j hj => hs j (by have := List.mem_range.1 hj; omega))
    have h2 : blksL rest S' A' C' = blksL rest S A C := blksL_congr (fun j hj => hs j (by have := hr j hj; omega))
    rw [← h1, ← h2]; simp [blksL]
structure RefAt (w : World) (g n : Nat) (S : Nat → Bk) (c gb cp : Nat) (A : Nat → Option Addr) (C : Nat → Nat) : Prop where
  hd : BlkIs w g 136 [.slice (some ⟨gb, 0, none⟩) n cp]
  row : w.ownsRow 0 148 34 (.slice (some ⟨gb, 0, none⟩) n cp) n (blksL (List.range n) S A C)
  vers : ∀ i, i < n → w.ownsRow 0 146 32 (.slice (A i) (S i).v.length (C i)) (S i).v.length (secsV (S i).v)
  ok : ∀ i, i < n → OkS (S i).s ∧ ∀ x ∈ (S i).v, OkS x
  n1 : 1 ≤ n
  n96 : n ≤ 96
  few : ∀ i, i < n → (S i).v.length ≤ c
  apart : ∀ i j, i < n → j < n → i ≠ j → ∀ b, own (A i) = some b → own (A j) ≠ some b
def footR (g gb n : Nat) (A : Nat → Option Addr) : Nat → Prop := fun b => b = g ∨ b = gb ∨ ∃ j, j < n ∧ own (A j) = some b
/-- the document's disk of n blocks S at the block g, in the blocks F -/
def Ref (w : World) (g n : Nat) (S : Nat → Bk) (c : Nat) (F : Nat → Prop) : Prop := ∃ gb cp A C, RefAt w g n S c gb cp A C ∧ F = footR g gb n A
namespace RefAt
variable {w w' : World} {g n c gb cp : Nat} {S : Nat → Bk} {A : Nat → Option Addr} {C : Nat → Nat}
theorem glt (h : RefAt w g n S c gb cp A C) : g < w.heap.size := h.hd.lt
theorem blt (h : RefAt w g n S c gb cp A C) : gb < w.heap.size := (h.row.lt gb rfl).2
theorem typed (h : RefAt w g n S c gb cp A C) : ∃ cs, w.heap[gb]? = some (.cells cs 148 (0, 0)) := by
  rcases h.row.2 with ⟨q, _⟩ | ⟨x, cap, cur, q, _, hx, _⟩
  · cases q
  · obtain ⟨q, _, _⟩ := Value.slice.inj q
    cases q
    exact ⟨_, hx⟩
theorem vtyped (h : RefAt w g n S c gb cp A C) {j b : Nat} (hj : j < n) (hb : own (A j) = some b) : ∃ cs, w.heap[b]? = some (.cells cs 146 (0, 0)) := by
  rcases (h.vers j hj).2 with ⟨q, _⟩ | ⟨x, cap, cur, q, _, hx, _⟩
  · obtain ⟨q, _, _⟩ := Value.slice.inj q
    rw [q] at hb; simp [own] at hb
  · obtain ⟨q, _, _⟩ := Value.slice.inj q
    rw [q] at hb
    simp [own] at hb
    subst hb
    exact ⟨_, hx⟩
theorem gne (h : RefAt w g n S c gb cp A C) : g ≠ gb := by
  rintro rfl
  obtain ⟨cs, e⟩ := h.typed
  have := h.hd
  unfold BlkIs at this
  rw [e] at this
  simp at this
theorem vg (h : RefAt w g n S c gb cp A C) {j b : Nat} (hj : j < n) (hb : own (A j) = some b) : b ≠ g := by
  rintro rfl
  obtain ⟨cs, e⟩ := h.vtyped hj hb
  have := h.hd
  unfold BlkIs at this
  rw [e] at this
  simp at this
theorem vb (h : RefAt w g n S c gb cp A C) {j b : Nat} (hj : j < n) (hb : own (A j) = some b) : b ≠ gb := by
  rintro rfl
  obtain ⟨cs, e⟩ := h.vtyped hj hb
  obtain ⟨cs', e'⟩ := h.typed
  rw [e] at e'
  simp at e'
theorem vlt (h : RefAt w g n S c gb cp A C) {j b : Nat} (hj : j < n) (hb : own (A j) = some b) : b < w.heap.size := ((h.vers j hj).lt b (by rw [own_eq]; exact hb)).2
theorem foot_lt (h : RefAt w g n S c gb cp A C) : ∀ b, footR g gb n A b → b < w.heap.size := by
  rintro b (rfl | rfl | ⟨j, hj, hb⟩)
  · exact h.glt
  · exact h.blt
  · exact h.vlt hj hb
theorem keep {G : Nat → Prop} (h : RefAt w g n S c gb cp A C) (hk : Kept w w' G) (hd : ∀ b, footR g gb n A b → ¬ G b) : RefAt w' g n S c gb cp A C :=
  ⟨hk.blk h.hd (hd g (.inl rfl)), hk.row h.row (fun b e => by cases e; exact hd _ (.inr (.inl rfl))), fun i hi => hk.row (h.vers i hi) (fun b hb => hd b (.inr (.inr ⟨i, hi, by rw [← own_eq]; exact hb⟩))), h.ok, h.n1, h.n96, h.few, h.apart⟩
theorem fresh (h : RefAt w g n S c gb cp A C) (hb : Below w.heap.size w w') : RefAt w' g n S c gb cp A C := h.keep (G := fun _ => False) (Kept.fresh hb) (fun _ _ q => q)
theorem c0 (h : RefAt w g n S c gb cp A C) : w.cell? ⟨g, 0, none⟩ = some (.slice (some ⟨gb, 0, none⟩) n cp) := h.hd.cell 0
theorem at_ (h : RefAt w g n S c gb cp A C) {i j : Nat} (hi : i < n) (hj : j < 34) : w.cell? ⟨gb, i * 34 + j, none⟩ = (blkV (S i) (A i) (C i))[j]? := by
  rw [h.row.cellAt _ (by omega)]
  obtain ⟨post, e, _⟩ := blks_split hi S A C
  have hl : (blksL (List.range i) S A C).length = i * 34 := by
    rw [length_blksL _ _ _ _ (fun k hk => (h.ok k (by have := List.mem_range.1 hk; omega)).1.1), List.length_range]
  rw [e, List.getElem?_append_right (by omega), hl, show i * 34 + j - i * 34 = j by omega, List.getElem?_append_left (by rw [length_blkV (h.ok i hi).1.1]; exact hj)]
theorem cv (h : RefAt w g n S c gb cp A C) {i : Nat} (hi : i < n) : w.cell? ⟨gb, i * 34 + 32, none⟩ = some (.slice (A i) (S i).v.length (C i)) := by
  rw [h.at_ hi (by omega), blkV, List.getElem?_append_right (by rw [length_bytesV, (h.ok i hi).1.1]; omega), length_bytesV, (h.ok i hi).1.1]; rfl
theorem cb (h : RefAt w g n S c gb cp A C) {i : Nat} (hi : i < n) : w.cell? ⟨gb, i * 34 + 33, none⟩ = some (.bool (S i).b) := by
  rw [h.at_ hi (by omega), blkV, List.getElem?_append_right (by rw [length_bytesV, (h.ok i hi).1.1]; omega), length_bytesV, (h.ok i hi).1.1]; rfl
theorem frz (h : RefAt w g n S c gb cp A C) (j : Nat) : w.frozen? ⟨gb, j, none⟩ = false := h.row.frozenAt j
theorem sector (h : RefAt w g n S c gb cp A C) {i : Nat} (hi : i < n) : w.rangeAt gb (i * 34) (bytesV (S i).s) := fun j u hj => by
  have hj' : j < 32 := by
    rcases Nat.lt_or_ge j 32 with h1 | h1
    · exact h1
    · rw [List.getElem?_eq_none (by rw [length_bytesV, (h.ok i hi).1.1]; exact h1)] at hj; cases hj
  rw [h.at_ hi (by omega), blkV, List.getElem?_append_left (by rw [length_bytesV, (h.ok i hi).1.1]; exact hj')]; exact hj
/-- one of the cells of the i-th block changed -/
theorem set_ (h : RefAt w g n S c gb cp A C) {i : Nat} (hi : i < n) {j : Nat} (hj : j < 34) (u : Value) (b' : Bk) (a' : Option Addr) (c' : Nat) (hb : (blkV (S i) (A i) (C i)).set j u = blkV b' a' c') :
    (blksL (List.range n) S A C).set (i * 34 + j) u = blksL (List.range n) (upd S i b') (fun k => if k = i then a' else A k) (fun k => if k = i then c' else C k) := by
  obtain ⟨post, e, e2⟩ := blks_split hi S A C
  have hl : (blksL (List.range i) S A C).length = i * 34 := by
    rw [length_blksL _ _ _ _ (fun k hk => (h.ok k (by have := List.mem_range.1 hk; omega)).1.1), List.length_range]
  rw [e2 (upd S i b') (fun k => if k = i then a' else A k) (fun k => if k = i then c' else C k) (fun k hk => ⟨upd_other _ _ hk, by simp [hk], by simp [hk]⟩), e, List.set_append_right _ _ (by omega), hl, show i * 34 + j - i * 34 = j by omega,
    List.set_append_left _ _ (by rw [length_blkV (h.ok i hi).1.1]; exact hj), hb, upd_same]
  simp
/-- the sector of the i-th block changed -/
theorem splice_ (h : RefAt w g n S c gb cp A C) {i : Nat} (hi : i < n) {s : List Int} (hs : s.length = 32) :
    splice (blksL (List.range n) S A C) (i * 34) (bytesV s) = blksL (List.range n) (upd S i ⟨s, (S i).v, (S i).b⟩) A C := by
  obtain ⟨post, e, e2⟩ := blks_split hi S A C
  have hl : (blksL (List.range i) S A C).length = i * 34 := by
    rw [length_blksL _ _ _ _ (fun k hk => (h.ok k (by have := List.mem_range.1 hk; omega)).1.1), List.length_range]
  have h1 := splice_mid (blksL (List.range i) S A C) (blkV (S i) (A i) (C i)) post (bytesV s) 0 (by rw [length_blkV (h.ok i hi).1.1, length_bytesV, hs]; omega)
  rw [hl, Nat.add_zero] at h1
  rw [e2 (upd S i ⟨s, (S i).v, (S i).b⟩) A C (fun k hk => ⟨upd_other _ _ hk, rfl, rfl⟩), e, h1, upd_same]
  congr 2
  have h3 := splice_mid (α := Value) [] (bytesV (S i).s) [.slice (A i) (S i).v.length (C i), .bool (S i).b] (bytesV s) 0 (by rw [length_bytesV, length_bytesV, hs, (h.ok i hi).1.1]; omega)
  simp only [List.nil_append, List.length_nil, Nat.zero_add] at h3
  unfold blkV
  rw [h3, splice_whole _ _ (by rw [length_bytesV, length_bytesV, hs, (h.ok i hi).1.1])]
end RefAt
theorem Ref.keep {w w' : World} {g n c : Nat} {S : Nat → Bk} {F G : Nat → Prop} (h : Ref w g n S c F) (hk : Kept w w' G) (hd : ∀ b, F b → ¬ G b) : Ref w' g n S c F := by
  obtain ⟨gb, cp, A, C, h, rfl⟩ := h
  exact ⟨gb, cp, A, C, h.keep hk hd, rfl⟩
theorem Ref.fresh {w w' : World} {g n c : Nat} {S : Nat → Bk} {F : Nat → Prop} (h : Ref w g n S c F) (hb : Below w.heap.size w w') : Ref w' g n S c F := h.keep (G := fun _ => False) (Kept.fresh hb) (fun _ _ q => q)
theorem Ref.lt {w : World} {g n c : Nat} {S : Nat → Bk} {F : Nat → Prop} (h : Ref w g n S c F) : ∀ b, F b → b < w.heap.size := by
  obtain ⟨gb, cp, A, C, h, rfl⟩ := h
  exact h.foot_lt
theorem Ref.size {w : World} {g n c : Nat} {S : Nat → Bk} {F : Nat → Prop} (h : Ref w g n S c F) : 1 ≤ n ∧ n ≤ 96 ∧ ∃ gb cp, w.cell? ⟨g, 0, none⟩ = some (.slice (some ⟨gb, 0, none⟩) n cp) := by
  obtain ⟨gb, cp, A, C, h, rfl⟩ := h
  exact ⟨h.n1, h.n96, gb, cp, h.c0⟩
end Go.Proofs.Ytegacggkdjgdiaa

/- What the document's disk answers: may, Size, Lasting, Read, Versions. -/
set_option linter.unusedVariables false
set_option linter.unusedSimpArgs false
namespace Go.Proofs.Ytegacggkdjgdiaa
open Go.RowKit

theorem size53 : (Try.prog.info? 146).map (·.size) = some 32 := by kernel_rfl
theorem built53 : Try.prog.built 146 [] = some (bytesV noSec).toArray := by kernel_rfl
section
variable {w : World} {g n c gb cp : Nat} {S : Nat → Bk} {A : Nat → Option Addr} {C : Nat → Nat} {F : Nat → Prop}
theorem may_yes (i : Nat) (hc : w.cell? ⟨g, 0, none⟩ = some (.slice (some ⟨gb, 0, none⟩) n cp)) (hi : i < n) :
    Calls Try.prog 113 #[.pointer (some ⟨g, 0, none⟩), .int .i64 (i : Int)] w fun e w' => e = .returned (.int .i64 0) ∧ w = w' := by
  have h0 : ¬ (i : Int) < 0 := by omega
  have h1 : ¬ (n : Int) ≤ (i : Int) := by omega
  clear hi
  go_enter Try.func113, Try.ntmps113
  go_wp2
  go_ret
  exact ⟨rfl, rfl⟩
theorem may_no (i : Int) (hc : w.cell? ⟨g, 0, none⟩ = some (.slice (some ⟨gb, 0, none⟩) n cp)) (hi : ¬ (0 ≤ i ∧ i < n)) :
    Calls Try.prog 113 #[.pointer (some ⟨g, 0, none⟩), .int .i64 i] w fun e w' => e = .returned (.int .i64 2) ∧ w = w' := by
  by_cases h0 : i < 0
  · clear hi
    go_enter Try.func113, Try.ntmps113
    go_wp2
    go_ret
    exact ⟨rfl, rfl⟩
  · have h1 : (n : Int) ≤ i := by omega
    clear hi
    go_enter Try.func113, Try.ntmps113
    go_wp2
    go_ret
    exact ⟨rfl, rfl⟩
theorem rsize (h : Ref w g n S c F) : Calls Try.prog 92 #[.pointer (some ⟨g, 0, none⟩)] w fun e w' => e = .returned (.int .i64 n) ∧ w = w' := by
  obtain ⟨_, _, gb, cp, hc⟩ := h.size
  clear h
  go_enter Try.func92, Try.ntmps92
  go_wp2
  go_ret
  exact ⟨rfl, rfl⟩
set_option maxRecDepth 100000 in
set_option maxHeartbeats 1000000 in
theorem rlast_no (h : Ref w g n S c F) (i : Int) (hi : ¬ (0 ≤ i ∧ i < n)) :
    Calls Try.prog 115 #[.pointer (some ⟨g, 0, none⟩), .int .i64 i] w fun e w' => e = .returned (.tuple #[secV noSec, .int .i64 2]) ∧ Below w.heap.size w w' := by
  have M : Hid (∀ W, Below w.heap.size w W → Calls Try.prog 113 #[.pointer (some ⟨g, 0, none⟩), .int .i64 i] W fun e w' => e = .returned (.int .i64 2) ∧ W = w') := fun W hB => by
    obtain ⟨_, _, gb, cp, hc⟩ := (h.fresh hB).size
    exact may_no i hc hi
  have hsz : Hid ((Try.prog.info? 146).map (·.size) = some (bytesV noSec).toArray.size) := by unfold Hid; rw [List.size_toArray, length_bytesV, noSec_len]; exact size53
  have hone : Hid ((bytesV noSec).toArray.all (·.oneCell') = true) := all_oneCell_toArray (bytesV_one _)
  have hbu := Lib.hid built53
  unfold secV
  obtain ⟨Z0, hZ0⟩ : ∃ Z0, Z0 = (bytesV noSec).toArray := ⟨_, rfl⟩
  have HZ := Lib.hid hZ0
  rw [← hZ0] at hsz hone hbu ⊢
  clear h hZ0
  go_enter Try.func115, Try.ntmps115
  go_wp2_with fail
  generalize hW : w.alloc (Obj.cells _ 146) = w1
  have b1 : Hid (w1.heap[w.heap.size]? = some (.cells Z0 146 (0, 0))) := by rw [← hW, HZ.out]; exact heap_alloc_new w _
  have B1 : Hid (Below w.heap.size w w1) := by rw [← hW]; exact below_alloc1 w _
  have hfin := Lib.hid (setRow_heap w1 w.heap.size Z0 Z0 146 (0, 0) b1.out)
  have hbfin := Lib.hid (below_setRow B1.out (Nat.le_refl _) Z0)
  clear hW
  refine (M.out w1 B1.out).mono ?_
  rintro e w' ⟨rfl, rfl⟩
  go_wp2_with (first
    | (refine wpList_build_eq rfl 146 [] rfl [] rfl Z0 hbu.out ?_)
    | (refine wpList_store_row rfl 146 (.tmp 4) (.tmp 12) rfl w.heap.size Z0 rfl rfl 146 Z0 b1.out hsz.out rfl hone.out ?_))
  refine bodyPost_ret (v := .tuple #[.agg Z0, .int .i64 2]) ?_ rfl ⟨rfl, hbfin.out⟩
  exact results_cell_row_tmp rfl _ _ w.heap.size 146 Z0 (0, 0) _ rfl hfin.out Try.underlying146 rfl hsz.out _ rfl
set_option maxRecDepth 100000 in
set_option maxHeartbeats 1000000 in
theorem rlast (h : Ref w g n S c F) {i : Nat} (hi : i < n) :
    Calls Try.prog 115 #[.pointer (some ⟨g, 0, none⟩), .int .i64 (i : Int)] w fun e w' => e = .returned (.tuple #[secV (S i).s, .int .i64 0]) ∧ Below w.heap.size w w' := by
  obtain ⟨gb, cp, A, C, h, rfl⟩ := h
  have hi' : (i : Int) < (n : Int) := by omega
  have hi0 : (0 : Int) ≤ (i : Int) := by omega
  have HB : Hid (∀ W, Below w.heap.size w W → W.cell? ⟨g, 0, none⟩ = some (.slice (some ⟨gb, 0, none⟩) n cp) ∧ W.rangeAt gb (i * 34) (bytesV (S i).s)) := fun W hB => ⟨(h.fresh hB).c0, (h.fresh hB).sector hi⟩
  have M : Hid (∀ W, W.cell? ⟨g, 0, none⟩ = some (.slice (some ⟨gb, 0, none⟩) n cp) → Calls Try.prog 113 #[.pointer (some ⟨g, 0, none⟩), .int .i64 (i : Int)] W fun e w' => e = .returned (.int .i64 0) ∧ W = w') := fun W hc => may_yes i hc hi
  have hsl := (h.ok i hi).1.1
  have hsz : Hid ((Try.prog.info? 146).map (·.size) = some (bytesV (S i).s).length) := by unfold Hid; rw [length_bytesV, hsl]; exact size53
  have hsz' : Hid ((Try.prog.info? 146).map (·.size) = some (bytesV (S i).s).toArray.size) := by unfold Hid; rw [List.size_toArray, length_bytesV, hsl]; exact size53
  have hone : Hid ((bytesV (S i).s).toArray.all (·.oneCell') = true) := all_oneCell_toArray (bytesV_one _)
  have hold : Hid ((bytesV (List.replicate 32 0)).toArray.size = (bytesV (S i).s).toArray.size) := by unfold Hid; rw [List.size_toArray, List.size_toArray, length_bytesV, length_bytesV, hsl]; rfl
  unfold secV
  obtain ⟨R0, hR0⟩ : ∃ R0, R0 = bytesV (S i).s := ⟨_, rfl⟩
  rw [← hR0] at hsz hsz' hone hold HB ⊢
  obtain ⟨Z0, hZ0⟩ : ∃ Z0, Z0 = (bytesV (List.replicate 32 0)).toArray := ⟨_, rfl⟩
  have HZ := Lib.hid hZ0
  rw [← hZ0] at hold
  clear h hZ0 hR0 hsl hi
  go_enter Try.func115, Try.ntmps115
  go_wp2_with fail
  generalize hW : w.alloc (Obj.cells _ 146) = w1
  have b1 : Hid (w1.heap[w.heap.size]? = some (.cells Z0 146 (0, 0))) := by rw [← hW, HZ.out]; exact heap_alloc_new w _
  have B1 : Hid (Below w.heap.size w w1) := by rw [← hW]; exact below_alloc1 w _
  have hfin := Lib.hid (setRow_heap w1 w.heap.size Z0 R0.toArray 146 (0, 0) b1.out)
  have hbfin := Lib.hid (below_setRow B1.out (Nat.le_refl _) R0.toArray)
  clear hW
  obtain ⟨c1, r1⟩ := HB.out w1 B1.out
  have R1 := Lib.hid r1
  clear r1
  refine (M.out w1 c1).mono ?_
  rintro e w' ⟨rfl, rfl⟩
  go_wp2_with (first
    | (refine wpList_load_mid rfl 146 (.tmp 20) rfl gb (i * 34) rfl R0 _ R1.out Try.underlying146 rfl hsz.out ?_)
    | (refine wpList_store_row rfl 146 (.tmp 4) (.tmp 21) rfl w.heap.size R0.toArray rfl rfl 146 Z0 b1.out hsz'.out hold.out hone.out ?_))
  refine bodyPost_ret (v := .tuple #[.agg R0.toArray, .int .i64 0]) ?_ rfl ⟨rfl, hbfin.out⟩
  exact results_cell_row_tmp rfl _ _ w.heap.size 146 R0.toArray (0, 0) _ rfl hfin.out Try.underlying146 rfl hsz'.out _ rfl
set_option maxRecDepth 100000 in
set_option maxHeartbeats 1000000 in
theorem rread_no (h : Ref w g n S c F) (i : Int) (hi : ¬ (0 ≤ i ∧ i < n)) :
    Calls Try.prog 91 #[.pointer (some ⟨g, 0, none⟩), .int .i64 i] w fun e w' => e = .returned (.tuple #[secV noSec, .int .i64 2]) ∧ Below w.heap.size w w' := by
  have M : Hid (∀ W, Below w.heap.size w W → Calls Try.prog 113 #[.pointer (some ⟨g, 0, none⟩), .int .i64 i] W fun e w' => e = .returned (.int .i64 2) ∧ W = w') := fun W hB => by
    obtain ⟨_, _, gb, cp, hc⟩ := (h.fresh hB).size
    exact may_no i hc hi
  have hsz : Hid ((Try.prog.info? 146).map (·.size) = some (bytesV noSec).toArray.size) := by unfold Hid; rw [List.size_toArray, length_bytesV, noSec_len]; exact size53
  have hone : Hid ((bytesV noSec).toArray.all (·.oneCell') = true) := all_oneCell_toArray (bytesV_one _)
  have hbu := Lib.hid built53
  unfold secV
  obtain ⟨Z0, hZ0⟩ : ∃ Z0, Z0 = (bytesV noSec).toArray := ⟨_, rfl⟩
  have HZ := Lib.hid hZ0
  rw [← hZ0] at hsz hone hbu ⊢
  clear h hZ0
  go_enter Try.func91, Try.ntmps91
  go_wp2_with fail
  generalize hW : w.alloc (Obj.cells _ 146) = w1
  have b1 : Hid (w1.heap[w.heap.size]? = some (.cells Z0 146 (0, 0))) := by rw [← hW, HZ.out]; exact heap_alloc_new w _
  have B1 : Hid (Below w.heap.size w w1) := by rw [← hW]; exact below_alloc1 w _
  have hfin := Lib.hid (setRow_heap w1 w.heap.size Z0 Z0 146 (0, 0) b1.out)
  have hbfin := Lib.hid (below_setRow B1.out (Nat.le_refl _) Z0)
  clear hW
  refine (M.out w1 B1.out).mono ?_
  rintro e w' ⟨rfl, rfl⟩
  go_wp2_with (first
    | (refine wpList_build_eq rfl 146 [] rfl [] rfl Z0 hbu.out ?_)
    | (refine wpList_store_row rfl 146 (.tmp 4) (.tmp 13) rfl w.heap.size Z0 rfl rfl 146 Z0 b1.out hsz.out rfl hone.out ?_))
  refine bodyPost_ret (v := .tuple #[.agg Z0, .int .i64 2]) ?_ rfl ⟨rfl, hbfin.out⟩
  exact results_cell_row_tmp rfl _ _ w.heap.size 146 Z0 (0, 0) _ rfl hfin.out Try.underlying146 rfl hsz.out _ rfl
end
theorem length_secsV {v : List (List Int)} (h : ∀ x ∈ v, x.length = 32) : (secsV v).length = v.length * 32 := by
  induction v with
  | nil => rfl
  | cons x v ih =>
    have := ih (fun y hy => h y (List.mem_cons_of_mem _ hy))
    have e : secsV (x :: v) = bytesV x ++ secsV v := by simp [secsV]
    rw [e, List.length_append, this, length_bytesV, h x (by simp), List.length_cons]; omega
theorem secsV_at {v : List (List Int)} (h : ∀ x ∈ v, x.length = 32) {k : Nat} (hk : k < v.length) {j : Nat} (hj : j < 32) : (secsV v)[k * 32 + j]? = (bytesV v[k])[j]? := by
  have e : v = v.take k ++ v[k] :: v.drop (k + 1) := by rw [← List.drop_eq_getElem_cons hk, List.take_append_drop]
  have hl : (secsV (v.take k)).length = k * 32 := by rw [length_secsV (fun x hx => h x (List.mem_of_mem_take hx)), List.length_take, Nat.min_eq_left (by omega)]
  have e2 : secsV v = secsV (v.take k) ++ (bytesV v[k] ++ secsV (v.drop (k + 1))) := by
    rw [congrArg secsV e]
    simp only [secsV, List.flatMap_append, List.flatMap_cons]
  rw [e2, List.getElem?_append_right (by omega), hl, show k * 32 + j - k * 32 = j by omega, List.getElem?_append_left (by rw [length_bytesV, h _ (List.getElem_mem hk)]; exact hj)]
theorem secsV_one (v : List (List Int)) : ∀ u ∈ secsV v, u.oneCell' = true := by
  intro u hu
  obtain ⟨x, _, hx⟩ := List.mem_flatMap.1 hu
  exact bytesV_one _ u hx
/-- the k-th version -/
theorem RefAt.version {w : World} {g n c gb cp : Nat} {S : Nat → Bk} {A : Nat → Option Addr} {C : Nat → Nat} (h : RefAt w g n S c gb cp A C) {i : Nat} (hi : i < n) {k : Nat} (hk : k < (S i).v.length) :
    ∃ b, A i = some ⟨b, 0, none⟩ ∧ b < w.heap.size ∧ w.rangeAt b (k * 32) (bytesV (S i).v[k]) := by
  obtain ⟨b, cap, e, _, hb⟩ := (h.vers i hi).form (by omega)
  obtain ⟨hA, _, hC⟩ := Value.slice.inj e
  have hv := h.vers i hi
  rw [hA] at hv
  have hx : ∀ x ∈ (S i).v, x.length = 32 := fun x hx => ((h.ok i hi).2 x hx).1
  refine ⟨b, hA, hb, fun j u hj => ?_⟩
  have hj' : j < 32 := by
    rcases Nat.lt_or_ge j 32 with h1 | h1
    · exact h1
    · rw [List.getElem?_eq_none (by rw [length_bytesV, hx _ (List.getElem_mem hk)]; exact h1)] at hj; cases hj
  rw [hv.cellAt _ (by omega), secsV_at hx hk hj']; exact hj
end Go.Proofs.Ytegacggkdjgdiaa

/- A block of the document's disk turned; Read, Spoil. -/
set_option linter.unusedVariables false
set_option linter.unusedSimpArgs false
namespace Go.Proofs.Ytegacggkdjgdiaa
open Go.RowKit

theorem splice_take {α : Type} (L cs : List α) {k o : Nat} (h : o + cs.length ≤ k) (hk : k ≤ L.length) : (splice L o cs).take k = splice (L.take k) o cs := by
  have h1 := splice_mid [] (L.take k) (L.drop k) cs o (by rw [List.length_take, Nat.min_eq_left hk]; exact h)
  simp only [List.nil_append, List.length_nil, Nat.zero_add, List.take_append_drop] at h1
  have h2 : (splice (L.take k) o cs).length = k := by rw [length_splice _ _ _ (by rw [List.length_take, Nat.min_eq_left hk]; exact h), List.length_take, Nat.min_eq_left hk]
  rw [h1, List.take_append_of_le_length (by omega), List.take_of_length_le (by omega)]
section
variable {w w1 : World} {g n c gb cp : Nat} {S : Nat → Bk} {A : Nat → Option Addr} {C : Nat → Nat} {F : Nat → Prop}
/-- a cell of the i-th block stored: the versions' slice -/
theorem RefAt.turn (h : RefAt w g n S c gb cp A C) {i : Nat} (hi : i < n) {a' : Option Addr} {c' c2 : Nat} {v' : List (List Int)} (hv : w.ownsRow 0 146 32 (.slice a' v'.length c') v'.length (secsV v')) (hvo : ∀ x ∈ v', OkS x)
    (hc : v'.length ≤ c2) (hcc : c ≤ c2) (ha : ∀ j, j < n → j ≠ i → ∀ b, own (A j) = some b → own a' ≠ some b) :
    RefAt (w.setCell ⟨gb, i * 34 + 32, none⟩ (.slice a' v'.length c')) g n (upd S i ⟨(S i).s, v', (S i).b⟩) c2 gb cp (fun k => if k = i then a' else A k) (fun k => if k = i then c' else C k) := by
  have hg := setCell_grown w ⟨gb, i * 34 + 32, none⟩ (.slice a' v'.length c')
  have hk : Kept w (w.setCell ⟨gb, i * 34 + 32, none⟩ (.slice a' v'.length c')) (fun b => b = gb) := Kept.grown hg (fun b e => by cases e; exact .inl rfl)
  have hset := h.set_ hi (j := 32) (by omega) (.slice a' v'.length c') ⟨(S i).s, v', (S i).b⟩ a' c' (by
    unfold blkV
    rw [List.set_append_right _ _ (by rw [length_bytesV, (h.ok i hi).1.1]; omega), length_bytesV, (h.ok i hi).1.1]; rfl)
  refine ⟨hk.blk h.hd h.gne, ?_, ?_, ?_, h.n1, h.n96, ?_, ?_⟩
  · rw [← hset]; exact (h.row.stored _ _).1
  · intro j hj
    by_cases e : j = i
    · subst e
      rw [upd_same]
      simp only [if_true]
      refine hk.row hv fun b hb e => ?_
      subst e
      obtain ⟨cs, hcs⟩ := h.typed
      rw [own_eq] at hb
      rcases hv.2 with ⟨q, _⟩ | ⟨x, cap, cur, q, _, hx, _⟩
      · obtain ⟨q, _, _⟩ := Value.slice.inj q; rw [q] at hb; simp [own] at hb
      · obtain ⟨q, _, _⟩ := Value.slice.inj q
        rw [q] at hb
        simp [own] at hb
        subst hb
        rw [hcs] at hx; simp at hx
    · rw [upd_other _ _ e]
      simp only [if_neg e]
      exact hk.row (h.vers j hj) (fun b hb => by rw [own_eq] at hb; exact h.vb hj hb)
  · intro j hj
    by_cases e : j = i
    · subst e; rw [upd_same]; exact ⟨(h.ok j hj).1, hvo⟩
    · rw [upd_other _ _ e]; exact h.ok j hj
  · intro j hj
    by_cases e : j = i
    · subst e; rw [upd_same]; exact hc
    · rw [upd_other _ _ e]; exact Nat.le_trans (h.few j hj) hcc
  · intro x y hx hy hxy b hb
    by_cases e1 : x = i
    · subst e1
      have e2 : ¬ y = x := fun q => hxy q.symm
      simp only [if_true, if_neg e2] at hb ⊢
      exact fun q => ha y hy e2 b q hb
    · by_cases e2 : y = i
      · subst e2
        simp only [if_true, if_neg e1] at hb ⊢
        exact ha x hx e1 b hb
      · simp only [if_neg e1, if_neg e2] at hb ⊢
        exact h.apart x y hx hy hxy b hb
/-- the sector of the i-th block stored -/
theorem RefAt.sec_ (h : RefAt w g n S c gb cp A C) {i : Nat} (hi : i < n) {s : List Int} (hs : OkS s) {w' : World} {cur : Array Value} (hcur : w.heap[gb]? = some (.cells cur 148 (0, 0))) (e : w' = w.setRow gb (splice cur.toList (i * 34) (bytesV s)).toArray) :
    RefAt w' g n (upd S i ⟨s, (S i).v, (S i).b⟩) c gb cp A C := by
  have hk : Kept w w' (fun b => b = gb) := by
    rw [e]
    exact Kept.grown (row := some gb) ⟨rfl, rfl, rfl, by simp [World.setRow], fun a _ hne => setRow_other w _ a _ (by intro e; subst e; exact hne rfl)⟩ (fun b e => by cases e; exact .inl rfl)
  have hsp := h.splice_ hi hs.1
  refine ⟨hk.blk h.hd h.gne, ?_, ?_, ?_, h.n1, h.n96, ?_, h.apart⟩
  · rcases h.row.2 with ⟨q, _⟩ | ⟨x, cap, cur', q, hb, hx, h1, h2, h3, h4⟩
    · cases q
    · obtain ⟨q, _, qc⟩ := Value.slice.inj q
      cases q
      rw [hcur] at hx
      simp at hx
      subst hx
      have hl : (bytesV s).length = 32 := by rw [length_bytesV, hs.1]
      have hls : (splice cur.toList (i * 34) (bytesV s)).length = cur.size := by rw [length_splice _ _ _ (by rw [hl]; simp; omega)]; simp
      refine ⟨by rw [← hsp, length_splice _ _ _ (by rw [hl, h.row.1]; omega)]; exact h.row.1, .inr ⟨gb, cp, (splice cur.toList (i * 34) (bytesV s)).toArray, rfl, hb, by rw [e]; exact setRow_heap _ _ _ _ _ _ hcur, by rw [qc]; exact h1, by rw [qc]; exact h2, by rw [List.size_toArray, hls, qc]; exact h3, ?_⟩⟩
      rw [← hsp, ← h4]
      exact splice_take _ _ (by rw [hl]; omega) (by simp; omega)
  · intro j hj
    have := hk.row (h.vers j hj) (fun b hb => by rw [own_eq] at hb; exact h.vb hj hb)
    by_cases e : j = i
    · subst e; rw [upd_same]; exact this
    · rw [upd_other _ _ e]; exact this
  · intro j hj
    by_cases e : j = i
    · subst e; rw [upd_same]; exact ⟨hs, (h.ok j hj).2⟩
    · rw [upd_other _ _ e]; exact h.ok j hj
  · intro j hj
    by_cases e : j = i
    · subst e; rw [upd_same]; exact h.few j hj
    · rw [upd_other _ _ e]; exact h.few j hj
theorem rspoil_no (h : Ref w g n S c F) (i : Int) (hi : ¬ (0 ≤ i ∧ i < n)) (b : Bool) : Calls Try.prog 100 #[.pointer (some ⟨g, 0, none⟩), .int .i64 i, .bool b] w fun e w' => e = .returned (.int .i64 2) ∧ w = w' := by
  obtain ⟨_, _, gb, cp, hc⟩ := h.size
  have M := Lib.hid (may_no i hc hi)
  clear h hi
  go_enter Try.func100, Try.ntmps100
  go_wp2_with fail
  refine M.out.mono ?_
  rintro e w' ⟨rfl, rfl⟩
  go_wp2
  go_ret
  exact ⟨rfl, rfl⟩
theorem spoil_ref (i : Nat) (b b0 : Bool) (hc : w.cell? ⟨g, 0, none⟩ = some (.slice (some ⟨gb, 0, none⟩) n cp)) (hi : i < n) (hb : w.cell? ⟨gb, i * 34 + 33, none⟩ = some (.bool b0)) (hf : w.frozen? ⟨gb, i * 34 + 33, none⟩ = false) :
    Calls Try.prog 100 #[.pointer (some ⟨g, 0, none⟩), .int .i64 (i : Int), .bool b] w fun e w' => e = .returned (.int .i64 0) ∧ w' = w.setCell ⟨gb, i * 34 + 33, none⟩ (.bool b) := by
  have M := Lib.hid (may_yes i hc hi)
  have hi' : (i : Int) < (n : Int) := by omega
  have hi0 : (0 : Int) ≤ (i : Int) := by omega
  clear hi
  go_enter Try.func100, Try.ntmps100
  go_wp2_with fail
  refine M.out.mono ?_
  rintro e w' ⟨rfl, rfl⟩
  go_wp2
  go_ret
  exact ⟨rfl, rfl⟩
theorem rspoil (h : Ref w g n S c F) {i : Nat} (hi : i < n) (b : Bool) :
    Calls Try.prog 100 #[.pointer (some ⟨g, 0, none⟩), .int .i64 (i : Int), .bool b] w fun e w' => e = .returned (.int .i64 0) ∧ Went w w' F (Ref w' g n (upd S i ⟨(S i).s, (S i).v, b⟩) c) := by
  obtain ⟨gb, cp, A, C, h, rfl⟩ := h
  refine (spoil_ref i b (S i).b h.c0 hi (h.cb hi) (h.frz _)).mono ?_
  rintro e w' ⟨rfl, rfl⟩
  have hk : Kept w (w.setCell ⟨gb, i * 34 + 33, none⟩ (.bool b)) (fun x => x = gb) := Kept.grown (setCell_grown w _ _) (fun b e => by cases e; exact .inl rfl)
  have hset := h.set_ hi (j := 33) (by omega) (.bool b) ⟨(S i).s, (S i).v, b⟩ (A i) (C i) (by
    unfold blkV
    rw [List.set_append_right _ _ (by rw [length_bytesV, (h.ok i hi).1.1]; omega), length_bytesV, (h.ok i hi).1.1]; rfl)
  have hA : (fun k => if k = i then A i else A k) = A := by funext k; by_cases e : k = i <;> simp [e]
  have hC : (fun k => if k = i then C i else C k) = C := by funext k; by_cases e : k = i <;> simp [e]
  rw [hA, hC] at hset
  refine ⟨rfl, _, ⟨gb, cp, A, C, ⟨hk.blk h.hd h.gne, by rw [← hset]; exact (h.row.stored _ _).1, ?_, ?_, h.n1, h.n96, ?_, h.apart⟩, rfl⟩, hk.more (fun x q => .inl (.inr (.inl q))), fun x q => .inl q⟩
  · intro j hj
    have := hk.row (h.vers j hj) (fun b hb => by rw [own_eq] at hb; exact h.vb hj hb)
    by_cases e : j = i
    · subst e; rw [upd_same]; exact this
    · rw [upd_other _ _ e]; exact this
  · intro j hj
    by_cases e : j = i
    · subst e; rw [upd_same]; exact h.ok j hj
    · rw [upd_other _ _ e]; exact h.ok j hj
  · intro j hj
    by_cases e : j = i
    · subst e; rw [upd_same]; exact h.few j hj
    · rw [upd_other _ _ e]; exact h.few j hj
set_option maxRecDepth 100000 in
set_option maxHeartbeats 1000000 in
theorem rread (h : Ref w g n S c F) {i : Nat} (hi : i < n) (hc : c < 100000) :
    Calls Try.prog 91 #[.pointer (some ⟨g, 0, none⟩), .int .i64 (i : Int)] w fun e w' => e = .returned (.tuple #[secV (S i).now, .int .i64 0]) ∧ Below w.heap.size w w' := by
  obtain ⟨gb, cp, A, C, h, rfl⟩ := h
  have hi' : (i : Int) < (n : Int) := by omega
  have hi0 : (0 : Int) ≤ (i : Int) := by omega
  have M : Hid (∀ W, W.cell? ⟨g, 0, none⟩ = some (.slice (some ⟨gb, 0, none⟩) n cp) → Calls Try.prog 113 #[.pointer (some ⟨g, 0, none⟩), .int .i64 (i : Int)] W fun e w' => e = .returned (.int .i64 0) ∧ W = w') := fun W hc => may_yes i hc hi
  have hnl : (S i).now.length = 32 := by
    unfold Bk.now
    cases e : (S i).v.getLast? with
    | none => exact (h.ok i hi).1.1
    | some x => exact ((h.ok i hi).2 x (List.mem_of_getLast? e)).1
  have hsz : Hid ((Try.prog.info? 146).map (·.size) = some (bytesV (S i).now).length) := by unfold Hid; rw [length_bytesV, hnl]; exact size53
  have hsz' : Hid ((Try.prog.info? 146).map (·.size) = some (bytesV (S i).now).toArray.size) := by unfold Hid; rw [List.size_toArray, length_bytesV, hnl]; exact size53
  have hone : Hid ((bytesV (S i).now).toArray.all (·.oneCell') = true) := all_oneCell_toArray (bytesV_one _)
  have hold : Hid ((bytesV (List.replicate 32 0)).toArray.size = (bytesV (S i).now).toArray.size) := by unfold Hid; rw [List.size_toArray, List.size_toArray, length_bytesV, length_bytesV, hnl]; rfl
  have hfew := h.few i hi
  unfold secV
  by_cases hv : (S i).v = []
  · have hn : (S i).now = (S i).s := by unfold Bk.now; rw [hv]; rfl
    have hvl : (S i).v.length = 0 := by rw [hv]; rfl
    have HB : Hid (∀ W, Below w.heap.size w W → W.cell? ⟨g, 0, none⟩ = some (.slice (some ⟨gb, 0, none⟩) n cp) ∧ W.rangeAt gb (i * 34) (bytesV (S i).now) ∧ W.cell? ⟨gb, i * 34 + 32, none⟩ = some (.slice (A i) 0 (C i))) := fun W hB =>
      ⟨(h.fresh hB).c0, by rw [hn]; exact (h.fresh hB).sector hi, by have := (h.fresh hB).cv hi; rw [hvl] at this; exact this⟩
    obtain ⟨R0, hR0⟩ : ∃ R0, R0 = bytesV (S i).now := ⟨_, rfl⟩
    rw [← hR0] at hsz hsz' hone hold HB ⊢
    obtain ⟨Z0, hZ0⟩ : ∃ Z0, Z0 = (bytesV (List.replicate 32 0)).toArray := ⟨_, rfl⟩
    have HZ := Lib.hid hZ0
    rw [← hZ0] at hold
    clear h hZ0 hR0 hnl hi hn hvl hv hfew
    go_enter Try.func91, Try.ntmps91
    go_wp2_with fail
    generalize hW : w.alloc (Obj.cells _ 146) = w1
    have b1 : Hid (w1.heap[w.heap.size]? = some (.cells Z0 146 (0, 0))) := by rw [← hW, HZ.out]; exact heap_alloc_new w _
    have B1 : Hid (Below w.heap.size w w1) := by rw [← hW]; exact below_alloc1 w _
    have hfin := Lib.hid (setRow_heap w1 w.heap.size Z0 R0.toArray 146 (0, 0) b1.out)
    have hbfin := Lib.hid (below_setRow B1.out (Nat.le_refl _) R0.toArray)
    clear hW
    obtain ⟨c1, r1, v1⟩ := HB.out w1 B1.out
    have R1 := Lib.hid r1
    clear r1
    refine (M.out w1 c1).mono ?_
    rintro e w' ⟨rfl, rfl⟩
    go_wp2_with (first
      | (refine wpList_load_mid rfl 146 (.tmp 44) rfl gb (i * 34) rfl R0 _ R1.out Try.underlying146 rfl hsz.out ?_)
      | (refine wpList_store_row rfl 146 (.tmp 4) (.tmp 45) rfl w.heap.size R0.toArray rfl rfl 146 Z0 b1.out hsz'.out hold.out hone.out ?_))
    refine bodyPost_ret (v := .tuple #[.agg R0.toArray, .int .i64 0]) ?_ rfl ⟨rfl, hbfin.out⟩
    exact results_cell_row_tmp rfl _ _ w.heap.size 146 R0.toArray (0, 0) _ rfl hfin.out Try.underlying146 rfl hsz'.out _ rfl
  · obtain ⟨q, hq⟩ : ∃ q, (S i).v.length = q + 1 := ⟨(S i).v.length - 1, by have := List.length_pos_iff.2 hv; omega⟩
    obtain ⟨vb, hA, hvl, hr⟩ := h.version hi (k := q) (by omega)
    have hn : (S i).now = (S i).v[q] := by
      have hlast : (S i).v.getLast? = some (S i).v[q] := by
        rw [List.getLast?_eq_getElem?]
        have e : (S i).v.length - 1 = q := by omega
        rw [e]
        exact List.getElem?_eq_getElem _
      unfold Bk.now
      rw [hlast]
      rfl
    rw [← hn] at hr
    have HB : Hid (∀ W, Below w.heap.size w W → W.cell? ⟨g, 0, none⟩ = some (.slice (some ⟨gb, 0, none⟩) n cp) ∧ W.rangeAt vb (q * 32) (bytesV (S i).now) ∧ W.cell? ⟨gb, i * 34 + 32, none⟩ = some (.slice (some ⟨vb, 0, none⟩) (q + 1) (C i))) := fun W hB =>
      ⟨(h.fresh hB).c0, fun j u hj => (World.cell?_of_block (hB.block vb hvl)).trans (hr j u hj), by have := (h.fresh hB).cv hi; rw [hq, hA] at this; exact this⟩
    have hq0 : (0 : Int) ≤ (q : Int) := by omega
    have hq3 : (0 : Int) < (q : Int) + 1 := by omega
    have hwq : IntKind.i64.wrap (q : Int) = (q : Int) := by simp [IntKind.wrap, IntKind.bits, IntKind.signed]; omega
    have hq2 : (q : Int) < (q : Int) + 1 := by omega
    obtain ⟨R0, hR0⟩ : ∃ R0, R0 = bytesV (S i).now := ⟨_, rfl⟩
    rw [← hR0] at hsz hsz' hone hold HB ⊢
    obtain ⟨Z0, hZ0⟩ : ∃ Z0, Z0 = (bytesV (List.replicate 32 0)).toArray := ⟨_, rfl⟩
    have HZ := Lib.hid hZ0
    rw [← hZ0] at hold
    clear h hZ0 hR0 hnl hi hn hvl hv hfew hr hA hq
    go_enter Try.func91, Try.ntmps91
    go_wp2_with fail
    generalize hW : w.alloc (Obj.cells _ 146) = w1
    have b1 : Hid (w1.heap[w.heap.size]? = some (.cells Z0 146 (0, 0))) := by rw [← hW, HZ.out]; exact heap_alloc_new w _
    have B1 : Hid (Below w.heap.size w w1) := by rw [← hW]; exact below_alloc1 w _
    have hfin := Lib.hid (setRow_heap w1 w.heap.size Z0 R0.toArray 146 (0, 0) b1.out)
    have hbfin := Lib.hid (below_setRow B1.out (Nat.le_refl _) R0.toArray)
    clear hW
    obtain ⟨c1, r1, v1⟩ := HB.out w1 B1.out
    have R1 := Lib.hid r1
    clear r1
    refine (M.out w1 c1).mono ?_
    rintro e w' ⟨rfl, rfl⟩
    go_wp2_with (first
      | (refine wpList_load_mid rfl 146 (.tmp 36) rfl vb (q * 32) rfl R0 _ R1.out Try.underlying146 rfl hsz.out ?_)
      | (refine wpList_store_row rfl 146 (.tmp 4) (.tmp 37) rfl w.heap.size R0.toArray rfl rfl 146 Z0 b1.out hsz'.out hold.out hone.out ?_))
    refine bodyPost_ret (v := .tuple #[.agg R0.toArray, .int .i64 0]) ?_ rfl ⟨rfl, hbfin.out⟩
    exact results_cell_row_tmp rfl _ _ w.heap.size 146 R0.toArray (0, 0) _ rfl hfin.out Try.underlying146 rfl hsz'.out _ rfl
end
end Go.Proofs.Ytegacggkdjgdiaa

/- The contract of 'Write' of the document's disk. -/
set_option linter.unusedVariables false
set_option linter.unusedSimpArgs false
namespace Go.Proofs.Ytegacggkdjgdiaa
open Go.RowKit

theorem info53 : (Try.prog.info? 146).map (fun i => (i.zero, i.size, i.bytes)) = some (some (.agg (bytesV (List.replicate 32 0)).toArray), 32, 32) := by kernel_rfl
section
variable {P : Program} {o : Oper} {a : Act} {w : World} {K : Act → World → Prop} {Q : Exit → Act → World → Prop}
theorem wp_slice53 (x : Operand) (t : TypeId) (ht : P.underlying t = some (.slice 146)) (ho : o.op = .buildSlice t 1 #[(0, x)]) (R : Array Value) (hx : a.eval x = .agg R)
    (i0 : TypeInfo) (hi : P.info? 146 = some i0) (hz : i0.zero = some (.agg (bytesV (List.replicate 32 0)).toArray)) (hs : i0.size = 32)
    (hf : Instr.fill (fun i => some (i * 32, 32)) ((Array.range 32).map ((bytesV (List.replicate 32 0)).toArray[· % 32]!)) [(0, .agg R)] = some R)
    (h : K (a.put o.dst (.slice (some ⟨w.heap.size, 0, none⟩) 1 1)) (w.alloc (.cells R 146))) : o.wp P a w K Q := by
  refine wp_buildSlice t 146 1 #[(0, x)] ho R i0 _ ht hi hz (by rw [hs]; decide) (by rw [hs]; decide) ?_ h
  rw [hs]
  simpa [hx, Value.cells, bytesV] using hf
end
section
variable {w : World} {g n c : Nat} {S : Nat → Bk} {F : Nat → Prop}
set_option maxRecDepth 100000 in
theorem rwrite_no (h : Ref w g n S c F) (i : Int) (hi : ¬ (0 ≤ i ∧ i < n)) (s : List Int) : Calls Try.prog 98 #[.pointer (some ⟨g, 0, none⟩), .int .i64 i, secV s] w fun e w' => e = .returned (.int .i64 2) ∧ Below w.heap.size w w' := by
  unfold secV
  obtain ⟨R0, hR0⟩ : ∃ R0, R0 = (bytesV s).toArray := ⟨_, rfl⟩
  rw [← hR0]
  have B1 : Hid (Below w.heap.size w (w.alloc (.cells R0 146))) := below_alloc1 w _
  obtain ⟨_, _, gb, cp, hc⟩ := (h.fresh B1.out).size
  have M := Lib.hid (may_no i hc hi)
  clear h hi hR0
  go_enter Try.func98, Try.ntmps98
  go_wp2_with (first | (refine wpList_boxTo rfl 146 (.tmp 2) rfl (some 5) rfl w.heap.size rfl R0 rfl ?_))
  refine M.out.mono ?_
  rintro e w' ⟨rfl, rfl⟩
  go_wp2
  go_ret
  exact ⟨rfl, B1.out⟩
set_option maxRecDepth 100000 in
theorem rbad (h : Ref w g n S c F) {i : Nat} (hi : i < n) (hb : (S i).b = true) (s : List Int) : Calls Try.prog 98 #[.pointer (some ⟨g, 0, none⟩), .int .i64 (i : Int), secV s] w fun e w' => e = .returned (.int .i64 10) ∧ Below w.heap.size w w' := by
  unfold secV
  obtain ⟨R0, hR0⟩ : ∃ R0, R0 = (bytesV s).toArray := ⟨_, rfl⟩
  rw [← hR0]
  have B1 : Hid (Below w.heap.size w (w.alloc (.cells R0 146))) := below_alloc1 w _
  obtain ⟨gb, cp, A, C, h, rfl⟩ := h
  have hc := (h.fresh B1.out).c0
  have hbad := (h.fresh B1.out).cb hi
  rw [hb] at hbad
  have M := Lib.hid (may_yes i hc hi)
  have hi' : (i : Int) < (n : Int) := by omega
  have hi0 : (0 : Int) ≤ (i : Int) := by omega
  clear h hi hR0 hb
  go_enter Try.func98, Try.ntmps98
  go_wp2_with (first | (refine wpList_boxTo rfl 146 (.tmp 2) rfl (some 5) rfl w.heap.size rfl R0 rfl ?_))
  refine M.out.mono ?_
  rintro e w' ⟨rfl, rfl⟩
  go_wp2
  go_ret
  exact ⟨rfl, B1.out⟩
set_option maxRecDepth 100000 in
set_option linter.unusedSimpArgs false in
set_option maxHeartbeats 2000000 in
theorem rwrite (h : Ref w g n S c F) {i : Nat} (hi : i < n) {s : List Int} (hb : (S i).b = false) (hs : OkS s) (hc : c < 100000) :
    Calls Try.prog 98 #[.pointer (some ⟨g, 0, none⟩), .int .i64 (i : Int), secV s] w fun e w' => e = .returned (.int .i64 0) ∧ Went w w' F (Ref w' g n (upd S i ⟨(S i).s, (S i).v ++ [s], (S i).b⟩) (c + 1)) := by
  obtain ⟨i0, hi0, hz0, hz1, hz2⟩ := info_parts info53
  unfold secV
  obtain ⟨R0, hR0⟩ : ∃ R0, R0 = (bytesV s).toArray := ⟨_, rfl⟩
  rw [← hR0]
  have F53 : Hid (Instr.fill (fun i => some (i * 32, 32)) ((Array.range 32).map ((bytesV (List.replicate 32 0)).toArray[· % 32]!)) [(0, .agg R0)] = some R0) := by rw [hR0]; exact fill36 s hs.1
  have hsz : Hid ((Try.prog.info? 146).map (·.size) = some R0.size) := by unfold Hid; rw [hR0, List.size_toArray, length_bytesV, hs.1]; exact size53
  have HRl : Hid (R0.toList.length = 1 * 32) := by unfold Hid; rw [hR0]; simp [length_bytesV, hs.1]
  have HR1 : Hid (∀ u ∈ R0.toList, u.oneCell' = true) := by rw [hR0]; exact bytesV_one s
  obtain ⟨w1, hw1⟩ : ∃ w1, w1 = w.alloc (.cells R0 146) := ⟨_, rfl⟩
  have B1 : Hid (Below w.heap.size w w1) := by rw [hw1]; exact below_alloc1 w _
  have s1 : Hid (w1.heap.size = w.heap.size + 1) := by rw [hw1]; exact size_alloc1 w _
  have b1 : Hid (w1.heap[w.heap.size]? = some (.cells R0 146 (0, 0))) := by rw [hw1]; exact heap_alloc_new w _
  obtain ⟨gb, cp, A, C, h, rfl⟩ := h
  have h1 : Hid (RefAt w1 g n S c gb cp A C) := h.fresh B1.out
  have hv1 := h1.out.vers i hi
  obtain ⟨m, hm⟩ : ∃ m, m = (S i).v.length := ⟨_, rfl⟩
  obtain ⟨vold, hvold⟩ : ∃ v, v = (S i).v := ⟨_, rfl⟩
  obtain ⟨A0, hA0⟩ : ∃ x, x = A i := ⟨_, rfl⟩
  obtain ⟨cA, hcA⟩ : ∃ x, x = C i := ⟨_, rfl⟩
  have hfew := h.few i hi
  have hmc : m ≤ c := by rw [hm]; exact hfew
  have Hlen : Hid ((secsV vold).length = m * 32) := by rw [hm, hvold]; exact length_secsV (fun x hx => ((h.ok i hi).2 x hx).1)
  have Hone : Hid (∀ u ∈ secsV vold, u.oneCell' = true) := secsV_one _
  have HW : Hid (∀ W, Below w1.heap.size w1 W → W.cell? ⟨g, 0, none⟩ = some (.slice (some ⟨gb, 0, none⟩) n cp) ∧ W.heap[w.heap.size]? = some (.cells R0 146 (0, 0)) ∧ W.cell? ⟨gb, i * 34 + 32, none⟩ = some (.slice A0 m cA) ∧ W.frozen? ⟨gb, i * 34 + 32, none⟩ = false ∧
      (∀ ad, A0 = some ad → ∀ j u, (secsV vold)[j]? = some u → W.cell? (ad.add j) = some u) ∧ (A0 = none → m = 0)) := fun W hB => by
    have hW := h1.out.fresh hB
    have hr := row_src (hW.vers i hi)
    refine ⟨hW.c0, (hB.block _ (by have := s1.out; omega)).trans b1.out, by rw [hW.cv hi, hA0, hm, hcA], hW.frz _, ?_, ?_⟩
    · rw [hA0, hvold]; exact hr.1
    · rw [hA0, hm]; exact hr.2
  have HS : Hid (∀ W, Below w1.heap.size w1 W → W.cell? ⟨g, 0, none⟩ = some (.slice (some ⟨gb, 0, none⟩) n cp) ∧ W.heap[w.heap.size]? = some (.cells R0 146 (0, 0))) := fun W hB => ⟨(HW.out W hB).1, (HW.out W hB).2.1⟩
  have HF : Hid (∀ W u, Below w1.heap.size w1 W → (W.setCell ⟨gb, i * 34 + 32, none⟩ u).cell? ⟨g, 0, none⟩ = some (.slice (some ⟨gb, 0, none⟩) n cp) ∧ (W.setCell ⟨gb, i * 34 + 32, none⟩ u).heap[w.heap.size]? = some (.cells R0 146 (0, 0))) := fun W u hB => by
    have hg := setCell_grown W ⟨gb, i * 34 + 32, none⟩ u
    have hW := h1.out.fresh hB
    refine ⟨?_, ?_⟩
    · rw [← (HW.out W hB).1]
      exact World.cell?_of_block (hg.block g hW.glt (by simpa using hW.gne))
    · rw [← (HW.out W hB).2.1]
      refine hg.block _ (by have := hB.size; have := s1.out; omega) ?_
      have := h.blt
      simp; omega
  have HE : Hid (∀ W A2 c2, Below w1.heap.size w1 W → W.ownsRow w1.heap.size 146 32 (.slice A2 (m + 1) c2) (m + 1) (secsV vold ++ R0.toList) → Went w (W.setCell ⟨gb, i * 34 + 32, none⟩ (.slice A2 (m + 1) c2)) (footR g gb n A) (Ref (W.setCell ⟨gb, i * 34 + 32, none⟩ (.slice A2 (m + 1) c2)) g n (upd S i ⟨(S i).s, (S i).v ++ [s], (S i).b⟩) (c + 1))) := by
    intro W A2 c2 hB ho
    have hW := h1.out.fresh hB
    have hlow : ∀ b, own A2 = some b → w1.heap.size ≤ b := fun b hb => (ho.lt b (by rw [own_eq]; exact hb)).1
    have hlv : ((S i).v ++ [s]).length = m + 1 := by rw [hm]; simp
    have hsv : secsV ((S i).v ++ [s]) = secsV vold ++ R0.toList := by rw [hvold, hR0]; simp [secsV]
    have ht := hW.turn hi (a' := A2) (c' := c2) (c2 := c + 1) (v' := (S i).v ++ [s]) (by rw [hlv, hsv]; exact row_zero ho) (fun x hx => by
      rcases List.mem_append.1 hx with q | q
      · exact (h.ok i hi).2 x q
      · obtain rfl : x = s := by simpa using q
        exact hs) (by rw [hlv]; omega) (by omega) (fun j hj hji b hb e => by
        have h2 := hlow b e
        have h3 := h.vlt hj hb
        have := s1.out
        omega)
    rw [hlv] at ht
    refine ⟨_, ⟨gb, cp, _, _, ht, rfl⟩, ?_, ?_⟩
    · have k1 : Kept w W (footR g gb n A) := Kept.fresh (B1.out.trans (hB.mono B1.out.size))
      exact k1.trans (Kept.grown (S := footR g gb n A) (setCell_grown _ _ _) (fun b e => by cases e; exact .inl (.inr (.inl rfl)))) (fun _ h => .inl h)
    · rintro b (q | q | ⟨j, hj, q⟩)
      · exact .inl (.inl q)
      · exact .inl (.inr (.inl q))
      · by_cases e : j = i
        · subst e; simp only [if_true] at q; have := hlow b q; have := B1.out.size; exact .inr (by omega)
        · simp only [if_neg e] at q; exact .inl (.inr (.inr ⟨j, hj, q⟩))
  have hi' : (i : Int) < (n : Int) := by omega
  have hii0 : (0 : Int) ≤ (i : Int) := by omega
  have hc0 := h1.out.c0
  have hcb := h1.out.cb hi
  rw [hb] at hcb
  have M := Lib.hid (may_yes i hc0 hi)
  have Hw1 := Lib.hid hw1
  clear h h1 hv1 hm hvold hA0 hcA hfew hb hs hR0 hi hw1
  go_enter Try.func98, Try.ntmps98
  go_wp2_with (first | (refine wpList_boxTo rfl 146 (.tmp 2) rfl (some 5) rfl w.heap.size rfl R0 rfl ?_))
  rw [← Hw1.out]
  refine M.out.mono ?_
  rintro e w' ⟨rfl, rfl⟩
  go_wp2_with fail
  refine wp_region_held_drew (S := (fun W => W.cell? ⟨g, 0, none⟩ = some (.slice (some ⟨gb, 0, none⟩) n cp) ∧ W.heap[w.heap.size]? = some (.cells R0 146 (0, 0)))) (by kernel_rfl) (HS.out _ (Below.refl _ _).drew) (fun hHeld => ?_)
  have BX0 : Hid (Below w1.heap.size w1 w1.drew) := (Below.refl _ _).drew
  generalize w1.drew = wX0 at hHeld BX0 ⊢
  refine takeH (i := 0) (some 22) (v := ?_) rfl rfl (by kernel_rfl) (by kernel_rfl) (by kernel_rfl) (fun _ _ _ h => h) (by rfl) ?_ (by assumption) ?_
  rotate_left
  · (intro w hSw; (try dsimp only at hSw); obtain ⟨hS1, hS2⟩ := hSw; go_simp; try with_reducible rfl)
  simp only [Act.put, List.setIfInBounds_toArray, List.set_cons_zero, List.set_cons_succ]
  refine takeH (i := 1) (some 23) (v := ?_) rfl rfl (by kernel_rfl) (by kernel_rfl) (by kernel_rfl) (fun _ _ _ h => h) (by rfl) ?_ (by assumption) ?_
  rotate_left
  · (intro w hSw; (try dsimp only at hSw); obtain ⟨hS1, hS2⟩ := hSw; go_simp; try with_reducible rfl)
  simp only [Act.put, List.setIfInBounds_toArray, List.set_cons_zero, List.set_cons_succ]
  refine takeH (i := 2) (some 24) (v := ?_) rfl rfl (by kernel_rfl) (by kernel_rfl) (by kernel_rfl) (fun _ _ _ h => h) (by rfl) ?_ (by assumption) ?_
  rotate_left
  · (intro w hSw; (try dsimp only at hSw); obtain ⟨hS1, hS2⟩ := hSw; go_simp; try with_reducible rfl)
  simp only [Act.put, List.setIfInBounds_toArray, List.set_cons_zero, List.set_cons_succ]
  refine takeH (i := 3) (some 25) (v := ?_) rfl rfl (by kernel_rfl) (by kernel_rfl) (by kernel_rfl) (fun _ _ _ h => h) (by rfl) ?_ (by assumption) ?_
  rotate_left
  · (intro w hSw; (try dsimp only at hSw); obtain ⟨hS1, hS2⟩ := hSw; go_simp; try with_reducible rfl)
  simp only [Act.put, List.setIfInBounds_toArray, List.set_cons_zero, List.set_cons_succ]
  refine takeH (i := 4) (some 26) (v := ?_) rfl rfl (by kernel_rfl) (by kernel_rfl) (by kernel_rfl) (fun _ _ _ h => h) (by rfl) ?_ (by assumption) ?_
  rotate_left
  · (intro w hSw; (try dsimp only at hSw); obtain ⟨hS1, hS2⟩ := hSw; go_simp; try with_reducible rfl)
  simp only [Act.put, List.setIfInBounds_toArray, List.set_cons_zero, List.set_cons_succ]
  refine takeH (i := 6) (some 28) (v := ?_) rfl rfl (by kernel_rfl) (by kernel_rfl) (by kernel_rfl) (fun _ _ _ h => h) (by rfl) ?_ (by assumption) ?_
  rotate_left
  · (intro w hSw; (try dsimp only at hSw); obtain ⟨hS1, hS2⟩ := hSw; go_simp; try with_reducible rfl)
  simp only [Act.put, List.setIfInBounds_toArray, List.set_cons_zero, List.set_cons_succ]
  refine takeH (i := 7) (some 29) (v := ?_) rfl rfl (by kernel_rfl) (by kernel_rfl) (by kernel_rfl) (fun _ _ _ h => h) (by rfl) ?_ (by assumption) ?_
  rotate_left
  · (intro w hSw; (try dsimp only at hSw); obtain ⟨hS1, hS2⟩ := hSw; go_simp; try with_reducible rfl)
  simp only [Act.put, List.setIfInBounds_toArray, List.set_cons_zero, List.set_cons_succ]
  refine takeH (i := 8) (some 30) (v := ?_) rfl rfl (by kernel_rfl) (by kernel_rfl) (by kernel_rfl) (fun _ _ _ h => h) (by rfl) ?_ (by assumption) ?_
  rotate_left
  · (intro w hSw; (try dsimp only at hSw); obtain ⟨hS1, hS2⟩ := hSw; go_simp; try with_reducible rfl)
  simp only [Act.put, List.setIfInBounds_toArray, List.set_cons_zero, List.set_cons_succ]
  refine takeH (i := 9) (some 31) (v := ?_) rfl rfl (by kernel_rfl) (by kernel_rfl) (by kernel_rfl) (fun _ _ _ h => h) (by rfl) ?_ (by assumption) ?_
  rotate_left
  · (intro w hSw; (try dsimp only at hSw); obtain ⟨hS1, hS2⟩ := hSw; go_simp; try with_reducible rfl)
  simp only [Act.put, List.setIfInBounds_toArray, List.set_cons_zero, List.set_cons_succ]
  refine takeH (i := 10) (some 32) (v := ?_) rfl rfl (by kernel_rfl) (by kernel_rfl) (by kernel_rfl) (fun _ _ _ h => h) (by rfl) ?_ (by assumption) ?_
  rotate_left
  · (intro w hSw; (try dsimp only at hSw); obtain ⟨hS1, hS2⟩ := hSw; go_simp; try with_reducible rfl)
  simp only [Act.put, List.setIfInBounds_toArray, List.set_cons_zero, List.set_cons_succ]
  refine takeH (i := 11) (some 33) (v := ?_) rfl rfl (by kernel_rfl) (by kernel_rfl) (by kernel_rfl) (fun _ _ _ h => h) (by rfl) ?_ (by assumption) ?_
  rotate_left
  · (intro w hSw; (try dsimp only at hSw); obtain ⟨hS1, hS2⟩ := hSw; go_simp; try with_reducible rfl)
  simp only [Act.put, List.setIfInBounds_toArray, List.set_cons_zero, List.set_cons_succ]
  refine takeH (i := 12) (some 34) (v := ?_) rfl rfl (by kernel_rfl) (by kernel_rfl) (by kernel_rfl) (fun _ _ _ h => h) (by rfl) ?_ (by assumption) ?_
  rotate_left
  · (intro w hSw; (try dsimp only at hSw); obtain ⟨hS1, hS2⟩ := hSw; go_simp; try with_reducible rfl)
  simp only [Act.put, List.setIfInBounds_toArray, List.set_cons_zero, List.set_cons_succ]
  refine takeH (i := 15) (some 37) (v := ?_) rfl rfl (by kernel_rfl) (by kernel_rfl) (by kernel_rfl) (fun _ _ _ h => h) (by rfl) ?_ (by assumption) ?_
  rotate_left
  · (intro w hSw; (refine exec_row 146 (.tmp 5) ?_ _ ?_ 146 R0 (0, 0) _ hSw.2 Try.underlying146 rfl hsz.out) <;> rfl)
  simp only [Act.put, List.setIfInBounds_toArray, List.set_cons_zero, List.set_cons_succ]
  refine wpAnyH_ready (rs := [5, 13, 16]) (by kernel_rfl) (by simp) ?_
  refine AllReadyH.cons rfl (fun K hK => ?_) (AllReadyH.cons rfl (fun K hK => ?_) (AllReadyH.cons rfl (fun K hK => ?_) AllReadyH.nil))
  · go_simp
    obtain ⟨eb, heb⟩ : ∃ x, x = wX0.heap.size := ⟨_, rfl⟩
    obtain ⟨wX1, hX⟩ : ∃ x, x = wX0.alloc (.cells #[] 146) := ⟨_, rfl⟩
    have BX1 : Hid (Below w1.heap.size w1 wX1) := by rw [hX]; exact BX0.out.alloc BX0.out.size _
    have OE : Hid (wX1.ownsRow w1.heap.size 146 32 (.slice (some ⟨eb, 0, none⟩) 0 0) 0 []) := by rw [hX, heb]; exact World.ownsRow_made _ #[] 0 BX0.out.size (by simp) (by simp)
    have ebl : Hid (w1.heap.size ≤ eb) := by rw [heb]; exact BX0.out.size
    have ebw : Hid (eb < wX1.heap.size) := by rw [hX, heb]; simp [Hid]
    rw [← heb, ← hX]
    clear hX heb
    refine hK _ _ (HS.out _ BX1.out) (fun hHeld => ?_)
    clear hK K
    try simp only [Act.put, List.setIfInBounds_toArray, List.set_cons_zero, List.set_cons_succ]
    refine wpAnyH_ready (rs := [13, 16]) (by kernel_rfl) (by simp) ?_
    refine AllReadyH.cons rfl (fun K hK => ?_) (AllReadyH.cons rfl (fun K hK => ?_) AllReadyH.nil)
    · have hcv := (HW.out _ BX1.out).2.2.1
      go_simp
      clear hcv
      refine hK _ _ (HS.out _ BX1.out) (fun hHeld => ?_)
      clear hK K
      try simp only [Act.put, List.setIfInBounds_toArray, List.set_cons_zero, List.set_cons_succ]
      refine wpAnyH_ready (rs := [14, 16]) (by kernel_rfl) (by simp) ?_
      refine AllReadyH.cons rfl (fun K hK => ?_) (AllReadyH.cons rfl (fun K hK => ?_) AllReadyH.nil)
      · refine step_append_src rfl (.tmp 27) (.tmp 35) 145 rfl w1.heap.size 146 i0 _ 32 32 Try.underlying145 hi0 hz0 hz1 hz2 (by decide) (by decide) (.slice (some ⟨eb, 0, none⟩) 0 0) 0 [] rfl OE.out A0 m cA (secsV vold) rfl Hlen.out (HW.out _ BX1.out).2.2.2.2.1 (HW.out _ BX1.out).2.2.2.2.2 Hone.out (by unfold maxLen; omega) (by omega) BX1.out.size m (by omega) ?_
        intro A1 c1 wX3 ho hg hor
        have BX3 : Hid (Below w1.heap.size w1 wX3) := BX1.out.grown hg BX1.out.size (fun j e => by cases e; exact ebl.out)
        have OA : Hid (wX3.ownsRow w1.heap.size 146 32 (.slice A1 m c1) m (secsV vold)) := by rw [List.nil_append] at ho; exact ho
        clear ho hg hor
        refine hK _ _ (HS.out _ BX3.out) (fun hHeld => ?_)
        clear hK K
        try simp only [Act.put, List.setIfInBounds_toArray, List.set_cons_zero, List.set_cons_succ]
        refine wpAnyH_ready (rs := [16]) (by kernel_rfl) (by simp) ?_
        refine AllReadyH.cons rfl (fun K hK => ?_) AllReadyH.nil
        refine step_of rfl (wp_slice53 (.tmp 37) 145 Try.underlying145 rfl R0 rfl i0 hi0 hz0 hz1 F53.out ?_)
        obtain ⟨sb, hsb⟩ : ∃ x, x = wX3.heap.size := ⟨_, rfl⟩
        obtain ⟨wX4, hX⟩ : ∃ x, x = wX3.alloc (.cells R0 146) := ⟨_, rfl⟩
        have BX4 : Hid (Below w1.heap.size w1 wX4) := by rw [hX]; exact BX3.out.alloc BX3.out.size _
        have OA : Hid (wX4.ownsRow w1.heap.size 146 32 (.slice A1 m c1) m (secsV vold)) := by rw [hX]; exact OA.out.alloc _
        have SS : Hid (∀ j u, R0.toList[j]? = some u → wX4.cell? ((⟨sb, 0, none⟩ : Addr).add j) = some u) := by rw [hX, hsb]; exact fun j u hu => cells_new wX3 R0.toList 146 j u hu
        have sbl : Hid (sb < wX4.heap.size) := by rw [hX, hsb]; simp [Hid]
        rw [← hsb, ← hX]
        clear hX hsb
        refine hK _ _ (HS.out _ BX4.out) (fun hHeld => ?_)
        clear hK K
        try simp only [Act.put, List.setIfInBounds_toArray, List.set_cons_zero, List.set_cons_succ]
        refine wpAnyH_ready (rs := [17]) (by kernel_rfl) (by simp) ?_
        refine AllReadyH.cons rfl (fun K hK => ?_) AllReadyH.nil
        refine step_append_src rfl (.tmp 36) (.tmp 38) 145 rfl w1.heap.size 146 i0 _ 32 32 Try.underlying145 hi0 hz0 hz1 hz2 (by decide) (by decide) (.slice A1 m c1) m (secsV vold) rfl OA.out (some ⟨sb, 0, none⟩) 1 1 R0.toList rfl HRl.out (fun ad e => by cases e; exact SS.out) (fun e => by cases e) HR1.out (by unfold maxLen; omega) (by omega) BX4.out.size (m + 1) rfl ?_
        intro A2 c2 wX5 ho hg hor
        have BX5 : Hid (Below w1.heap.size w1 wX5) := BX4.out.grown hg BX4.out.size (fun j e => (OA.out.lt j e).1)
        have OB := Lib.hid ho
        clear ho hg hor
        refine hK _ _ (HS.out _ BX5.out) (fun hHeld => ?_)
        clear hK K
        try simp only [Act.put, List.setIfInBounds_toArray, List.set_cons_zero, List.set_cons_succ]
        refine takeH (i := 18) (some 40) (v := ?_) rfl rfl (by kernel_rfl) (by kernel_rfl) (by kernel_rfl) (fun _ _ _ h => h) (by rfl) ?_ (by assumption) ?_
        rotate_left
        · (intro w hSw; (try dsimp only at hSw); obtain ⟨hS1, hS2⟩ := hSw; go_simp; try with_reducible rfl)
        simp only [Act.put, List.setIfInBounds_toArray, List.set_cons_zero, List.set_cons_succ]
        refine takeH (i := 19) (some 41) (v := ?_) rfl rfl (by kernel_rfl) (by kernel_rfl) (by kernel_rfl) (fun _ _ _ h => h) (by rfl) ?_ (by assumption) ?_
        rotate_left
        · (intro w hSw; (try dsimp only at hSw); obtain ⟨hS1, hS2⟩ := hSw; go_simp; try with_reducible rfl)
        simp only [Act.put, List.setIfInBounds_toArray, List.set_cons_zero, List.set_cons_succ]
        refine wpAnyH_ready (rs := [20]) (by kernel_rfl) (by simp) ?_
        refine AllReadyH.cons rfl (fun K hK => ?_) AllReadyH.nil
        have hcv := (HW.out _ BX5.out).2.2.1
        have hfz := (HW.out _ BX5.out).2.2.2.1
        go_simp
        refine hK _ _ (HF.out _ _ BX5.out) (fun hHeld => ?_)
        clear hK K hcv hfz
        try simp only [Act.put, List.setIfInBounds_toArray, List.set_cons_zero, List.set_cons_succ]
        refine wpAnyH_done (by kernel_rfl) ?_ _
        go_wp2
        go_ret
        exact ⟨rfl, HE.out _ A2 c2 BX5.out OB.out⟩
      · refine step_of rfl (wp_slice53 (.tmp 37) 145 Try.underlying145 rfl R0 rfl i0 hi0 hz0 hz1 F53.out ?_)
        obtain ⟨sb, hsb⟩ : ∃ x, x = wX1.heap.size := ⟨_, rfl⟩
        obtain ⟨wX3, hX⟩ : ∃ x, x = wX1.alloc (.cells R0 146) := ⟨_, rfl⟩
        have BX3 : Hid (Below w1.heap.size w1 wX3) := by rw [hX]; exact BX1.out.alloc BX1.out.size _
        have OE : Hid (wX3.ownsRow w1.heap.size 146 32 (.slice (some ⟨eb, 0, none⟩) 0 0) 0 []) := by rw [hX]; exact OE.out.alloc _
        have SS : Hid (∀ j u, R0.toList[j]? = some u → wX3.cell? ((⟨sb, 0, none⟩ : Addr).add j) = some u) := by rw [hX, hsb]; exact fun j u hu => cells_new wX1 R0.toList 146 j u hu
        have sbl : Hid (sb < wX3.heap.size) := by rw [hX, hsb]; simp [Hid]
        have hne : Hid (sb ≠ eb) := by have := ebw.out; rw [hsb]; unfold Hid; omega
        rw [← hsb, ← hX]
        clear hX hsb
        refine hK _ _ (HS.out _ BX3.out) (fun hHeld => ?_)
        clear hK K
        try simp only [Act.put, List.setIfInBounds_toArray, List.set_cons_zero, List.set_cons_succ]
        refine wpAnyH_ready (rs := [14]) (by kernel_rfl) (by simp) ?_
        refine AllReadyH.cons rfl (fun K hK => ?_) AllReadyH.nil
        refine step_append_src rfl (.tmp 27) (.tmp 35) 145 rfl w1.heap.size 146 i0 _ 32 32 Try.underlying145 hi0 hz0 hz1 hz2 (by decide) (by decide) (.slice (some ⟨eb, 0, none⟩) 0 0) 0 [] rfl OE.out A0 m cA (secsV vold) rfl Hlen.out (HW.out _ BX3.out).2.2.2.2.1 (HW.out _ BX3.out).2.2.2.2.2 Hone.out (by unfold maxLen; omega) (by omega) BX3.out.size m (by omega) ?_
        intro A1 c1 wX4 ho hg hor
        have BX4 : Hid (Below w1.heap.size w1 wX4) := BX3.out.grown hg BX3.out.size (fun j e => by cases e; exact ebl.out)
        have OA : Hid (wX4.ownsRow w1.heap.size 146 32 (.slice A1 m c1) m (secsV vold)) := by rw [List.nil_append] at ho; exact ho
        have SS : Hid (∀ j u, R0.toList[j]? = some u → wX4.cell? ((⟨sb, 0, none⟩ : Addr).add j) = some u) := fun j u hu => by rw [add_plain', World.cell?_of_block (a := ⟨sb, 0 + j, none⟩) (hg.block sb sbl.out (by simp [Value.ownBlock]; exact hne.out)), ← add_plain']; exact SS.out j u hu
        have sbl : Hid (sb < wX4.heap.size) := Nat.lt_of_lt_of_le sbl.out hg.size
        clear ho hg hor
        refine hK _ _ (HS.out _ BX4.out) (fun hHeld => ?_)
        clear hK K
        try simp only [Act.put, List.setIfInBounds_toArray, List.set_cons_zero, List.set_cons_succ]
        refine wpAnyH_ready (rs := [17]) (by kernel_rfl) (by simp) ?_
        refine AllReadyH.cons rfl (fun K hK => ?_) AllReadyH.nil
        refine step_append_src rfl (.tmp 36) (.tmp 38) 145 rfl w1.heap.size 146 i0 _ 32 32 Try.underlying145 hi0 hz0 hz1 hz2 (by decide) (by decide) (.slice A1 m c1) m (secsV vold) rfl OA.out (some ⟨sb, 0, none⟩) 1 1 R0.toList rfl HRl.out (fun ad e => by cases e; exact SS.out) (fun e => by cases e) HR1.out (by unfold maxLen; omega) (by omega) BX4.out.size (m + 1) rfl ?_
        intro A2 c2 wX5 ho hg hor
        have BX5 : Hid (Below w1.heap.size w1 wX5) := BX4.out.grown hg BX4.out.size (fun j e => (OA.out.lt j e).1)
        have OB := Lib.hid ho
        clear ho hg hor
        refine hK _ _ (HS.out _ BX5.out) (fun hHeld => ?_)
        clear hK K
        try simp only [Act.put, List.setIfInBounds_toArray, List.set_cons_zero, List.set_cons_succ]
        refine takeH (i := 18) (some 40) (v := ?_) rfl rfl (by kernel_rfl) (by kernel_rfl) (by kernel_rfl) (fun _ _ _ h => h) (by rfl) ?_ (by assumption) ?_
        rotate_left
        · (intro w hSw; (try dsimp only at hSw); obtain ⟨hS1, hS2⟩ := hSw; go_simp; try with_reducible rfl)
        simp only [Act.put, List.setIfInBounds_toArray, List.set_cons_zero, List.set_cons_succ]
        refine takeH (i := 19) (some 41) (v := ?_) rfl rfl (by kernel_rfl) (by kernel_rfl) (by kernel_rfl) (fun _ _ _ h => h) (by rfl) ?_ (by assumption) ?_
        rotate_left
        · (intro w hSw; (try dsimp only at hSw); obtain ⟨hS1, hS2⟩ := hSw; go_simp; try with_reducible rfl)
        simp only [Act.put, List.setIfInBounds_toArray, List.set_cons_zero, List.set_cons_succ]
        refine wpAnyH_ready (rs := [20]) (by kernel_rfl) (by simp) ?_
        refine AllReadyH.cons rfl (fun K hK => ?_) AllReadyH.nil
        have hcv := (HW.out _ BX5.out).2.2.1
        have hfz := (HW.out _ BX5.out).2.2.2.1
        go_simp
        refine hK _ _ (HF.out _ _ BX5.out) (fun hHeld => ?_)
        clear hK K hcv hfz
        try simp only [Act.put, List.setIfInBounds_toArray, List.set_cons_zero, List.set_cons_succ]
        refine wpAnyH_done (by kernel_rfl) ?_ _
        go_wp2
        go_ret
        exact ⟨rfl, HE.out _ A2 c2 BX5.out OB.out⟩
    · refine step_of rfl (wp_slice53 (.tmp 37) 145 Try.underlying145 rfl R0 rfl i0 hi0 hz0 hz1 F53.out ?_)
      obtain ⟨sb, hsb⟩ : ∃ x, x = wX1.heap.size := ⟨_, rfl⟩
      obtain ⟨wX2, hX⟩ : ∃ x, x = wX1.alloc (.cells R0 146) := ⟨_, rfl⟩
      have BX2 : Hid (Below w1.heap.size w1 wX2) := by rw [hX]; exact BX1.out.alloc BX1.out.size _
      have OE : Hid (wX2.ownsRow w1.heap.size 146 32 (.slice (some ⟨eb, 0, none⟩) 0 0) 0 []) := by rw [hX]; exact OE.out.alloc _
      have SS : Hid (∀ j u, R0.toList[j]? = some u → wX2.cell? ((⟨sb, 0, none⟩ : Addr).add j) = some u) := by rw [hX, hsb]; exact fun j u hu => cells_new wX1 R0.toList 146 j u hu
      have sbl : Hid (sb < wX2.heap.size) := by rw [hX, hsb]; simp [Hid]
      have hne : Hid (sb ≠ eb) := by have := ebw.out; rw [hsb]; unfold Hid; omega
      rw [← hsb, ← hX]
      clear hX hsb
      refine hK _ _ (HS.out _ BX2.out) (fun hHeld => ?_)
      clear hK K
      try simp only [Act.put, List.setIfInBounds_toArray, List.set_cons_zero, List.set_cons_succ]
      refine wpAnyH_ready (rs := [13]) (by kernel_rfl) (by simp) ?_
      refine AllReadyH.cons rfl (fun K hK => ?_) AllReadyH.nil
      have hcv := (HW.out _ BX2.out).2.2.1
      go_simp
      clear hcv
      refine hK _ _ (HS.out _ BX2.out) (fun hHeld => ?_)
      clear hK K
      try simp only [Act.put, List.setIfInBounds_toArray, List.set_cons_zero, List.set_cons_succ]
      refine wpAnyH_ready (rs := [14]) (by kernel_rfl) (by simp) ?_
      refine AllReadyH.cons rfl (fun K hK => ?_) AllReadyH.nil
      refine step_append_src rfl (.tmp 27) (.tmp 35) 145 rfl w1.heap.size 146 i0 _ 32 32 Try.underlying145 hi0 hz0 hz1 hz2 (by decide) (by decide) (.slice (some ⟨eb, 0, none⟩) 0 0) 0 [] rfl OE.out A0 m cA (secsV vold) rfl Hlen.out (HW.out _ BX2.out).2.2.2.2.1 (HW.out _ BX2.out).2.2.2.2.2 Hone.out (by unfold maxLen; omega) (by omega) BX2.out.size m (by omega) ?_
      intro A1 c1 wX4 ho hg hor
      have BX4 : Hid (Below w1.heap.size w1 wX4) := BX2.out.grown hg BX2.out.size (fun j e => by cases e; exact ebl.out)
      have OA : Hid (wX4.ownsRow w1.heap.size 146 32 (.slice A1 m c1) m (secsV vold)) := by rw [List.nil_append] at ho; exact ho
      have SS : Hid (∀ j u, R0.toList[j]? = some u → wX4.cell? ((⟨sb, 0, none⟩ : Addr).add j) = some u) := fun j u hu => by rw [add_plain', World.cell?_of_block (a := ⟨sb, 0 + j, none⟩) (hg.block sb sbl.out (by simp [Value.ownBlock]; exact hne.out)), ← add_plain']; exact SS.out j u hu
      have sbl : Hid (sb < wX4.heap.size) := Nat.lt_of_lt_of_le sbl.out hg.size
      clear ho hg hor
      refine hK _ _ (HS.out _ BX4.out) (fun hHeld => ?_)
      clear hK K
      try simp only [Act.put, List.setIfInBounds_toArray, List.set_cons_zero, List.set_cons_succ]
      refine wpAnyH_ready (rs := [17]) (by kernel_rfl) (by simp) ?_
      refine AllReadyH.cons rfl (fun K hK => ?_) AllReadyH.nil
      refine step_append_src rfl (.tmp 36) (.tmp 38) 145 rfl w1.heap.size 146 i0 _ 32 32 Try.underlying145 hi0 hz0 hz1 hz2 (by decide) (by decide) (.slice A1 m c1) m (secsV vold) rfl OA.out (some ⟨sb, 0, none⟩) 1 1 R0.toList rfl HRl.out (fun ad e => by cases e; exact SS.out) (fun e => by cases e) HR1.out (by unfold maxLen; omega) (by omega) BX4.out.size (m + 1) rfl ?_
      intro A2 c2 wX5 ho hg hor
      have BX5 : Hid (Below w1.heap.size w1 wX5) := BX4.out.grown hg BX4.out.size (fun j e => (OA.out.lt j e).1)
      have OB := Lib.hid ho
      clear ho hg hor
      refine hK _ _ (HS.out _ BX5.out) (fun hHeld => ?_)
      clear hK K
      try simp only [Act.put, List.setIfInBounds_toArray, List.set_cons_zero, List.set_cons_succ]
      refine takeH (i := 18) (some 40) (v := ?_) rfl rfl (by kernel_rfl) (by kernel_rfl) (by kernel_rfl) (fun _ _ _ h => h) (by rfl) ?_ (by assumption) ?_
      rotate_left
      · (intro w hSw; (try dsimp only at hSw); obtain ⟨hS1, hS2⟩ := hSw; go_simp; try with_reducible rfl)
      simp only [Act.put, List.setIfInBounds_toArray, List.set_cons_zero, List.set_cons_succ]
      refine takeH (i := 19) (some 41) (v := ?_) rfl rfl (by kernel_rfl) (by kernel_rfl) (by kernel_rfl) (fun _ _ _ h => h) (by rfl) ?_ (by assumption) ?_
      rotate_left
      · (intro w hSw; (try dsimp only at hSw); obtain ⟨hS1, hS2⟩ := hSw; go_simp; try with_reducible rfl)
      simp only [Act.put, List.setIfInBounds_toArray, List.set_cons_zero, List.set_cons_succ]
      refine wpAnyH_ready (rs := [20]) (by kernel_rfl) (by simp) ?_
      refine AllReadyH.cons rfl (fun K hK => ?_) AllReadyH.nil
      have hcv := (HW.out _ BX5.out).2.2.1
      have hfz := (HW.out _ BX5.out).2.2.2.1
      go_simp
      refine hK _ _ (HF.out _ _ BX5.out) (fun hHeld => ?_)
      clear hK K hcv hfz
      try simp only [Act.put, List.setIfInBounds_toArray, List.set_cons_zero, List.set_cons_succ]
      refine wpAnyH_done (by kernel_rfl) ?_ _
      go_wp2
      go_ret
      exact ⟨rfl, HE.out _ A2 c2 BX5.out OB.out⟩
  · have hcv := (HW.out _ BX0.out).2.2.1
    go_simp
    clear hcv
    refine hK _ _ (HS.out _ BX0.out) (fun hHeld => ?_)
    clear hK K
    try simp only [Act.put, List.setIfInBounds_toArray, List.set_cons_zero, List.set_cons_succ]
    refine wpAnyH_ready (rs := [5, 16]) (by kernel_rfl) (by simp) ?_
    refine AllReadyH.cons rfl (fun K hK => ?_) (AllReadyH.cons rfl (fun K hK => ?_) AllReadyH.nil)
    · go_simp
      obtain ⟨eb, heb⟩ : ∃ x, x = wX0.heap.size := ⟨_, rfl⟩
      obtain ⟨wX2, hX⟩ : ∃ x, x = wX0.alloc (.cells #[] 146) := ⟨_, rfl⟩
      have BX2 : Hid (Below w1.heap.size w1 wX2) := by rw [hX]; exact BX0.out.alloc BX0.out.size _
      have OE : Hid (wX2.ownsRow w1.heap.size 146 32 (.slice (some ⟨eb, 0, none⟩) 0 0) 0 []) := by rw [hX, heb]; exact World.ownsRow_made _ #[] 0 BX0.out.size (by simp) (by simp)
      have ebl : Hid (w1.heap.size ≤ eb) := by rw [heb]; exact BX0.out.size
      have ebw : Hid (eb < wX2.heap.size) := by rw [hX, heb]; simp [Hid]
      rw [← heb, ← hX]
      clear hX heb
      refine hK _ _ (HS.out _ BX2.out) (fun hHeld => ?_)
      clear hK K
      try simp only [Act.put, List.setIfInBounds_toArray, List.set_cons_zero, List.set_cons_succ]
      refine wpAnyH_ready (rs := [14, 16]) (by kernel_rfl) (by simp) ?_
      refine AllReadyH.cons rfl (fun K hK => ?_) (AllReadyH.cons rfl (fun K hK => ?_) AllReadyH.nil)
      · refine step_append_src rfl (.tmp 27) (.tmp 35) 145 rfl w1.heap.size 146 i0 _ 32 32 Try.underlying145 hi0 hz0 hz1 hz2 (by decide) (by decide) (.slice (some ⟨eb, 0, none⟩) 0 0) 0 [] rfl OE.out A0 m cA (secsV vold) rfl Hlen.out (HW.out _ BX2.out).2.2.2.2.1 (HW.out _ BX2.out).2.2.2.2.2 Hone.out (by unfold maxLen; omega) (by omega) BX2.out.size m (by omega) ?_
        intro A1 c1 wX3 ho hg hor
        have BX3 : Hid (Below w1.heap.size w1 wX3) := BX2.out.grown hg BX2.out.size (fun j e => by cases e; exact ebl.out)
        have OA : Hid (wX3.ownsRow w1.heap.size 146 32 (.slice A1 m c1) m (secsV vold)) := by rw [List.nil_append] at ho; exact ho
        clear ho hg hor
        refine hK _ _ (HS.out _ BX3.out) (fun hHeld => ?_)
        clear hK K
        try simp only [Act.put, List.setIfInBounds_toArray, List.set_cons_zero, List.set_cons_succ]
        refine wpAnyH_ready (rs := [16]) (by kernel_rfl) (by simp) ?_
        refine AllReadyH.cons rfl (fun K hK => ?_) AllReadyH.nil
        refine step_of rfl (wp_slice53 (.tmp 37) 145 Try.underlying145 rfl R0 rfl i0 hi0 hz0 hz1 F53.out ?_)
        obtain ⟨sb, hsb⟩ : ∃ x, x = wX3.heap.size := ⟨_, rfl⟩
        obtain ⟨wX4, hX⟩ : ∃ x, x = wX3.alloc (.cells R0 146) := ⟨_, rfl⟩
        have BX4 : Hid (Below w1.heap.size w1 wX4) := by rw [hX]; exact BX3.out.alloc BX3.out.size _
        have OA : Hid (wX4.ownsRow w1.heap.size 146 32 (.slice A1 m c1) m (secsV vold)) := by rw [hX]; exact OA.out.alloc _
        have SS : Hid (∀ j u, R0.toList[j]? = some u → wX4.cell? ((⟨sb, 0, none⟩ : Addr).add j) = some u) := by rw [hX, hsb]; exact fun j u hu => cells_new wX3 R0.toList 146 j u hu
        have sbl : Hid (sb < wX4.heap.size) := by rw [hX, hsb]; simp [Hid]
        rw [← hsb, ← hX]
        clear hX hsb
        refine hK _ _ (HS.out _ BX4.out) (fun hHeld => ?_)
        clear hK K
        try simp only [Act.put, List.setIfInBounds_toArray, List.set_cons_zero, List.set_cons_succ]
        refine wpAnyH_ready (rs := [17]) (by kernel_rfl) (by simp) ?_
        refine AllReadyH.cons rfl (fun K hK => ?_) AllReadyH.nil
        refine step_append_src rfl (.tmp 36) (.tmp 38) 145 rfl w1.heap.size 146 i0 _ 32 32 Try.underlying145 hi0 hz0 hz1 hz2 (by decide) (by decide) (.slice A1 m c1) m (secsV vold) rfl OA.out (some ⟨sb, 0, none⟩) 1 1 R0.toList rfl HRl.out (fun ad e => by cases e; exact SS.out) (fun e => by cases e) HR1.out (by unfold maxLen; omega) (by omega) BX4.out.size (m + 1) rfl ?_
        intro A2 c2 wX5 ho hg hor
        have BX5 : Hid (Below w1.heap.size w1 wX5) := BX4.out.grown hg BX4.out.size (fun j e => (OA.out.lt j e).1)
        have OB := Lib.hid ho
        clear ho hg hor
        refine hK _ _ (HS.out _ BX5.out) (fun hHeld => ?_)
        clear hK K
        try simp only [Act.put, List.setIfInBounds_toArray, List.set_cons_zero, List.set_cons_succ]
        refine takeH (i := 18) (some 40) (v := ?_) rfl rfl (by kernel_rfl) (by kernel_rfl) (by kernel_rfl) (fun _ _ _ h => h) (by rfl) ?_ (by assumption) ?_
        rotate_left
        · (intro w hSw; (try dsimp only at hSw); obtain ⟨hS1, hS2⟩ := hSw; go_simp; try with_reducible rfl)
        simp only [Act.put, List.setIfInBounds_toArray, List.set_cons_zero, List.set_cons_succ]
        refine takeH (i := 19) (some 41) (v := ?_) rfl rfl (by kernel_rfl) (by kernel_rfl) (by kernel_rfl) (fun _ _ _ h => h) (by rfl) ?_ (by assumption) ?_
        rotate_left
        · (intro w hSw; (try dsimp only at hSw); obtain ⟨hS1, hS2⟩ := hSw; go_simp; try with_reducible rfl)
        simp only [Act.put, List.setIfInBounds_toArray, List.set_cons_zero, List.set_cons_succ]
        refine wpAnyH_ready (rs := [20]) (by kernel_rfl) (by simp) ?_
        refine AllReadyH.cons rfl (fun K hK => ?_) AllReadyH.nil
        have hcv := (HW.out _ BX5.out).2.2.1
        have hfz := (HW.out _ BX5.out).2.2.2.1
        go_simp
        refine hK _ _ (HF.out _ _ BX5.out) (fun hHeld => ?_)
        clear hK K hcv hfz
        try simp only [Act.put, List.setIfInBounds_toArray, List.set_cons_zero, List.set_cons_succ]
        refine wpAnyH_done (by kernel_rfl) ?_ _
        go_wp2
        go_ret
        exact ⟨rfl, HE.out _ A2 c2 BX5.out OB.out⟩
      · refine step_of rfl (wp_slice53 (.tmp 37) 145 Try.underlying145 rfl R0 rfl i0 hi0 hz0 hz1 F53.out ?_)
        obtain ⟨sb, hsb⟩ : ∃ x, x = wX2.heap.size := ⟨_, rfl⟩
        obtain ⟨wX3, hX⟩ : ∃ x, x = wX2.alloc (.cells R0 146) := ⟨_, rfl⟩
        have BX3 : Hid (Below w1.heap.size w1 wX3) := by rw [hX]; exact BX2.out.alloc BX2.out.size _
        have OE : Hid (wX3.ownsRow w1.heap.size 146 32 (.slice (some ⟨eb, 0, none⟩) 0 0) 0 []) := by rw [hX]; exact OE.out.alloc _
        have SS : Hid (∀ j u, R0.toList[j]? = some u → wX3.cell? ((⟨sb, 0, none⟩ : Addr).add j) = some u) := by rw [hX, hsb]; exact fun j u hu => cells_new wX2 R0.toList 146 j u hu
        have sbl : Hid (sb < wX3.heap.size) := by rw [hX, hsb]; simp [Hid]
        have hne : Hid (sb ≠ eb) := by have := ebw.out; rw [hsb]; unfold Hid; omega
        rw [← hsb, ← hX]
        clear hX hsb
        refine hK _ _ (HS.out _ BX3.out) (fun hHeld => ?_)
        clear hK K
        try simp only [Act.put, List.setIfInBounds_toArray, List.set_cons_zero, List.set_cons_succ]
        refine wpAnyH_ready (rs := [14]) (by kernel_rfl) (by simp) ?_
        refine AllReadyH.cons rfl (fun K hK => ?_) AllReadyH.nil
        refine step_append_src rfl (.tmp 27) (.tmp 35) 145 rfl w1.heap.size 146 i0 _ 32 32 Try.underlying145 hi0 hz0 hz1 hz2 (by decide) (by decide) (.slice (some ⟨eb, 0, none⟩) 0 0) 0 [] rfl OE.out A0 m cA (secsV vold) rfl Hlen.out (HW.out _ BX3.out).2.2.2.2.1 (HW.out _ BX3.out).2.2.2.2.2 Hone.out (by unfold maxLen; omega) (by omega) BX3.out.size m (by omega) ?_
        intro A1 c1 wX4 ho hg hor
        have BX4 : Hid (Below w1.heap.size w1 wX4) := BX3.out.grown hg BX3.out.size (fun j e => by cases e; exact ebl.out)
        have OA : Hid (wX4.ownsRow w1.heap.size 146 32 (.slice A1 m c1) m (secsV vold)) := by rw [List.nil_append] at ho; exact ho
        have SS : Hid (∀ j u, R0.toList[j]? = some u → wX4.cell? ((⟨sb, 0, none⟩ : Addr).add j) = some u) := fun j u hu => by rw [add_plain', World.cell?_of_block (a := ⟨sb, 0 + j, none⟩) (hg.block sb sbl.out (by simp [Value.ownBlock]; exact hne.out)), ← add_plain']; exact SS.out j u hu
        have sbl : Hid (sb < wX4.heap.size) := Nat.lt_of_lt_of_le sbl.out hg.size
        clear ho hg hor
        refine hK _ _ (HS.out _ BX4.out) (fun hHeld => ?_)
        clear hK K
        try simp only [Act.put, List.setIfInBounds_toArray, List.set_cons_zero, List.set_cons_succ]
        refine wpAnyH_ready (rs := [17]) (by kernel_rfl) (by simp) ?_
        refine AllReadyH.cons rfl (fun K hK => ?_) AllReadyH.nil
        refine step_append_src rfl (.tmp 36) (.tmp 38) 145 rfl w1.heap.size 146 i0 _ 32 32 Try.underlying145 hi0 hz0 hz1 hz2 (by decide) (by decide) (.slice A1 m c1) m (secsV vold) rfl OA.out (some ⟨sb, 0, none⟩) 1 1 R0.toList rfl HRl.out (fun ad e => by cases e; exact SS.out) (fun e => by cases e) HR1.out (by unfold maxLen; omega) (by omega) BX4.out.size (m + 1) rfl ?_
        intro A2 c2 wX5 ho hg hor
        have BX5 : Hid (Below w1.heap.size w1 wX5) := BX4.out.grown hg BX4.out.size (fun j e => (OA.out.lt j e).1)
        have OB := Lib.hid ho
        clear ho hg hor
        refine hK _ _ (HS.out _ BX5.out) (fun hHeld => ?_)
        clear hK K
        try simp only [Act.put, List.setIfInBounds_toArray, List.set_cons_zero, List.set_cons_succ]
        refine takeH (i := 18) (some 40) (v := ?_) rfl rfl (by kernel_rfl) (by kernel_rfl) (by kernel_rfl) (fun _ _ _ h => h) (by rfl) ?_ (by assumption) ?_
        rotate_left
        · (intro w hSw; (try dsimp only at hSw); obtain ⟨hS1, hS2⟩ := hSw; go_simp; try with_reducible rfl)
        simp only [Act.put, List.setIfInBounds_toArray, List.set_cons_zero, List.set_cons_succ]
        refine takeH (i := 19) (some 41) (v := ?_) rfl rfl (by kernel_rfl) (by kernel_rfl) (by kernel_rfl) (fun _ _ _ h => h) (by rfl) ?_ (by assumption) ?_
        rotate_left
        · (intro w hSw; (try dsimp only at hSw); obtain ⟨hS1, hS2⟩ := hSw; go_simp; try with_reducible rfl)
        simp only [Act.put, List.setIfInBounds_toArray, List.set_cons_zero, List.set_cons_succ]
        refine wpAnyH_ready (rs := [20]) (by kernel_rfl) (by simp) ?_
        refine AllReadyH.cons rfl (fun K hK => ?_) AllReadyH.nil
        have hcv := (HW.out _ BX5.out).2.2.1
        have hfz := (HW.out _ BX5.out).2.2.2.1
        go_simp
        refine hK _ _ (HF.out _ _ BX5.out) (fun hHeld => ?_)
        clear hK K hcv hfz
        try simp only [Act.put, List.setIfInBounds_toArray, List.set_cons_zero, List.set_cons_succ]
        refine wpAnyH_done (by kernel_rfl) ?_ _
        go_wp2
        go_ret
        exact ⟨rfl, HE.out _ A2 c2 BX5.out OB.out⟩
    · refine step_of rfl (wp_slice53 (.tmp 37) 145 Try.underlying145 rfl R0 rfl i0 hi0 hz0 hz1 F53.out ?_)
      obtain ⟨sb, hsb⟩ : ∃ x, x = wX0.heap.size := ⟨_, rfl⟩
      obtain ⟨wX2, hX⟩ : ∃ x, x = wX0.alloc (.cells R0 146) := ⟨_, rfl⟩
      have BX2 : Hid (Below w1.heap.size w1 wX2) := by rw [hX]; exact BX0.out.alloc BX0.out.size _
      have SS : Hid (∀ j u, R0.toList[j]? = some u → wX2.cell? ((⟨sb, 0, none⟩ : Addr).add j) = some u) := by rw [hX, hsb]; exact fun j u hu => cells_new wX0 R0.toList 146 j u hu
      have sbl : Hid (sb < wX2.heap.size) := by rw [hX, hsb]; simp [Hid]
      rw [← hsb, ← hX]
      clear hX hsb
      refine hK _ _ (HS.out _ BX2.out) (fun hHeld => ?_)
      clear hK K
      try simp only [Act.put, List.setIfInBounds_toArray, List.set_cons_zero, List.set_cons_succ]
      refine wpAnyH_ready (rs := [5]) (by kernel_rfl) (by simp) ?_
      refine AllReadyH.cons rfl (fun K hK => ?_) AllReadyH.nil
      have sbp : Hid (sb < wX2.heap.size) := sbl.out
      go_simp
      obtain ⟨eb, heb⟩ : ∃ x, x = wX2.heap.size := ⟨_, rfl⟩
      obtain ⟨wX3, hX⟩ : ∃ x, x = wX2.alloc (.cells #[] 146) := ⟨_, rfl⟩
      have BX3 : Hid (Below w1.heap.size w1 wX3) := by rw [hX]; exact BX2.out.alloc BX2.out.size _
      have SS : Hid (∀ j u, R0.toList[j]? = some u → wX3.cell? ((⟨sb, 0, none⟩ : Addr).add j) = some u) := fun j u hu => by rw [hX, add_plain', World.cell?_of_block (a := ⟨sb, 0 + j, none⟩) (heap_alloc_old wX2 _ sbl.out), ← add_plain']; exact SS.out j u hu
      have sbl : Hid (sb < wX3.heap.size) := by rw [hX]; have := sbl.out; simp [Hid]; omega
      have OE : Hid (wX3.ownsRow w1.heap.size 146 32 (.slice (some ⟨eb, 0, none⟩) 0 0) 0 []) := by rw [hX, heb]; exact World.ownsRow_made _ #[] 0 BX2.out.size (by simp) (by simp)
      have ebl : Hid (w1.heap.size ≤ eb) := by rw [heb]; exact BX2.out.size
      have ebw : Hid (eb < wX3.heap.size) := by rw [hX, heb]; simp [Hid]
      have hne : Hid (sb ≠ eb) := by have := sbp.out; rw [heb]; unfold Hid; omega
      rw [← heb, ← hX]
      clear hX heb
      refine hK _ _ (HS.out _ BX3.out) (fun hHeld => ?_)
      clear hK K
      try simp only [Act.put, List.setIfInBounds_toArray, List.set_cons_zero, List.set_cons_succ]
      refine wpAnyH_ready (rs := [14]) (by kernel_rfl) (by simp) ?_
      refine AllReadyH.cons rfl (fun K hK => ?_) AllReadyH.nil
      refine step_append_src rfl (.tmp 27) (.tmp 35) 145 rfl w1.heap.size 146 i0 _ 32 32 Try.underlying145 hi0 hz0 hz1 hz2 (by decide) (by decide) (.slice (some ⟨eb, 0, none⟩) 0 0) 0 [] rfl OE.out A0 m cA (secsV vold) rfl Hlen.out (HW.out _ BX3.out).2.2.2.2.1 (HW.out _ BX3.out).2.2.2.2.2 Hone.out (by unfold maxLen; omega) (by omega) BX3.out.size m (by omega) ?_
      intro A1 c1 wX4 ho hg hor
      have BX4 : Hid (Below w1.heap.size w1 wX4) := BX3.out.grown hg BX3.out.size (fun j e => by cases e; exact ebl.out)
      have OA : Hid (wX4.ownsRow w1.heap.size 146 32 (.slice A1 m c1) m (secsV vold)) := by rw [List.nil_append] at ho; exact ho
      have SS : Hid (∀ j u, R0.toList[j]? = some u → wX4.cell? ((⟨sb, 0, none⟩ : Addr).add j) = some u) := fun j u hu => by rw [add_plain', World.cell?_of_block (a := ⟨sb, 0 + j, none⟩) (hg.block sb sbl.out (by simp [Value.ownBlock]; exact hne.out)), ← add_plain']; exact SS.out j u hu
      have sbl : Hid (sb < wX4.heap.size) := Nat.lt_of_lt_of_le sbl.out hg.size
      clear ho hg hor
      refine hK _ _ (HS.out _ BX4.out) (fun hHeld => ?_)
      clear hK K
      try simp only [Act.put, List.setIfInBounds_toArray, List.set_cons_zero, List.set_cons_succ]
      refine wpAnyH_ready (rs := [17]) (by kernel_rfl) (by simp) ?_
      refine AllReadyH.cons rfl (fun K hK => ?_) AllReadyH.nil
      refine step_append_src rfl (.tmp 36) (.tmp 38) 145 rfl w1.heap.size 146 i0 _ 32 32 Try.underlying145 hi0 hz0 hz1 hz2 (by decide) (by decide) (.slice A1 m c1) m (secsV vold) rfl OA.out (some ⟨sb, 0, none⟩) 1 1 R0.toList rfl HRl.out (fun ad e => by cases e; exact SS.out) (fun e => by cases e) HR1.out (by unfold maxLen; omega) (by omega) BX4.out.size (m + 1) rfl ?_
      intro A2 c2 wX5 ho hg hor
      have BX5 : Hid (Below w1.heap.size w1 wX5) := BX4.out.grown hg BX4.out.size (fun j e => (OA.out.lt j e).1)
      have OB := Lib.hid ho
      clear ho hg hor
      refine hK _ _ (HS.out _ BX5.out) (fun hHeld => ?_)
      clear hK K
      try simp only [Act.put, List.setIfInBounds_toArray, List.set_cons_zero, List.set_cons_succ]
      refine takeH (i := 18) (some 40) (v := ?_) rfl rfl (by kernel_rfl) (by kernel_rfl) (by kernel_rfl) (fun _ _ _ h => h) (by rfl) ?_ (by assumption) ?_
      rotate_left
      · (intro w hSw; (try dsimp only at hSw); obtain ⟨hS1, hS2⟩ := hSw; go_simp; try with_reducible rfl)
      simp only [Act.put, List.setIfInBounds_toArray, List.set_cons_zero, List.set_cons_succ]
      refine takeH (i := 19) (some 41) (v := ?_) rfl rfl (by kernel_rfl) (by kernel_rfl) (by kernel_rfl) (fun _ _ _ h => h) (by rfl) ?_ (by assumption) ?_
      rotate_left
      · (intro w hSw; (try dsimp only at hSw); obtain ⟨hS1, hS2⟩ := hSw; go_simp; try with_reducible rfl)
      simp only [Act.put, List.setIfInBounds_toArray, List.set_cons_zero, List.set_cons_succ]
      refine wpAnyH_ready (rs := [20]) (by kernel_rfl) (by simp) ?_
      refine AllReadyH.cons rfl (fun K hK => ?_) AllReadyH.nil
      have hcv := (HW.out _ BX5.out).2.2.1
      have hfz := (HW.out _ BX5.out).2.2.2.1
      go_simp
      refine hK _ _ (HF.out _ _ BX5.out) (fun hHeld => ?_)
      clear hK K hcv hfz
      try simp only [Act.put, List.setIfInBounds_toArray, List.set_cons_zero, List.set_cons_succ]
      refine wpAnyH_done (by kernel_rfl) ?_ _
      go_wp2
      go_ret
      exact ⟨rfl, HE.out _ A2 c2 BX5.out OB.out⟩
  · refine step_of rfl (wp_slice53 (.tmp 37) 145 Try.underlying145 rfl R0 rfl i0 hi0 hz0 hz1 F53.out ?_)
    obtain ⟨sb, hsb⟩ : ∃ x, x = wX0.heap.size := ⟨_, rfl⟩
    obtain ⟨wX1, hX⟩ : ∃ x, x = wX0.alloc (.cells R0 146) := ⟨_, rfl⟩
    have BX1 : Hid (Below w1.heap.size w1 wX1) := by rw [hX]; exact BX0.out.alloc BX0.out.size _
    have SS : Hid (∀ j u, R0.toList[j]? = some u → wX1.cell? ((⟨sb, 0, none⟩ : Addr).add j) = some u) := by rw [hX, hsb]; exact fun j u hu => cells_new wX0 R0.toList 146 j u hu
    have sbl : Hid (sb < wX1.heap.size) := by rw [hX, hsb]; simp [Hid]
    rw [← hsb, ← hX]
    clear hX hsb
    refine hK _ _ (HS.out _ BX1.out) (fun hHeld => ?_)
    clear hK K
    try simp only [Act.put, List.setIfInBounds_toArray, List.set_cons_zero, List.set_cons_succ]
    refine wpAnyH_ready (rs := [5, 13]) (by kernel_rfl) (by simp) ?_
    refine AllReadyH.cons rfl (fun K hK => ?_) (AllReadyH.cons rfl (fun K hK => ?_) AllReadyH.nil)
    · have sbp : Hid (sb < wX1.heap.size) := sbl.out
      go_simp
      obtain ⟨eb, heb⟩ : ∃ x, x = wX1.heap.size := ⟨_, rfl⟩
      obtain ⟨wX2, hX⟩ : ∃ x, x = wX1.alloc (.cells #[] 146) := ⟨_, rfl⟩
      have BX2 : Hid (Below w1.heap.size w1 wX2) := by rw [hX]; exact BX1.out.alloc BX1.out.size _
      have SS : Hid (∀ j u, R0.toList[j]? = some u → wX2.cell? ((⟨sb, 0, none⟩ : Addr).add j) = some u) := fun j u hu => by rw [hX, add_plain', World.cell?_of_block (a := ⟨sb, 0 + j, none⟩) (heap_alloc_old wX1 _ sbl.out), ← add_plain']; exact SS.out j u hu
      have sbl : Hid (sb < wX2.heap.size) := by rw [hX]; have := sbl.out; simp [Hid]; omega
      have OE : Hid (wX2.ownsRow w1.heap.size 146 32 (.slice (some ⟨eb, 0, none⟩) 0 0) 0 []) := by rw [hX, heb]; exact World.ownsRow_made _ #[] 0 BX1.out.size (by simp) (by simp)
      have ebl : Hid (w1.heap.size ≤ eb) := by rw [heb]; exact BX1.out.size
      have ebw : Hid (eb < wX2.heap.size) := by rw [hX, heb]; simp [Hid]
      have hne : Hid (sb ≠ eb) := by have := sbp.out; rw [heb]; unfold Hid; omega
      rw [← heb, ← hX]
      clear hX heb
      refine hK _ _ (HS.out _ BX2.out) (fun hHeld => ?_)
      clear hK K
      try simp only [Act.put, List.setIfInBounds_toArray, List.set_cons_zero, List.set_cons_succ]
      refine wpAnyH_ready (rs := [13]) (by kernel_rfl) (by simp) ?_
      refine AllReadyH.cons rfl (fun K hK => ?_) AllReadyH.nil
      have hcv := (HW.out _ BX2.out).2.2.1
      go_simp
      clear hcv
      refine hK _ _ (HS.out _ BX2.out) (fun hHeld => ?_)
      clear hK K
      try simp only [Act.put, List.setIfInBounds_toArray, List.set_cons_zero, List.set_cons_succ]
      refine wpAnyH_ready (rs := [14]) (by kernel_rfl) (by simp) ?_
      refine AllReadyH.cons rfl (fun K hK => ?_) AllReadyH.nil
      refine step_append_src rfl (.tmp 27) (.tmp 35) 145 rfl w1.heap.size 146 i0 _ 32 32 Try.underlying145 hi0 hz0 hz1 hz2 (by decide) (by decide) (.slice (some ⟨eb, 0, none⟩) 0 0) 0 [] rfl OE.out A0 m cA (secsV vold) rfl Hlen.out (HW.out _ BX2.out).2.2.2.2.1 (HW.out _ BX2.out).2.2.2.2.2 Hone.out (by unfold maxLen; omega) (by omega) BX2.out.size m (by omega) ?_
      intro A1 c1 wX4 ho hg hor
      have BX4 : Hid (Below w1.heap.size w1 wX4) := BX2.out.grown hg BX2.out.size (fun j e => by cases e; exact ebl.out)
      have OA : Hid (wX4.ownsRow w1.heap.size 146 32 (.slice A1 m c1) m (secsV vold)) := by rw [List.nil_append] at ho; exact ho
      have SS : Hid (∀ j u, R0.toList[j]? = some u → wX4.cell? ((⟨sb, 0, none⟩ : Addr).add j) = some u) := fun j u hu => by rw [add_plain', World.cell?_of_block (a := ⟨sb, 0 + j, none⟩) (hg.block sb sbl.out (by simp [Value.ownBlock]; exact hne.out)), ← add_plain']; exact SS.out j u hu
      have sbl : Hid (sb < wX4.heap.size) := Nat.lt_of_lt_of_le sbl.out hg.size
      clear ho hg hor
      refine hK _ _ (HS.out _ BX4.out) (fun hHeld => ?_)
      clear hK K
      try simp only [Act.put, List.setIfInBounds_toArray, List.set_cons_zero, List.set_cons_succ]
      refine wpAnyH_ready (rs := [17]) (by kernel_rfl) (by simp) ?_
      refine AllReadyH.cons rfl (fun K hK => ?_) AllReadyH.nil
      refine step_append_src rfl (.tmp 36) (.tmp 38) 145 rfl w1.heap.size 146 i0 _ 32 32 Try.underlying145 hi0 hz0 hz1 hz2 (by decide) (by decide) (.slice A1 m c1) m (secsV vold) rfl OA.out (some ⟨sb, 0, none⟩) 1 1 R0.toList rfl HRl.out (fun ad e => by cases e; exact SS.out) (fun e => by cases e) HR1.out (by unfold maxLen; omega) (by omega) BX4.out.size (m + 1) rfl ?_
      intro A2 c2 wX5 ho hg hor
      have BX5 : Hid (Below w1.heap.size w1 wX5) := BX4.out.grown hg BX4.out.size (fun j e => (OA.out.lt j e).1)
      have OB := Lib.hid ho
      clear ho hg hor
      refine hK _ _ (HS.out _ BX5.out) (fun hHeld => ?_)
      clear hK K
      try simp only [Act.put, List.setIfInBounds_toArray, List.set_cons_zero, List.set_cons_succ]
      refine takeH (i := 18) (some 40) (v := ?_) rfl rfl (by kernel_rfl) (by kernel_rfl) (by kernel_rfl) (fun _ _ _ h => h) (by rfl) ?_ (by assumption) ?_
      rotate_left
      · (intro w hSw; (try dsimp only at hSw); obtain ⟨hS1, hS2⟩ := hSw; go_simp; try with_reducible rfl)
      simp only [Act.put, List.setIfInBounds_toArray, List.set_cons_zero, List.set_cons_succ]
      refine takeH (i := 19) (some 41) (v := ?_) rfl rfl (by kernel_rfl) (by kernel_rfl) (by kernel_rfl) (fun _ _ _ h => h) (by rfl) ?_ (by assumption) ?_
      rotate_left
      · (intro w hSw; (try dsimp only at hSw); obtain ⟨hS1, hS2⟩ := hSw; go_simp; try with_reducible rfl)
      simp only [Act.put, List.setIfInBounds_toArray, List.set_cons_zero, List.set_cons_succ]
      refine wpAnyH_ready (rs := [20]) (by kernel_rfl) (by simp) ?_
      refine AllReadyH.cons rfl (fun K hK => ?_) AllReadyH.nil
      have hcv := (HW.out _ BX5.out).2.2.1
      have hfz := (HW.out _ BX5.out).2.2.2.1
      go_simp
      refine hK _ _ (HF.out _ _ BX5.out) (fun hHeld => ?_)
      clear hK K hcv hfz
      try simp only [Act.put, List.setIfInBounds_toArray, List.set_cons_zero, List.set_cons_succ]
      refine wpAnyH_done (by kernel_rfl) ?_ _
      go_wp2
      go_ret
      exact ⟨rfl, HE.out _ A2 c2 BX5.out OB.out⟩
    · have hcv := (HW.out _ BX1.out).2.2.1
      go_simp
      clear hcv
      refine hK _ _ (HS.out _ BX1.out) (fun hHeld => ?_)
      clear hK K
      try simp only [Act.put, List.setIfInBounds_toArray, List.set_cons_zero, List.set_cons_succ]
      refine wpAnyH_ready (rs := [5]) (by kernel_rfl) (by simp) ?_
      refine AllReadyH.cons rfl (fun K hK => ?_) AllReadyH.nil
      have sbp : Hid (sb < wX1.heap.size) := sbl.out
      go_simp
      obtain ⟨eb, heb⟩ : ∃ x, x = wX1.heap.size := ⟨_, rfl⟩
      obtain ⟨wX3, hX⟩ : ∃ x, x = wX1.alloc (.cells #[] 146) := ⟨_, rfl⟩
      have BX3 : Hid (Below w1.heap.size w1 wX3) := by rw [hX]; exact BX1.out.alloc BX1.out.size _
      have SS : Hid (∀ j u, R0.toList[j]? = some u → wX3.cell? ((⟨sb, 0, none⟩ : Addr).add j) = some u) := fun j u hu => by rw [hX, add_plain', World.cell?_of_block (a := ⟨sb, 0 + j, none⟩) (heap_alloc_old wX1 _ sbl.out), ← add_plain']; exact SS.out j u hu
      have sbl : Hid (sb < wX3.heap.size) := by rw [hX]; have := sbl.out; simp [Hid]; omega
      have OE : Hid (wX3.ownsRow w1.heap.size 146 32 (.slice (some ⟨eb, 0, none⟩) 0 0) 0 []) := by rw [hX, heb]; exact World.ownsRow_made _ #[] 0 BX1.out.size (by simp) (by simp)
      have ebl : Hid (w1.heap.size ≤ eb) := by rw [heb]; exact BX1.out.size
      have ebw : Hid (eb < wX3.heap.size) := by rw [hX, heb]; simp [Hid]
      have hne : Hid (sb ≠ eb) := by have := sbp.out; rw [heb]; unfold Hid; omega
      rw [← heb, ← hX]
      clear hX heb
      refine hK _ _ (HS.out _ BX3.out) (fun hHeld => ?_)
      clear hK K
      try simp only [Act.put, List.setIfInBounds_toArray, List.set_cons_zero, List.set_cons_succ]
      refine wpAnyH_ready (rs := [14]) (by kernel_rfl) (by simp) ?_
      refine AllReadyH.cons rfl (fun K hK => ?_) AllReadyH.nil
      refine step_append_src rfl (.tmp 27) (.tmp 35) 145 rfl w1.heap.size 146 i0 _ 32 32 Try.underlying145 hi0 hz0 hz1 hz2 (by decide) (by decide) (.slice (some ⟨eb, 0, none⟩) 0 0) 0 [] rfl OE.out A0 m cA (secsV vold) rfl Hlen.out (HW.out _ BX3.out).2.2.2.2.1 (HW.out _ BX3.out).2.2.2.2.2 Hone.out (by unfold maxLen; omega) (by omega) BX3.out.size m (by omega) ?_
      intro A1 c1 wX4 ho hg hor
      have BX4 : Hid (Below w1.heap.size w1 wX4) := BX3.out.grown hg BX3.out.size (fun j e => by cases e; exact ebl.out)
      have OA : Hid (wX4.ownsRow w1.heap.size 146 32 (.slice A1 m c1) m (secsV vold)) := by rw [List.nil_append] at ho; exact ho
      have SS : Hid (∀ j u, R0.toList[j]? = some u → wX4.cell? ((⟨sb, 0, none⟩ : Addr).add j) = some u) := fun j u hu => by rw [add_plain', World.cell?_of_block (a := ⟨sb, 0 + j, none⟩) (hg.block sb sbl.out (by simp [Value.ownBlock]; exact hne.out)), ← add_plain']; exact SS.out j u hu
      have sbl : Hid (sb < wX4.heap.size) := Nat.lt_of_lt_of_le sbl.out hg.size
      clear ho hg hor
      refine hK _ _ (HS.out _ BX4.out) (fun hHeld => ?_)
      clear hK K
      try simp only [Act.put, List.setIfInBounds_toArray, List.set_cons_zero, List.set_cons_succ]
      refine wpAnyH_ready (rs := [17]) (by kernel_rfl) (by simp) ?_
      refine AllReadyH.cons rfl (fun K hK => ?_) AllReadyH.nil
      refine step_append_src rfl (.tmp 36) (.tmp 38) 145 rfl w1.heap.size 146 i0 _ 32 32 Try.underlying145 hi0 hz0 hz1 hz2 (by decide) (by decide) (.slice A1 m c1) m (secsV vold) rfl OA.out (some ⟨sb, 0, none⟩) 1 1 R0.toList rfl HRl.out (fun ad e => by cases e; exact SS.out) (fun e => by cases e) HR1.out (by unfold maxLen; omega) (by omega) BX4.out.size (m + 1) rfl ?_
      intro A2 c2 wX5 ho hg hor
      have BX5 : Hid (Below w1.heap.size w1 wX5) := BX4.out.grown hg BX4.out.size (fun j e => (OA.out.lt j e).1)
      have OB := Lib.hid ho
      clear ho hg hor
      refine hK _ _ (HS.out _ BX5.out) (fun hHeld => ?_)
      clear hK K
      try simp only [Act.put, List.setIfInBounds_toArray, List.set_cons_zero, List.set_cons_succ]
      refine takeH (i := 18) (some 40) (v := ?_) rfl rfl (by kernel_rfl) (by kernel_rfl) (by kernel_rfl) (fun _ _ _ h => h) (by rfl) ?_ (by assumption) ?_
      rotate_left
      · (intro w hSw; (try dsimp only at hSw); obtain ⟨hS1, hS2⟩ := hSw; go_simp; try with_reducible rfl)
      simp only [Act.put, List.setIfInBounds_toArray, List.set_cons_zero, List.set_cons_succ]
      refine takeH (i := 19) (some 41) (v := ?_) rfl rfl (by kernel_rfl) (by kernel_rfl) (by kernel_rfl) (fun _ _ _ h => h) (by rfl) ?_ (by assumption) ?_
      rotate_left
      · (intro w hSw; (try dsimp only at hSw); obtain ⟨hS1, hS2⟩ := hSw; go_simp; try with_reducible rfl)
      simp only [Act.put, List.setIfInBounds_toArray, List.set_cons_zero, List.set_cons_succ]
      refine wpAnyH_ready (rs := [20]) (by kernel_rfl) (by simp) ?_
      refine AllReadyH.cons rfl (fun K hK => ?_) AllReadyH.nil
      have hcv := (HW.out _ BX5.out).2.2.1
      have hfz := (HW.out _ BX5.out).2.2.2.1
      go_simp
      refine hK _ _ (HF.out _ _ BX5.out) (fun hHeld => ?_)
      clear hK K hcv hfz
      try simp only [Act.put, List.setIfInBounds_toArray, List.set_cons_zero, List.set_cons_succ]
      refine wpAnyH_done (by kernel_rfl) ?_ _
      go_wp2
      go_ret
      exact ⟨rfl, HE.out _ A2 c2 BX5.out OB.out⟩
end
end Go.Proofs.Ytegacggkdjgdiaa

/- New of the document's disk. -/
set_option linter.unusedVariables false
set_option linter.unusedSimpArgs false
namespace Go.Proofs.Ytegacggkdjgdiaa
open Go.RowKit

def zeroBk : Bk := ⟨noSec, [], false⟩
def zBlk : List Value := bytesV noSec ++ [.slice none 0 0, .bool false]
theorem zBlk_len : zBlk.length = 34 := by simp [zBlk, length_bytesV, noSec_len]
theorem info93 : (Try.prog.info? 148).map (fun i => (i.zero, i.size, i.bytes)) = some (some (.agg zBlk.toArray), 34, 64) := by kernel_rfl
theorem blks_at (n : Nat) (S : Nat → Bk) (A : Nat → Option Addr) (C : Nat → Nat) (h : ∀ i, i < n → (S i).s.length = 32) {i j : Nat} (hi : i < n) (hj : j < 34) : (blksL (List.range n) S A C)[i * 34 + j]? = (blkV (S i) (A i) (C i))[j]? := by
  obtain ⟨post, e, _⟩ := blks_split hi S A C
  have hl : (blksL (List.range i) S A C).length = i * 34 := by
    rw [length_blksL _ _ _ _ (fun k hk => h k (by have := List.mem_range.1 hk; omega)), List.length_range]
  rw [e, List.getElem?_append_right (by omega), hl, show i * 34 + j - i * 34 = j by omega, List.getElem?_append_left (by rw [length_blkV (h i hi)]; exact hj)]
theorem made_blks (n : Nat) : (madeCells zBlk.toArray (n * 34)).toList = blksL (List.range n) (fun _ => zeroBk) (fun _ => none) (fun _ => 0) := by
  apply List.ext_getElem?
  intro k
  have hl : (blksL (List.range n) (fun _ => zeroBk) (fun _ => none) (fun _ => 0)).length = n * 34 := by rw [length_blksL _ _ _ _ (fun _ _ => noSec_len), List.length_range]
  by_cases hk : k < n * 34
  · have hq : k / 34 < n := by omega
    have hr : k % 34 < 34 := Nat.mod_lt _ (by decide)
    have e : k = k / 34 * 34 + k % 34 := by omega
    have h1 := blks_at n (fun _ => zeroBk) (fun _ => none) (fun _ => 0) (fun _ _ => noSec_len) hq hr
    rw [← e] at h1
    rw [h1]
    have h2 : (madeCells zBlk.toArray (n * 34)).toList[k]? = some (zBlk.toArray[k % 34]!) := by
      unfold madeCells
      rw [Array.getElem?_toList, Array.getElem?_map, Array.getElem?_range, if_pos hk]
      simp [zBlk_len]
    rw [h2]
    show some (zBlk.toArray[k % 34]!) = zBlk[k % 34]?
    rw [List.getElem?_eq_getElem (by rw [zBlk_len]; exact hr), getElem!_pos _ _ (by simpa [zBlk_len] using hr)]
    simp
  · rw [List.getElem?_eq_none (by simp [madeCells]; omega), List.getElem?_eq_none (by rw [hl]; omega)]
theorem rnew_bad (m : Int) (w : World) (h : m < 1 ∨ 96 < m) : Calls Try.prog 52 #[.int .i64 m] w fun e w' => e = .returned (.pointer none) ∧ w = w' := by
  by_cases h1 : m < 1
  · go_enter Try.func52, Try.ntmps52
    go_wp2
    go_ret
    exact ⟨rfl, rfl⟩
  · have h2 : (96 : Int) < m := by omega
    clear h
    go_enter Try.func52, Try.ntmps52
    go_wp2
    go_ret
    exact ⟨rfl, rfl⟩
set_option maxRecDepth 100000 in
set_option maxHeartbeats 1000000 in
theorem rnew (n : Nat) (w : World) (h0 : 1 ≤ n) (h1 : n ≤ 96) : Calls Try.prog 52 #[.int .i64 (n : Int)] w fun e w' => e = .returned (.pointer (some ⟨w.heap.size + 1, 0, none⟩)) ∧ (∃ F, Ref w' (w.heap.size + 1) n (fun _ => zeroBk) 0 F ∧ ∀ b, F b → w.heap.size ≤ b) ∧ Below w.heap.size w w' := by
  obtain ⟨i0, hi0, hz0, hz1, hz2⟩ := info_parts info93
  have hn1 : ¬ (n : Int) < 1 := by omega
  have hn2 : ¬ (96 : Int) < (n : Int) := by omega
  obtain ⟨M, hM⟩ : ∃ M, M = madeCells zBlk.toArray (n * 34) := ⟨_, rfl⟩
  have hmk : ∀ W : World, (Instr.makeSlice 134 (.int .i64 (n : Int)) (.int .i64 (n : Int))).run Try.prog W = .ok (.slice (some ⟨W.heap.size, 0, none⟩) n n) (W.alloc (.cells M 148)) := fun W => by
    have := run_make (P := Try.prog) W 134 148 i0 (.agg zBlk.toArray) Try.underlying134 hi0 hz0 .i64 .i64 n n (by omega) (Int.le_refl _) (by rw [hz2]; omega) (by omega)
    rw [hM]
    simpa [hz1, Value.cells] using this
  have hMs : M.size = n * 34 := by rw [hM]; simp [madeCells]
  have hMl : M.toList = blksL (List.range n) (fun _ => zeroBk) (fun _ => none) (fun _ => 0) := by rw [hM]; exact made_blks n
  have HE : Hid (∀ w2, w2 = (w.alloc (.cells M 148)).alloc (.cells #[.slice (some ⟨w.heap.size, 0, none⟩) n n] 136) → (∃ F, Ref w2 (w.heap.size + 1) n (fun _ => zeroBk) 0 F ∧ ∀ b, F b → w.heap.size ≤ b) ∧ Below w.heap.size w w2) := by
    intro w2 e
    have hB : Below w.heap.size w w2 := by rw [e]; exact below_alloc2 w _ _
    have hz : AllB noSec := by intro x hx; rw [noSec, List.mem_replicate] at hx; rw [hx.2]; decide
    refine ⟨⟨_, ⟨w.heap.size, n, fun _ => none, fun _ => 0, ⟨?_, ?_, fun i _ => World.ownsRow_nil _ _ _ _, fun i _ => ⟨⟨noSec_len, hz⟩, fun x hx => by cases hx⟩, h0, h1, fun i _ => Nat.le_refl _, fun i j _ _ _ b hb => by cases hb⟩, rfl⟩, ?_⟩, hB⟩
    · have := heap_alloc_new (w.alloc (.cells M 148)) (.cells #[.slice (some ⟨w.heap.size, 0, none⟩) n n] 136)
      unfold BlkIs
      rw [e]
      simpa using this
    · rw [e]
      refine World.ownsRow.alloc ?_ _
      refine ⟨by rw [length_blksL _ _ _ _ (fun _ _ => noSec_len), List.length_range], .inr ⟨w.heap.size, n, M, rfl, Nat.zero_le _, heap_alloc_new w _, Nat.le_refl _, by unfold maxLen; omega, hMs, ?_⟩⟩
      rw [← hMl, List.take_of_length_le (by simp [hMs])]
    · rintro b (q | q | ⟨j, _, q⟩)
      · omega
      · omega
      · cases q
  clear hM hMs hMl hz0 hz1 hz2 hi0
  go_enter Try.func52, Try.ntmps52
  go_wp2
  go_ret
  exact ⟨rfl, HE.out _ rfl⟩
end Go.Proofs.Ytegacggkdjgdiaa

/- Flush of the document's disk. -/
set_option linter.unusedVariables false
set_option linter.unusedSimpArgs false
namespace Go.Proofs.Ytegacggkdjgdiaa
open Go.RowKit

def flK (S : Nat → Bk) (k : Nat) : Nat → Bk := fun j => if j < k then (S j).flushed else S j
theorem flK_zero (S : Nat → Bk) : flK S 0 = S := by funext j; simp [flK]
theorem flK_now (S : Nat → Bk) (k : Nat) : flK S k k = S k := by simp [flK]
theorem flK_next (S : Nat → Bk) (k : Nat) : flK S (k + 1) = upd (flK S k) k (S k).flushed := by
  funext j
  by_cases e : j = k
  · subst e; rw [upd_same]; simp [flK]
  · rw [upd_other _ _ e]
    unfold flK
    by_cases h : j < k
    · rw [if_pos h, if_pos (by omega)]
    · rw [if_neg h, if_neg (by omega)]
theorem upd_upd (S : Nat → Bk) (i : Nat) (a b : Bk) : upd (upd S i a) i b = upd S i b := by
  funext j
  by_cases e : j = i
  · subst e; rw [upd_same, upd_same]
  · rw [upd_other _ _ e, upd_other _ _ e, upd_other _ _ e]
theorem RefAt.congr {w : World} {g n c gb cp : Nat} {S S' : Nat → Bk} {A : Nat → Option Addr} {C : Nat → Nat} (h : RefAt w g n S c gb cp A C) (e : ∀ j, j < n → S j = S' j) : RefAt w g n S' c gb cp A C := by
  refine ⟨h.hd, ?_, fun j hj => by rw [← e j hj]; exact h.vers j hj, fun j hj => by rw [← e j hj]; exact h.ok j hj, h.n1, h.n96, fun j hj => by rw [← e j hj]; exact h.few j hj, h.apart⟩
  rw [← blksL_congr (S := S) (S' := S') (A := A) (A' := A) (C := C) (C' := C) (fun j hj => ⟨e j (List.mem_range.1 hj), rfl, rfl⟩)]
  exact h.row
theorem okS_now {w : World} {g n c gb cp : Nat} {S : Nat → Bk} {A : Nat → Option Addr} {C : Nat → Nat} (h : RefAt w g n S c gb cp A C) {i : Nat} (hi : i < n) : OkS (S i).now := by
  unfold Bk.now
  cases e : (S i).v.getLast? with
  | none => exact (h.ok i hi).1
  | some x => exact (h.ok i hi).2 x (List.mem_of_getLast? e)
/-- a flush, a crash under way: the document's disk as S' -/
def RfS (w wr : World) (g n c gb cp : Nat) (S' : Nat → Bk) (A : Nat → Option Addr) : Prop :=
  ∃ A' C', RefAt wr g n S' c gb cp A' C' ∧ (∀ b, footR g gb n A' b → footR g gb n A b) ∧ Kept w wr (footR g gb n A)
/-- the end of a round: the sector is stored (or not), the versions are gone -/
theorem RfS.round {w w6 : World} {g n c gb cp : Nat} {S' : Nat → Bk} {A A' : Nat → Option Addr} {C' : Nat → Nat} {i : Nat} {s : List Int} (hi : i < n) (h6 : RefAt w6 g n (upd S' i ⟨s, (S' i).v, (S' i).b⟩) c gb cp A' C') (hsub : ∀ b, footR g gb n A' b → footR g gb n A b) (hK : Kept w w6 (footR g gb n A)) :
    RfS w (w6.setCell ⟨gb, i * 34 + 32, none⟩ (.slice none 0 0)) g n c gb cp (upd S' i ⟨s, [], (S' i).b⟩) A := by
  have ht := h6.turn hi (a' := none) (c' := 0) (c2 := c) (v' := []) (World.ownsRow_nil _ _ _ _) (fun x hx => by cases hx) (Nat.zero_le _) (Nat.le_refl _) (fun j _ _ b _ e => by cases e)
  rw [upd_same, upd_upd] at ht
  refine ⟨_, _, ht, ?_, hK.trans (Kept.grown (S := footR g gb n A) (setCell_grown _ _ _) (fun b e => by cases e; exact .inl (.inr (.inl rfl)))) (fun _ h => .inl h)⟩
  rintro b (q | q | ⟨j, hj, q⟩)
  · exact .inl q
  · exact .inr (.inl q)
  · by_cases e : j = i
    · subst e; simp [own] at q
    · simp only [if_neg e] at q
      exact hsub b (.inr (.inr ⟨j, hj, q⟩))
set_option maxRecDepth 100000 in
set_option linter.unusedSimpArgs false in
set_option maxHeartbeats 1000000 in
theorem rflush {w : World} {g n c : Nat} {S : Nat → Bk} {F : Nat → Prop} (h : Ref w g n S c F) (hc : c < 100000) :
    Calls Try.prog 75 #[.pointer (some ⟨g, 0, none⟩)] w fun e w' => e = .returned (.int .i64 0) ∧ Went w w' F (Ref w' g n (fun j => (S j).flushed) c) := by
  obtain ⟨gb, cp, A, C, h, rfl⟩ := h
  have HS0 : Hid (RfS w w g n c gb cp (flK S 0) A) := ⟨A, C, by rw [flK_zero]; exact h, fun _ x => x, Kept.refl _ _⟩
  have hn96 := h.n96
  have HH := Lib.hid h
  clear h
  go_enter Try.func75, Try.ntmps75
  go_wp2_with fail
  go_loopw [3] (fun i wr => ∃ k : Nat, k ≤ n ∧ i = .int .i64 k ∧ RfS w wr g n c gb cp (flK S k) A) (fun i _ => n - (intOf i).toNat)
  case atStart => exact ⟨0, Nat.zero_le _, rfl, HS0.out⟩
  case round =>
    obtain ⟨k, hk, rfl, hR⟩ := hrel
    rename World => wr
    have HR := Lib.hid hR
    obtain ⟨A', C', hA, hsub, hKp⟩ := hR
    have hc0 := hA.c0
    by_cases hlt : k < n
    · have hlt' : (k : Int) < (n : Int) := by omega
      have hk0 : (0 : Int) ≤ (k : Int) := by omega
      have hwk : IntKind.i64.wrap ((k : Int) + 1) = (k : Int) + 1 := by simp [IntKind.wrap, IntKind.bits, IntKind.signed]; omega
      have hnow := flK_now S k
      have hok := okS_now hA hlt
      rw [hnow] at hok
      obtain ⟨cur, hcur⟩ := hA.typed
      have HA := Lib.hid hA
      have hx := hok
      have hszX : Hid ((Try.prog.info? 146).map (·.size) = some (bytesV (S k).now).length) := by unfold Hid; rw [length_bytesV, hok.1]; exact size53
      have HX1 := Lib.hid (bytesV_one (S k).now)
      have Hfit : Hid (k * 34 + (bytesV (S k).now).length ≤ cur.size) := by
        have h1 := hA.row
        rcases h1.2 with ⟨q, _⟩ | ⟨x, cap, cur', q, _, hx', h2, _, h3, _⟩
        · cases q
        · obtain ⟨q, _, _⟩ := Value.slice.inj q
          cases q
          rw [hcur] at hx'
          simp at hx'
          subst hx'
          unfold Hid
          rw [length_bytesV, hok.1, h3]
          omega
      have RD : Hid (Calls Try.prog 91 #[.pointer (some ⟨g, 0, none⟩), .int .i64 (k : Int)] wr.drew fun e w' => e = .returned (.tuple #[.agg (bytesV (S k).now).toArray, .int .i64 0]) ∧ Below wr.drew.heap.size wr.drew w') := by
        have := rread (w := wr.drew) (F := footR g gb n A') ⟨gb, cp, A', C', hA.fresh ((Below.refl _ wr).drew), rfl⟩ hlt hc
        rw [hnow] at this
        exact this
      have ST : Hid (∀ w5, Below wr.drew.heap.size wr.drew w5 → w5.cell? ⟨g, 0, none⟩ = some (.slice (some ⟨gb, 0, none⟩) n cp) ∧ w5.heap[gb]? = some (.cells cur 148 (0, 0)) ∧
          ((w5.setRow gb (splice cur.toList (k * 34) (bytesV (S k).now)).toArray).cell? ⟨g, 0, none⟩ = some (.slice (some ⟨gb, 0, none⟩) n cp) ∧
           RefAt (w5.setRow gb (splice cur.toList (k * 34) (bytesV (S k).now)).toArray) g n (upd (flK S k) k ⟨(S k).now, (flK S k k).v, (flK S k k).b⟩) c gb cp A' C' ∧ Kept w (w5.setRow gb (splice cur.toList (k * 34) (bytesV (S k).now)).toArray) (footR g gb n A))) := by
        intro w5 hB
        have hB' : Below wr.heap.size wr w5 := ((Below.refl wr.heap.size wr).drew).trans hB
        have h5 := HA.out.fresh hB'
        have hc5 : w5.heap[gb]? = some (.cells cur 148 (0, 0)) := (hB'.block gb HA.out.blt).trans hcur
        have h6 := h5.sec_ hlt hx hc5 rfl
        refine ⟨h5.c0, hc5, h6.c0, h6, ?_⟩
        have k5 : Kept w w5 (footR g gb n A) := hKp.trans (Kept.fresh (S := footR g gb n A) hB') (fun _ h => .inl h)
        exact k5.trans (Kept.grown (S := footR g gb n A) (row := some gb) ⟨rfl, rfl, rfl, by simp [World.setRow], fun a _ hne => setRow_other w5 _ a _ (by intro e; subst e; exact hne rfl)⟩ (fun b e => by cases e; exact .inl (.inr (.inl rfl)))) (fun _ h => .inl h)
      have Hsub := Lib.hid hsub
      have Hnext : Hid (flK S (k + 1) = upd (flK S k) k ⟨(S k).now, [], (flK S k k).b⟩) := by unfold Hid; rw [flK_next, hnow]; rfl
      have HC0 : Hid (wr.drew.cell? ⟨g, 0, none⟩ = some (.slice (some ⟨gb, 0, none⟩) n cp)) := hc0
      obtain ⟨X1, hX1⟩ : ∃ X1, X1 = bytesV (S k).now := ⟨_, rfl⟩
      rw [← hX1] at hszX HX1 Hfit RD ST
      clear hA hsub hKp hok hx hcur hX1 hnow HR
      go_wp2_with fail
      refine wp_region_held_drew (S := (fun W => W.cell? ⟨g, 0, none⟩ = some (.slice (some ⟨gb, 0, none⟩) n cp))) (by kernel_rfl) (HC0.out) (fun hHeld => ?_)
      refine takeH (i := 0) (some 16) (v := ?_) rfl rfl (by kernel_rfl) (by kernel_rfl) (by kernel_rfl) (fun _ _ _ h => h) (by rfl) ?_ (by assumption) ?_
      rotate_left
      · (intro w hSw; (try dsimp only at hSw); go_simp; try with_reducible rfl)
      simp only [Act.put, List.setIfInBounds_toArray, List.set_cons_zero, List.set_cons_succ]
      refine takeH (i := 1) (some 17) (v := ?_) rfl rfl (by kernel_rfl) (by kernel_rfl) (by kernel_rfl) (fun _ _ _ h => h) (by rfl) ?_ (by assumption) ?_
      rotate_left
      · (intro w hSw; (try dsimp only at hSw); go_simp; try with_reducible rfl)
      simp only [Act.put, List.setIfInBounds_toArray, List.set_cons_zero, List.set_cons_succ]
      refine takeH (i := 2) (some 18) (v := ?_) rfl rfl (by kernel_rfl) (by kernel_rfl) (by kernel_rfl) (fun _ _ _ h => h) (by rfl) ?_ (by assumption) ?_
      rotate_left
      · (intro w hSw; (try dsimp only at hSw); go_simp; try with_reducible rfl)
      simp only [Act.put, List.setIfInBounds_toArray, List.set_cons_zero, List.set_cons_succ]
      refine takeH (i := 3) (some 19) (v := ?_) rfl rfl (by kernel_rfl) (by kernel_rfl) (by kernel_rfl) (fun _ _ _ h => h) (by rfl) ?_ (by assumption) ?_
      rotate_left
      · (intro w hSw; (try dsimp only at hSw); go_simp; try with_reducible rfl)
      simp only [Act.put, List.setIfInBounds_toArray, List.set_cons_zero, List.set_cons_succ]
      refine takeH (i := 4) (some 20) (v := ?_) rfl rfl (by kernel_rfl) (by kernel_rfl) (by kernel_rfl) (fun _ _ _ h => h) (by rfl) ?_ (by assumption) ?_
      rotate_left
      · (intro w hSw; (try dsimp only at hSw); go_simp; try with_reducible rfl)
      simp only [Act.put, List.setIfInBounds_toArray, List.set_cons_zero, List.set_cons_succ]
      refine takeH (i := 5) (some 21) (v := ?_) rfl rfl (by kernel_rfl) (by kernel_rfl) (by kernel_rfl) (fun _ _ _ h => h) (by rfl) ?_ (by assumption) ?_
      rotate_left
      · (intro w hSw; (try dsimp only at hSw); go_simp; try with_reducible rfl)
      simp only [Act.put, List.setIfInBounds_toArray, List.set_cons_zero, List.set_cons_succ]
      refine takeH (i := 6) (some 22) (v := ?_) rfl rfl (by kernel_rfl) (by kernel_rfl) (by kernel_rfl) (fun _ _ _ h => h) (by rfl) ?_ (by assumption) ?_
      rotate_left
      · (intro w hSw; (try dsimp only at hSw); go_simp; try with_reducible rfl)
      simp only [Act.put, List.setIfInBounds_toArray, List.set_cons_zero, List.set_cons_succ]
      refine wpAnyH_ready (rs := [7]) (by kernel_rfl) (by simp) ?_
      refine AllReadyH.cons rfl (fun K hK => ?_) AllReadyH.nil
      go_simp
      refine RD.out.mono ?_
      rintro e w5 ⟨rfl, hB5⟩
      obtain ⟨X6, Y6, Z6⟩ := ST.out w5 hB5
      have HX6 := Lib.hid X6
      have HY6 := Lib.hid Y6
      have HZ6 := Lib.hid Z6
      clear hB5 X6 Y6 Z6
      refine hK _ _ (HX6.out) (fun hHeld => ?_)
      clear hK K
      try simp only [Act.put, List.setIfInBounds_toArray, List.set_cons_zero, List.set_cons_succ]
      refine takeH (i := 8) (some 15) (v := ?_) rfl rfl (by kernel_rfl) (by kernel_rfl) (by kernel_rfl) (fun _ _ _ h => h) (by rfl) ?_ (by assumption) ?_
      rotate_left
      · (intro w hSw; (try dsimp only at hSw); go_simp; try with_reducible rfl)
      simp only [Act.put, List.setIfInBounds_toArray, List.set_cons_zero, List.set_cons_succ]
      refine takeH (i := 9) (some 24) (v := ?_) rfl rfl (by kernel_rfl) (by kernel_rfl) (by kernel_rfl) (fun _ _ _ h => h) (by rfl) ?_ (by assumption) ?_
      rotate_left
      · (intro w hSw; (try dsimp only at hSw); go_simp; try with_reducible rfl)
      simp only [Act.put, List.setIfInBounds_toArray, List.set_cons_zero, List.set_cons_succ]
      refine takeH (i := 10) (some 25) (v := ?_) rfl rfl (by kernel_rfl) (by kernel_rfl) (by kernel_rfl) (fun _ _ _ h => h) (by rfl) ?_ (by assumption) ?_
      rotate_left
      · (intro w hSw; (try dsimp only at hSw); go_simp; try with_reducible rfl)
      simp only [Act.put, List.setIfInBounds_toArray, List.set_cons_zero, List.set_cons_succ]
      refine takeH (i := 11) (some 26) (v := ?_) rfl rfl (by kernel_rfl) (by kernel_rfl) (by kernel_rfl) (fun _ _ _ h => h) (by rfl) ?_ (by assumption) ?_
      rotate_left
      · (intro w hSw; (try dsimp only at hSw); go_simp; try with_reducible rfl)
      simp only [Act.put, List.setIfInBounds_toArray, List.set_cons_zero, List.set_cons_succ]
      refine takeH (i := 12) (some 27) (v := ?_) rfl rfl (by kernel_rfl) (by kernel_rfl) (by kernel_rfl) (fun _ _ _ h => h) (by rfl) ?_ (by assumption) ?_
      rotate_left
      · (intro w hSw; (try dsimp only at hSw); go_simp; try with_reducible rfl)
      simp only [Act.put, List.setIfInBounds_toArray, List.set_cons_zero, List.set_cons_succ]
      refine wpAnyH_ready (rs := [13]) (by kernel_rfl) (by simp) ?_
      refine AllReadyH.cons rfl (fun K hK => ?_) AllReadyH.nil
      refine step_of rfl (wp_store_wide 146 (.tmp 27) (.tmp 24) rfl gb (k * 34) X1 rfl rfl cur 148 HY6.out Hfit.out hszX.out HX1.out _ rfl ?_)
      refine hK _ _ (HZ6.out.1) (fun hHeld => ?_)
      clear hK K
      try simp only [Act.put, List.setIfInBounds_toArray, List.set_cons_zero, List.set_cons_succ]
      refine wpAnyH_done (by kernel_rfl) ?_ _
      generalize hW6 : World.setRow w5 gb _ = w6 at HZ6 ⊢
      obtain ⟨c6, h6, k6⟩ := HZ6.out
      have v6 := h6.cv hlt
      rw [upd_same] at v6
      have f6 := h6.frz (k * 34 + 32)
      have H6 := Lib.hid h6
      have K6 := Lib.hid k6
      clear h6 k6 hW6 HZ6
      go_wp2
      go_roundw
      case rel => exact ⟨k + 1, by omega, rfl, by rw [Hnext.out]; exact RfS.round hlt H6.out Hsub.out K6.out⟩
      case measure => simp [intOf]; omega
    · obtain rfl : k = n := by omega
      have hnn : ¬ ((k : Int) < (k : Int)) := by omega
      clear hA hsub hKp
      go_wp2
      go_ret
      obtain ⟨A', C', hA, hsub, hKp⟩ := HR.out
      exact ⟨rfl, _, ⟨gb, cp, A', C', hA.congr (fun j hj => by simp [flK, hj]), rfl⟩, hKp, fun b hb => .inl (hsub b hb)⟩
theorem upd_self (S : Nat → Bk) (i : Nat) : upd S i (S i) = S := by
  funext j
  by_cases e : j = i
  · subst e; exact upd_same _ _ _
  · exact upd_other _ _ e
end Go.Proofs.Ytegacggkdjgdiaa

/- Fork of the document's disk. -/
set_option linter.unusedVariables false
set_option linter.unusedSimpArgs false
namespace Go.Proofs.Ytegacggkdjgdiaa
open Go.RowKit

theorem blksL_one (n : Nat) (S : Nat → Bk) (A : Nat → Option Addr) (C : Nat → Nat) : ∀ u ∈ blksL (List.range n) S A C, u.oneCell' = true := by
  intro u hu
  obtain ⟨i, _, hx⟩ := List.mem_flatMap.1 hu
  rcases List.mem_append.1 hx with h | h
  · exact bytesV_one _ u h
  · simp at h
    rcases h with rfl | rfl <;> rfl
theorem upd_at {S : Nat → Bk} {i : Nat} (b : Bk) (h : b = S i) : upd S i b = S := by subst h; exact upd_self S i
/-- a copy of the document's disk under way -/
def RkS (w wr : World) (h n c gb cp : Nat) (S : Nat → Bk) (A : Nat → Option Addr) (C : Nat → Nat) (k : Nat) : Prop :=
  ∃ A2 C2, RefAt wr h n S c gb cp A2 C2 ∧ Below w.heap.size w wr ∧ (∀ j, j < k → ∀ b, own (A2 j) = some b → w.heap.size ≤ b) ∧ ∀ j, k ≤ j → A2 j = A j ∧ C2 j = C j
set_option maxRecDepth 100000 in
set_option linter.unusedSimpArgs false in
set_option maxHeartbeats 2000000 in
theorem rfork {w : World} {g n c : Nat} {S : Nat → Bk} {F : Nat → Prop} (hR : Ref w g n S c F) (hc : c < 100000) :
    Calls Try.prog 74 #[.pointer (some ⟨g, 0, none⟩)] w fun e w' => ∃ h F', e = .returned (.pointer (some ⟨h, 0, none⟩)) ∧ Ref w' h n S c F' ∧ (∀ b, F' b → w.heap.size ≤ b) ∧ Below w.heap.size w w' := by
  obtain ⟨gb0, cp0, A, C, hA, rfl⟩ := hR
  obtain ⟨i0, hi0, hz0, hz1, hz2⟩ := info_parts info93
  obtain ⟨i3, hi3, hz3, hz31, hz32⟩ := info_parts info53
  have hc0 := hA.c0
  have hn96 := hA.n96
  have hn1 := hA.n1
  have HA := Lib.hid hA
  have Hown0 : Hid ((w.alloc (.cells #[] 148)).ownsRow w.heap.size 148 34 (.slice (some ⟨w.heap.size, 0, none⟩) 0 0) 0 []) := World.ownsRow_made w #[] 0 (Nat.le_refl _) (by simp) (by simp)
  have hB0 : Below w.heap.size w (w.alloc (.cells #[] 148)) := below_alloc1 w _
  have Hsrc0 := Lib.hid (row_src (hA.fresh hB0).row)
  have Hlen0 : Hid ((blksL (List.range n) S A C).length = n * 34) := hA.row.1
  have Hone0 := Lib.hid (blksL_one n S A C)
  have HB0 := Lib.hid hB0
  have HS1 : Hid (∀ w1 gb c1, w1.ownsRow w.heap.size 148 34 (.slice (some ⟨gb, 0, none⟩) n c1) n (blksL (List.range n) S A C) → Below w.heap.size w w1 → RkS w (w1.alloc (.cells #[.slice (some ⟨gb, 0, none⟩) n c1] 136)) w1.heap.size n c gb c1 S A C 0) := by
    intro w1 gb c1 ho hB
    have hB2 : Below w.heap.size w (w1.alloc (.cells #[.slice (some ⟨gb, 0, none⟩) n c1] 136)) := hB.alloc hB.size _
    have hf := HA.out.fresh hB2
    exact ⟨A, C, ⟨heap_alloc_new w1 _, row_zero (ho.alloc _), hf.vers, hf.ok, hf.n1, hf.n96, hf.few, hf.apart⟩, hB2, fun j hj => by omega, fun j _ => ⟨rfl, rfl⟩⟩
  have hcE : (w.alloc (.cells #[] 148)).cell? ⟨g, 0, none⟩ = some (.slice (some ⟨gb0, 0, none⟩) n cp0) := (HA.out.fresh HB0.out).c0
  clear hA hB0
  go_enter Try.func74, Try.ntmps74
  go_wp2_with (refine wpList_append_src rfl (.tmp 7) (.tmp 11) 134 rfl w.heap.size 148 i0 _ 34 64 Try.underlying134 hi0 hz0 hz1 hz2 rfl (by decide) _ 0 [] rfl Hown0.out (some ⟨gb0, 0, none⟩) n cp0 (blksL (List.range n) S A C) rfl Hlen0.out Hsrc0.out.1 (fun e => by cases e) Hone0.out (by unfold maxLen; omega) (by omega) (by simp) n (by omega) ?_
               intro A1 cp w1 ho1 hg1 hor1
               obtain ⟨gb, cp', he1, hgbl, _⟩ := ho1.form (by omega)
               obtain ⟨rfl, _, rfl⟩ := Value.slice.inj he1
               have HB1 := Lib.hid (HB0.out.grown hg1 (by simp) (fun j e => by cases e; exact Nat.le_refl _))
               rw [List.nil_append] at ho1
               have HR0 := Lib.hid (HS1.out w1 gb _ ho1 HB1.out)
               have Hgb := Lib.hid hgbl
               clear ho1 hg1 hor1 he1 hgbl)
  obtain ⟨h, hh⟩ : ∃ h, h = w1.heap.size := ⟨_, rfl⟩
  have Hh : Hid (w.heap.size ≤ h) := by rw [hh]; exact HB1.out.size
  rw [← hh] at HR0 ⊢
  clear hh hc0 hcE
  go_loopw [4] (fun i wr => ∃ k : Nat, k ≤ n ∧ i = .int .i64 k ∧ RkS w wr h n c gb cp S A C k) (fun i _ => n - (intOf i).toNat)
  case atStart => exact ⟨0, Nat.zero_le _, rfl, HR0.out⟩
  case round =>
    obtain ⟨k, hk, rfl, hRk⟩ := hrel
    rename World => w1
    have HRk := Lib.hid hRk
    obtain ⟨A2, C2, hA2, hB2, hnew, hold⟩ := hRk
    have hc2 := hA2.c0
    by_cases hlt : k < n
    · have hlt' : (k : Int) < (n : Int) := by omega
      have hk0 : (0 : Int) ≤ (k : Int) := by omega
      have hwk : IntKind.i64.wrap ((k : Int) + 1) = (k : Int) + 1 := by simp [IntKind.wrap, IntKind.bits, IntKind.signed]; omega
      obtain ⟨m, hm⟩ : ∃ m, m = (S k).v.length := ⟨_, rfl⟩
      obtain ⟨vold, hvold⟩ : ∃ v, v = (S k).v := ⟨_, rfl⟩
      obtain ⟨A0, hA0⟩ : ∃ x, x = A2 k := ⟨_, rfl⟩
      obtain ⟨cA, hcA⟩ : ∃ x, x = C2 k := ⟨_, rfl⟩
      have hmc : m ≤ c := by rw [hm]; exact hA2.few k hlt
      have Hlen : Hid ((secsV vold).length = m * 32) := by rw [hm, hvold]; exact length_secsV (fun x hx => ((hA2.ok k hlt).2 x hx).1)
      have Hone : Hid (∀ u ∈ secsV vold, u.oneCell' = true) := secsV_one _
      have HA2 := Lib.hid hA2
      have HW : Hid (∀ W, Below w1.heap.size w1 W → W.cell? ⟨h, 0, none⟩ = some (.slice (some ⟨gb, 0, none⟩) n cp) ∧ W.cell? ⟨gb, k * 34 + 32, none⟩ = some (.slice A0 m cA) ∧ W.frozen? ⟨gb, k * 34 + 32, none⟩ = false ∧
          (∀ ad, A0 = some ad → ∀ j u, (secsV vold)[j]? = some u → W.cell? (ad.add j) = some u) ∧ (A0 = none → m = 0)) := fun W hB => by
        have hW := HA2.out.fresh hB
        have hr := row_src (hW.vers k hlt)
        refine ⟨hW.c0, by rw [hW.cv hlt, hA0, hm, hcA], hW.frz _, ?_, ?_⟩
        · rw [hA0, hvold]; exact hr.1
        · rw [hA0, hm]; exact hr.2
      have HS : Hid (∀ W, Below w1.heap.size w1 W → W.cell? ⟨h, 0, none⟩ = some (.slice (some ⟨gb, 0, none⟩) n cp)) := fun W hB => (HW.out W hB).1
      have HF : Hid (∀ W u, Below w1.heap.size w1 W → (W.setCell ⟨gb, k * 34 + 32, none⟩ u).cell? ⟨h, 0, none⟩ = some (.slice (some ⟨gb, 0, none⟩) n cp)) := fun W u hB => by
        have hg := setCell_grown W ⟨gb, k * 34 + 32, none⟩ u
        have hW := HA2.out.fresh hB
        rw [← (HW.out W hB).1]
        exact World.cell?_of_block (hg.block h hW.glt (by simpa using hW.gne))
      have HE : Hid (∀ W A1 c1, Below w1.heap.size w1 W → W.ownsRow w1.heap.size 146 32 (.slice A1 m c1) m (secsV vold) → (W.setCell ⟨gb, k * 34 + 32, none⟩ (.slice A1 m c1)).cell? ⟨h, 0, none⟩ = some (.slice (some ⟨gb, 0, none⟩) n cp) ∧
          RkS w (W.setCell ⟨gb, k * 34 + 32, none⟩ (.slice A1 m c1)) h n c gb cp S A C (k + 1)) := by
        intro W A1 c1 hB ho
        have hW := HA2.out.fresh hB
        have hlow : ∀ b, own A1 = some b → w1.heap.size ≤ b := fun b hb => (ho.lt b (by rw [own_eq]; exact hb)).1
        have ht := hW.turn hlt (a' := A1) (c' := c1) (c2 := c) (v' := (S k).v) (by rw [← hm, ← hvold]; exact row_zero ho) (hW.ok k hlt).2 (hW.few k hlt) (Nat.le_refl _) (fun j hj hjk b hb e => by
          have h2 := hlow b e
          have h3 := HA2.out.vlt hj hb
          omega)
        rw [← hm, upd_at _ rfl] at ht
        have hB' : Below w.heap.size w W := hB2.trans (hB.mono hB2.size)
        refine ⟨ht.c0, _, _, ht, ?_, ?_, ?_⟩
        · exact ((Kept.fresh (S := fun b => b = gb) hB').trans (Kept.grown (S := fun b => b = gb) (setCell_grown _ _ _) (fun b e => by cases e; exact .inl rfl)) (fun _ h => .inl h)).below (fun b e => by rw [e]; exact Hgb.out) (Nat.le_refl _)
        · intro j hj b hb
          by_cases e : j = k
          · subst e; simp only [if_true] at hb; have := hlow b hb; have := hB2.size; omega
          · simp only [if_neg e] at hb; exact hnew j (by omega) b hb
        · intro j hj
          have e : j ≠ k := by omega
          simp only [if_neg e]
          exact hold j (by omega)
      obtain ⟨i0, hi0, hz0, hz1, hz2⟩ : ∃ i0, Try.prog.info? 146 = some i0 ∧ i0.zero = some (.agg (bytesV (List.replicate 32 0)).toArray) ∧ i0.size = 32 ∧ i0.bytes = 32 := ⟨i3, hi3, hz3, hz31, hz32⟩
      clear hA2 hB2 hnew hold hm hvold hA0 hcA
      go_wp2_with fail
      refine wp_region_held_drew (S := (fun W => W.cell? ⟨h, 0, none⟩ = some (.slice (some ⟨gb, 0, none⟩) n cp))) (by kernel_rfl) (HS.out _ (Below.refl _ _).drew) (fun hHeld => ?_)
      have BX0 : Hid (Below w1.heap.size w1 w1.drew) := (Below.refl _ _).drew
      generalize w1.drew = wX0 at hHeld BX0 ⊢
      refine takeH (i := 0) (some 24) (v := ?_) rfl rfl (by kernel_rfl) (by kernel_rfl) (by kernel_rfl) (fun _ _ _ h => h) (by rfl) ?_ (by assumption) ?_
      rotate_left
      · (intro w hSw; (try dsimp only at hSw); go_simp; try with_reducible rfl)
      simp only [Act.put, List.setIfInBounds_toArray, List.set_cons_zero, List.set_cons_succ]
      refine takeH (i := 1) (some 25) (v := ?_) rfl rfl (by kernel_rfl) (by kernel_rfl) (by kernel_rfl) (fun _ _ _ h => h) (by rfl) ?_ (by assumption) ?_
      rotate_left
      · (intro w hSw; (try dsimp only at hSw); go_simp; try with_reducible rfl)
      simp only [Act.put, List.setIfInBounds_toArray, List.set_cons_zero, List.set_cons_succ]
      refine takeH (i := 2) (some 26) (v := ?_) rfl rfl (by kernel_rfl) (by kernel_rfl) (by kernel_rfl) (fun _ _ _ h => h) (by rfl) ?_ (by assumption) ?_
      rotate_left
      · (intro w hSw; (try dsimp only at hSw); go_simp; try with_reducible rfl)
      simp only [Act.put, List.setIfInBounds_toArray, List.set_cons_zero, List.set_cons_succ]
      refine takeH (i := 3) (some 27) (v := ?_) rfl rfl (by kernel_rfl) (by kernel_rfl) (by kernel_rfl) (fun _ _ _ h => h) (by rfl) ?_ (by assumption) ?_
      rotate_left
      · (intro w hSw; (try dsimp only at hSw); go_simp; try with_reducible rfl)
      simp only [Act.put, List.setIfInBounds_toArray, List.set_cons_zero, List.set_cons_succ]
      refine takeH (i := 4) (some 28) (v := ?_) rfl rfl (by kernel_rfl) (by kernel_rfl) (by kernel_rfl) (fun _ _ _ h => h) (by rfl) ?_ (by assumption) ?_
      rotate_left
      · (intro w hSw; (try dsimp only at hSw); go_simp; try with_reducible rfl)
      simp only [Act.put, List.setIfInBounds_toArray, List.set_cons_zero, List.set_cons_succ]
      refine takeH (i := 6) (some 30) (v := ?_) rfl rfl (by kernel_rfl) (by kernel_rfl) (by kernel_rfl) (fun _ _ _ h => h) (by rfl) ?_ (by assumption) ?_
      rotate_left
      · (intro w hSw; (try dsimp only at hSw); go_simp; try with_reducible rfl)
      simp only [Act.put, List.setIfInBounds_toArray, List.set_cons_zero, List.set_cons_succ]
      refine takeH (i := 7) (some 31) (v := ?_) rfl rfl (by kernel_rfl) (by kernel_rfl) (by kernel_rfl) (fun _ _ _ h => h) (by rfl) ?_ (by assumption) ?_
      rotate_left
      · (intro w hSw; (try dsimp only at hSw); go_simp; try with_reducible rfl)
      simp only [Act.put, List.setIfInBounds_toArray, List.set_cons_zero, List.set_cons_succ]
      refine takeH (i := 8) (some 32) (v := ?_) rfl rfl (by kernel_rfl) (by kernel_rfl) (by kernel_rfl) (fun _ _ _ h => h) (by rfl) ?_ (by assumption) ?_
      rotate_left
      · (intro w hSw; (try dsimp only at hSw); go_simp; try with_reducible rfl)
      simp only [Act.put, List.setIfInBounds_toArray, List.set_cons_zero, List.set_cons_succ]
      refine takeH (i := 9) (some 33) (v := ?_) rfl rfl (by kernel_rfl) (by kernel_rfl) (by kernel_rfl) (fun _ _ _ h => h) (by rfl) ?_ (by assumption) ?_
      rotate_left
      · (intro w hSw; (try dsimp only at hSw); go_simp; try with_reducible rfl)
      simp only [Act.put, List.setIfInBounds_toArray, List.set_cons_zero, List.set_cons_succ]
      refine takeH (i := 10) (some 34) (v := ?_) rfl rfl (by kernel_rfl) (by kernel_rfl) (by kernel_rfl) (fun _ _ _ h => h) (by rfl) ?_ (by assumption) ?_
      rotate_left
      · (intro w hSw; (try dsimp only at hSw); go_simp; try with_reducible rfl)
      simp only [Act.put, List.setIfInBounds_toArray, List.set_cons_zero, List.set_cons_succ]
      refine takeH (i := 11) (some 35) (v := ?_) rfl rfl (by kernel_rfl) (by kernel_rfl) (by kernel_rfl) (fun _ _ _ h => h) (by rfl) ?_ (by assumption) ?_
      rotate_left
      · (intro w hSw; (try dsimp only at hSw); go_simp; try with_reducible rfl)
      simp only [Act.put, List.setIfInBounds_toArray, List.set_cons_zero, List.set_cons_succ]
      refine takeH (i := 12) (some 36) (v := ?_) rfl rfl (by kernel_rfl) (by kernel_rfl) (by kernel_rfl) (fun _ _ _ h => h) (by rfl) ?_ (by assumption) ?_
      rotate_left
      · (intro w hSw; (try dsimp only at hSw); go_simp; try with_reducible rfl)
      simp only [Act.put, List.setIfInBounds_toArray, List.set_cons_zero, List.set_cons_succ]
      refine wpAnyH_ready (rs := [5, 13]) (by kernel_rfl) (by simp) ?_
      refine AllReadyH.cons rfl (fun K hK => ?_) (AllReadyH.cons rfl (fun K hK => ?_) AllReadyH.nil)
      · go_simp
        obtain ⟨eb, heb⟩ : ∃ x, x = wX0.heap.size := ⟨_, rfl⟩
        obtain ⟨wX1, hX⟩ : ∃ x, x = wX0.alloc (.cells #[] 146) := ⟨_, rfl⟩
        have BX1 : Hid (Below w1.heap.size w1 wX1) := by rw [hX]; exact BX0.out.alloc BX0.out.size _
        have OE : Hid (wX1.ownsRow w1.heap.size 146 32 (.slice (some ⟨eb, 0, none⟩) 0 0) 0 []) := by rw [hX, heb]; exact World.ownsRow_made _ #[] 0 BX0.out.size (by simp) (by simp)
        have ebl : Hid (w1.heap.size ≤ eb) := by rw [heb]; exact BX0.out.size
        have ebw : Hid (eb < wX1.heap.size) := by rw [hX, heb]; simp [Hid]
        rw [← heb, ← hX]
        clear hX heb
        refine hK _ _ (HS.out _ BX1.out) (fun hHeld => ?_)
        clear hK K
        try simp only [Act.put, List.setIfInBounds_toArray, List.set_cons_zero, List.set_cons_succ]
        refine wpAnyH_ready (rs := [13]) (by kernel_rfl) (by simp) ?_
        refine AllReadyH.cons rfl (fun K hK => ?_) AllReadyH.nil
        have hcv := (HW.out _ BX1.out).2.1
        go_simp
        clear hcv
        refine hK _ _ (HS.out _ BX1.out) (fun hHeld => ?_)
        clear hK K
        try simp only [Act.put, List.setIfInBounds_toArray, List.set_cons_zero, List.set_cons_succ]
        refine wpAnyH_ready (rs := [14]) (by kernel_rfl) (by simp) ?_
        refine AllReadyH.cons rfl (fun K hK => ?_) AllReadyH.nil
        refine step_append_src rfl (.tmp 29) (.tmp 37) 145 rfl w1.heap.size 146 i0 _ 32 32 Try.underlying145 hi0 hz0 hz1 hz2 (by decide) (by decide) (.slice (some ⟨eb, 0, none⟩) 0 0) 0 [] rfl OE.out A0 m cA (secsV vold) rfl Hlen.out (HW.out _ BX1.out).2.2.2.1 (HW.out _ BX1.out).2.2.2.2 Hone.out (by unfold maxLen; omega) (by omega) BX1.out.size m (by omega) ?_
        intro A1 c1 wX3 ho hg hor
        have BX3 : Hid (Below w1.heap.size w1 wX3) := BX1.out.grown hg BX1.out.size (fun j e => by cases e; exact ebl.out)
        have OA : Hid (wX3.ownsRow w1.heap.size 146 32 (.slice A1 m c1) m (secsV vold)) := by rw [List.nil_append] at ho; exact ho
        clear ho hg hor
        refine hK _ _ (HS.out _ BX3.out) (fun hHeld => ?_)
        clear hK K
        try simp only [Act.put, List.setIfInBounds_toArray, List.set_cons_zero, List.set_cons_succ]
        refine takeH (i := 15) (some 39) (v := ?_) rfl rfl (by kernel_rfl) (by kernel_rfl) (by kernel_rfl) (fun _ _ _ h => h) (by rfl) ?_ (by assumption) ?_
        rotate_left
        · (intro w hSw; (try dsimp only at hSw); go_simp; try with_reducible rfl)
        simp only [Act.put, List.setIfInBounds_toArray, List.set_cons_zero, List.set_cons_succ]
        refine takeH (i := 16) (some 40) (v := ?_) rfl rfl (by kernel_rfl) (by kernel_rfl) (by kernel_rfl) (fun _ _ _ h => h) (by rfl) ?_ (by assumption) ?_
        rotate_left
        · (intro w hSw; (try dsimp only at hSw); go_simp; try with_reducible rfl)
        simp only [Act.put, List.setIfInBounds_toArray, List.set_cons_zero, List.set_cons_succ]
        refine wpAnyH_ready (rs := [17]) (by kernel_rfl) (by simp) ?_
        refine AllReadyH.cons rfl (fun K hK => ?_) AllReadyH.nil
        have hcv := (HW.out _ BX3.out).2.1
        have hfz := (HW.out _ BX3.out).2.2.1
        go_simp
        refine hK _ _ (HF.out _ _ BX3.out) (fun hHeld => ?_)
        clear hK K hcv hfz
        try simp only [Act.put, List.setIfInBounds_toArray, List.set_cons_zero, List.set_cons_succ]
        refine wpAnyH_done (by kernel_rfl) ?_ _
        obtain ⟨hc9, hR9⟩ := HE.out _ A1 c1 BX3.out OA.out
        have HR9 := Lib.hid hR9
        clear hR9
        go_wp2_with fail
        go_roundw
        case rel => exact ⟨k + 1, by omega, rfl, HR9.out⟩
        case measure => simp [intOf]; omega
      · have hcv := (HW.out _ BX0.out).2.1
        go_simp
        clear hcv
        refine hK _ _ (HS.out _ BX0.out) (fun hHeld => ?_)
        clear hK K
        try simp only [Act.put, List.setIfInBounds_toArray, List.set_cons_zero, List.set_cons_succ]
        refine wpAnyH_ready (rs := [5]) (by kernel_rfl) (by simp) ?_
        refine AllReadyH.cons rfl (fun K hK => ?_) AllReadyH.nil
        go_simp
        obtain ⟨eb, heb⟩ : ∃ x, x = wX0.heap.size := ⟨_, rfl⟩
        obtain ⟨wX2, hX⟩ : ∃ x, x = wX0.alloc (.cells #[] 146) := ⟨_, rfl⟩
        have BX2 : Hid (Below w1.heap.size w1 wX2) := by rw [hX]; exact BX0.out.alloc BX0.out.size _
        have OE : Hid (wX2.ownsRow w1.heap.size 146 32 (.slice (some ⟨eb, 0, none⟩) 0 0) 0 []) := by rw [hX, heb]; exact World.ownsRow_made _ #[] 0 BX0.out.size (by simp) (by simp)
        have ebl : Hid (w1.heap.size ≤ eb) := by rw [heb]; exact BX0.out.size
        have ebw : Hid (eb < wX2.heap.size) := by rw [hX, heb]; simp [Hid]
        rw [← heb, ← hX]
        clear hX heb
        refine hK _ _ (HS.out _ BX2.out) (fun hHeld => ?_)
        clear hK K
        try simp only [Act.put, List.setIfInBounds_toArray, List.set_cons_zero, List.set_cons_succ]
        refine wpAnyH_ready (rs := [14]) (by kernel_rfl) (by simp) ?_
        refine AllReadyH.cons rfl (fun K hK => ?_) AllReadyH.nil
        refine step_append_src rfl (.tmp 29) (.tmp 37) 145 rfl w1.heap.size 146 i0 _ 32 32 Try.underlying145 hi0 hz0 hz1 hz2 (by decide) (by decide) (.slice (some ⟨eb, 0, none⟩) 0 0) 0 [] rfl OE.out A0 m cA (secsV vold) rfl Hlen.out (HW.out _ BX2.out).2.2.2.1 (HW.out _ BX2.out).2.2.2.2 Hone.out (by unfold maxLen; omega) (by omega) BX2.out.size m (by omega) ?_
        intro A1 c1 wX3 ho hg hor
        have BX3 : Hid (Below w1.heap.size w1 wX3) := BX2.out.grown hg BX2.out.size (fun j e => by cases e; exact ebl.out)
        have OA : Hid (wX3.ownsRow w1.heap.size 146 32 (.slice A1 m c1) m (secsV vold)) := by rw [List.nil_append] at ho; exact ho
        clear ho hg hor
        refine hK _ _ (HS.out _ BX3.out) (fun hHeld => ?_)
        clear hK K
        try simp only [Act.put, List.setIfInBounds_toArray, List.set_cons_zero, List.set_cons_succ]
        refine takeH (i := 15) (some 39) (v := ?_) rfl rfl (by kernel_rfl) (by kernel_rfl) (by kernel_rfl) (fun _ _ _ h => h) (by rfl) ?_ (by assumption) ?_
        rotate_left
        · (intro w hSw; (try dsimp only at hSw); go_simp; try with_reducible rfl)
        simp only [Act.put, List.setIfInBounds_toArray, List.set_cons_zero, List.set_cons_succ]
        refine takeH (i := 16) (some 40) (v := ?_) rfl rfl (by kernel_rfl) (by kernel_rfl) (by kernel_rfl) (fun _ _ _ h => h) (by rfl) ?_ (by assumption) ?_
        rotate_left
        · (intro w hSw; (try dsimp only at hSw); go_simp; try with_reducible rfl)
        simp only [Act.put, List.setIfInBounds_toArray, List.set_cons_zero, List.set_cons_succ]
        refine wpAnyH_ready (rs := [17]) (by kernel_rfl) (by simp) ?_
        refine AllReadyH.cons rfl (fun K hK => ?_) AllReadyH.nil
        have hcv := (HW.out _ BX3.out).2.1
        have hfz := (HW.out _ BX3.out).2.2.1
        go_simp
        refine hK _ _ (HF.out _ _ BX3.out) (fun hHeld => ?_)
        clear hK K hcv hfz
        try simp only [Act.put, List.setIfInBounds_toArray, List.set_cons_zero, List.set_cons_succ]
        refine wpAnyH_done (by kernel_rfl) ?_ _
        obtain ⟨hc9, hR9⟩ := HE.out _ A1 c1 BX3.out OA.out
        have HR9 := Lib.hid hR9
        clear hR9
        go_wp2_with fail
        go_roundw
        case rel => exact ⟨k + 1, by omega, rfl, HR9.out⟩
        case measure => simp [intOf]; omega
    · obtain rfl : k = n := by omega
      have hnn : ¬ ((k : Int) < (k : Int)) := by omega
      clear hA2 hB2 hnew hold
      go_wp2
      go_ret
      obtain ⟨A2, C2, hA2, hB2, hnew, _⟩ := HRk.out
      refine ⟨_, rfl, _, ⟨gb, cp, A2, C2, hA2, rfl⟩, ?_, hB2⟩
      rintro b (q | q | ⟨j, hj, q⟩)
      · rw [q]; exact Hh.out
      · rw [q]; exact Hgb.out
      · exact hnew j hj b q
end Go.Proofs.Ytegacggkdjgdiaa
