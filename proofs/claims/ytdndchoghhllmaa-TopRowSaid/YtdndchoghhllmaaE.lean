/- The document's groups in memory; where one of a number stands; State. -/
import Derived.Test.YtdndchoghhllmaaD
set_option linter.unusedVariables false
set_option linter.unusedSimpArgs false
namespace Go.Proofs.Ytdndchoghhllmaa
open Go.RowKit
/-- a group with where its numbers lie -/
structure Gr where
  g : Gp
  pa : Option Addr
  pc : Nat
  aa : Option Addr
  ac : Nat
namespace Gr
def cs (q : Gr) : List Value := [.int .i64 q.g.n, .int .u8 q.g.s, .slice q.pa q.g.p.length q.pc, .slice q.aa q.g.a.length q.ac]
end Gr
def grn (l : List Gr) (k : Nat) : Gr := l.getD k ⟨⟨0, 0, [], []⟩, none, 0, none, 0⟩
theorem grn_lt {l : List Gr} {k : Nat} (h : k < l.length) : grn l k = l[k] := by
  unfold grn; rw [List.getD_eq_getElem?_getD, List.getElem?_eq_getElem h]; rfl
theorem grn_mem {l : List Gr} {k : Nat} (h : k < l.length) : grn l k ∈ l := by rw [grn_lt h]; exact List.getElem_mem h
def flatG (l : List Gr) : List Value := l.flatMap Gr.cs
theorem flatG_cons (h : Gr) (l : List Gr) : flatG (h :: l) = h.cs ++ flatG l := by simp [flatG]
theorem length_flatG (l : List Gr) : (flatG l).length = l.length * 4 := by
  induction l with
  | nil => rfl
  | cons h r ih => rw [flatG_cons, List.length_append, ih]; simp [Gr.cs]; omega
theorem flatG_append (a b : List Gr) : flatG (a ++ b) = flatG a ++ flatG b := by simp [flatG]
theorem flatG_take (l : List Gr) (k : Nat) : (flatG l).take (k * 4) = flatG (l.take k) := by
  induction l generalizing k with
  | nil => simp [flatG]
  | cons h r ih =>
    cases k with
    | zero => simp [flatG]
    | succ k => rw [List.take_succ_cons, flatG_cons, flatG_cons, ← ih, show (k + 1) * 4 = k * 4 + 4 by omega]; simp [Gr.cs]
theorem flatG_drop (l : List Gr) (k : Nat) : (flatG l).drop (k * 4) = flatG (l.drop k) := by
  induction l generalizing k with
  | nil => simp [flatG]
  | cons h r ih =>
    cases k with
    | zero => simp
    | succ k => rw [List.drop_succ_cons, flatG_cons, ← ih, show (k + 1) * 4 = k * 4 + 4 by omega]; simp [Gr.cs]
theorem flatG_get {l : List Gr} {k j : Nat} (hk : k < l.length) (hj : j < 4) : (flatG l)[k * 4 + j]? = (grn l k).cs[j]? := by
  have h := List.getElem?_drop (xs := flatG l) (i := k * 4) (j := j)
  rw [← h, flatG_drop, List.drop_eq_getElem_cons hk, flatG_cons, List.getElem?_append_left (by simpa [Gr.cs] using hj), grn_lt hk]
theorem flatG_one (l : List Gr) : ∀ u ∈ flatG l, u.oneCell' = true := by
  intro u hu
  obtain ⟨h, _, hm⟩ := List.mem_flatMap.1 hu
  simp [Gr.cs] at hm
  rcases hm with rfl | rfl | rfl | rfl <;> rfl
theorem flatG_set {l : List Gr} {k : Nat} (hk : k < l.length) (q : Gr) (j : Nat) (u : Value) (hq : q.cs = (grn l k).cs.set j u) (hj : j < 4) : (flatG l).set (k * 4 + j) u = flatG (l.set k q) := by
  induction l generalizing k with
  | nil => simp at hk
  | cons h r ih =>
    cases k with
    | zero =>
      have hq' : q.cs = h.cs.set j u := hq
      rw [flatG_cons, List.set_cons_zero, flatG_cons, hq', Nat.zero_mul, Nat.zero_add, List.set_append_left _ _ (by simpa [Gr.cs] using hj)]
    | succ k =>
      rw [flatG_cons, List.set_cons_succ, flatG_cons, List.set_append_right _ _ (by simp [Gr.cs]; omega)]
      congr 1
      have : (k + 1) * 4 + j - h.cs.length = k * 4 + j := by simp [Gr.cs]; omega
      rw [this]
      exact ih (by simpa using hk) hq
/-- a block of numbers -/
def IntB (w : World) (b : Nat) : Prop := ∃ cur, w.heap[b]? = some (.cells cur 3 (0, 0))
theorem RowI.isInt {w : World} {B c : Nat} {A : Option Addr} {l : List Int} (h : RowI w B A c l) : ∀ k, own A = some k → IntB w k := by
  intro k e
  rcases h.2 with ⟨z, _⟩ | ⟨k2, cap, cur, z, _, hk, _⟩
  · obtain ⟨rfl, _⟩ := Value.slice.inj z; cases e
  · obtain ⟨rfl, _⟩ := Value.slice.inj z
    obtain rfl : k2 = k := by simpa [own] using e
    exact ⟨_, hk⟩
/-- the document's groups in memory -/
structure RefAt (B : Nat) (w : World) (r : Nat) (A : Option Addr) (c : Nat) (L : List Gr) (k : Int) : Prop where
  head : w.heap[r]? = some (.cells #[.slice A L.length c, .int .i64 k] 75 (0, 0))
  row : w.ownsRow B 77 4 (.slice A L.length c) L.length (flatG L)
  lo : B ≤ r
  nums : ∀ q ∈ L, RowI w B q.pa q.pc q.g.p ∧ RowI w B q.aa q.ac q.g.a
def OfR (r : Nat) (A : Option Addr) : Nat → Prop := fun k => k = r ∨ own A = some k
namespace RefAt
variable {B : Nat} {w w' : World} {r : Nat} {A : Option Addr} {c : Nat} {L : List Gr} {k : Int}
theorem glt (h : RefAt B w r A c L k) : r < w.heap.size := (Array.getElem?_eq_some_iff.1 h.head).1
theorem rowB (h : RefAt B w r A c L k) : ∀ b, own A = some b → ∃ cur, w.heap[b]? = some (.cells cur 77 (0, 0)) := by
  intro b e
  rcases h.row.2 with ⟨z, _⟩ | ⟨k2, cap, cur, z, _, hk, _⟩
  · obtain ⟨rfl, _⟩ := Value.slice.inj z; cases e
  · obtain ⟨rfl, _⟩ := Value.slice.inj z
    obtain rfl : k2 = b := by simpa [own] using e
    exact ⟨_, hk⟩
theorem apart (h : RefAt B w r A c L k) : own A ≠ some r := fun e => by
  obtain ⟨cur, hc⟩ := h.rowB r e
  have := h.head.symm.trans hc
  simp at this
theorem notInt (h : RefAt B w r A c L k) : ∀ b, OfR r A b → ¬ IntB w b := by
  rintro b (rfl | e) ⟨cur, hc⟩
  · have := h.head.symm.trans hc
    simp at this
  · obtain ⟨cur2, hc2⟩ := h.rowB b e
    have := hc2.symm.trans hc
    simp at this
theorem low (h : RefAt B w r A c L k) : ∀ b, OfR r A b → B ≤ b := by
  rintro b (rfl | e)
  · exact h.lo
  · exact (World.ownsRow.lt h.row b (by rw [own_eq]; exact e)).1
theorem lt (h : RefAt B w r A c L k) : ∀ b, OfR r A b → b < w.heap.size := by
  rintro b (rfl | e)
  · exact h.glt
  · exact (World.ownsRow.lt h.row b (by rw [own_eq]; exact e)).2
theorem keep {S : Nat → Prop} (h : RefAt B w r A c L k) (hk : Kept w w' S) (h1 : ∀ b, OfR r A b → ¬ S b) (h2 : ∀ b, S b → ¬ IntB w b) : RefAt B w' r A c L k :=
  ⟨(hk.block r h.glt (h1 r (.inl rfl))).trans h.head, hk.row h.row (fun b e => h1 b (.inr (by rw [← own_eq A L.length c]; exact e))), h.lo,
    fun q hq => ⟨(h.nums q hq).1.keep hk (fun b e s => h2 b s ((h.nums q hq).1.isInt b e)), (h.nums q hq).2.keep hk (fun b e s => h2 b s ((h.nums q hq).2.isInt b e))⟩⟩
theorem fresh (h : RefAt B w r A c L k) (hb : Below w.heap.size w w') : RefAt B w' r A c L k := h.keep (S := fun _ => False) (Kept.fresh hb) (fun _ _ q => q) (fun _ q => q.elim)
theorem hcells (h : RefAt B w r A c L k) : w.cell? ⟨r, 0, none⟩ = some (.slice A L.length c) ∧ w.cell? ⟨r, 1, none⟩ = some (.int .i64 k) :=
  ⟨cell_of_row w r 0 _ _ (0, 0) h.head, cell_of_row w r 1 _ _ (0, 0) h.head⟩
theorem free (h : RefAt B w r A c L k) (j : Nat) : w.frozen? ⟨r, j, none⟩ = false := frozen_of_row w r j _ 75 h.head
theorem at_ (h : RefAt B w r A c L k) {i : Nat} (hi : i < L.length) : ∃ b, A = some ⟨b, 0, none⟩ ∧ L.length ≤ c ∧ c ≤ maxLen ∧ b < w.heap.size ∧ w.cell? ⟨b, i * 4, none⟩ = some (.int .i64 (grn L i).g.n) ∧ w.cell? ⟨b, i * 4 + 1, none⟩ = some (.int .u8 (grn L i).g.s) ∧ w.cell? ⟨b, i * 4 + 2, none⟩ = some (.slice (grn L i).pa (grn L i).g.p.length (grn L i).pc) ∧ w.cell? ⟨b, i * 4 + 3, none⟩ = some (.slice (grn L i).aa (grn L i).g.a.length (grn L i).ac) ∧ ∀ j, w.frozen? ⟨b, j, none⟩ = false := by
  obtain ⟨b, cap, q, hB, hb⟩ := h.row.form (by omega)
  obtain ⟨rfl, _, rfl⟩ := Value.slice.inj q
  have hc : ∀ j, j < 4 → w.cell? ⟨b, i * 4 + j, none⟩ = (grn L i).cs[j]? := fun j hj => by
    rw [h.row.cellAt (i * 4 + j) (by omega), flatG_get hi hj]
  exact ⟨b, rfl, (own_cap h.row).1, (own_cap h.row).2, hb, hc 0 (by omega), hc 1 (by omega), hc 2 (by omega), hc 3 (by omega), fun j => h.row.frozenAt j⟩
end RefAt
/-- where a number stands; -1: nowhere -/
def idxG (L : List Gr) (n : Int) : Int := if L.any (fun q => isN n q.g) = true then (L.findIdx (fun q => isN n q.g) : Nat) else -1
theorem idxG_at {L : List Gr} {n : Int} {k : Nat} (hk : k < L.length) (h : (grn L k).g.n = n) (hl : ∀ j, j < k → (grn L j).g.n ≠ n) : idxG L n = (k : Int) := by
  unfold idxG
  have hany : L.any (fun q => isN n q.g) = true := List.any_eq_true.2 ⟨_, grn_mem hk, isN_iff.2 h⟩
  rw [if_pos hany]
  congr 1
  rw [List.findIdx_eq hk]
  refine ⟨by rw [← grn_lt hk]; exact isN_iff.2 h, fun j hj => ?_⟩
  have := hl j hj
  rw [grn_lt (by omega)] at this
  cases q : isN n (L[j]'(by omega)).g with
  | false => rfl
  | true => exact absurd (isN_iff.1 q) this
theorem idxG_no {L : List Gr} {n : Int} (hl : ∀ j, j < L.length → (grn L j).g.n ≠ n) : idxG L n = -1 := by
  unfold idxG
  rw [if_neg]
  intro h
  obtain ⟨q, hq, e⟩ := List.any_eq_true.1 h
  obtain ⟨j, hj, rfl⟩ := List.mem_iff_getElem.1 hq
  exact hl j hj (by rw [grn_lt hj]; exact isN_iff.1 e)
section
variable (B r : Nat) (A : Option Addr) (c : Nat) (L : List Gr) (k n : Int) (w : World)
set_option maxRecDepth 100000 in
set_option maxHeartbeats 1000000 in
theorem rat_any (hC : RefAt B w r A c L k) (hl : L.length ≤ 1000) : Calls Try.prog 55 #[.pointer (some ⟨r, 0, none⟩), .int .i64 n] w fun e w' => e = .returned (.int .i64 (idxG L n)) ∧ w = w' := by
  obtain ⟨c0, _⟩ := hC.hcells
  have hr := hC.glt
  have HC := Lib.hid hC
  go_enter Try.func55, Try.ntmps55
  go_wp2
  go_loopw [5] (fun i wr => ∃ j : Nat, j ≤ L.length ∧ i = .int .i64 j ∧ w = wr ∧ Hid (∀ q, q < j → (grn L q).g.n ≠ n)) (fun i _ => L.length - (intOf i).toNat)
  case atStart => exact ⟨0, Nat.zero_le _, rfl, rfl, fun q h => absurd h (by omega)⟩
  case round =>
    obtain ⟨j, hj, rfl, rfl, hno⟩ := hrel
    have hj0 : (0 : Int) ≤ (j : Int) := by omega
    by_cases hlt : j < L.length
    · have hji : (j : Int) < (L.length : Int) := by omega
      obtain ⟨b, rfl, h1, h2, hb, d0, _⟩ := HC.out.at_ hlt
      unfold maxLen at h2
      by_cases he : (grn L j).g.n = n
      · have Hi := Lib.hid (idxG_at hlt he hno.out)
        have heq : ((grn L j).g.n == n) = true := by simpa using he
        generalize (grn L j).g.n = y at *
        clear hno he
        go_wp2
        go_ret
        exact ⟨by rw [Hi.out]; rfl, rfl⟩
      · have Hs : Hid (∀ q, q < j + 1 → (grn L q).g.n ≠ n) := fun q hq => by
          by_cases e : q = j
          · rw [e]; exact he
          · exact hno.out q (by omega)
        have heq : ((grn L j).g.n == n) = false := by simpa using he
        generalize (grn L j).g.n = y at *
        clear hno he
        go_wp2
        go_roundw
        case rel => exact ⟨j + 1, by omega, by go_num, trivial, Hs.out⟩
        case measure => simp [intOf]; omega
    · obtain rfl : j = L.length := by omega
      have hji : ¬ (L.length : Int) < (L.length : Int) := by omega
      have Hi := Lib.hid (idxG_no hno.out)
      clear hno
      go_wp2
      go_ret
      exact ⟨by rw [Hi.out]; rfl, rfl⟩
end
end Go.Proofs.Ytdndchoghhllmaa
