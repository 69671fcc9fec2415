/- The program's stack in memory: layers, rows of them; ask, rising, Reverse, numbers. -/
import Derived.Test.YtibkipdadpidnaaM
import Derived.Deep.LoopGhost
set_option linter.unusedVariables false
set_option linter.unusedSimpArgs false
namespace Go.Proofs.Ytibkipdadpidnaa
open Go.RowKit
open Pat (Pt AllB undoP nth)
/-- a layer: its block, and what it is -/
structure Ly where
  b : Nat
  x : On
def ly0 : Ly := ⟨0, 0, Pat.zeroP⟩
def lyn (L : List Ly) (k : Nat) : Ly := L.getD k ly0
theorem lyn_lt {L : List Ly} {k : Nat} (h : k < L.length) : lyn L k = L[k] := by
  unfold lyn; rw [List.getD_eq_getElem?_getD, List.getElem?_eq_getElem h]; rfl
theorem lyn_mem {L : List Ly} {k : Nat} (h : k < L.length) : lyn L k ∈ L := by rw [lyn_lt h]; exact List.getElem_mem h
theorem mem_lyn {L : List Ly} {q : Ly} (h : q ∈ L) : ∃ k, k < L.length ∧ lyn L k = q := by
  obtain ⟨k, hk, e⟩ := List.mem_iff_getElem.1 h
  exact ⟨k, hk, by rw [lyn_lt hk, e]⟩
theorem take_lyn {L : List Ly} {k : Nat} (h : k < L.length) : L.take (k + 1) = L.take k ++ [lyn L k] := by
  rw [List.take_succ_eq_append_getElem h, lyn_lt h]
theorem lyn_take {L : List Ly} {k j : Nat} (h : j < k) : lyn (L.take k) j = lyn L j := by
  unfold lyn; rw [List.getD_eq_getElem?_getD, List.getD_eq_getElem?_getD, List.getElem?_take_of_lt h]
theorem lyn_drop {l m : List Ly} {j : Nat} (h : m.drop j = l.drop j) (hj : j < l.length) (hm : m.length = l.length) : lyn m j = lyn l j := by
  rw [lyn_lt hj, lyn_lt (by omega)]
  have h1 := congrArg (fun z => z[0]?) h
  simp only [List.getElem?_drop, Nat.add_zero] at h1
  rw [List.getElem?_eq_getElem hj, List.getElem?_eq_getElem (by omega)] at h1
  exact Option.some.inj h1
theorem ly_ext {l m : List Ly} (hl : l.length = m.length) (h : ∀ k, k < l.length → lyn l k = lyn m k) : l = m := by
  refine List.ext_getElem hl (fun k h1 h2 => ?_)
  have := h k h1
  rwa [lyn_lt h1, lyn_lt h2] at this
def Ly.ptr (q : Ly) : Value := .pointer (some ⟨q.b, 0, none⟩)
def ptrV (L : List Ly) : List Value := L.map Ly.ptr
theorem length_ptrV (L : List Ly) : (ptrV L).length = L.length := by simp [ptrV]
theorem ptrV_at {L : List Ly} {k : Nat} (h : k < L.length) : (ptrV L)[k]? = some (lyn L k).ptr := by
  rw [ptrV, List.getElem?_map, List.getElem?_eq_getElem h, lyn_lt h]; rfl
theorem ptrV_one (L : List Ly) : ∀ v ∈ ptrV L, v.oneCell' = true := fun v hv => by
  obtain ⟨x, _, rfl⟩ := List.mem_map.1 hv; rfl
theorem ptrV_append (a b : List Ly) : ptrV (a ++ b) = ptrV a ++ ptrV b := by simp [ptrV]
theorem ptrV_take (L : List Ly) (k : Nat) : (ptrV L).take (k * 1) = ptrV (L.take k) := by rw [Nat.mul_one]; simp [ptrV, List.map_take]
def RowP (w : World) (B : Nat) (A : Option Addr) (c : Nat) (L : List Ly) : Prop := w.ownsRow B 75 1 (.slice A L.length c) L.length (ptrV L)
theorem infoP : (Try.prog.info? 75).map (fun i => (i.zero, i.size, i.bytes)) = some (some (.pointer none), 1, 8) := by kernel_rfl
namespace RowP
variable {w w' : World} {B : Nat} {A : Option Addr} {c : Nat} {L : List Ly}
theorem keep {S : Nat → Prop} (h : RowP w B A c L) (hk : Kept w w' S) (hn : ∀ k, own A = some k → ¬ S k) : RowP w' B A c L := hk.row h (fun k e => hn k (by rw [← own_eq A L.length c]; exact e))
theorem fresh (h : RowP w B A c L) (hb : Below w.heap.size w w') : RowP w' B A c L := h.keep (S := fun _ => False) (Kept.fresh hb) (fun _ _ q => q)
theorem lt (h : RowP w B A c L) : ∀ k, own A = some k → B ≤ k ∧ k < w.heap.size := fun k e => World.ownsRow.lt h k (by rw [own_eq]; exact e)
theorem at_ (h : RowP w B A c L) {k : Nat} (hk : k < L.length) : ∃ b, A = some ⟨b, 0, none⟩ ∧ b < w.heap.size ∧ L.length ≤ c ∧ c ≤ maxLen ∧ w.cell? ⟨b, k, none⟩ = some (lyn L k).ptr := by
  obtain ⟨b, cap, q, hB, hb⟩ := World.ownsRow.form h (by omega)
  obtain ⟨rfl, _, rfl⟩ := Value.slice.inj q
  exact ⟨b, rfl, hb, (own_cap h).1, (own_cap h).2, by rw [World.ownsRow.cellAt h k (by omega), ptrV_at hk]⟩
end RowP
theorem ap_row {w6 : World} {B c : Nat} {A : Option Addr} {o : List Ly} (q : Ly) (h : RowP w6 B A c o) : (w6.alloc (.cells #[q.ptr] 75)).ownsRow B 75 1 (.slice A o.length c) o.length (ptrV o) := World.ownsRow.alloc h _
theorem ap_src (w6 : World) (q : Ly) (g : Nat) (hg : g = w6.heap.size) (ad : Addr) (e : some (⟨g, 0, none⟩ : Addr) = some ad) : ∀ j u, [q.ptr][j]? = some u → (w6.alloc (.cells #[q.ptr] 75)).cell? (ad.add j) = some u := fun j u hu => by
  subst hg
  cases e
  exact World.news_of_block (heap_alloc_new w6 (.cells #[q.ptr] 75)) j u hu
theorem ap_new {w w6 w7 : World} {A A7 : Option Addr} {c c7 : Nat} {o : List Ly} {q : Ly} (h : RowP w6 w.heap.size A c o) (hb : Below w.heap.size w w6) (h7 : w7.ownsRow w.heap.size 75 1 (.slice A7 (o.length + 1) c7) (o.length + 1) (ptrV o ++ [q.ptr])) (hg : (w6.alloc (.cells #[q.ptr] 75)).grownBy w7 (Value.slice A o.length c).ownBlock) :
    RowP w7 w.heap.size A7 c7 (o ++ [q]) ∧ Below w.heap.size w w7 :=
  ⟨by unfold RowP; rw [List.length_append, ptrV_append]; exact h7, (hb.alloc hb.size _).grown hg (by simp; have := hb.size; omega) (fun j e => (h.lt j (by rw [← own_eq A o.length c]; exact e)).1)⟩
/-- the uppermost one -/
def topV (L : List Ly) : Value := (L.getLast?.map Ly.ptr).getD (.pointer none)
theorem topV_nil : topV [] = .pointer none := rfl
theorem topV_snoc (L : List Ly) (q : Ly) : topV (L ++ [q]) = q.ptr := by unfold topV; rw [List.getLast?_append]; rfl
theorem topV_take {L : List Ly} {k : Nat} (h : k < L.length) : topV (L.take (k + 1)) = (lyn L k).ptr := by rw [take_lyn h, topV_snoc]
def LayAt (w : World) (q : Ly) (v : Value) : Prop := w.heap[q.b]? = some (.cells #[.int .i64 q.x.p.b, .int .i64 q.x.p.o, .string q.x.p.s, .int .i64 q.x.n, v] 84 (0, 0))
/-- layers, the lowest first: each is below the next -/
def Chain (w : World) (L : List Ly) : Prop := ∀ i, i < L.length → LayAt w (lyn L i) (topV (L.take i))
theorem LayAt.keep {w w' : World} {q : Ly} {v : Value} {S : Nat → Prop} (h : LayAt w q v) (hk : Kept w w' S) (h2 : ∀ b, S b → HeadB w b) : LayAt w' q v := by
  refine (hk.block q.b (Array.getElem?_eq_some_iff.1 h).1 (fun s => ?_)).trans h
  obtain ⟨cur, t, e, ht⟩ := h2 _ s
  have := h.symm.trans e
  simp only [Option.some.injEq, Obj.cells.injEq] at this
  rcases ht with rfl | rfl
  · exact absurd this.2.1 (by decide)
  · exact absurd this.2.1 (by decide)
theorem LayAt.below {w w' : World} {q : Ly} {v : Value} {B : Nat} (h : LayAt w q v) (hb : Below B w w') (hB : w.heap.size ≤ B ∨ q.b < B) : LayAt w' q v :=
  (hb.block q.b (by have := (Array.getElem?_eq_some_iff.1 h).1; omega)).trans h
theorem LayAt.fresh {w w' : World} {q : Ly} {v : Value} (h : LayAt w q v) (hb : Below w.heap.size w w') : LayAt w' q v := h.below hb (.inl (Nat.le_refl _))
theorem LayAt.lt {w : World} {q : Ly} {v : Value} (h : LayAt w q v) : q.b < w.heap.size := (Array.getElem?_eq_some_iff.1 h).1
theorem LayAt.cells {w : World} {q : Ly} {v : Value} (h : LayAt w q v) : w.cell? ⟨q.b, 0, none⟩ = some (.int .i64 q.x.p.b) ∧ w.cell? ⟨q.b, 1, none⟩ = some (.int .i64 q.x.p.o) ∧ w.cell? ⟨q.b, 2, none⟩ = some (.string q.x.p.s) ∧ w.cell? ⟨q.b, 3, none⟩ = some (.int .i64 q.x.n) ∧ w.cell? ⟨q.b, 4, none⟩ = some v :=
  ⟨cell_of_row w q.b 0 _ _ (0, 0) h, cell_of_row w q.b 1 _ _ (0, 0) h, cell_of_row w q.b 2 _ _ (0, 0) h, cell_of_row w q.b 3 _ _ (0, 0) h, cell_of_row w q.b 4 _ _ (0, 0) h⟩
namespace Chain
variable {w w' : World} {L : List Ly}
theorem keep {S : Nat → Prop} (h : Chain w L) (hk : Kept w w' S) (h2 : ∀ b, S b → HeadB w b) : Chain w' L := fun i hi => (h i hi).keep hk h2
theorem fresh (h : Chain w L) (hb : Below w.heap.size w w') : Chain w' L := fun i hi => (h i hi).fresh hb
theorem take (h : Chain w L) (k : Nat) : Chain w (L.take k) := fun i hi => by
  rw [List.length_take] at hi
  rw [lyn_take (by omega), List.take_take, Nat.min_eq_left (by omega)]
  exact h i (by omega)
theorem mem (h : Chain w L) {q : Ly} (hq : q ∈ L) : ∃ v, LayAt w q v := by
  obtain ⟨k, hk, rfl⟩ := mem_lyn hq
  exact ⟨_, h k hk⟩
theorem snoc (h : Chain w L) {q : Ly} (hq : LayAt w q (topV L)) : Chain w (L ++ [q]) := fun i hi => by
  rw [List.length_append, List.length_singleton] at hi
  rcases Nat.lt_or_ge i L.length with h1 | h1
  · have e1 : lyn (L ++ [q]) i = lyn L i := by unfold lyn; rw [List.getD_eq_getElem?_getD, List.getD_eq_getElem?_getD, List.getElem?_append_left h1]
    rw [e1, List.take_append_of_le_length (by omega)]
    exact h i h1
  · obtain rfl : i = L.length := by omega
    have e1 : lyn (L ++ [q]) L.length = q := by unfold lyn; simp
    rw [e1, List.take_left']
    · exact hq
    · rfl
end Chain
/-- the program's stack -/
structure StkAt (B : Nat) (w : World) (g : Nat) (L : List Ly) (s : Sk) : Prop where
  head : w.heap[g]? = some (.cells (Pat.bytesV s.f ++ [.int .i64 s.k, topV L]).toArray 82 (0, 0))
  ch : Chain w L
  xs : L.map (·.x) = s.l
  lo : B ≤ g
  len : s.f.length = 32
  all : AllB s.f
namespace StkAt
variable {B : Nat} {w w' : World} {g : Nat} {L : List Ly} {s : Sk}
theorem glt (h : StkAt B w g L s) : g < w.heap.size := (Array.getElem?_eq_some_iff.1 h.head).1
theorem isHead (h : StkAt B w g L s) : HeadB w g := ⟨_, _, h.head, .inr rfl⟩
theorem keep {S : Nat → Prop} (h : StkAt B w g L s) (hk : Kept w w' S) (h1 : ¬ S g) (h2 : ∀ b, S b → HeadB w b) : StkAt B w' g L s :=
  ⟨(hk.block g h.glt h1).trans h.head, h.ch.keep hk h2, h.xs, h.lo, h.len, h.all⟩
theorem fresh (h : StkAt B w g L s) (hb : Below w.heap.size w w') : StkAt B w' g L s := h.keep (S := fun _ => False) (Kept.fresh hb) (fun q => q) (fun _ q => q.elim)
theorem byte (h : StkAt B w g L s) {j : Nat} (hj : j < 32) : w.cell? ⟨g, j, none⟩ = some (.int .u8 (nth s.f j)) := by
  rw [cell_of_row w g j _ _ (0, 0) h.head]
  rw [List.getElem?_toArray, List.getElem?_append_left (by simp [Pat.bytesV, h.len, hj]), Pat.bytesV, List.getElem?_map, List.getElem?_eq_getElem (by rw [h.len]; exact hj), Pat.nth_lt (by rw [h.len]; exact hj)]
  rfl
theorem num (h : StkAt B w g L s) : w.cell? ⟨g, 32, none⟩ = some (.int .i64 s.k) := by
  rw [cell_of_row w g 32 _ _ (0, 0) h.head]
  rw [List.getElem?_toArray, List.getElem?_append_right (by simp [Pat.bytesV, h.len])]
  simp [Pat.bytesV, h.len]
theorem top (h : StkAt B w g L s) : w.cell? ⟨g, 33, none⟩ = some (topV L) := by
  rw [cell_of_row w g 33 _ _ (0, 0) h.head]
  rw [List.getElem?_toArray, List.getElem?_append_right (by simp [Pat.bytesV, h.len])]
  simp [Pat.bytesV, h.len]
theorem free (h : StkAt B w g L s) (j : Nat) : w.frozen? ⟨g, j, none⟩ = false := frozen_of_row w g j _ 82 h.head
theorem lyx (h : StkAt B w g L s) {k : Nat} (hk : k < L.length) : (lyn L k).x = onn s.l k := by
  rw [lyn_lt hk, onn_lt (by rw [← h.xs, List.length_map]; exact hk)]
  simp [← h.xs]
theorem llen (h : StkAt B w g L s) : L.length = s.l.length := by rw [← h.xs, List.length_map]
end StkAt
section
variable (B g : Nat) (L : List Ly) (s : Sk) (n : Int) (w : World)
set_option maxRecDepth 100000 in
set_option maxHeartbeats 1000000 in
theorem ask_no (hC : StkAt B w g L s) (hno : ∀ q ∈ L, q.x.n ≠ n) : Calls Try.prog 49 #[.pointer (some ⟨g, 0, none⟩), .int .i64 n] w fun e w' => e = .returned (.tuple #[.pointer none, .int .i64 5]) ∧ w = w' := by
  have HC := Lib.hid hC
  have HN := Lib.hid hno
  have c1 := hC.top
  have hg := hC.glt
  clear hC hno
  go_enter Try.func49, Try.ntmps49
  go_wp2
  go_loopg [6] L.length (fun k p wr => k ≤ L.length ∧ p = topV (L.take k) ∧ w = wr)
  case atStart => exact ⟨Nat.le_refl _, by rw [List.take_length], rfl⟩
  case round =>
    obtain ⟨hk, rfl, rfl⟩ := hrel
    rename Nat => k
    cases k with
    | zero =>
      rw [List.take_zero, topV_nil]
      go_wp2
      go_ret2
      exact ⟨rfl, rfl⟩
    | succ k =>
      have hlt : k < L.length := by omega
      have hl := HC.out.ch k hlt
      obtain ⟨d0, d1, d2, d3, d4⟩ := hl.cells
      have hb := hl.lt
      have hne : ((lyn L k).x.n == n) = false := by simpa using HN.out _ (lyn_mem hlt)
      rw [topV_take hlt]
      unfold Ly.ptr
      obtain ⟨V, hV⟩ : ∃ V, V = topV (L.take k) := ⟨_, rfl⟩
      rw [← hV] at d4
      have HV := Lib.hid hV
      clear hl hV c1
      generalize lyn L k = q at *
      generalize q.x.n = y at *
      go_wp2
      go_roundg k
      case rel => exact ⟨by omega, HV.out, rfl⟩
      case measure => omega
set_option maxRecDepth 100000 in
set_option maxHeartbeats 1000000 in
theorem ask_yes (hC : StkAt B w g L s) (j : Nat) (hj : j < L.length) (hn : (lyn L j).x.n = n) (hno : ∀ i, j < i → i < L.length → (lyn L i).x.n ≠ n) : Calls Try.prog 49 #[.pointer (some ⟨g, 0, none⟩), .int .i64 n] w fun e w' => e = .returned (.tuple #[(lyn L j).ptr, .int .i64 0]) ∧ w = w' := by
  have HC := Lib.hid hC
  have HN := Lib.hid hno
  have HE := Lib.hid hn
  have c1 := hC.top
  have hg := hC.glt
  clear hC hno hn
  go_enter Try.func49, Try.ntmps49
  go_wp2
  go_loopg [6] L.length (fun k p wr => k ≤ L.length ∧ j < k ∧ p = topV (L.take k) ∧ w = wr)
  case atStart => exact ⟨Nat.le_refl _, hj, by rw [List.take_length], rfl⟩
  case round =>
    obtain ⟨hk, hjk, rfl, rfl⟩ := hrel
    rename Nat => k
    cases k with
    | zero => omega
    | succ k =>
      have hlt : k < L.length := by omega
      have hl := HC.out.ch k hlt
      obtain ⟨d0, d1, d2, d3, d4⟩ := hl.cells
      have hb := hl.lt
      rw [topV_take hlt]
      by_cases hkj : k = j
      · subst hkj
        have heq : ((lyn L k).x.n == n) = true := by simpa using HE.out
        unfold Ly.ptr
        clear hl c1 HN HE d4
        generalize hq : lyn L k = q at *
        have Hq := Lib.hid hq
        clear hq
        generalize q.x.n = y at *
        go_wp2
        go_ret2
        exact ⟨by rw [Hq.out]; rfl, rfl⟩
      · have hne : ((lyn L k).x.n == n) = false := by simpa using HN.out k (by omega) hlt
        unfold Ly.ptr
        obtain ⟨V, hV⟩ : ∃ V, V = topV (L.take k) := ⟨_, rfl⟩
        rw [← hV] at d4
        have HV := Lib.hid hV
        clear hl hV c1 HN HE
        generalize hq : lyn L k = q at *
        generalize q.x.n = y at *
        clear hq
        go_wp2
        go_roundg k
        case rel => exact ⟨by omega, by omega, HV.out, rfl⟩
        case measure => omega
end
/-- turned about, so far -/
def turnL (l m : List Ly) (i : Nat) : Prop := m.length = l.length ∧ ∀ q, q < l.length → lyn m q = if q < i ∨ l.length - 1 - i < q then lyn l (l.length - 1 - q) else lyn l q
theorem turn_start (l : List Ly) : turnL l l 0 := ⟨rfl, fun q hq => by rw [if_neg (by omega)]⟩
theorem lyn_set (l : List Ly) (k : Nat) (q : Ly) (j : Nat) (hj : j < l.length) : lyn (l.set k q) j = if k = j then q else lyn l j := by
  rw [lyn_lt (by rw [List.length_set]; exact hj), List.getElem_set]
  split
  · rfl
  · rw [lyn_lt hj]
theorem turn_step {l m : List Ly} {i : Nat} (h : turnL l m i) (hi : i < l.length - 1 - i) : turnL l ((m.set i (lyn l (l.length - 1 - i))).set (l.length - 1 - i) (lyn l i)) (i + 1) := by
  refine ⟨by simp [h.1], fun q hq => ?_⟩
  rw [lyn_set _ _ _ _ (by rw [List.length_set, h.1]; exact hq), lyn_set _ _ _ _ (by rw [h.1]; exact hq), h.2 q hq]
  by_cases e1 : l.length - 1 - i = q
  · rw [if_pos e1, if_pos (by omega)]; congr 1; omega
  · rw [if_neg e1]
    by_cases e2 : i = q
    · rw [if_pos e2, if_pos (by omega), e2]
    · rw [if_neg e2]
      by_cases e3 : q < i ∨ l.length - 1 - i < q
      · rw [if_pos e3, if_pos (by omega)]
      · rw [if_neg e3, if_neg (by omega)]
theorem turn_end {l m : List Ly} {i : Nat} (h : turnL l m i) (hi : l.length - 1 - i ≤ i) : m = l.reverse := by
  refine ly_ext (by rw [h.1, List.length_reverse]) (fun k hk => ?_)
  rw [h.1] at hk
  rw [h.2 k hk, lyn_lt (L := l.reverse) (by rw [List.length_reverse]; exact hk), List.getElem_reverse]
  by_cases e : k < i ∨ l.length - 1 - i < k
  · rw [if_pos e, lyn_lt (by omega)]
  · rw [if_neg e, lyn_lt hk]
    congr 1; omega
set_option maxRecDepth 100000 in
set_option maxHeartbeats 2000000 in
theorem reverse_any (B : Nat) (A : Option Addr) (c : Nat) (l : List Ly) (w : World) (hR : RowP w B A c l) (hl : l.length ≤ 1000) :
    Calls Try.prog 71 #[.slice A l.length c] w fun e w' => e = .returned (.tuple #[]) ∧ RowP w' B A c l.reverse ∧ Kept w w' (fun b => own A = some b) := by
  have HR := Lib.hid hR
  have hw : IntKind.i64.wrap ((l.length : Int) - 1) = (l.length : Int) - 1 := IntWalk.i64_in _ (by omega)
  clear hR
  go_enter Try.func71, Try.ntmps71
  go_wp2
  go_loopw [2, 3] (fun p q wr => ∃ (i : Nat) (m : List Ly), p = .int .i64 i ∧ q = .int .i64 ((l.length : Int) - 1 - i) ∧ i ≤ l.length ∧ Hid (turnL l m i) ∧ Hid (wr.ownsRow B 75 1 (.slice A l.length c) l.length (ptrV m)) ∧ Hid (Kept w wr (fun b => own A = some b))) (fun p _ _ => l.length - (intOf p).toNat)
  case atStart => exact ⟨0, l, rfl, by simp, Nat.zero_le _, turn_start l, HR.out, Kept.refl _ _⟩
  case round =>
    obtain ⟨i, m, rfl, rfl, hi, hT, hrow, hK⟩ := hrel
    rename World => wr
    by_cases hlt : (i : Int) < (l.length : Int) - 1 - i
    · obtain ⟨j, hj⟩ : ∃ j : Nat, j = l.length - 1 - i := ⟨_, rfl⟩
      have hji : ((l.length : Int) - 1 - i) = (j : Int) := by omega
      have hij : i < j := by omega
      have hjl : j < l.length := by omega
      have Hj := Lib.hid hj
      obtain ⟨ab, cap, hA, _, hbz⟩ := hrow.out.form (by omega)
      obtain ⟨rfl, _, rfl⟩ := Value.slice.inj hA
      have ci : wr.cell? ⟨ab, i, none⟩ = some (lyn m i).ptr := by rw [hrow.out.cellAt i (by omega), ptrV_at (by rw [hT.out.1]; omega)]
      have cj : wr.cell? ⟨ab, j, none⟩ = some (lyn m j).ptr := by rw [hrow.out.cellAt j (by omega), ptrV_at (by rw [hT.out.1]; omega)]
      have fi : wr.frozen? ⟨ab, i, none⟩ = false := hrow.out.frozenAt i
      have fj : wr.frozen? ⟨ab, j, none⟩ = false := hrow.out.frozenAt j
      have emi : lyn m i = lyn l i := by rw [hT.out.2 i (by omega), if_neg (by omega)]
      have emj : lyn m j = lyn l j := by rw [hT.out.2 j (by omega), if_neg (by omega)]
      have HT2 : Hid (turnL l ((m.set i (lyn l j)).set j (lyn l i)) (i + 1)) := by have := turn_step hT.out (by omega); rw [← hj] at this; exact this
      rw [emi] at ci
      rw [emj] at cj
      have HS1 : Hid (∀ qi qj : Ly, ((wr.setCell ⟨ab, i, none⟩ qj.ptr).setCell ⟨ab, j, none⟩ qi.ptr).drew.ownsRow B 75 1 (.slice (some ⟨ab, 0, none⟩) l.length c) l.length (ptrV ((m.set i qj).set j qi)) ∧ Kept wr ((wr.setCell ⟨ab, i, none⟩ qj.ptr).setCell ⟨ab, j, none⟩ qi.ptr).drew (fun b => own (some (⟨ab, 0, none⟩ : Addr)) = some b)) := fun qi qj => by
        have a1 := (hrow.out.stored i qj.ptr).1
        have a2 := (a1.stored j qi.ptr).1
        have e : ((ptrV m).set i qj.ptr).set j qi.ptr = ptrV ((m.set i qj).set j qi) := by simp [ptrV, List.map_set]
        rw [e] at a2
        exact ⟨a2, ((Kept.set wr ab i _).trans (Kept.set _ ab j _) (fun b q => .inl q)).drew.more (fun b q => .inl (by rw [q]; rfl))⟩
      have HS2 : Hid (∀ qi qj : Ly, ((wr.setCell ⟨ab, j, none⟩ qi.ptr).setCell ⟨ab, i, none⟩ qj.ptr).drew.ownsRow B 75 1 (.slice (some ⟨ab, 0, none⟩) l.length c) l.length (ptrV ((m.set i qj).set j qi)) ∧ Kept wr ((wr.setCell ⟨ab, j, none⟩ qi.ptr).setCell ⟨ab, i, none⟩ qj.ptr).drew (fun b => own (some (⟨ab, 0, none⟩ : Addr)) = some b)) := fun qi qj => by
        have a1 := (hrow.out.stored j qi.ptr).1
        have a2 := (a1.stored i qj.ptr).1
        have e : ((ptrV m).set j qi.ptr).set i qj.ptr = ptrV ((m.set i qj).set j qi) := by rw [List.set_comm _ _ (by omega)]; simp [ptrV, List.map_set]
        rw [e] at a2
        exact ⟨a2, ((Kept.set wr ab j _).trans (Kept.set _ ab i _) (fun b q => .inl q)).drew.more (fun b q => .inl (by rw [q]; rfl))⟩
      have Z1 := Lib.hid (HS1.out (lyn l i) (lyn l j))
      have Z2 := Lib.hid (HS2.out (lyn l i) (lyn l j))
      have hl1 : (i : Int) < (l.length : Int) := by omega
      have hl2 : (j : Int) < (l.length : Int) := by omega
      have hi0 : (0 : Int) ≤ (i : Int) := by omega
      have hj0 : (0 : Int) ≤ (j : Int) := by omega
      have hwi : IntKind.i64.wrap ((i : Int) + 1) = ((i + 1 : Nat) : Int) := by rw [IntWalk.i64_in _ (by omega)]; omega
      have hwj : IntKind.i64.wrap ((j : Int) - 1) = (l.length : Int) - 1 - ((i + 1 : Nat) : Int) := by rw [IntWalk.i64_in _ (by omega)]; omega
      have hlt2 : (i : Int) < (j : Int) := by omega
      have hne : i ≠ j := by omega
      have hne2 : j ≠ i := by omega
      rw [hji]
      clear hlt hji emi emj HS1 HS2 hw hj
      generalize hqi : lyn l i = qi at *
      generalize hqj : lyn l j = qj at *
      unfold Ly.ptr at *
      clear hqi hqj
      go_wp2_with fail
      go_region
      all_goals
        go_wp2
        go_roundw
        case rel => first
          | exact ⟨i + 1, _, by go_num, rfl, by omega, HT2.out, Z1.out.1, hK.out.trans Z1.out.2 (fun b q => .inl q)⟩
          | exact ⟨i + 1, _, by go_num, rfl, by omega, HT2.out, Z2.out.1, hK.out.trans Z2.out.2 (fun b q => .inl q)⟩
        case measure => simp [intOf]; omega
    · have HE : Hid (m = l.reverse) := turn_end hT.out (by omega)
      have hK' := Lib.hid hK.out
      rw [HE.out] at hrow
      clear hT hw
      go_wp2
      go_end0
      exact ⟨rfl, by unfold RowP; rw [List.length_reverse]; exact hrow.out, hK.out⟩
end Go.Proofs.Ytibkipdadpidnaa
