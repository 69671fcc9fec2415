/- An engine to which patches of one letter are added: add. -/
import Derived.Test.YthibnnllecdpaaaNF
import Derived.Deep.WholeRow
namespace Go.Proofs.Ythibnnllecdpaaa
open Go.RowKit

def zero110 : Array Value := Array.replicate 200 (.bool false)
theorem info110 : (Try.prog.info? 110).map (fun i => (i.zero, i.size)) = some (some (.agg zero110), 200) := by kernel_rfl
theorem zero110_at {k : Nat} (h : k < 200) : zero110[k]? = some (.bool false) := by
  unfold zero110; rw [Array.getElem?_replicate, if_pos h]
/-- the cells of the q-th that waits -/
theorem wrow_at {B : Nat} {w : World} {v : Value} {l : List Wt} (h : w.ownsRow B 98 6 v l.length (flatW l)) {q : Nat} (hq : q < l.length) :
    ∃ ab cap, v = .slice (some ⟨ab, 0, none⟩) l.length cap ∧ l.length ≤ cap ∧ cap ≤ maxLen ∧ ab < w.heap.size ∧ ∀ j, j < 6 → w.cell? ⟨ab, q * 6 + j, none⟩ = (wn l q).cs[j]? := by
  obtain ⟨ab, cap, rfl, hB, hb⟩ := h.form (by omega)
  refine ⟨ab, cap, rfl, ?_, ?_, hb, fun j hj => ?_⟩
  · rcases h.2 with ⟨q, _⟩ | ⟨_, _, _, q, _, _, h1, _⟩
    · cases q
    · cases q; exact h1
  · rcases h.2 with ⟨q, _⟩ | ⟨_, _, _, q, _, _, _, h1, _⟩
    · cases q
    · cases q; exact h1
  · rw [h.cellAt (q * 6 + j) (by omega), flatW_get hq hj]
/-- one that is being added, behind q of those that wait -/
def Adds (W2 wr : World) (k b : Int) (s : ByteArray) (q : Nat) (A2 : Option Addr) (n2 c2 : Nat) (xs : List Value) : Prop :=
  n2 ≤ q ∧ wr.heap[W2.heap.size]? = some (.cells #[.int .i64 k, .int .i64 b, .int .i64 0, .string s, .slice A2 n2 c2, .bool false] 98 (0, 0)) ∧ wr.ownsRow (W2.heap.size + 1) 3 1 (.slice A2 n2 c2) n2 xs ∧ Below W2.heap.size W2 wr
theorem Adds.keep {W2 wr w2 : World} {k b : Int} {s : ByteArray} {q : Nat} {A2 : Option Addr} {n2 c2 : Nat} {xs : List Value} (h : Adds W2 wr k b s q A2 n2 c2 xs) (hB : Below wr.heap.size wr w2) : Adds W2 w2 k b s (q + 1) A2 n2 c2 xs := by
  obtain ⟨h1, h2, h3, h4⟩ := h
  exact ⟨by omega, by rw [hB.block _ (Array.getElem?_eq_some_iff.1 h2).1]; exact h2, (Kept.fresh (S := fun _ => False) hB).row h3 (fun _ _ q => q), h4.trans (hB.mono h4.size)⟩
theorem Adds.more {W2 wr w2 : World} {k b : Int} {s : ByteArray} {q : Nat} {A2 A3 : Option Addr} {n2 c2 c3 : Nat} {xs ys : List Value} (h : Adds W2 wr k b s q A2 n2 c2 xs) (hB : Below (W2.heap.size + 1) wr w2) (ho : w2.ownsRow (W2.heap.size + 1) 3 1 (.slice A3 (n2 + 1) c3) (n2 + 1) ys) :
    (w2.cell? ⟨W2.heap.size, 4, none⟩ = some (.slice A2 n2 c2) ∧ w2.frozen? ⟨W2.heap.size, 4, none⟩ = false) ∧ Adds W2 (w2.setCell ⟨W2.heap.size, 4, none⟩ (.slice A3 (n2 + 1) c3)) k b s (q + 1) A3 (n2 + 1) c3 ys := by
  obtain ⟨h1, h2, h3, h4⟩ := h
  have e := (hB.block _ (Nat.lt_succ_self _)).trans h2
  have hk : Kept w2 (w2.setCell ⟨W2.heap.size, 4, none⟩ (.slice A3 (n2 + 1) c3)) (fun k => k = W2.heap.size) := ⟨rfl, rfl, rfl, by simp, fun k _ hn => heap_setCell_other w2 ⟨W2.heap.size, 4, none⟩ k _ hn⟩
  refine ⟨⟨cell_of_row w2 _ 4 _ 98 (0, 0) e, frozen_of_row w2 _ 4 _ 98 e⟩, by omega, ?_, hk.row ho (fun j hj q => by have := (ho.lt j hj).1; omega), (h4.trans (hB.mono (Nat.le_succ _))).setCell (Nat.le_refl _) _⟩
  have := heap_setCell_same w2 W2.heap.size 4 _ 98 (.slice A3 (n2 + 1) c3) e
  simpa using this
theorem info98 : (Try.prog.info? 98).map (fun i => (i.zero, i.size, i.bytes)) = some (some (.agg #[.int .i64 0, .int .i64 0, .int .i64 0, .string ⟨#[]⟩, .slice none 0 0, .bool false]), 6, 72) := by kernel_rfl
theorem EngAt.typedHead {B : Nat} {w : World} {ge gd : Nat} {k : Int} {v : Value} {l : List Wt} (h : EngAt B w ge gd k v l) : Typed w (fun j => j = ge) 84 84 := fun j hj => (by cases hj; exact ⟨_, _, h.head, .inl rfl⟩)
theorem EngAt.apart {B : Nat} {w : World} {ge gd : Nat} {k : Int} {v : Value} {l : List Wt} (h : EngAt B w ge gd k v l) : v.ownBlock ≠ some ge := fun e => row_not h.typedHead h.row (by decide) (by decide) ge e rfl
theorem EngAt.typed {B : Nat} {w : World} {ge gd : Nat} {k : Int} {v : Value} {l : List Wt} (h : EngAt B w ge gd k v l) : Typed w (At ge v) 84 98 := fun j hj => by
  rcases hj with rfl | hj
  · exact ⟨_, _, h.head, .inl rfl⟩
  · rcases h.row.2 with ⟨rfl, _⟩ | ⟨b, cap, cur, rfl, _, hb, _⟩
    · simp [Value.ownBlock] at hj
    · have : b = j := by simpa [Value.ownBlock] using hj
      subst this
      exact ⟨_, _, hb, .inr rfl⟩
/-- a row of those that wait, longer by one, laid into the engine -/
theorem EngAt.pushed {B : Nat} {w Wb w2 : World} {ge gd : Nat} {k : Int} {v v' : Value} {l : List Wt} {x : Wt} (h : EngAt B w ge gd k v l) (hb : Below w.heap.size w Wb) (hg : Wb.grownBy w2 v.ownBlock) (ho : w2.ownsRow B 98 6 v' (l.length + 1) (flatW l ++ x.cs)) :
    (w2.cell? ⟨ge, 2, none⟩ = some v ∧ w2.frozen? ⟨ge, 2, none⟩ = false ∧ ge < w2.heap.size) ∧ EngAt B (w2.setCell ⟨ge, 2, none⟩ v') ge gd k v' (l ++ [x]) ∧ Kept w (w2.setCell ⟨ge, 2, none⟩ v') (At ge v) := by
  have h1 := h.fresh hb
  have hd : w2.heap[ge]? = some (.cells #[.pointer (some ⟨gd, 0, none⟩), .int .i64 k, v] 84 (0, 0)) := by
    rw [hg.block ge h1.glt (fun e => h.apart e.symm)]; exact h1.head
  have K1 : Kept Wb w2 (At ge v) := Kept.grown hg fun k e => .inl (.inr e)
  have hk : Kept w2 (w2.setCell ⟨ge, 2, none⟩ v') (fun k => k = ge) := ⟨rfl, rfl, rfl, by simp, fun k _ hn => heap_setCell_other w2 ⟨ge, 2, none⟩ k v' hn⟩
  have K2 : Kept Wb (w2.setCell ⟨ge, 2, none⟩ v') (At ge v) := K1.trans hk (fun b q => .inl (.inl q))
  have hne : ∀ j, v'.ownBlock = some j → ¬ j = ge := row_not (S := fun j => j = ge) (T1 := 84) (T2 := 84) (fun j hj => (by cases hj; exact ⟨_, _, hd, .inl rfl⟩)) ho (by decide) (by decide)
  refine ⟨⟨cell_of_row w2 _ 2 _ 84 (0, 0) hd, frozen_of_row w2 _ 2 _ 84 hd, (Array.getElem?_eq_some_iff.1 hd).1⟩, ⟨?_, h1.disk.besideT K2 h1.typed (by decide) (by decide), ?_, h.lo⟩, (Kept.fresh (S := At ge v) hb).trans K2 (fun b q => .inl q)⟩
  · have := heap_setCell_same w2 ge 2 _ 84 v' hd
    simpa using this
  · have e : flatW (l ++ [x]) = flatW l ++ x.cs := by simp [flatW]
    rw [e, List.length_append]
    exact hk.row ho hne
theorem EngAt.next {B : Nat} {w : World} {ge gd : Nat} {k : Int} {v : Value} {l : List Wt} (h : EngAt B w ge gd k v l) :
    EngAt B (w.setCell ⟨ge, 1, none⟩ (.int .i64 (k + 1))) ge gd (k + 1) v l ∧ Kept w (w.setCell ⟨ge, 1, none⟩ (.int .i64 (k + 1))) (fun j => j = ge) := by
  have hk : Kept w (w.setCell ⟨ge, 1, none⟩ (.int .i64 (k + 1))) (fun k => k = ge) := ⟨rfl, rfl, rfl, by simp, fun k _ hn => heap_setCell_other w ⟨ge, 1, none⟩ k _ hn⟩
  refine ⟨⟨?_, h.disk.besideT hk h.typedHead (by decide) (by decide), hk.row h.row (row_not h.typedHead h.row (by decide) (by decide)), h.lo⟩, hk⟩
  have := heap_setCell_same w ge 1 _ 84 (.int .i64 (k + 1)) h.head
  simpa using this
set_option maxRecDepth 100000 in
set_option maxHeartbeats 4000000 in
theorem add_any (B ge gd : Nat) (k first : Int) (A : Option Addr) (cap : Nat) (l : List Wt) (b : Int) (w : World) (hE : EngAt B w ge gd k (.slice A l.length cap) l) (hl : l.length ≤ 100) (hlb : ∀ x ∈ l, 0 ≤ x.b ∧ x.b < 40) (hk0 : 0 ≤ k) (hk1 : k ≤ 1000) (hb0 : 0 ≤ b) (hb1 : b < 40) (hB : B ≤ w.heap.size) :
    Calls Try.prog 51 #[.pointer (some ⟨ge, 0, none⟩), .agg #[.int .i64 b, .int .i64 0, .string lx, .slice none 0 0], .int .i64 first] w fun e w' => e = .returned (.tuple #[]) ∧
      ∃ A' cap' x, x.b = b ∧ EngAt B w' ge gd (k + 1) (.slice A' (l.length + 1) cap') (l ++ [x]) ∧ Kept w w' (At ge (.slice A l.length cap)) := by
  obtain ⟨hz, hs⟩ := zero_of_info (P := Try.prog) info110
  obtain ⟨Z, hZ⟩ : ∃ Z, Z = zero110 := ⟨_, rfl⟩
  rw [← hZ] at hz
  have HZ := Lib.hid hZ
  have HS := Lib.hid hs
  have HE := Lib.hid hE
  have e0 := hE.c0
  have e1 := hE.c1
  have e2 := hE.c2
  have hge := hE.glt
  obtain ⟨s, hs2⟩ : ∃ s, s = lx := ⟨_, rfl⟩
  have Hs := Lib.hid hs2
  rw [← hs2]
  clear hZ hs hE hs2
  go_enter Try.func51, Try.ntmps51
  go_wp2
  refine wp_loop_rounds 1 ?_
  rw [rounds_succ]
  go_wp2
  have hB1 : Below w.heap.size w ((w.alloc (Obj.cells #[Value.int IntKind.i64 b, Value.int IntKind.i64 0, Value.string s, Value.slice none 0 0] 61)).alloc (Obj.cells Z 110)) := ((Below.refl _ _).alloc (Nat.le_refl _) _).alloc (by simp) _
  have hi1 : ((w.alloc (Obj.cells #[Value.int IntKind.i64 b, Value.int IntKind.i64 0, Value.string s, Value.slice none 0 0] 61)).alloc (Obj.cells Z 110)).heap[w.heap.size]? = some (.cells #[.int .i64 b, .int .i64 0, .string s, .slice none 0 0] 61 (0, 0)) := heap_alloc2_old w _ _
  have hZ1 : ((w.alloc (Obj.cells #[Value.int IntKind.i64 b, Value.int IntKind.i64 0, Value.string s, Value.slice none 0 0] 61)).alloc (Obj.cells Z 110)).heap[w.heap.size + 1]? = some (.cells Z 110 (0, 0)) := heap_alloc2_new w _ _
  have hz1 : ((w.alloc (Obj.cells #[Value.int IntKind.i64 b, Value.int IntKind.i64 0, Value.string s, Value.slice none 0 0] 61)).alloc (Obj.cells Z 110)).heap.size = w.heap.size + 2 := by simp
  generalize (w.alloc (Obj.cells #[Value.int IntKind.i64 b, Value.int IntKind.i64 0, Value.string s, Value.slice none 0 0] 61)).alloc (Obj.cells Z 110) = W2 at hB1 hi1 hZ1 hz1 ⊢
  have HB1 := Lib.hid hB1
  have g1 := (HE.out.fresh hB1).c1
  have g2 := (HE.out.fresh hB1).c2
  have g3 := (HE.out.fresh hB1).glt
  have i0 : W2.cell? ⟨w.heap.size, 0, none⟩ = some (.int .i64 b) := cell_of_row W2 _ 0 _ 61 (0, 0) hi1
  have i1 : W2.cell? ⟨w.heap.size, 1, none⟩ = some (.int .i64 0) := cell_of_row W2 _ 1 _ 61 (0, 0) hi1
  have i2 : W2.cell? ⟨w.heap.size, 2, none⟩ = some (.string s) := cell_of_row W2 _ 2 _ 61 (0, 0) hi1
  have g4 : w.heap.size < W2.heap.size := by omega
  have HZ1 := Lib.hid hZ1
  have Hz1 := Lib.hid hz1
  clear hB1 hi1 hZ1 hz1 e0 e1 e2
  go_region
  all_goals
    go_wp2
    have hA0 : Adds W2 ((W2.alloc (Obj.cells #[Value.int IntKind.i64 k, Value.int IntKind.i64 b, Value.int IntKind.i64 0, Value.string s, Value.slice none 0 0, Value.bool false] 98)).drew) k b s 0 none 0 0 [] := ⟨Nat.le_refl _, heap_alloc_new W2 _, World.ownsRow_nil _ _ _ _, ((Below.refl _ _).alloc (Nat.le_refl _) _).drew⟩
    generalize (W2.alloc (Obj.cells #[Value.int IntKind.i64 k, Value.int IntKind.i64 b, Value.int IntKind.i64 0, Value.string s, Value.slice none 0 0, Value.bool false] 98)).drew = W3 at hA0 ⊢
    have HA0 := Lib.hid hA0
    have Hlb := Lib.hid hlb
    clear hA0 hlb g1 g2 g3 i0 i1 i2
    obtain ⟨p, hp⟩ : ∃ p, p = W2.heap.size := ⟨_, rfl⟩
    have Hp := Lib.hid hp
    rw [← hp]
    clear hp
    go_loopw [52] (fun i wr => ∃ (q : Nat) (A2 : Option Addr) (n2 c2 : Nat) (xs : List Value), q ≤ l.length ∧ i = .int .i64 q ∧ Adds W2 wr k b s q A2 n2 c2 xs) (fun i _ => l.length - (intOf i).toNat)
    case atStart => exact ⟨0, none, 0, 0, [], Nat.zero_le _, rfl, HA0.out⟩
    case round =>
      obtain ⟨q, A2, n2, c2, xs, hq, rfl, hA⟩ := hrel
      rename World => wr
      obtain ⟨hn2, hpb, hrow, hB⟩ := hA
      rw [← Hp.out] at hpb
      have HE2 := Lib.hid (HE.out.fresh (HB1.out.trans (hB.mono (by omega))))
      by_cases hlt : q < l.length
      · have hlti : (q : Int) < (l.length : Int) := by omega
        have hk0 : (0 : Int) ≤ (q : Int) := by omega
        obtain ⟨ab, cap', hv, h1, h2, hab, hcs⟩ := wrow_at HE2.out.row hlt
        cases hv
        have d0 : wr.cell? ⟨ab, q * 6, none⟩ = some (.int .i64 (wn l q).num) := hcs 0 (by omega)
        have d1 : wr.cell? ⟨ab, q * 6 + 1, none⟩ = some (.int .i64 (wn l q).b) := hcs 1 (by omega)
        have d2 : wr.cell? ⟨ab, q * 6 + 2, none⟩ = some (.int .i64 0) := hcs 2 (by omega)
        have d3 : wr.cell? ⟨ab, q * 6 + 3, none⟩ = some (.string s) := by rw [Hs.out]; exact hcs 3 (by omega)
        have d4 : wr.cell? ⟨ab, q * 6 + 4, none⟩ = some (.slice (wn l q).A (wn l q).n (wn l q).c) := hcs 4 (by omega)
        have d5 : wr.cell? ⟨ab, q * 6 + 5, none⟩ = some (.bool false) := hcs 5 (by omega)
        have hyb : 0 ≤ (wn l q).b ∧ (wn l q).b < 40 := by rw [wn_lt hlt]; exact Hlb.out _ (List.getElem_mem _)
        generalize (wn l q).b = y at d1 hyb
        generalize (wn l q).num = ny at d0
        generalize (wn l q).A = a4 at d4
        generalize (wn l q).n = n4 at d4
        generalize (wn l q).c = c4 at d4
        have hq200 : q < 200 := by omega
        have hzb := (hB.block (w.heap.size + 1) (by have := Hz1.out; omega)).trans HZ1.out
        have hzq : wr.cell? ⟨w.heap.size + 1, q, none⟩ = some (.bool false) := by
          have e := HZ.out
          rw [cell_of_row wr _ q _ 110 (0, 0) hzb, e, zero110_at hq200]
        have hzs : w.heap.size + 1 < wr.heap.size := (Array.getElem?_eq_some_iff.1 hzb).1
        have p0 : wr.cell? ⟨p, 0, none⟩ = some (.int .i64 k) := cell_of_row wr _ 0 _ 98 (0, 0) hpb
        have p1 : wr.cell? ⟨p, 1, none⟩ = some (.int .i64 b) := cell_of_row wr _ 1 _ 98 (0, 0) hpb
        have p2 : wr.cell? ⟨p, 2, none⟩ = some (.int .i64 0) := cell_of_row wr _ 2 _ 98 (0, 0) hpb
        have p3 : wr.cell? ⟨p, 3, none⟩ = some (.string s) := cell_of_row wr _ 3 _ 98 (0, 0) hpb
        have p4 : wr.cell? ⟨p, 4, none⟩ = some (.slice A2 n2 c2) := cell_of_row wr _ 4 _ 98 (0, 0) hpb
        have hps : p < wr.heap.size := (Array.getElem?_eq_some_iff.1 hpb).1
        have hW2 : W2.heap.size + 1 ≤ wr.heap.size := by rw [← Hp.out]; exact hps
        have HAd : Hid (Adds W2 wr k b s q A2 n2 c2 xs) := ⟨hn2, by rw [← Hp.out]; exact hpb, hrow, hB⟩
        have hso : s.size ≤ maxLen := by rw [Hs.out]; decide
        have HO := Lib.hid (Pat.overlap_any ⟨y, 0, s⟩ ⟨b, 0, s⟩ · ⟨⟨by simp; omega, by simp; omega⟩, by simp, hso⟩ ⟨⟨by simp; omega, by simp; omega⟩, by simp, hso⟩)
        unfold Pat.Pt.v at HO
        dsimp only at HO
        have Hold : Hid (∀ j, (Value.slice A2 n2 c2).ownBlock = some j → W2.heap.size + 1 ≤ j) := fun j e => (hrow.lt j e).1
        have HR := Lib.hid hrow
        have HBr := Lib.hid hB
        have Hpb := Lib.hid hpb
        clear hzb hrow hB hpb hcs
        obtain ⟨i0, hi0, hz0, hz1, hz2⟩ := info_parts info3
        generalize (Pat.Pt.over ⟨y, 0, s⟩ ⟨b, 0, s⟩) = t at HO
        cases t
        · go_wp2_with (go_at_call 63; (with_reducible refine (HO.out _).mono ?_); rintro e wc ⟨rfl, hbc⟩; have HC := Lib.hid hbc; clear hbc)
          go_roundw
          case rel =>
            exact ⟨q + 1, A2, n2, c2, xs, by omega, by go_num, HAd.out.keep (((Below.refl _ _).alloc (Nat.le_refl _) _).trans (HC.out.mono (by simp)))⟩
          case measure => simp [intOf]; omega
        · go_wp2_with (first
            | (go_at_call 63; (with_reducible refine (HO.out _).mono ?_); rintro e wc ⟨rfl, hbc⟩; have HC : Hid (Below wr.heap.size wr wc) := ((Below.refl _ _).alloc (Nat.le_refl _) _).trans (hbc.mono (by simp)); have hob := (hbc.block wr.heap.size (by simp)).trans (heap_alloc_new wr _); have o0 : wc.cell? ⟨wr.heap.size, 0, none⟩ = some (.int .i64 ny) := cell_of_row wc _ 0 _ 98 (0, 0) hob; have p4c : wc.cell? ⟨p, 4, none⟩ = some (.slice A2 n2 c2) := (by rw [HC.out.cell (p := ⟨p, 4, none⟩) hps]; exact p4); have HRc := Lib.hid ((((Kept.fresh (S := fun _ => False) HC.out).row HR.out (fun _ _ q => q))).alloc (.cells #[.int .i64 ny] 3)); have Hnew : Hid (∀ ad, some (⟨wc.heap.size, 0, none⟩ : Addr) = some ad → ∀ j u, [Value.int .i64 ny][j]? = some u → (wc.alloc (.cells #[.int .i64 ny] 3)).cell? (ad.add j) = some u) := (fun ad e j u hu => (by cases e; exact World.news_of_block (heap_alloc_new wc _) j u hu)); have hz3 := HC.out.size; have hpc : p < wc.heap.size := Nat.lt_of_lt_of_le hps HC.out.size; clear hbc hob)
            | (at_builtin; refine wpList_append_src rfl (.tmp 68) (.tmp 71) 38 rfl (W2.heap.size + 1) 3 i0 (.int .i64 0) 1 8 Try.underlying38 hi0 hz0 hz1 hz2 rfl (by decide) (.slice A2 n2 c2) n2 xs rfl HRc.out (some ⟨wc.heap.size, 0, none⟩) 1 1 [.int .i64 ny] rfl rfl Hnew.out (fun e => by cases e) (by intro u hu; rw [List.mem_singleton] at hu; rw [hu]; rfl) (by unfold maxLen; omega) (by omega) (by simp; omega) (n2 + 1) rfl ?_; intro A3 c3 w2 ho2 hg2 hor2; have hB3 : Below (W2.heap.size + 1) wr w2 := ((HC.out.mono (by omega)).alloc (by have := HC.out.size; omega) _).grown hg2 (by have := HC.out.size; simp; omega) Hold.out; have HM := Lib.hid (HAd.out.more hB3 ho2); have m0 := HM.out.1.1; have m1 := HM.out.1.2; rw [← Hp.out] at m0 m1; have m2 : p < w2.heap.size := Nat.lt_of_lt_of_le hps hB3.size; clear ho2 hg2 hor2 hB3))
          go_roundw
          case rel =>
            have hm := HM.out.2
            rw [← Hp.out] at hm
            exact ⟨q + 1, A3, n2 + 1, c3, _, by omega, by go_num, hm⟩
          case measure => simp [intOf]; omega
      · obtain rfl : q = l.length := by omega
        have hlti : ¬ (l.length : Int) < (l.length : Int) := by omega
        have g2 := HE2.out.c2
        have g3 := HE2.out.glt
        have p0 : wr.cell? ⟨p, 0, none⟩ = some (.int .i64 k) := cell_of_row wr _ 0 _ 98 (0, 0) hpb
        have p1 : wr.cell? ⟨p, 1, none⟩ = some (.int .i64 b) := cell_of_row wr _ 1 _ 98 (0, 0) hpb
        have p2 : wr.cell? ⟨p, 2, none⟩ = some (.int .i64 0) := cell_of_row wr _ 2 _ 98 (0, 0) hpb
        have p3 : wr.cell? ⟨p, 3, none⟩ = some (.string s) := cell_of_row wr _ 3 _ 98 (0, 0) hpb
        have p4 : wr.cell? ⟨p, 4, none⟩ = some (.slice A2 n2 c2) := cell_of_row wr _ 4 _ 98 (0, 0) hpb
        have p5 : wr.cell? ⟨p, 5, none⟩ = some (.bool false) := cell_of_row wr _ 5 _ 98 (0, 0) hpb
        have hps : p < wr.heap.size := (Array.getElem?_eq_some_iff.1 hpb).1
        have HBr := Lib.hid hB
        clear hrow hB hpb
        have HP0 : Hid (∀ W, Below wr.heap.size wr W → W.cell? ⟨p, 0, none⟩ = some (.int .i64 k) ∧ W.cell? ⟨p, 1, none⟩ = some (.int .i64 b) ∧ W.cell? ⟨p, 2, none⟩ = some (.int .i64 0) ∧ W.cell? ⟨p, 3, none⟩ = some (.string s) ∧ W.cell? ⟨p, 4, none⟩ = some (.slice A2 n2 c2) ∧ W.cell? ⟨p, 5, none⟩ = some (.bool false)) := fun W hW => by
          have e : ∀ j, W.cell? ⟨p, j, none⟩ = wr.cell? ⟨p, j, none⟩ := fun j => hW.cell hps
          rw [e, e, e, e, e, e]
          exact ⟨p0, p1, p2, p3, p4, p5⟩
        have Hone : Hid (∀ u ∈ [Value.int .i64 k, .int .i64 b, .int .i64 0, .string s, .slice A2 n2 c2, .bool false], u.oneCell' = true) := by
          intro u hu
          simp at hu
          rcases hu with rfl | rfl | rfl | rfl | rfl | rfl <;> rfl
        have HX := Lib.hid (((HE2.out.row).drew).alloc (.cells #[.int .i64 k, .int .i64 b, .int .i64 0, .string s, .slice A2 n2 c2, .bool false] 98))
        have HN : Hid (∀ ad, some (⟨wr.heap.size, 0, none⟩ : Addr) = some ad → ∀ j u, [Value.int .i64 k, .int .i64 b, .int .i64 0, .string s, .slice A2 n2 c2, .bool false][j]? = some u → (wr.drew.alloc (.cells #[.int .i64 k, .int .i64 b, .int .i64 0, .string s, .slice A2 n2 c2, .bool false] 98)).cell? (ad.add j) = some u) := fun ad e j u hu => by
          cases e
          exact World.news_of_block (heap_alloc_new wr.drew _) j u hu
        have HBd : Hid (Below wr.heap.size wr (wr.drew.alloc (.cells #[.int .i64 k, .int .i64 b, .int .i64 0, .string s, .slice A2 n2 c2, .bool false] 98))) := ((Below.refl _ _).drew).alloc (Nat.le_refl _) _
        have hsA : (wr.alloc (.cells #[.int .i64 k, .int .i64 b, .int .i64 0, .string s, .slice A2 n2 c2, .bool false] 98)).cell? ⟨ge, 2, none⟩ = some (.slice A l.length cap) := (HE2.out.fresh ((Below.refl _ _).alloc (Nat.le_refl _) _)).c2
        have hne2 := World.new_ne wr ⟨ge, 2, none⟩ g2
        have hBw : B ≤ wr.heap.size := by have := HB1.out.size; have := HBr.out.size; omega
        obtain ⟨i0, hi0, hz0, hz1, hz2⟩ := info_parts info98
        go_wp2
        go_region_law (refine step_append_src rfl (.tmp 79) (.tmp 81) 80 rfl B 98 i0 (.agg #[.int .i64 0, .int .i64 0, .int .i64 0, .string ⟨#[]⟩, .slice none 0 0, .bool false]) 6 72 Try.underlying80 hi0 hz0 hz1 hz2 rfl (by decide) (.slice A l.length cap) l.length (flatW l) rfl HX.out (some ⟨wr.heap.size, 0, none⟩) 1 1 [.int .i64 k, .int .i64 b, .int .i64 0, .string s, .slice A2 n2 c2, .bool false] rfl rfl HN.out (fun e => by cases e) Hone.out (by unfold maxLen; omega) (by omega) (by simp; omega) (l.length + 1) (by omega) ?_; intro A3 c3 w2 ho2 hg2 hor2; rw [Hs.out] at ho2; obtain ⟨⟨t0, t1, t2⟩, hE3, hk3⟩ := HE2.out.pushed (x := ⟨k, b, A2, n2, c2⟩) HBd.out hg2 ho2; have HE3 := Lib.hid hE3; have HK3 := Lib.hid hk3; clear ho2 hg2 hor2 hE3 hk3)
        all_goals
          have u1 := HE3.out.c1
          have u2 := HE3.out.free 1
          have u3 := HE3.out.glt
          generalize w2.setCell ⟨ge, 2, none⟩ (.slice A3 (l.length + 1) c3) = w5 at HE3 HK3 u1 u2 u3 ⊢
          have HN5 := Lib.hid HE3.out.next
          clear t0 t1 t2
          go_wp2
          go_end0
          refine ⟨rfl, A3, c3, ⟨k, b, A2, n2, c2⟩, rfl, HN5.out.1, ?_⟩
          have K0 : Kept w wr (At ge (.slice A l.length cap)) := Kept.fresh (HB1.out.trans (HBr.out.mono HB1.out.size))
          exact (K0.trans HK3.out (fun b q => .inl q)).trans HN5.out.2 (fun b q => .inl (.inl q))
end Go.Proofs.Ythibnnllecdpaaa
