/- The document's groups: State, turn; Has. -/
import Derived.Test.YtdndchoghhllmaaE
set_option linter.unusedVariables false
set_option linter.unusedSimpArgs false
namespace Go.Proofs.Ytdndchoghhllmaa
open Go.RowKit
def gs (L : List Gr) : List Gp := L.map (·.g)
theorem length_gs (L : List Gr) : (gs L).length = L.length := by simp [gs]
theorem gs_set (L : List Gr) (k : Nat) (q : Gr) : gs (L.set k q) = (gs L).set k q.g := by simp [gs, List.map_set]
theorem gs_at {L : List Gr} {k : Nat} (h : k < L.length) : (gs L)[k]'(by rw [length_gs]; exact h) = (grn L k).g := by simp [gs, grn_lt h]
theorem idxG_in {L : List Gr} {n : Int} (hnd : (nos (gs L)).Nodup) (h : n ∈ nos (gs L)) : ∃ k, k < L.length ∧ idxG L n = (k : Int) ∧ (grn L k).g = ofN (gs L) n ∧ (grn L k).g.n = n := by
  obtain ⟨g, hg, e⟩ := List.mem_map.1 h
  obtain ⟨q, hq, rfl⟩ := List.mem_map.1 hg
  have hany : L.any (fun q => isN n q.g) = true := List.any_eq_true.2 ⟨q, hq, isN_iff.2 e⟩
  have hk : L.findIdx (fun q => isN n q.g) < L.length := List.findIdx_lt_length_of_exists ⟨q, hq, isN_iff.2 e⟩
  have hn : (grn L (L.findIdx (fun q => isN n q.g))).g.n = n := by
    rw [grn_lt hk]
    exact isN_iff.1 (List.findIdx_getElem (w := hk))
  refine ⟨_, hk, by unfold idxG; rw [if_pos hany], ?_, hn⟩
  have := ofN_self hnd (List.mem_map.2 ⟨_, grn_mem hk, rfl⟩ : (grn L (L.findIdx (fun q => isN n q.g))).g ∈ gs L)
  rw [hn] at this
  exact this.symm
theorem idxG_out {L : List Gr} {n : Int} (h : n ∉ nos (gs L)) : idxG L n = -1 := idxG_no fun j hj e => h (by rw [← e]; exact in_nos (List.mem_map.2 ⟨_, grn_mem hj, rfl⟩))
theorem put_set {l : List Gp} (hn : (nos l).Nodup) {n : Int} {f : Gp → Gp} : ∀ {k : Nat} (hk : k < l.length), l[k].n = n → putN l n f = l.set k (f l[k]) := by
  induction l with
  | nil => intro k hk; exact absurd hk (by simp)
  | cons g r ih =>
    obtain ⟨n1, n2⟩ := List.nodup_cons.1 (show (g.n :: nos r).Nodup from hn)
    intro k hk e
    cases k with
    | zero =>
      have e' : g.n = n := e
      show (if g.n = n then f g else g) :: putN r n f = f g :: r
      rw [if_pos e']
      congr 1
      unfold putN
      conv => rhs; rw [← List.map_id r]
      refine List.map_congr_left fun b hb => ?_
      rw [if_neg (fun q => n1 (by rw [e', ← q]; exact in_nos hb))]
      rfl
    | succ k =>
      have hk' : k < r.length := by simpa using hk
      have e' : r[k].n = n := by simpa using e
      have hne : g.n ≠ n := fun q => n1 (by rw [q, ← e']; exact in_nos (List.getElem_mem hk'))
      show (if g.n = n then f g else g) :: putN r n f = g :: r.set k (f r[k])
      rw [if_neg hne, ih n2 hk' e']
/-- what a call that writes to the document's groups leaves -/
def RWent (B : Nat) (w : World) (r : Nat) (A : Option Addr) (x : Gs) (w' : World) : Prop :=
  ∃ A' c' L', RefAt B w' r A' c' L' x.k ∧ gs L' = x.l ∧ Kept w w' (OfR r A) ∧ ∀ b, own A' = some b → own A = some b ∨ w.heap.size ≤ b
/-- one field of a group stored over -/
theorem rset {B : Nat} {w : World} {r : Nat} {A : Option Addr} {c : Nat} {L : List Gr} {k : Int} (h : RefAt B w r A c L k) {b i j : Nat} {q : Gr} {u : Value} (hA : A = some ⟨b, 0, none⟩) (hi : i < L.length) (hj : j < 4)
    (hq : q.cs = (grn L i).cs.set j u) (hu : u.oneCell' = true) (hn : RowI w B q.pa q.pc q.g.p ∧ RowI w B q.aa q.ac q.g.a) :
    RefAt B (w.setCell ⟨b, i * 4 + j, none⟩ u) r A c (L.set i q) k ∧ Kept w (w.setCell ⟨b, i * 4 + j, none⟩ u) (OfR r A) := by
  subst hA
  have hk := Kept.set w b (i * 4 + j) u
  have hS : ∀ x, x = b → ¬ IntB w x := fun x e => by rw [e]; exact h.notInt b (.inr rfl)
  have hbr : b ≠ r := fun e => h.apart (by rw [← e]; rfl)
  have hrow : (w.setCell ⟨b, i * 4 + j, none⟩ u).ownsRow B 77 4 (.slice (some ⟨b, 0, none⟩) L.length c) L.length ((flatG L).set (i * 4 + j) u) := (h.row.stored (i * 4 + j) u).1
  rw [flatG_set hi q j u hq hj] at hrow
  refine ⟨⟨?_, by rw [List.length_set]; exact hrow, h.lo, fun y hy => ?_⟩, hk.more (fun x e => .inl (.inr (by rw [e]; rfl)))⟩
  · rw [List.length_set]
    exact (hk.block r h.glt (fun e => hbr e.symm)).trans h.head
  · have key : RowI w B y.pa y.pc y.g.p ∧ RowI w B y.aa y.ac y.g.a := by
      rcases List.mem_or_eq_of_mem_set hy with q1 | q1
      · exact h.nums y q1
      · rw [q1]; exact hn
    exact ⟨key.1.keep hk (fun x e s => hS x s (key.1.isInt x e)), key.2.keep hk (fun x e s => hS x s (key.2.isInt x e))⟩
def stG (l : List Gp) (n : Int) : Nat := if n ∈ nos l then (ofN l n).s else 0
section
variable (B r : Nat) (A : Option Addr) (c : Nat) (L : List Gr) (k n : Int) (w : World)
set_option maxRecDepth 100000 in
set_option maxHeartbeats 1000000 in
theorem rstate_any (hC : RefAt B w r A c L k) (hl : L.length ≤ 1000) (hnd : (nos (gs L)).Nodup) : Calls Try.prog 34 #[.pointer (some ⟨r, 0, none⟩), .int .i64 n] w fun e w' => e = .returned (.int .u8 (stG (gs L) n)) ∧ w = w' := by
  have HA := Lib.hid (rat_any B r A c L k n w hC hl)
  obtain ⟨c0, _⟩ := hC.hcells
  have hr := hC.glt
  by_cases hn : n ∈ nos (gs L)
  · obtain ⟨i, hi, e1, e2, _⟩ := idxG_in hnd hn
    have Hs : Hid (stG (gs L) n = (grn L i).g.s) := by unfold Hid stG; rw [if_pos hn, e2]
    obtain ⟨b, rfl, h1, h2, hb, _, d1, _⟩ := hC.at_ hi
    unfold maxLen at h2
    have hi0 : (0 : Int) ≤ (i : Int) := by omega
    have hii : (i : Int) < (L.length : Int) := by omega
    have hng : ¬ (i : Int) < 0 := by omega
    rw [e1] at HA
    generalize (grn L i).g.s = s at *
    clear hC hn hnd e1 e2
    go_enter Try.func34, Try.ntmps34
    go_wp2_with (refine HA.out.mono ?_; rintro e w' ⟨rfl, rfl⟩)
    go_ret
    exact ⟨by rw [Hs.out]; rfl, rfl⟩
  · have e1 := idxG_out hn
    have Hs : Hid (stG (gs L) n = 0) := by unfold Hid stG; rw [if_neg hn]
    rw [e1] at HA
    clear hC hn hnd e1
    go_enter Try.func34, Try.ntmps34
    go_wp2_with (refine HA.out.mono ?_; rintro e w' ⟨rfl, rfl⟩)
    go_ret
    exact ⟨by rw [Hs.out]; rfl, rfl⟩
end
set_option maxRecDepth 100000 in
set_option maxHeartbeats 1000000 in
theorem has_any (A : Option Addr) (c : Nat) (l : List Int) (n : Int) (w : World) (hl : l.length ≤ 1000) (hI : Ints w w.heap.size A l) :
    Calls Try.prog 63 #[.slice A l.length c, .int .i64 n] w fun e w' => e = .returned (.bool (decide (n ∈ l))) ∧ w = w' := by
  have HI := Lib.hid hI
  clear hI
  go_enter Try.func63, Try.ntmps63
  go_wp2
  go_loopw [5] (fun i wr => ∃ j : Nat, j ≤ l.length ∧ i = .int .i64 j ∧ w = wr ∧ Hid (∀ q, q < j → inn l q ≠ n)) (fun i _ => l.length - (intOf i).toNat)
  case atStart => exact ⟨0, Nat.zero_le _, rfl, rfl, fun q h => absurd h (by omega)⟩
  case round =>
    obtain ⟨j, hj, rfl, rfl, hno⟩ := hrel
    have hj0 : (0 : Int) ≤ (j : Int) := by omega
    by_cases hlt : j < l.length
    · have hji : (j : Int) < (l.length : Int) := by omega
      obtain ⟨b, off, rfl, hb, d0⟩ := HI.out.at_ hlt
      by_cases he : inn l j = n
      · have Hi : Hid (decide (n ∈ l) = true) := decide_eq_true (by rw [← he]; exact inn_mem hlt)
        have heq : (inn l j == n) = true := by simpa using he
        generalize inn l j = y at *
        clear hno he
        go_wp2
        go_ret
        exact ⟨by rw [Hi.out]; rfl, rfl⟩
      · have Hs : Hid (∀ q, q < j + 1 → inn l q ≠ n) := fun q hq => by
          by_cases e : q = j
          · rw [e]; exact he
          · exact hno.out q (by omega)
        have heq : (inn l j == n) = false := by simpa using he
        generalize inn l j = y at *
        clear hno he
        go_wp2
        go_roundw
        case rel => exact ⟨j + 1, by omega, by go_num, trivial, Hs.out⟩
        case measure => simp [intOf]; omega
    · obtain rfl : j = l.length := by omega
      have hji : ¬ (l.length : Int) < (l.length : Int) := by omega
      have Hi : Hid (decide (n ∈ l) = false) := decide_eq_false (fun h => by
        obtain ⟨q, hq, e⟩ := mem_inn h
        exact hno.out q hq e)
      clear hno
      go_wp2
      go_ret
      exact ⟨by rw [Hi.out]; rfl, rfl⟩
end Go.Proofs.Ytdndchoghhllmaa
