/- Contract of forks. -/
import Derived.Test.YtpcindemkkdbbaaX
namespace Go.Proofs.Ytpcindemkkdbbaa
set_option linter.unusedVariables false
set_option linter.unusedSimpArgs false
open Go.RowKit

/-- the first k groups are laid -/
structure Half (w wr : World) (l : List Cy) (k : Nat) (R : Nat → Option Addr) (C : Nat → Nat) : Prop where
  blk : wr.heap[w.heap.size]? = some (.cells (flat7 l.length (fun j => if j < k then cellsC l R C j else zero7)).toArray 24 (0, 0))
  rows : Rows wr w.heap.size l (2 * k) R C
  below : Below w.heap.size w wr
theorem half_seven (l : List Cy) (k : Nat) (R : Nat → Option Addr) (C : Nat → Nat) (j : Nat) : (if j < k then cellsC l R C j else zero7).length = 7 := by split <;> rfl
theorem Rows.congr {w : World} {B m : Nat} {l : List Cy} {R R' : Nat → Option Addr} {C C' : Nat → Nat} (h : Rows w B l m R C) (hR : ∀ t, t < m → R' t = R t) (hC : ∀ t, t < m → C' t = C t) : Rows w B l m R' C' :=
  ⟨fun t ht => by rw [hR t ht, hC t ht]; exact h.row t ht, fun s t hs ht hn b hb => by rw [hR s hs] at hb; rw [hR t ht]; exact h.apart s t hs ht hn b hb⟩
theorem Rows.push {w' : World} {B m : Nat} {l : List Cy} {R : Nat → Option Addr} {C : Nat → Nat} {A : Option Addr} {c : Nat} {h0 : Nat} (h : Rows w' B l m R C) (hlow : ∀ t, t < m → ∀ b, own (R t) = some b → b < h0) (hr : RowI w' h0 A c (rowC l m)) (hB : B ≤ h0) :
    Rows w' B l (m + 1) (fun t => if t = m then A else R t) (fun t => if t = m then c else C t) := by
  refine ⟨fun t ht => ?_, fun s t hs ht hn b hb q => ?_⟩
  · by_cases e : t = m
    · subst e; simp only [if_true]; exact hr.more hB
    · simp only [if_neg e]; exact h.row t (by omega)
  · by_cases e : s = m
    · by_cases e2 : t = m
      · omega
      · simp only [if_pos e] at hb
        simp only [if_neg e2] at q
        have := (hr.lt hb).1
        have := hlow t (by omega) b q
        omega
    · simp only [if_neg e] at hb
      by_cases e2 : t = m
      · simp only [if_pos e2] at q
        have := (hr.lt q).1
        have := hlow s (by omega) b hb
        omega
      · simp only [if_neg e2] at q
        exact h.apart s t (by omega) (by omega) hn b hb q
theorem Half.turn {w wr w3 : World} {l : List Cy} {k : Nat} {R : Nat → Option Addr} {C : Nat → Nat} (h : Half w wr l k R C) (hk : k < l.length) (hB : Below wr.heap.size wr w3) {A A2 : Option Addr} {c d h0 : Nat} (hh : wr.heap.size ≤ h0)
    (hr1 : RowI w3 h0 A c (cyN l k).us) (hr2 : RowI w3 h0 A2 d (cyN l k).is) (hap : ∀ b, own A = some b → own A2 ≠ some b) :
    ∃ R' C', Half w (w3.setCells w.heap.size (k * 7) (cy7 (cyN l k) A c A2 d)) l (k + 1) R' C' := by
  have hg := lt_heap h.blk
  have hb3 := (hB.block _ hg).trans h.blk
  have h1 := setCells_cells w.heap.size 24 (cy7 (cyN l k) A c A2 d) (k * 7) w3 _ hb3
  have hl := length_flat7 (n := l.length) (half_seven l k R C)
  rw [List.toList_toArray, putL_eq _ _ _ (by rw [hl]; simp [cy7]; omega), put_flat7 (half_seven l k R C) hk rfl] at h1
  have hrow := h.rows.next hB
  have hlow : ∀ t, t < 2 * k → ∀ b, own (R t) = some b → b < wr.heap.size := fun t ht b hb => ((h.rows.row t ht).lt hb).2
  have p1 := hrow.push (A := A) (c := c) (h0 := h0) (fun t ht b hb => Nat.lt_of_lt_of_le (hlow t ht b hb) hh) (by rw [rowC_us]; exact hr1) (by omega)
  have hB0 : w.heap.size ≤ h0 := by omega
  have p2 : Rows w3 w.heap.size l (2 * k + 1 + 1) (fun t => if t = 2 * k + 1 then A2 else if t = 2 * k then A else R t) (fun t => if t = 2 * k + 1 then d else if t = 2 * k then c else C t) := by
    refine ⟨fun t ht => ?_, fun s t hs ht hn b hb q => ?_⟩
    · by_cases e : t = 2 * k + 1
      · subst e; simp only [if_true]; rw [rowC_is]; exact hr2.more hB0
      · simp only [if_neg e]; exact p1.row t (by omega)
    · have key : ∀ t b, t < 2 * k + 1 → own (if t = 2 * k then A else R t) = some b → own A2 ≠ some b := fun t b ht hb q => by
        by_cases e : t = 2 * k
        · rw [if_pos e] at hb; exact hap b hb q
        · rw [if_neg e] at hb
          have := hlow t (by omega) b hb
          have := (hr2.lt q).1
          omega
      by_cases e : s = 2 * k + 1
      · simp only [if_pos e] at hb
        by_cases e2 : t = 2 * k + 1
        · omega
        · simp only [if_neg e2] at q
          exact key t b (by omega) q hb
      · simp only [if_neg e] at hb
        by_cases e2 : t = 2 * k + 1
        · simp only [if_pos e2] at q
          exact key s b (by omega) hb q
        · simp only [if_neg e2] at q
          exact p1.apart s t (by omega) (by omega) hn b hb q
  refine ⟨fun t => if t = 2 * k + 1 then A2 else if t = 2 * k then A else R t, fun t => if t = 2 * k + 1 then d else if t = 2 * k then c else C t, ⟨?_, ?_, ?_⟩⟩
  rotate_left
  · rw [show 2 * (k + 1) = 2 * k + 1 + 1 by omega]
    refine p2.keep (setCells_kept _ _ _ _) fun t ht b hb => ?_
    have := (p2.row t ht).typed hb3 (by decide)
    intro q
    rw [q] at hb
    exact this hb
  · exact (h.below.trans (hB.mono (by omega))).trans ((setCells_kept _ _ _ _).below (fun b q => by omega) (by have := hB.size; omega))
  · rw [h1]
    have e := @flat7_congr l.length (fun j => if j = k then cy7 (cyN l k) A c A2 d else if j < k then cellsC l R C j else zero7) (fun j => if j < k + 1 then cellsC l (fun t => if t = 2 * k + 1 then A2 else if t = 2 * k then A else R t) (fun t => if t = 2 * k + 1 then d else if t = 2 * k then c else C t) j else zero7) fun j hj => by
      by_cases e : j = k
      · rw [if_pos e, if_pos (by omega), e]
        unfold cellsC
        dsimp only
        rw [if_neg (by omega : ¬ 2 * k = 2 * k + 1), if_pos rfl, if_neg (by omega : ¬ 2 * k = 2 * k + 1), if_pos rfl, if_pos rfl, if_pos rfl]
      · rw [if_neg e]
        by_cases e2 : j < k
        · rw [if_pos e2, if_pos (by omega)]
          unfold cellsC
          dsimp only
          rw [if_neg (by omega : ¬ 2 * j = 2 * k + 1), if_neg (by omega : ¬ 2 * j = 2 * k), if_neg (by omega : ¬ 2 * j = 2 * k + 1), if_neg (by omega : ¬ 2 * j = 2 * k), if_neg (by omega : ¬ 2 * j + 1 = 2 * k + 1), if_neg (by omega : ¬ 2 * j + 1 = 2 * k), if_neg (by omega : ¬ 2 * j + 1 = 2 * k + 1), if_neg (by omega : ¬ 2 * j + 1 = 2 * k)]
        · rw [if_neg e2, if_neg (by omega)]
    rw [e]
/-- copies of groups -/
def ForksSays (w : World) (l : List Cy) (e : Ending) (w' : World) : Prop := ∃ R C, e = .returned (.slice (some ⟨w.heap.size, 0, none⟩) l.length l.length) ∧ Grp w' w.heap.size w.heap.size l R C ∧ Below w.heap.size w w'
def SmallC (x : Cy) : Prop := x.us.length ≤ 1000 ∧ x.is.length ≤ 1000
def SmallL (l : List Cy) : Prop := l.length ≤ 1000 ∧ ∀ j, j < l.length → SmallC (cyN l j)
theorem take_cells (l : List Cy) (B : Nat) (w : World) (A : Option Addr) (h : Cyls w B A l) : ∃ (Af : Nat → Option Addr) (Cf : Nat → Nat) (Ag : Nat → Option Addr) (Cg : Nat → Nat), 0 < l.length → ∃ b off, A = some ⟨b, off, none⟩ ∧ b < B ∧ ∀ j, j < l.length → CyAt w B b (off + j * 7) (cyN l j) (Af j) (Cf j) (Ag j) (Cg j) := by
  by_cases h0 : 0 < l.length
  · obtain ⟨b, off, Af, Cf, Ag, Cg, h⟩ := h h0
    exact ⟨Af, Cf, Ag, Cg, fun _ => ⟨b, off, h⟩⟩
  · exact ⟨fun _ => none, fun _ => 0, fun _ => none, fun _ => 0, fun h => absurd h h0⟩

set_option maxRecDepth 100000 in
set_option maxHeartbeats 2000000 in
theorem forks_any (A : Option Addr) (c n : Nat) (l : List Cy) (hn : n = l.length) (w : World) (hs : SmallL l) (hI : Cyls w w.heap.size A l) :
    Calls Try.prog 60 #[.slice A n c] w (ForksSays w l) := by
  have hn1 : n ≤ 1000 := by have := hs.1; omega
  obtain ⟨M, hM, hmk⟩ := make_cyls n hn1
  have Hn := Lib.hid hn
  have HI := Lib.hid hI
  have HS := Lib.hid hs.2
  have H0 : Hid (Half w (w.alloc (.cells M 24)) l 0 (fun _ => none) (fun _ => 0)) := by
    refine ⟨?_, ⟨fun t ht => by omega, fun s t hs ht => by omega⟩, (Below.refl _ w).alloc (Nat.le_refl _) _⟩
    rw [Go.heap_alloc_new, ← hn]
    have : M = (flat7 n (fun _ => zero7)).toArray := by rw [← hM]
    rw [this]
    congr 3
  clear hM hI hs hn
  go_enter Try.func60, Try.ntmps60
  go_wp2_with fail
  clear hmk
  go_loopw [11] (fun i wr => ∃ k : Nat, k ≤ n ∧ i = .int .i64 k ∧ ∃ R C, Half w wr l k R C) (fun i _ => n - (intOf i).toNat)
  case atStart => exact ⟨0, Nat.zero_le _, rfl, _, _, H0.out⟩
  case round =>
    obtain ⟨k, hk, rfl, R, C, hH⟩ := hrel
    rename World => wr
    have hB := hH.below
    have hsz := lt_heap hH.blk
    by_cases hlt : k < n
    · have hlti : (k : Int) < (n : Int) := by omega
      have hk0 : (0 : Int) ≤ (k : Int) := by omega
      have hkl : k < l.length := by rw [← Hn.out]; exact hlt
      obtain ⟨b, off, Ak, ck, A2k, c2k, rfl, hb, hx⟩ := HI.out.at_ hkl
      replace hx := (hx.keep (w' := wr) hb (fun p hp => hB.cell hp)).more hB.size
      obtain ⟨c0, c1, c2, c3, c4, c5, c6, hU, hV⟩ := hx
      obtain ⟨s1, s2⟩ := HS.out k hkl
      have HF : Hid (∀ W, Below wr.heap.size wr W → Calls Try.prog 48 #[(cyN l k).v Ak ck A2k c2k] W (ForkSays W (cyN l k))) := fun W hW => fork_any (cyN l k) Ak ck A2k c2k W s1 s2 (hU.next hW) (hV.next hW)
      have HT := Lib.hid (fun (w3 : World) (hB3 : Below wr.heap.size wr w3) {A A2 : Option Addr} {c d h0 : Nat} hh hr1 hr2 hap => hH.turn (w3 := w3) hkl hB3 (A := A) (A2 := A2) (c := c) (d := d) (h0 := h0) hh hr1 hr2 hap)
      have HG : Hid (∀ w3, Below wr.heap.size wr w3 → w3.heap[w.heap.size]? = some (.cells (flat7 l.length (fun j => if j < k then cellsC l R C j else zero7)).toArray 24 (0, 0))) := fun w3 h3 => (h3.block _ hsz).trans hH.blk
      obtain ⟨x, hx⟩ : ∃ x, x = cyN l k := ⟨_, rfl⟩
      rw [← hx] at c0 c1 c2 c3 c4 c5 c6 HF HT
      clear hx hU hV s1 s2 hH
      obtain ⟨ix, bl, fb, fi, ro, us, is⟩ := x
      unfold Cy.v at HF
      simp only at c0 c1 c2 c3 c4 c5 c6 HF
      obtain ⟨n1, h1⟩ : ∃ n1, n1 = us.length := ⟨_, rfl⟩
      obtain ⟨n2, h2⟩ : ∃ n2, n2 = is.length := ⟨_, rfl⟩
      have H1 := Lib.hid h1
      have H2 := Lib.hid h2
      rw [← h1] at c5 HF
      rw [← h2] at c6 HF
      clear h1 h2
      go_wp2_with fail
      refine (HF.out _ ((Below.refl _ wr).alloc (Nat.le_refl _) _)).mono ?_
      rintro e w3 ⟨A', c', A2', d', rfl, hr1, hr2, hap, hB3⟩
      have hB4 : Below wr.heap.size wr w3 := ((Below.refl _ wr).alloc (Nat.le_refl _) _).trans (hB3.mono (by simp))
      have h3 := HG.out w3 hB4
      have hc3 : ∀ i, i < 7 → w3.cell? ⟨w.heap.size, k * 7 + i, none⟩ = zero7[i]? := fun i hi => by
        rw [cellAt_of h3, List.getElem?_toArray, at_flat7 (half_seven l k R C) hkl hi, if_neg (by omega)]
      have z0 := hc3 0 (by omega)
      have z1 := hc3 1 (by omega)
      have z2 := hc3 2 (by omega)
      have z3 := hc3 3 (by omega)
      have z4 := hc3 4 (by omega)
      have z5 := hc3 5 (by omega)
      have z6 := hc3 6 (by omega)
      have hf3 : ∀ i, w3.frozen? ⟨w.heap.size, i, none⟩ = false := fun i => frozen_of_row w3 _ i _ 24 h3
      have g0 := hf3 (k * 7)
      have g1 := hf3 (k * 7 + 1)
      have g2 := hf3 (k * 7 + 2)
      have g3 := hf3 (k * 7 + 3)
      have g4 := hf3 (k * 7 + 4)
      have g5 := hf3 (k * 7 + 5)
      have g6 := hf3 (k * 7 + 6)
      simp only [Nat.add_zero, zero7, List.getElem?_cons_zero, List.getElem?_cons_succ] at z0 z1 z2 z3 z4 z5 z6
      have HT2 := Lib.hid (HT.out w3 hB4 (h0 := (wr.alloc (.cells #[.int .i64 ix, .int .i64 bl, .int .i64 fb, .int .i64 fi, .int .i64 ro, .slice Ak n1 ck, .slice A2k n2 c2k] 24)).heap.size) (by simp) hr1 hr2 hap)
      clear hr1 hr2 hap hB3 hB4 h3 hc3 hf3 HT HG HF
      unfold Cy.v
      simp only
      go_wp2_with fail
      go_roundw
      case rel => exact ⟨k + 1, by omega, by go_num, HT2.out⟩
      case measure => simp [intOf]; omega
    · have hlti : ¬ (k : Int) < (n : Int) := by omega
      obtain rfl : k = n := by omega
      have HE : Hid (Grp wr w.heap.size w.heap.size l R C) := ⟨by
        rw [hH.blk]
        congr 3
        exact flat7_congr fun j hj => if_pos (by rw [Hn.out]; exact hj), Nat.le_refl _, by rw [← Hn.out]; exact hH.rows⟩
      have HB := Lib.hid hB
      clear hH hB
      go_wp2_with fail
      go_ret
      exact ⟨R, C, by rw [← Hn.out]; rfl, HE.out, HB.out⟩
end Go.Proofs.Ytpcindemkkdbbaa
