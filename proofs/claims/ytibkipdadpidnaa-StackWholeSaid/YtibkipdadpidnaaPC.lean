/- Contracts of the document's own 'Right', of 'writes', of 'ofOne'. -/
import Derived.Test.YtibkipdadpidnaaPB
namespace Go.Proofs.Ytibkipdadpidnaa.Pat
set_option linter.unusedVariables false
set_option linter.unusedSimpArgs false
set_option maxRecDepth 100000
open Go.RowKit

set_option maxHeartbeats 400000 in
theorem refright_any (p : Pt) (w : World) (hp : p.ok) :
    Calls Try.prog 79 #[p.v] w fun e w' => e = .returned (.bool p.right) ∧ Below w.heap.size w w' := by
  cases h : p.right
  · have h' : ¬ (0 ≤ p.b ∧ p.b < 96 ∧ 0 ≤ p.o ∧ p.o < 32 ∧ 1 ≤ p.s.size ∧ (p.s.size : Int) ≤ 32 - p.o) := fun e => by rw [Pt.right_in e] at h; cases h
    clear h
    obtain ⟨b, o, s⟩ := p
    obtain ⟨hb, ho, hs⟩ := hp
    unfold Pt.v
    unfold maxLen at hs
    simp only at *
    by_cases h1 : 0 ≤ b
    · by_cases h2 : b < 96
      · by_cases h3 : 0 ≤ o
        · by_cases h4 : o < 32
          · by_cases h5 : (1 : Int) ≤ (s.size : Int)
            · have h6 : ¬ (s.size : Int) ≤ 32 - o := by omega
              clear h'
              go_enter Try.func79, Try.ntmps79
              go_wp2
              go_ret
              exact ⟨by simp, (Below.refl _ _).alloc (Nat.le_refl _) _⟩
            · clear h'
              go_enter Try.func79, Try.ntmps79
              go_wp2
              go_ret
              exact ⟨rfl, (Below.refl _ _).alloc (Nat.le_refl _) _⟩
          · clear h'
            go_enter Try.func79, Try.ntmps79
            go_wp2
            go_ret
            exact ⟨rfl, (Below.refl _ _).alloc (Nat.le_refl _) _⟩
        · clear h'
          go_enter Try.func79, Try.ntmps79
          go_wp2
          go_ret
          exact ⟨rfl, (Below.refl _ _).alloc (Nat.le_refl _) _⟩
      · clear h'
        go_enter Try.func79, Try.ntmps79
        go_wp2
        go_ret
        exact ⟨rfl, (Below.refl _ _).alloc (Nat.le_refl _) _⟩
    · clear h'
      go_enter Try.func79, Try.ntmps79
      go_wp2
      go_ret
      exact ⟨rfl, (Below.refl _ _).alloc (Nat.le_refl _) _⟩
  · obtain ⟨h1, h2, h3, h4, h5, h6⟩ := Pt.right_out h
    clear h
    obtain ⟨b, o, s⟩ := p
    unfold Pt.v
    simp only at *
    have h7 : s.size ≤ 1000 := by omega
    go_enter Try.func79, Try.ntmps79
    go_wp2
    go_ret
    exact ⟨by simp, (Below.refl _ _).alloc (Nat.le_refl _) _⟩

/-- does a patch write the i-th byte? -/
def Pt.has (p : Pt) (i : Nat) : Bool := decide (p.o ≤ (i : Int)) && decide ((i : Int) < p.o + p.s.size)
theorem writes_any (p : Pt) (i : Nat) (w : World) (hp : p.right = true) :
    Calls Try.prog 82 #[p.v, .int .i64 (i : Int)] w fun e w' => e = .returned (.bool (p.has i)) ∧ Below w.heap.size w w' := by
  obtain ⟨h1, h2, h3, h4, h5, h6⟩ := Pt.right_out hp
  clear hp
  unfold Pt.has
  obtain ⟨b, o, s⟩ := p
  unfold Pt.v
  simp only at *
  have h7 : s.size ≤ 1000 := by omega
  by_cases h : o ≤ (i : Int)
  · go_enter Try.func82, Try.ntmps82
    go_wp2
    go_ret
    exact ⟨by simp [h], (Below.refl _ _).alloc (Nat.le_refl _) _⟩
  · go_enter Try.func82, Try.ntmps82
    go_wp2
    go_ret
    exact ⟨by simp; omega, (Below.refl _ _).alloc (Nat.le_refl _) _⟩

def BlkIs (w : World) (g : Nat) (t : TypeId) (l : List Value) : Prop := w.heap[g]? = some (.cells l.toArray t (0, 0))
theorem BlkIs.cell {w : World} {g : Nat} {t : TypeId} {l : List Value} (h : BlkIs w g t l) (k : Nat) : w.cell? ⟨g, k, none⟩ = l[k]? := by
  unfold BlkIs at h
  simp [World.cell?, h]
theorem BlkIs.frozen {w : World} {g : Nat} {t : TypeId} {l : List Value} (h : BlkIs w g t l) (k : Nat) : w.frozen? ⟨g, k, none⟩ = false := by
  unfold BlkIs at h
  simp [World.frozen?, h]
theorem BlkIs.set_ {w : World} {g : Nat} {t : TypeId} {l : List Value} (h : BlkIs w g t l) (k : Nat) (v : Value) : BlkIs (w.setCell ⟨g, k, none⟩ v) g t (l.set k v) := by
  unfold BlkIs at h ⊢
  simp [World.setCell, Array.getElem?_modify, h]
theorem BlkIs.lt {w : World} {g : Nat} {t : TypeId} {l : List Value} (h : BlkIs w g t l) : g < w.heap.size := by
  rcases Nat.lt_or_ge g w.heap.size with hlt | hge
  · exact hlt
  · unfold BlkIs at h; rw [Array.getElem?_eq_none hge] at h; cases h
theorem BlkIs.below {w w' : World} {g B : Nat} {t : TypeId} {l : List Value} (h : BlkIs w g t l) (hB : Below B w w') (hg : g < B) : BlkIs w' g t l := by
  unfold BlkIs at h ⊢
  rw [hB.block g hg]; exact h
theorem BlkIs.drew {w : World} {g : Nat} {t : TypeId} {l : List Value} (h : BlkIs w g t l) : BlkIs w.drew g t l := h

/-- a block that holds a patch -/
def Pt.cs (p : Pt) : List Value := [.int .i64 p.b, .int .i64 p.o, .string p.s]
def Boxed (w : World) (g : Nat) (p : Pt) : Prop := BlkIs w g 38 p.cs
theorem Boxed.cells {w : World} {g : Nat} {p : Pt} (h : Boxed w g p) : w.cell? ⟨g, 0, none⟩ = some (.int .i64 p.b) ∧ w.cell? ⟨g, 1, none⟩ = some (.int .i64 p.o) ∧ w.cell? ⟨g, 2, none⟩ = some (.string p.s) := ⟨h.cell 0, h.cell 1, h.cell 2⟩
theorem Boxed.below {w w' : World} {g B : Nat} {p : Pt} (h : Boxed w g p) (hB : Below B w w') (hg : g < B) : Boxed w' g p := BlkIs.below h hB hg
theorem boxed1 (w : World) (p : Pt) : Boxed (w.alloc (.cells p.cs.toArray 38)) w.heap.size p := heap_alloc_new w _
theorem boxed2 (w : World) (p q : Pt) : Boxed ((w.alloc (.cells p.cs.toArray 38)).alloc (.cells q.cs.toArray 38)) w.heap.size p ∧ Boxed ((w.alloc (.cells p.cs.toArray 38)).alloc (.cells q.cs.toArray 38)) (w.heap.size + 1) q := by
  refine ⟨?_, ?_⟩
  · exact (boxed1 w p).below ((Below.refl _ _).alloc (Nat.le_refl _) _) (by simp)
  · have := boxed1 (w.alloc (.cells p.cs.toArray 38)) q
    simpa using this
theorem below_alloc1 (w : World) (x : Obj) : Below w.heap.size w (w.alloc x) := (Below.refl _ w).alloc (Nat.le_refl _) x
theorem below_alloc2 (w : World) (x y : Obj) : Below w.heap.size w ((w.alloc x).alloc y) := (below_alloc1 w x).alloc (by simp) y
/-- two patches that came in, laid, and what a callee of the two leaves -/
theorem Boxed.two {w w1 : World} {p q : Pt} (hB : Below (w.heap.size + 1 + 1) ((w.alloc (.cells p.cs.toArray 38)).alloc (.cells q.cs.toArray 38)) w1) :
    Below w.heap.size w w1 ∧ Boxed w1 w.heap.size p ∧ Boxed w1 (w.heap.size + 1) q :=
  ⟨(below_alloc2 w _ _).trans (hB.mono (by omega)), (boxed2 w p q).1.below hB (by omega), (boxed2 w p q).2.below hB (by omega)⟩
/-- the same behind one callee more -/
theorem Boxed.more {w w1 w2 : World} {p q : Pt} (h : Below w.heap.size w w1 ∧ Boxed w1 w.heap.size p ∧ Boxed w1 (w.heap.size + 1) q) (hB : Below w1.heap.size w1 w2) :
    Below w.heap.size w w2 ∧ Boxed w2 w.heap.size p ∧ Boxed w2 (w.heap.size + 1) q :=
  ⟨h.1.trans (hB.mono h.1.size), h.2.1.below hB (BlkIs.lt h.2.1), h.2.2.below hB (BlkIs.lt h.2.2)⟩

def Pt.both (p q : Pt) : Bool := p.right && q.right && (p.b == q.b)
set_option maxHeartbeats 400000 in
theorem ofOne_any (p q : Pt) (w : World) (hp : p.ok) (hq : q.ok) :
    Calls Try.prog 75 #[p.v, q.v] w fun e w' => e = .returned (.bool (p.both q)) ∧ Below w.heap.size w w' := by
  unfold Pt.both
  have R1 := Lib.hid (fun w => right_any p w hp)
  have R2 := Lib.hid (fun w => right_any q w hq)
  have T := Lib.hid (fun w1 hB => @Boxed.two w w1 p q hB)
  cases h1 : p.right
  · rw [h1] at R1
    obtain ⟨b, o, s⟩ := p
    obtain ⟨b', o', s'⟩ := q
    unfold Pt.v at *
    simp only at *
    go_enter Try.func75, Try.ntmps75
    go_wp2_with (go_at_call 47; refine (R1.out _).mono ?_; rintro e w1 ⟨rfl, hB1⟩)
    go_ret
    exact ⟨rfl, (T.out _ (by simpa [Pt.cs] using hB1)).1⟩
  · cases h2 : q.right
    · rw [h1] at R1
      rw [h2] at R2
      clear h1 h2
      obtain ⟨b, o, s⟩ := p
      obtain ⟨b', o', s'⟩ := q
      unfold Pt.v at *
      simp only at *
      go_enter Try.func75, Try.ntmps75
      go_wp2_with fail
      refine (R1.out _).mono ?_
      rintro e w1 ⟨rfl, hB1⟩
      have t1 := T.out _ (by simpa [Pt.cs] using hB1)
      obtain ⟨_, b1, b2⟩ := id t1
      obtain ⟨c10, c11, c12⟩ := b1.cells
      obtain ⟨c20, c21, c22⟩ := b2.cells
      have T1 := Lib.hid t1
      simp only at *
      clear hB1 t1 b1 b2
      go_wp2_with fail
      refine (R2.out _).mono ?_
      rintro e w2 ⟨rfl, hB2⟩
      go_wp2
      go_ret
      exact ⟨rfl, (Boxed.more T1.out hB2).1⟩
    · rw [h1] at R1
      rw [h2] at R2
      clear h1 h2
      obtain ⟨b, o, s⟩ := p
      obtain ⟨b', o', s'⟩ := q
      unfold Pt.v at *
      simp only at *
      go_enter Try.func75, Try.ntmps75
      go_wp2_with fail
      refine (R1.out _).mono ?_
      rintro e w1 ⟨rfl, hB1⟩
      have t1 := T.out _ (by simpa [Pt.cs] using hB1)
      obtain ⟨_, b1, b2⟩ := id t1
      obtain ⟨c10, c11, c12⟩ := b1.cells
      obtain ⟨c20, c21, c22⟩ := b2.cells
      have T1 := Lib.hid t1
      simp only at *
      clear hB1 t1 b1 b2
      go_wp2_with fail
      refine (R2.out _).mono ?_
      rintro e w2 ⟨rfl, hB2⟩
      have t2 := Boxed.more T1.out hB2
      obtain ⟨_, b1, b2⟩ := id t2
      obtain ⟨d10, d11, d12⟩ := b1.cells
      obtain ⟨d20, d21, d22⟩ := b2.cells
      have T2 := Lib.hid t2
      simp only at *
      clear hB2 t2 b1 b2 c10 c11 c12 c20 c21 c22
      go_wp2
      go_ret
      exact ⟨rfl, T2.out.1⟩
end Go.Proofs.Ytibkipdadpidnaa.Pat
