/- The document's stack in memory; Get, Has, Waiting. -/
import Derived.Test.YtibkipdadpidnaaC
set_option linter.unusedVariables false
set_option linter.unusedSimpArgs false
namespace Go.Proofs.Ytibkipdadpidnaa
open Go.RowKit
open Pat (Pt AllB undoP nth)
def getP (l : List On) (n : Int) : Option Pt := (l.find? fun x => decide (x.n = n)).map (·.p)
def isOn (l : List On) (n : Int) : Bool := (getP l n).isSome
def patP (l : List On) (n : Int) : Pt := (getP l n).getD Pat.zeroP
theorem getP_at : ∀ {l : List On} {n : Int} {j : Nat}, j < l.length → (onn l j).n = n → (∀ q, q < j → (onn l q).n ≠ n) → getP l n = some (onn l j).p
  | [], _, _, h, _, _ => by simp at h
  | x :: r, n, 0, _, e, _ => by
    have e' : x.n = n := e
    unfold getP
    rw [List.find?_cons_of_pos (by simpa using e')]; rfl
  | x :: r, n, j + 1, h, e, hno => by
    have h0 : x.n ≠ n := hno 0 (by omega)
    have := getP_at (l := r) (n := n) (j := j) (by simpa using h) e (fun q hq => hno (q + 1) (by omega))
    unfold getP at this ⊢
    rw [List.find?_cons_of_neg (by simpa using h0), this]; rfl
theorem getP_no {l : List On} {n : Int} (h : ∀ j, j < l.length → (onn l j).n ≠ n) : getP l n = none := by
  unfold getP
  rw [List.find?_eq_none.2 (fun x hx => ?_)]
  · rfl
  · obtain ⟨j, hj, rfl⟩ := List.mem_iff_getElem.1 hx
    have := h j hj
    rw [onn_lt hj] at this
    simpa using this
theorem getP_some {l : List On} {n : Int} {p : Pt} (h : getP l n = some p) : ∃ x ∈ l, x.n = n ∧ x.p = p := by
  unfold getP at h
  obtain ⟨x, hx, rfl⟩ := Option.map_eq_some_iff.1 h
  exact ⟨x, List.mem_of_find?_eq_some hx, by simpa using List.find?_some hx, rfl⟩
theorem isOn_iff {l : List On} {n : Int} : isOn l n = true ↔ ∃ x ∈ l, x.n = n := by
  constructor
  · intro h
    obtain ⟨p, e⟩ := Option.isSome_iff_exists.1 h
    obtain ⟨x, hx, e, _⟩ := getP_some e
    exact ⟨x, hx, e⟩
  · rintro ⟨x, hx, rfl⟩
    cases q : getP l x.n with
    | some p => unfold isOn; rw [q]; rfl
    | none =>
      unfold getP at q
      rw [Option.map_eq_none_iff, List.find?_eq_none] at q
      exact absurd (q x hx) (by simp)
/-- numbers rise -/
def RiseO (l : List On) : Prop := l.Pairwise fun x y => x.n < y.n
theorem rise_inj {l : List On} (h : RiseO l) : ∀ {x y : On}, x ∈ l → y ∈ l → x.n = y.n → x = y := by
  induction l with
  | nil => intro x y hx; cases hx
  | cons a r ih =>
    obtain ⟨h1, h2⟩ := List.pairwise_cons.1 h
    intro x y hx hy e
    rcases List.mem_cons.1 hx with e1 | q1 <;> rcases List.mem_cons.1 hy with e2 | q2
    · rw [e1, e2]
    · have := h1 _ q2; rw [e1] at e; omega
    · have := h1 _ q1; rw [e2] at e; omega
    · exact ih h2 q1 q2 e
theorem getP_mem {l : List On} (h : RiseO l) {x : On} (hx : x ∈ l) : getP l x.n = some x.p := by
  cases q : getP l x.n with
  | some p =>
    obtain ⟨y, hy, e, rfl⟩ := getP_some q
    rw [rise_inj h hy hx e]
  | none =>
    have := (isOn_iff (l := l) (n := x.n)).2 ⟨x, hx, rfl⟩
    unfold isOn at this; rw [q] at this; cases this
theorem patP_mem {l : List On} (h : RiseO l) {x : On} (hx : x ∈ l) : patP l x.n = x.p := by unfold patP; rw [getP_mem h hx]; rfl
theorem patP_right {l : List On} (h : Rights l) {n : Int} (hn : isOn l n = true) : (patP l n).right = true := by
  obtain ⟨p, e⟩ := Option.isSome_iff_exists.1 hn
  obtain ⟨x, hx, _, rfl⟩ := getP_some e
  unfold patP; rw [e]; exact h x hx
theorem patP_ok {l : List On} (h : Rights l) (n : Int) : (patP l n).ok := by
  cases q : isOn l n with
  | true => exact Pat.ok_of (patP_right h q)
  | false =>
    have : getP l n = none := by simpa [isOn] using q
    unfold patP; rw [this]
    exact ⟨by simp [Pat.zeroP], by simp [Pat.zeroP], Nat.zero_le _⟩
/-- the cells of one that is on -/
def On.cs (x : On) : List Value := [.int .i64 x.n, .int .i64 x.p.b, .int .i64 x.p.o, .string x.p.s]
def flatO (l : List On) : List Value := l.flatMap On.cs
theorem flatO_cons (h : On) (l : List On) : flatO (h :: l) = h.cs ++ flatO l := by simp [flatO]
theorem flatO_append (a b : List On) : flatO (a ++ b) = flatO a ++ flatO b := by simp [flatO]
theorem length_flatO (l : List On) : (flatO l).length = l.length * 4 := by
  induction l with
  | nil => rfl
  | cons h r ih => rw [flatO_cons, List.length_append, ih]; simp [On.cs]; omega
theorem flatO_take (l : List On) (k : Nat) : (flatO l).take (k * 4) = flatO (l.take k) := by
  induction l generalizing k with
  | nil => simp [flatO]
  | cons h r ih =>
    cases k with
    | zero => simp [flatO]
    | succ k => rw [List.take_succ_cons, flatO_cons, flatO_cons, ← ih, show (k + 1) * 4 = k * 4 + 4 by omega]; simp [On.cs]
theorem flatO_drop (l : List On) (k : Nat) : (flatO l).drop (k * 4) = flatO (l.drop k) := by
  induction l generalizing k with
  | nil => simp [flatO]
  | cons h r ih =>
    cases k with
    | zero => simp
    | succ k => rw [List.drop_succ_cons, flatO_cons, ← ih, show (k + 1) * 4 = k * 4 + 4 by omega]; simp [On.cs]
theorem flatO_get {l : List On} {k j : Nat} (hk : k < l.length) (hj : j < 4) : (flatO l)[k * 4 + j]? = (onn l k).cs[j]? := by
  have h := List.getElem?_drop (xs := flatO l) (i := k * 4) (j := j)
  rw [← h, flatO_drop, List.drop_eq_getElem_cons hk, flatO_cons, List.getElem?_append_left (by simpa [On.cs] using hj), onn_lt hk]
theorem flatO_one (l : List On) : ∀ u ∈ flatO l, u.oneCell' = true := by
  intro u hu
  obtain ⟨h, _, hm⟩ := List.mem_flatMap.1 hu
  simp [On.cs] at hm
  rcases hm with rfl | rfl | rfl | rfl <;> rfl
/-- a stack: the bytes without any, those that are on, the next number -/
structure Sk where
  f : List Int
  l : List On
  k : Int
/-- the document's stack in memory -/
structure RefAt (B : Nat) (w : World) (r : Nat) (bA : Option Addr) (bc : Nat) (A : Option Addr) (c : Nat) (s : Sk) : Prop where
  head : w.heap[r]? = some (.cells #[.slice bA 32 bc, .slice A s.l.length c, .int .i64 s.k] 95 (0, 0))
  base : w.ownsRow 0 5 1 (.slice bA 32 bc) 32 (Pat.bytesV s.f)
  row : w.ownsRow 0 97 4 (.slice A s.l.length c) s.l.length (flatO s.l)
  lo : B ≤ r
  all : AllB s.f
/-- a block that is one stack's own cells -/
def HeadB (w : World) (b : Nat) : Prop := ∃ cur t, w.heap[b]? = some (.cells cur t (0, 0)) ∧ (t = 95 ∨ t = 82)
theorem own_notHead {w : World} {B size n c : Nat} {t : TypeId} {A : Option Addr} {xs : List Value} (h : w.ownsRow B t size (.slice A n c) n xs) (ht : t ≠ 95 ∧ t ≠ 82) : ∀ b, own A = some b → ¬ HeadB w b := by
  rintro b e ⟨cur, t', hb, ht'⟩
  rcases h.2 with ⟨z, _⟩ | ⟨k2, cap, cur2, z, _, hk, _⟩
  · obtain ⟨rfl, _⟩ := Value.slice.inj z; cases e
  · obtain ⟨rfl, _⟩ := Value.slice.inj z
    obtain rfl : k2 = b := by simpa [own] using e
    have := hk.symm.trans hb
    simp only [Option.some.injEq, Obj.cells.injEq] at this
    rcases ht' with rfl | rfl
    · exact ht.1 this.2.1
    · exact ht.2 this.2.1
namespace RefAt
variable {B : Nat} {w w' : World} {r : Nat} {bA A : Option Addr} {bc c : Nat} {s : Sk}
theorem len (h : RefAt B w r bA bc A c s) : s.f.length = 32 := by have := h.base.1; simpa [Pat.bytesV] using this
theorem glt (h : RefAt B w r bA bc A c s) : r < w.heap.size := (Array.getElem?_eq_some_iff.1 h.head).1
theorem isHead (h : RefAt B w r bA bc A c s) : HeadB w r := ⟨_, _, h.head, .inl rfl⟩
theorem keep {S : Nat → Prop} (h : RefAt B w r bA bc A c s) (hk : Kept w w' S) (h1 : ¬ S r) (h2 : ∀ b, S b → HeadB w b) : RefAt B w' r bA bc A c s :=
  ⟨(hk.block r h.glt h1).trans h.head, hk.row h.base (fun b e s => own_notHead h.base ⟨by decide, by decide⟩ b (by rw [← own_eq bA 32 bc]; exact e) (h2 b s)),
    hk.row h.row (fun b e s => own_notHead h.row ⟨by decide, by decide⟩ b (by rw [← own_eq A _ c]; exact e) (h2 b s)), h.lo, h.all⟩
theorem fresh (h : RefAt B w r bA bc A c s) (hb : Below w.heap.size w w') : RefAt B w' r bA bc A c s := h.keep (S := fun _ => False) (Kept.fresh hb) (fun q => q) (fun _ q => q.elim)
theorem hcells (h : RefAt B w r bA bc A c s) : w.cell? ⟨r, 0, none⟩ = some (.slice bA 32 bc) ∧ w.cell? ⟨r, 1, none⟩ = some (.slice A s.l.length c) ∧ w.cell? ⟨r, 2, none⟩ = some (.int .i64 s.k) :=
  ⟨cell_of_row w r 0 _ _ (0, 0) h.head, cell_of_row w r 1 _ _ (0, 0) h.head, cell_of_row w r 2 _ _ (0, 0) h.head⟩
theorem free (h : RefAt B w r bA bc A c s) (j : Nat) : w.frozen? ⟨r, j, none⟩ = false := frozen_of_row w r j _ 95 h.head
theorem at_ (h : RefAt B w r bA bc A c s) {i : Nat} (hi : i < s.l.length) : ∃ b, A = some ⟨b, 0, none⟩ ∧ s.l.length ≤ c ∧ c ≤ maxLen ∧ b < w.heap.size ∧ w.cell? ⟨b, i * 4, none⟩ = some (.int .i64 (onn s.l i).n) ∧ w.cell? ⟨b, i * 4 + 1, none⟩ = some (.int .i64 (onn s.l i).p.b) ∧ w.cell? ⟨b, i * 4 + 2, none⟩ = some (.int .i64 (onn s.l i).p.o) ∧ w.cell? ⟨b, i * 4 + 3, none⟩ = some (.string (onn s.l i).p.s) := by
  obtain ⟨b, cap, q, hB, hb⟩ := h.row.form (by omega)
  obtain ⟨rfl, _, rfl⟩ := Value.slice.inj q
  have hc : ∀ j, j < 4 → w.cell? ⟨b, i * 4 + j, none⟩ = (onn s.l i).cs[j]? := fun j hj => by
    rw [h.row.cellAt (i * 4 + j) (by omega), flatO_get hi hj]
  exact ⟨b, rfl, (own_cap h.row).1, (own_cap h.row).2, hb, hc 0 (by omega), hc 1 (by omega), hc 2 (by omega), hc 3 (by omega)⟩
end RefAt
/-- a patch laid over a box of three cells -/
theorem box3 {w W : World} {g : Nat} {q : Pt} (h : Pat.Boxed W g q) (p : Pt) (hB : Below w.heap.size w W) (hg : w.heap.size ≤ g) :
    Pat.Boxed (((W.setCell ⟨g, 0, none⟩ (.int .i64 p.b)).setCell ⟨g, 1, none⟩ (.int .i64 p.o)).setCell ⟨g, 2, none⟩ (.string p.s)) g p ∧ Below w.heap.size w (((W.setCell ⟨g, 0, none⟩ (.int .i64 p.b)).setCell ⟨g, 1, none⟩ (.int .i64 p.o)).setCell ⟨g, 2, none⟩ (.string p.s)) :=
  ⟨((Pat.BlkIs.set_ h 0 _).set_ 1 _).set_ 2 _, ((hB.setCell (p := ⟨g, 0, none⟩) hg _).setCell (p := ⟨g, 1, none⟩) hg _).setCell (p := ⟨g, 2, none⟩) hg _⟩
section
variable (B r : Nat) (bA A : Option Addr) (bc c : Nat) (s : Sk) (n : Int) (w : World)
set_option maxRecDepth 100000 in
set_option maxHeartbeats 1000000 in
theorem rget_any (hC : RefAt B w r bA bc A c s) (hl : s.l.length ≤ 1000) : Calls Try.prog 36 #[.pointer (some ⟨r, 0, none⟩), .int .i64 n] w fun e w' => e = .returned (.tuple #[(patP s.l n).v, .bool (isOn s.l n)]) ∧ Below w.heap.size w w' := by
  have hr := hC.glt
  have HC := Lib.hid hC
  obtain ⟨W1, hW1⟩ : ∃ W1, W1 = w.alloc (.cells #[.int .i64 0, .int .i64 0, .string ⟨#[]⟩] 38) := ⟨_, rfl⟩
  have hB1 : Below w.heap.size w W1 := by rw [hW1]; exact (Below.refl _ _).alloc (Nat.le_refl _) _
  have hrow1 : Pat.Boxed W1 w.heap.size Pat.zeroP := by rw [hW1]; exact Pat.boxed1 w Pat.zeroP
  obtain ⟨z0, z1, z2⟩ := hrow1.cells
  simp only [Pat.zeroP] at z0 z1 z2
  have hfz : ∀ k, W1.frozen? ⟨w.heap.size, k, none⟩ = false := fun k => hrow1.frozen k
  have HX := Lib.hid (fun p => box3 hrow1 p hB1 (Nat.le_refl _))
  have HC1 := Lib.hid (hC.fresh hB1)
  have HB1 := Lib.hid hB1
  obtain ⟨_, c1, _⟩ := HC1.out.hcells
  have hs1 : W1.heap.size = w.heap.size + 1 := by rw [hW1]; simp
  clear hC
  go_enter Try.func36, Try.ntmps36
  go_wp2
  rw [← hW1]
  clear hW1
  go_loopw [6] (fun i wr => ∃ j : Nat, j ≤ s.l.length ∧ i = .int .i64 j ∧ W1 = wr ∧ Hid (∀ q, q < j → (onn s.l q).n ≠ n)) (fun i _ => s.l.length - (intOf i).toNat)
  case atStart => exact ⟨0, Nat.zero_le _, rfl, rfl, fun q h => absurd h (by omega)⟩
  case round =>
    obtain ⟨j, hj, rfl, rfl, hno⟩ := hrel
    have hj0 : (0 : Int) ≤ (j : Int) := by omega
    by_cases hlt : j < s.l.length
    · have hji : (j : Int) < (s.l.length : Int) := by omega
      obtain ⟨b, rfl, h1, h2, hb, d0, d1, d2, d3⟩ := HC1.out.at_ hlt
      unfold maxLen at h2
      by_cases he : (onn s.l j).n = n
      · have Hi := Lib.hid (getP_at hlt he hno.out)
        have heq : ((onn s.l j).n == n) = true := by simpa using he
        generalize (onn s.l j).n = y at *
        clear hno he
        go_wp2
        refine bodyPost_ret (v := .tuple #[(onn s.l j).p.v, .bool true]) ?_ rfl ⟨?_, (HX.out _).2⟩
        · exact Pat.results_cell_row_tmp rfl _ _ w.heap.size 38 (onn s.l j).p.cs.toArray (0, 0) _ rfl (HX.out _).1 Try.underlying38 rfl Pat.info38 _ rfl
        · unfold patP isOn; rw [Hi.out]; rfl
      · have Hs : Hid (∀ q, q < j + 1 → (onn s.l q).n ≠ n) := fun q hq => by
          by_cases e : q = j
          · rw [e]; exact he
          · exact hno.out q (by omega)
        have heq : ((onn s.l j).n == n) = false := by simpa using he
        generalize (onn s.l j).n = y at *
        clear hno he
        go_wp2
        go_roundw
        case rel => exact ⟨j + 1, by omega, by go_num, trivial, Hs.out⟩
        case measure => simp [intOf]; omega
    · obtain rfl : j = s.l.length := by omega
      have hji : ¬ (s.l.length : Int) < (s.l.length : Int) := by omega
      have Hi := Lib.hid (getP_no hno.out)
      clear hno
      go_wp2
      refine bodyPost_ret (v := .tuple #[Pat.zeroP.v, .bool false]) ?_ rfl ⟨?_, (HX.out Pat.zeroP).2⟩
      · exact Pat.results_cell_row_tmp rfl _ _ w.heap.size 38 Pat.zeroP.cs.toArray (0, 0) _ rfl (HX.out Pat.zeroP).1 Try.underlying38 rfl Pat.info38 _ rfl
      · unfold patP isOn; rw [Hi.out]; rfl
end
end Go.Proofs.Ytibkipdadpidnaa
