/- The document's own Right, Overlap and Apply of patches. -/
import Derived.Test.YtkldiofleepkfaaGreatH4
import Derived.BigRegion
import Derived.Laws.AppendOwnNone
set_option linter.unusedVariables false
set_option linter.unusedSimpArgs false
namespace Go.Proofs.YtkldiofleepkfaaGreat
open Go.RowKit

/-- bytes in a block of their own, and no error -/
def AnsO (w : World) (m : List Int) (e : Ending) (w' : World) : Prop := Below w.heap.size w w' ∧ ∃ g c, e = .returned (.tuple #[.slice (some ⟨g, 0, none⟩) 32 c, .int .i64 0]) ∧ w.heap.size ≤ g ∧ 32 ≤ c ∧ c ≤ maxLen ∧ Bts w' w'.heap.size (some ⟨g, 0, none⟩) m ∧ m.length = 32
set_option maxHeartbeats 400000 in
theorem refright_any (p : Pt) (w : World) (hp : p.ok) :
    Calls Tryz.prog 83 #[p.v] w fun e w' => e = .returned (.bool p.right) ∧ Below w.heap.size w w' := by
  cases h : p.right
  · have h' : ¬ (0 ≤ p.b ∧ p.b < 96 ∧ 0 ≤ p.o ∧ p.o < 32 ∧ 1 ≤ p.s.size ∧ (p.s.size : Int) ≤ 32 - p.o) := fun e => by rw [Pt.right_in e] at h; cases h
    clear h
    obtain ⟨b, o, s⟩ := p
    obtain ⟨hb, ho, hs⟩ := hp
    unfold Pt.v
    unfold maxLen at hs
    simp only at *
    by_cases h1 : 0 ≤ b
    · by_cases h2 : b < 96
      · by_cases h3 : 0 ≤ o
        · by_cases h4 : o < 32
          · by_cases h5 : (1 : Int) ≤ (s.size : Int)
            · have h6 : ¬ (s.size : Int) ≤ 32 - o := by omega
              clear h'
              go_enter Tryz.func83, Tryz.ntmps83
              go_wp2
              go_ret
              exact ⟨by simp, (Below.refl _ _).alloc (Nat.le_refl _) _⟩
            · clear h'
              go_enter Tryz.func83, Tryz.ntmps83
              go_wp2
              go_ret
              exact ⟨rfl, (Below.refl _ _).alloc (Nat.le_refl _) _⟩
          · clear h'
            go_enter Tryz.func83, Tryz.ntmps83
            go_wp2
            go_ret
            exact ⟨rfl, (Below.refl _ _).alloc (Nat.le_refl _) _⟩
        · clear h'
          go_enter Tryz.func83, Tryz.ntmps83
          go_wp2
          go_ret
          exact ⟨rfl, (Below.refl _ _).alloc (Nat.le_refl _) _⟩
      · clear h'
        go_enter Tryz.func83, Tryz.ntmps83
        go_wp2
        go_ret
        exact ⟨rfl, (Below.refl _ _).alloc (Nat.le_refl _) _⟩
    · clear h'
      go_enter Tryz.func83, Tryz.ntmps83
      go_wp2
      go_ret
      exact ⟨rfl, (Below.refl _ _).alloc (Nat.le_refl _) _⟩
  · obtain ⟨h1, h2, h3, h4, h5, h6⟩ := Pt.right_out h
    clear h
    obtain ⟨b, o, s⟩ := p
    unfold Pt.v
    simp only at *
    have h7 : s.size ≤ 1000 := by omega
    go_enter Tryz.func83, Tryz.ntmps83
    go_wp2
    go_ret
    exact ⟨by simp, (Below.refl _ _).alloc (Nat.le_refl _) _⟩

/-- does a patch write the i-th byte? -/
def Pt.has (p : Pt) (i : Nat) : Bool := decide (p.o ≤ (i : Int)) && decide ((i : Int) < p.o + p.s.size)
theorem writes_any (p : Pt) (i : Nat) (w : World) (hp : p.right = true) :
    Calls Tryz.prog 84 #[p.v, .int .i64 (i : Int)] w fun e w' => e = .returned (.bool (p.has i)) ∧ Below w.heap.size w w' := by
  obtain ⟨h1, h2, h3, h4, h5, h6⟩ := Pt.right_out hp
  clear hp
  unfold Pt.has
  obtain ⟨b, o, s⟩ := p
  unfold Pt.v
  simp only at *
  have h7 : s.size ≤ 1000 := by omega
  by_cases h : o ≤ (i : Int)
  · go_enter Tryz.func84, Tryz.ntmps84
    go_wp2
    go_ret
    exact ⟨by simp [h], (Below.refl _ _).alloc (Nat.le_refl _) _⟩
  · go_enter Tryz.func84, Tryz.ntmps84
    go_wp2
    go_ret
    exact ⟨by simp; omega, (Below.refl _ _).alloc (Nat.le_refl _) _⟩


theorem over_iff {p q : Pt} (hb : p.both q = true) : p.over q = true ↔ ∃ i : Nat, i < 32 ∧ p.has i = true ∧ q.has i = true := by
  obtain ⟨hp, hq, _⟩ := Pt.both_out hb
  obtain ⟨p1, p2, p3, p4, p5, p6⟩ := Pt.right_out hp
  obtain ⟨q1, q2, q3, q4, q5, q6⟩ := Pt.right_out hq
  simp only [Pt.over, hb, Bool.true_and, Bool.and_eq_true, decide_eq_true_eq, Pt.has]
  constructor
  · rintro ⟨h1, h2⟩
    exact ⟨(max p.o q.o).toNat, by omega, by omega, by omega⟩
  · rintro ⟨i, _, h1, h2⟩
    omega

set_option maxRecDepth 100000 in
set_option maxHeartbeats 1000000 in
theorem refoverlap_any (p q : Pt) (w : World) (hp : p.ok) (hq : q.ok) :
    Calls Tryz.prog 28 #[p.v, q.v] w fun e w' => e = .returned (.bool (p.over q)) ∧ Below w.heap.size w w' := by
  have R1 := Lib.hid (fun W => refright_any p W hp)
  have R2 := Lib.hid (fun W => refright_any q W hq)
  have T0 := Lib.hid (St2.start w p q)
  have TN := Lib.hid (fun W (hB : Below (w.heap.size + 1 + 1) ((w.alloc (.cells p.cs.toArray 43)).alloc (.cells q.cs.toArray 43)) W) => T0.out.next (by simpa using hB))
  cases c1 : p.right with
  | false =>
    have ho : p.over q = false := by simp [Pt.over, Pt.both, c1]
    rw [c1] at R1
    rw [ho]
    clear c1 ho hp hq
    obtain ⟨b, o, s⟩ := p
    obtain ⟨b', o', s'⟩ := q
    unfold Pt.v at *
    simp only [Pt.cs] at *
    go_enter Tryz.func28, Tryz.ntmps28
    go_wp2_with fail
    refine (R1.out _).mono ?_
    rintro e w1 ⟨rfl, hB1⟩
    have T1 := Lib.hid (TN.out _ (by simpa using hB1))
    clear hB1
    go_wp2
    go_ret
    exact ⟨rfl, T1.out.1⟩
  | true =>
    cases c2 : q.right with
    | false =>
      have ho : p.over q = false := by simp [Pt.over, Pt.both, c2]
      rw [c1] at R1
      rw [c2] at R2
      rw [ho]
      clear c1 c2 ho hp hq
      obtain ⟨b, o, s⟩ := p
      obtain ⟨b', o', s'⟩ := q
      unfold Pt.v at *
      simp only [Pt.cs] at *
      go_enter Tryz.func28, Tryz.ntmps28
      go_wp2_with fail
      refine (R1.out _).mono ?_
      rintro e w1 ⟨rfl, hB1⟩
      have T1 := Lib.hid (TN.out _ (by simpa using hB1))
      obtain ⟨e0, e1, e2, e3, e4, e5⟩ := T1.out.cells
      simp only at e0 e1 e2 e3 e4 e5
      clear hB1
      go_wp2_with fail
      refine (R2.out _).mono ?_
      rintro e w2 ⟨rfl, hB2⟩
      have T2 := Lib.hid (T1.out.next hB2)
      clear hB2 e0 e1 e2 e3 e4 e5
      go_wp2
      go_ret
      exact ⟨rfl, T2.out.1⟩
    | true =>
      by_cases hb : p.b = q.b
      · have hbo : p.both q = true := by simp [Pt.both, c1, c2, hb]
        have Hov := Lib.hid (over_iff hbo)
        have W1 := Lib.hid (fun i W => writes_any p i W c1)
        have W2 := Lib.hid (fun i W => writes_any q i W c2)
        rw [c1] at R1
        rw [c2] at R2
        have hbb : (p.b == q.b) = true := by simp [hb]
        have hb2 : (q.b == p.b) = true := by simp [hb]
        have Hb := Lib.hid hb
        obtain ⟨f, hf⟩ : ∃ f : Nat → Bool, f = p.has := ⟨_, rfl⟩
        obtain ⟨g, hg⟩ : ∃ g : Nat → Bool, g = q.has := ⟨_, rfl⟩
        obtain ⟨ov, hov⟩ : ∃ ov, ov = p.over q := ⟨_, rfl⟩
        rw [← hf] at W1 Hov
        rw [← hg] at W2 Hov
        rw [← hov] at Hov ⊢
        clear c1 c2 hp hq hbo hb hf hg hov hbb hb2
        obtain ⟨b, o, s⟩ := p
        obtain ⟨b', o', s'⟩ := q
        obtain rfl : b = b' := Hb.out
        unfold Pt.v at *
        simp only [Pt.cs] at *
        go_enter Tryz.func28, Tryz.ntmps28
        go_wp2_with fail
        refine (R1.out _).mono ?_
        rintro e w1 ⟨rfl, hB1⟩
        have T1 := Lib.hid (TN.out _ (by simpa using hB1))
        obtain ⟨e0, e1, e2, e3, e4, e5⟩ := T1.out.cells
        simp only at e0 e1 e2 e3 e4 e5
        clear hB1
        go_wp2_with fail
        refine (R2.out _).mono ?_
        rintro e w2 ⟨rfl, hB2⟩
        have T2 := Lib.hid (T1.out.next hB2)
        clear hB2 e0 e1 e2 e3 e4 e5
        obtain ⟨e0, e1, e2, e3, e4, e5⟩ := T2.out.cells
        simp only at e0 e1 e2 e3 e4 e5
        go_wp2
        clear e0 e1 e2 e3 e4 e5
        go_loopw [5] (fun i wr => ∃ k : Nat, k ≤ 32 ∧ i = .int .i64 k ∧ St2 w ⟨b, o, s⟩ ⟨b, o', s'⟩ wr ∧ ∀ j, j < k → ¬ (f j = true ∧ g j = true)) (fun i _ => 32 - (intOf i).toNat)
        case atStart => exact ⟨0, by omega, rfl, T2.out, by omega⟩
        case round =>
          obtain ⟨k, hk, rfl, hst, hno⟩ := hrel
          rename World => wr
          have T := Lib.hid hst
          have No := Lib.hid hno
          clear hst hno
          by_cases hlt : k < 32
          · have hlti : (k : Int) < 32 := by omega
            obtain ⟨e0, e1, e2, e3, e4, e5⟩ := T.out.cells
            simp only at e0 e1 e2 e3 e4 e5
            have V1 := Lib.hid (W1.out k)
            have V2 := Lib.hid (W2.out k)
            cases hfk : f k with
            | false =>
              rw [hfk] at V1
              have hn' : Hid (∀ j, j < k + 1 → ¬ (f j = true ∧ g j = true)) := fun j hj => by
                by_cases e : j = k
                · subst e; rw [hfk]; simp
                · exact No.out j (by omega)
              clear hfk
              go_wp2_with fail
              refine (V1.out _).mono ?_
              rintro e w3 ⟨rfl, hB3⟩
              have T3 := Lib.hid (T.out.next hB3)
              clear hB3 e0 e1 e2 e3 e4 e5
              go_wp2
              go_roundw
              case rel => exact ⟨k + 1, by omega, by go_num, T3.out, hn'.out⟩
              case measure => simp [intOf]; omega
            | true =>
              rw [hfk] at V1
              cases hgk : g k with
              | false =>
                rw [hgk] at V2
                have hn' : Hid (∀ j, j < k + 1 → ¬ (f j = true ∧ g j = true)) := fun j hj => by
                  by_cases e : j = k
                  · subst e; rw [hgk]; simp
                  · exact No.out j (by omega)
                clear hfk hgk
                go_wp2_with fail
                refine (V1.out _).mono ?_
                rintro e w3 ⟨rfl, hB3⟩
                have T3 := Lib.hid (T.out.next hB3)
                clear hB3 e0 e1 e2 e3 e4 e5
                obtain ⟨e0, e1, e2, e3, e4, e5⟩ := T3.out.cells
                simp only at e0 e1 e2 e3 e4 e5
                go_wp2_with fail
                refine (V2.out _).mono ?_
                rintro e w4 ⟨rfl, hB4⟩
                have T4 := Lib.hid (T3.out.next hB4)
                clear hB4 e0 e1 e2 e3 e4 e5
                go_wp2
                go_roundw
                case rel => exact ⟨k + 1, by omega, by go_num, T4.out, hn'.out⟩
                case measure => simp [intOf]; omega
              | true =>
                rw [hgk] at V2
                have hy : Hid (ov = true) := Hov.out.2 ⟨k, hlt, hfk, hgk⟩
                clear hfk hgk
                go_wp2_with fail
                refine (V1.out _).mono ?_
                rintro e w3 ⟨rfl, hB3⟩
                have T3 := Lib.hid (T.out.next hB3)
                clear hB3 e0 e1 e2 e3 e4 e5
                obtain ⟨e0, e1, e2, e3, e4, e5⟩ := T3.out.cells
                simp only at e0 e1 e2 e3 e4 e5
                go_wp2_with fail
                refine (V2.out _).mono ?_
                rintro e w4 ⟨rfl, hB4⟩
                have T4 := Lib.hid (T3.out.next hB4)
                clear hB4 e0 e1 e2 e3 e4 e5
                go_wp2
                go_ret
                exact ⟨by rw [hy.out]; rfl, T4.out.1⟩
          · have hlti : ¬ (k : Int) < 32 := by omega
            have hy : Hid (ov = false) := by
              unfold Hid
              cases h : ov with
              | false => rfl
              | true =>
                obtain ⟨i, h1, h2, h3⟩ := Hov.out.1 h
                exact absurd ⟨h2, h3⟩ (No.out i (by omega))
            go_wp2
            go_ret
            exact ⟨by rw [hy.out]; rfl, T.out.1⟩
      · have ho : p.over q = false := by simp [Pt.over, Pt.both, hb]
        have hbb : (p.b == q.b) = false := by simp [hb]
        rw [c1] at R1
        rw [c2] at R2
        rw [ho]
        clear c1 c2 ho hp hq hb
        obtain ⟨b, o, s⟩ := p
        obtain ⟨b', o', s'⟩ := q
        unfold Pt.v at *
        simp only [Pt.cs] at *
        have hbn : ¬ b = b' := by simpa using hbb
        go_enter Tryz.func28, Tryz.ntmps28
        go_wp2_with fail
        refine (R1.out _).mono ?_
        rintro e w1 ⟨rfl, hB1⟩
        have T1 := Lib.hid (TN.out _ (by simpa using hB1))
        obtain ⟨e0, e1, e2, e3, e4, e5⟩ := T1.out.cells
        simp only at e0 e1 e2 e3 e4 e5
        clear hB1
        go_wp2_with fail
        refine (R2.out _).mono ?_
        rintro e w2 ⟨rfl, hB2⟩
        have T2 := Lib.hid (T1.out.next hB2)
        clear hB2 e0 e1 e2 e3 e4 e5
        obtain ⟨e0, e1, e2, e3, e4, e5⟩ := T2.out.cells
        simp only at e0 e1 e2 e3 e4 e5
        go_wp2
        go_ret
        exact ⟨rfl, T2.out.1⟩
/-- a slice that owns bytes -/
def OwnB (w : World) (B : Nat) (v : Value) (l : List Int) : Prop := w.ownsRow B 5 1 v l.length (bytesV l)
theorem info_own {w : World} {B g cap n : Nat} {l : List Int} (h : w.ownsRow B 5 1 (.slice (some ⟨g, 0, none⟩) n cap) n (bytesV l)) (hl : AllB l) : Bts w w.heap.size (some ⟨g, 0, none⟩) l ∧ l.length = n ∧ B ≤ g := by
  have hn : l.length = n := by have := h.1; simpa [bytesV] using this
  have hlt := h.lt g rfl
  refine ⟨⟨hl, fun hp => ⟨g, 0, rfl, hlt.2, fun j hj => ?_⟩⟩, hn, hlt.1⟩
  rw [Nat.zero_add, h.cellAt j (by omega), bytesV, List.getElem?_map, List.getElem?_eq_getElem hj, nth_lt hj]; rfl
theorem OwnB.form {w : World} {B : Nat} {v : Value} {l : List Int} (h : OwnB w B v l) (hl : AllB l) : ∃ A c, v = .slice A l.length c ∧ l.length ≤ c ∧ c ≤ maxLen ∧ Bts w w.heap.size A l := by
  rcases h.2 with ⟨rfl, hn⟩ | ⟨g, cap, cur, rfl, _, hg, hnc, hcm, _⟩
  · obtain rfl : l = [] := List.eq_nil_of_length_eq_zero hn
    exact ⟨none, 0, rfl, Nat.le_refl _, Nat.zero_le _, Bts.nil⟩
  · exact ⟨some ⟨g, 0, none⟩, cap, rfl, hnc, hcm, (info_own h hl).1⟩
theorem bytesV_set (l : List Int) (i : Nat) (v : Int) : (bytesV l).set i (.int .u8 v) = bytesV (l.set i v) := by
  unfold bytesV
  rw [List.map_set]
  rfl
theorem run_append_nil_bytes {w : World} (base : Nat) (ty : TypeId) (v : Value) (n : Nat) (xs : List Value) (hown : w.ownsRow base 5 1 v n xs) (c : Nat) :
    (Builtin.append_ #[32, 32] ty #[v, .slice none 0 c]).run Tryz.prog w = .ok v w := by
  obtain ⟨i0, hi, _⟩ := info_parts info5
  rcases hown.2 with ⟨rfl, rfl⟩ | ⟨g, cap, cur, rfl, _, _, hnc, _⟩
  · simp [Builtin.append_, run_underlying Tryz.underlying32, sizeOf, typeInfo, hi, Builtin.lenOf, Builtin.firstCells]
  · simp [Builtin.append_, run_underlying Tryz.underlying32, sizeOf, typeInfo, hi, Builtin.lenOf, Builtin.firstCells, hnc, storeCells]

/-- 'append(s, b...)' on a slice of the call's own, whatever bytes b are -/
theorem wpList_append_bytes {w : World} {ops : Array Oper} {rest : List Oper} {o : Oper} {a : Act} {Q : Exit → Act → World → Prop} (hgd : o.guard = none) (s x : Operand)
    (ho : o.op = .call { callee := .builtin .append, args := #[s, x], argTypes := #[32, 32] })
    (base : Nat) (v : Value) (n : Nat) (xs : List Value) (hs : a.eval s = v) (hown : w.ownsRow base 5 1 v n xs) (B : Nat) (A : Option Addr) (l : List Int) (c m : Nat) (hm : m = l.length) (hx : a.eval x = .slice A m c) (hb : Bts w B A l)
    (hlen : n + m ≤ 1000) (hbase : base ≤ w.heap.size)
    (h : ∀ v' w', w'.ownsRow base 5 1 v' (n + m) (xs ++ bytesV l) → w.grownBy w' v.ownBlock → wpList Tryz.prog ops Q rest (a.put o.dst v') w') : wpList Tryz.prog ops Q (o :: rest) a w := by
  subst hm
  obtain ⟨i0, hi, hz0, hz1, hz2⟩ := info_parts info5
  rcases A with _ | ad
  · have hl0 : l = [] := by
      rcases Nat.eq_zero_or_pos l.length with h0 | h0
      · exact List.eq_nil_of_length_eq_zero h0
      · obtain ⟨_, _, e, _⟩ := hb.2 h0; cases e
    subst hl0
    refine wpList_plain hgd fun K hK => ?_
    have hrun := run_append_nil_bytes (w := w) base o.type v n xs hown c
    have hx' : a.eval x = .slice none 0 c := hx
    unfold Oper.wp
    simp [execOp, ho, resolve, invoke, builtin, hs, hx', hrun, Result.andThen]
    exact hK _ _ (h v w (by simpa [bytesV] using hown) (World.grownBy.refl w _))
  · refine wpList_append_own w hgd s x 32 ho base 5 i0 (.int .u8 0) 1 1 Tryz.underlying32 hi hz0 hz1 hz2 rfl (by decide) v n xs hs hown ad l.length c (bytesV l) hx (by simp [bytesV]) ?_ (bytesV_one l) (by unfold maxLen; omega) (by omega) hbase fun v' w' h1 h2 _ => h v' w' h1 h2
    intro j u hj
    have hj' : j < l.length := by
      rcases Nat.lt_or_ge j l.length with h | h
      · exact h
      · rw [bytesV, List.getElem?_map, List.getElem?_eq_none h] at hj; cases hj
    obtain ⟨b, off, e, _, _⟩ := hb.at_ hj'
    obtain rfl := Option.some.inj e
    have e : (⟨b, off, none⟩ : Addr).add j = ⟨b, off + j, none⟩ := by unfold Addr.add; split <;> simp_all
    rw [e]
    exact hb.src j u hj

/-- 'append([]byte{}, b...)': a copy -/
theorem below_copy {w w1 : World} (hg : (w.alloc (.cells #[] 5)).grownBy w1 (some w.heap.size)) : Below w.heap.size w w1 :=
  ((Below.refl _ w).alloc (Nat.le_refl _) _).grown hg (by simp) (fun j e => by cases e; exact Nat.le_refl _)
theorem own_empty (w : World) : (w.alloc (.cells #[] 5)).ownsRow w.heap.size 5 1 (.slice (some ⟨w.heap.size, 0, none⟩) 0 0) 0 [] := World.ownsRow_made w #[] 0 (Nat.le_refl _) (by simp) (by simp)

/-- a block behind the first k bytes of a patch -/
def putK (l : List Int) (p : Pt) (k : Nat) : List Int := splice l p.o.toNat ((sb p.s).take k)
theorem putK_zero (l : List Int) (p : Pt) : putK l p 0 = l := by simp [putK, splice]
theorem putK_all (l : List Int) (p : Pt) : putK l p p.s.size = put l p := by unfold putK put; rw [← length_sb, List.take_length]
theorem putK_bytes {l : List Int} (h : AllB l) (p : Pt) (k : Nat) : AllB (putK l p k) := splice_all h (fun x hx => sb_all p.s x (List.mem_of_mem_take hx)) _
theorem length_putK {l : List Int} {p : Pt} (hp : p.right = true) (hl : l.length = 32) (k : Nat) : (putK l p k).length = 32 := by
  obtain ⟨_, _, h3, h4, h5, h6⟩ := Pt.right_out hp
  unfold putK
  rw [length_splice _ _ _ (by rw [List.length_take, length_sb]; omega), hl]
theorem putK_succ {l : List Int} {p : Pt} (hp : p.right = true) (hl : l.length = 32) (k : Nat) (hk : k < p.s.size) : putK l p (k + 1) = (putK l p k).set (p.o.toNat + k) (nth (sb p.s) k) := by
  obtain ⟨_, _, h3, h4, h5, h6⟩ := Pt.right_out hp
  have h1 := length_putK hp hl k
  have h2 := length_putK hp hl (k + 1)
  have hsb := length_sb p.s
  refine ext_nth (by rw [h2, List.length_set, h1]) fun i hi => ?_
  rw [nth_set, h1]
  unfold putK
  have t1 : ((sb p.s).take (k + 1)).length = k + 1 := by rw [List.length_take]; omega
  have t2 : ((sb p.s).take k).length = k := by rw [List.length_take]; omega
  rw [nth_splice _ _ _ _ (by rw [t1]; omega), nth_splice _ _ _ _ (by rw [t2]; omega), t1, t2, nth_take, nth_take]
  by_cases e : p.o.toNat + k = i
  · subst e
    rw [if_pos (by omega), if_pos (by omega), if_pos (by omega), show p.o.toNat + k - p.o.toNat = k by omega]
  · rw [if_neg (show ¬ (p.o.toNat + k = i ∧ i < 32) by omega)]
    by_cases h : p.o.toNat ≤ i ∧ i < p.o.toNat + k
    · rw [if_pos (by omega), if_pos h, if_pos (by omega), if_pos (by omega)]
    · rw [if_neg (by omega), if_neg h]

theorem ref_short (A : Option Addr) (n c : Nat) (p : Pt) (w : World) (h : n ≠ 32) :
    Calls Tryz.prog 144 #[.slice A n c, p.v] w fun e w' => e = .returned (.tuple #[.slice none 0 0, .int .i64 3]) ∧ Below w.heap.size w w' := by
  have h0 : ((n : Int) == 32) = false := by rw [beq_eq_false_iff_ne]; omega
  have h1 : (n == 32) = false := by rw [beq_eq_false_iff_ne]; exact h
  have h2 : ¬ (n : Int) = 32 := by omega
  clear h
  obtain ⟨b, o, s⟩ := p
  unfold Pt.v at *
  go_enter Tryz.func144, Tryz.ntmps144
  go_wp2
  go_ret2
  exact ⟨rfl, below_alloc1 w _⟩
theorem ref_no (A : Option Addr) (c : Nat) (p : Pt) (w : World) (hp : p.ok) (hr : p.right = false) :
    Calls Tryz.prog 144 #[.slice A 32 c, p.v] w fun e w' => e = .returned (.tuple #[.slice none 0 0, .int .i64 3]) ∧ Below w.heap.size w w' := by
  have R := Lib.hid (fun w => refright_any p w hp)
  rw [hr] at R
  have HN := Lib.hid (fun w1 hB => @St1.next w _ w1 p (St1.start w p) hB)
  clear hr hp
  obtain ⟨b, o, s⟩ := p
  unfold Pt.v at *
  simp only [Pt.cs] at *
  go_enter Tryz.func144, Tryz.ntmps144
  go_wp2_with fail
  refine (R.out _).mono ?_
  rintro e w1 ⟨rfl, hB1⟩
  go_wp2
  go_ret2
  exact ⟨rfl, (HN.out _ (by simpa using hB1)).1⟩

theorem nth_sb (s : ByteArray) (k : Nat) (h : k < s.size) : nth (sb s) k = (s[k].toNat : Int) := by
  rw [nth_lt (by rw [length_sb]; exact h)]
  simp [sb]
  rfl
theorem BlkIs.far {W : World} {g k : Nat} {t : TypeId} {l : List Value} (h : BlkIs W k t l) (hk : k ≠ g) (i : Nat) (v : Value) : BlkIs (W.setCell ⟨g, i, none⟩ v) k t l := by
  unfold BlkIs at *
  rw [Below.heap_setCell _ _ _ k (by intro e; exact hk e)]; exact h
theorem St1.set {w W : World} {p : Pt} {g : Nat} (h : St1 w p W) (h1 : w.heap.size ≤ g) (h2 : w.heap.size ≠ g) (i : Nat) (v : Value) : St1 w p (W.setCell ⟨g, i, none⟩ v) :=
  ⟨h.1.setCell (p := ⟨g, i, none⟩) h1 v, BlkIs.far h.2 h2 i v⟩

set_option maxRecDepth 100000 in
set_option maxHeartbeats 1000000 in
theorem ref_yes (A : Option Addr) (c : Nat) (l : List Int) (p : Pt) (w : World) (hb : Bts w w.heap.size A l) (hl : l.length = 32) (hr : p.right = true) :
    Calls Tryz.prog 144 #[.slice A 32 c, p.v] w (AnsO w (put l p)) := by
  obtain ⟨p1, p2, p3, p4, p5, p6⟩ := Pt.right_out hr
  have hps : p.s.size ≤ 1000 := by omega
  have R := Lib.hid (fun W => refright_any p W ⟨by omega, by omega, by unfold maxLen; omega⟩)
  rw [hr] at R
  have HN := Lib.hid (fun w1 hB => @St1.next w _ w1 p (St1.start w p) hB)
  have HB : Hid (∀ W, St1 w p W → Bts W W.heap.size A l) := fun W h => (hb.below h.1).more h.1.size
  have HZ := Lib.hid (putK_zero l p)
  have HA := Lib.hid (putK_all l p)
  have HK := Lib.hid (fun k => @length_putK l p hr hl k)
  have HS := Lib.hid (fun k => @putK_succ l p hr hl k)
  have HY := Lib.hid (putK_bytes hb.1 p)
  have Hl := Lib.hid hl
  clear hb hl hr
  obtain ⟨b, o, s⟩ := p
  obtain ⟨n, rfl⟩ := Int.eq_ofNat_of_zero_le p3
  simp only [Int.toNat_natCast] at HS
  unfold Pt.v at *
  simp only [Pt.cs] at *
  go_enter Tryz.func144, Tryz.ntmps144
  go_wp2_with fail
  refine (R.out _).mono ?_
  rintro e w1 ⟨rfl, hB1⟩
  have t1 := Lib.hid (HN.out _ (by simpa using hB1))
  have hbt := HB.out _ t1.out
  have hbt' : Bts (w1.alloc (.cells #[] 5)) w1.heap.size A l := hbt.below (below_alloc1 w1 _)
  clear hB1 hbt
  go_wp2_with (at_builtin; refine wpList_append_bytes rfl (.tmp 16) (.tmp 17) rfl w1.heap.size _ 0 [] rfl (own_empty w1) w1.heap.size A l c 32 Hl.out.symm rfl hbt' (by omega) (by simp) ?_)
  intro v' w2 hown hgrow
  have hB2 := below_copy hgrow
  have t2 := Lib.hid (t1.out.next hB2)
  obtain ⟨g, cap, rfl, hg1, hg2⟩ := hown.form (by omega)
  have Hown : Hid (w2.ownsRow w1.heap.size 5 1 (.slice (some ⟨g, 0, none⟩) 32 cap) 32 (bytesV (putK l ⟨b, n, s⟩ 0))) := by
    unfold Hid; rw [HZ.out]; simpa using hown
  clear hown hgrow hB2 hbt'
  go_wp2
  go_loopw [7] (fun i wr => ∃ k : Nat, k ≤ s.size ∧ i = .int .i64 k ∧ St1 w ⟨b, n, s⟩ wr ∧ wr.ownsRow w1.heap.size 5 1 (.slice (some ⟨g, 0, none⟩) 32 cap) 32 (bytesV (putK l ⟨b, n, s⟩ k))) (fun i _ => s.size - (intOf i).toNat)
  case atStart => exact ⟨0, Nat.zero_le _, rfl, t2.out, Hown.out⟩
  case round =>
    obtain ⟨k, hk, rfl, hst, hown⟩ := hrel
    rename World => wr
    obtain ⟨c0, c1, c2⟩ := hst.2.cells
    simp only at c0 c1 c2
    have T := Lib.hid hst
    have O := Lib.hid hown
    by_cases hlt : k < s.size
    · have hlti : (k : Int) < (s.size : Int) := by omega
      have hk0 : (0 : Int) ≤ (k : Int) := by omega
      have hc1 : wr.cell? ⟨g, n + k, none⟩ = some (.int .u8 (nth (putK l ⟨b, n, s⟩ k) (n + k))) := by
        rw [hown.cellAt _ (by omega), bytesV, List.getElem?_map, List.getElem?_eq_getElem (by rw [HK.out]; omega), nth_lt (by rw [HK.out]; omega)]; rfl
      have hf1 : wr.frozen? ⟨g, n + k, none⟩ = false := hown.frozenAt _
      have hsum : IntKind.i64.wrap ((n : Int) + (k : Int)) = ((n + k : Nat) : Int) := by rw [IntWalk.i64_in _ (by omega)]; omega
      have hnk : n + k < 32 := by omega
      clear hst hown
      go_wp2_with fail
      go_region
      all_goals go_wp2
      go_roundw
      case rel =>
        refine ⟨k + 1, by omega, by go_num, (T.out.set (by have := t1.out.1.size; omega) (by have := BlkIs.lt t1.out.2; omega) _ _).drew, ?_⟩
        have hs := (O.out.stored (n + k) (.int .u8 (s[k].toNat : Int))).1.drew
        rw [bytesV_set, ← nth_sb s k hlt, ← HS.out k hlt] at hs
        rw [← nth_sb s k hlt]
        exact hs
      case measure => simp [intOf]; omega
    · have hlti : ¬ (k : Int) < (s.size : Int) := by omega
      obtain rfl : k = s.size := by omega
      rw [HA.out] at O
      clear hst hown
      go_wp2
      go_ret2
      have hi := info_own O.out (putK_all l ⟨b, n, s⟩ ▸ HY.out s.size)
      have hcap : 32 ≤ cap ∧ cap ≤ maxLen := by
        rcases O.out.2 with ⟨e, _⟩ | ⟨g', cap', cur, e, _, _, h1, h2, _⟩
        · cases e
        · injection e with e1 e2 e3; subst e3; exact ⟨h1, h2⟩
      exact ⟨T.out.1, g, _, rfl, Nat.le_trans t1.out.1.size hg1, hcap.1, hcap.2, hi.1, hi.2.1⟩
end Go.Proofs.YtkldiofleepkfaaGreat
