/- The program's groups: Engaged, Took. -/
import Derived.Test.YtdndchoghhllmaaS
set_option linter.unusedVariables false
set_option linter.unusedSimpArgs false
namespace Go.Proofs.Ytdndchoghhllmaa
open Go.RowKit Go.Maps Go.Sort Go.Shelf
theorem wpList_lookup_held {P : Program} {ops : Array Oper} {rest : List Oper} {o : Oper} {a : Act} {w : World} {Q : Exit → Act → World → Prop} (hg : o.guard = none) (m x : Operand) (t : TypeId) (hop : o.op = Op.lookup t m x false)
    (k e : TypeId) (K : Keyed P k) (ht : P.underlying t = some (.map k e)) {z : Value} (hz : (zeroValue e).run P w = .ok z w) (b n : Nat) (D : DataW Value)
    (hm : a.eval m = .map (some b)) (hown : w.ownsMap P k RV b n D) (key : Value) (kl : Lit) (hx : a.eval x = key) (hkey : keyOf P k key = some kl) (v : Value) (hat : D.atKey kl (.held z) = .held v)
    (h : wpList P ops Q rest (a.put o.dst v) w) : wpList P ops Q (o :: rest) a w := by
  refine wpList_plain hg fun K' hK' => ?_
  obtain ⟨u, ps, hrun, hv⟩ := hown.lookup K ht hz (zd := .held z) (zp := []) rfl hkey
  have : u = v := by
    rw [hat] at hv
    simp [RV] at hv
    exact hv.1
  subst this
  unfold Oper.wp
  simp [execOp, hop, hm, hx, hrun, Result.andThen]
  exact hK' _ _ h
/-- the step of a loop over the map of groups -/
theorem wpList_next_prs {P : Program} {ops : Array Oper} {rest : List Oper} {o : Oper} {a : Act} {w : World} {Q : Exit → Act → World → Prop} (hg : o.guard = none) (it : Operand) (hop : o.op = Op.next it false) (k : TypeId) (K : Keyed P k) (hk : P.underlying k = some (.int .i64))
    (b r n : Nat) (D : DataW Value) (left : Lit → Bool) (cnt : Nat) (hit : a.eval it = .pointer (some ⟨r, 0, none⟩)) (h : w.ranges P k RV b r n D left cnt) (L : List Pr)
    (hX : ∀ x : Int, left (.int .i64 x) = true → ∃ q ∈ L, q.g.n = x) (m3 : ∀ q ∈ L, ∀ z, D.atKey (.int .i64 q.g.n) z = .held (.pointer (some ⟨q.b, 0, none⟩)))
    (hDone : cnt = 0 → (∀ kl, left kl = false) → wpList P ops Q rest (a.put o.dst (.tuple #[.bool false])) w)
    (hMore : ∀ (q : Pr) (w' : World) (cnt' : Nat), q ∈ L → left (.int .i64 q.g.n) = true → WfI q.g.n → w'.ranges P k RV b r n D (fun z => left z && !z.sameKey (.int .i64 q.g.n)) cnt' → cnt' < cnt →
      w.grownBy w' (some r) → w'.heap.size = w.heap.size → (Instr.entry (.pointer (some ⟨r, 0, none⟩))).run P w' = .ok (.tuple #[.int .i64 q.g.n, .pointer (some ⟨q.b, 0, none⟩)]) w' → wpList P ops Q rest (a.put o.dst (.tuple #[.bool true, .int .i64 q.g.n, .pointer (some ⟨q.b, 0, none⟩)])) w') :
    wpList P ops Q (o :: rest) a w :=
  wpList_next_ranges w hg it hop k K RV (Value.int .i64) (fun v => v) (fun key kl hkey => by obtain ⟨x, rfl, _⟩ := Maps.keyOf_int_inv hk hkey; exact ⟨x, rfl⟩) (fun v y _ => ⟨v, rfl⟩) b r n D left cnt hit h hDone
    (fun x c kl y w' cnt' hkey hlk hv hat hrg hlt hgr hsz hen => by
      obtain ⟨x', ex, rfl, hwx⟩ := Maps.keyOf_int_inv hk hkey
      cases ex
      obtain ⟨q, hq, rfl⟩ := hX x hlk
      have e := m3 q hq (.held (.pointer none))
      rw [hat] at e
      unfold RV at hv
      injection hv with hv
      rw [← hv] at e
      injection e with e
      subst e
      exact hMore q w' cnt' hq hlk (WfI.of_wf hwx) hrg hlt hgr hsz hen)
theorem below_grown {w w' : World} (h : Below w.heap.size w w') : w.grownBy w' none := ⟨h.os, h.tape, h.output, h.size, fun k hk _ => h.block k hk⟩
theorem grown_below {B : Nat} {w w' : World} {r : Nat} (h : w.grownBy w' (some r)) (hr : B ≤ r) (hB : B ≤ w.heap.size) : Below B w w' := ⟨h.os, h.tape, h.output, h.size, fun k hk => h.block k (by omega) (by intro e; have := Option.some.inj e; omega)⟩
theorem strike_other (left : Lit → Bool) {x y : Int} (h : x ≠ y) : (fun z => left z && !z.sameKey (.int .i64 y)) (.int .i64 x) = left (.int .i64 x) := by
  have : (Lit.int .i64 x).sameKey (.int .i64 y) = false := Maps.sameKey_ne (ne_key h)
  simp [this]
theorem strike_self (left : Lit → Bool) (x : Int) : (fun z => left z && !z.sameKey (.int .i64 x)) (.int .i64 x) = false := by simp [Lit.sameKey]
section
variable (B c g mb : Nat) (L : List Pr) (k : Int) (w : World)
/-- Engaged under way: those that came and are engaged are in the set -/
def EnS (w wr : World) (mb sm r c : Nat) (D : DataW Value) (L : List Pr) (left : Lit → Bool) (cnt : Nat) : Prop :=
  wr.ranges Try.prog 3 RV mb r c D left cnt ∧ (∀ x : Int, left (.int .i64 x) = true → ∃ q ∈ L, q.g.n = x) ∧ Below w.heap.size w wr ∧
    ∃ d l, SetAt wr sm d l ∧ d + cnt ≤ Maps.size D ∧ ∀ x, x ∈ l ↔ ∃ q ∈ L, q.g.n = x ∧ q.g.s = 2 ∧ left (.int .i64 x) = false
set_option maxRecDepth 100000 in
set_option maxHeartbeats 2000000 in
theorem engaged_any (h : PrgAt B c w g mb L k) (hc : c < 1000000) (hr : Rises (Gs.engaged ⟨gp L, k⟩)) : Calls Try.prog 26 #[.pointer (some ⟨g, 0, none⟩)] w fun e w' =>
    ∃ A' c', e = .returned (.slice A' (Gs.engaged ⟨gp L, k⟩).length c') ∧ RowI w' w.heap.size A' c' (Gs.engaged ⟨gp L, k⟩) ∧ Below w.heap.size w w' := by
  obtain ⟨_, c1⟩ := h.hcells
  have hg := h.glt
  obtain ⟨D, m1, m2, m3⟩ := h.map
  have hsz := m1.size_le
  have HC := Lib.hid h
  have hmm := @run_makeMap Try.prog
  have hml := m1.lt
  have M1 : Hid ((w.alloc (.map #[] 0)).ownsMap Try.prog 3 RV mb c D) := m1.alloc _
  have M3 := Lib.hid m3
  have HEn : Hid (∀ x, x ∈ Gs.engaged ⟨gp L, k⟩ ↔ ∃ q ∈ L, q.g.n = x ∧ q.g.s = 2) := fun x => by
    rw [Gs.mem_engaged]
    constructor
    · rintro ⟨y, hy, e1, e2⟩
      obtain ⟨q, hq, rfl⟩ := List.mem_map.1 hy
      exact ⟨q, hq, e1, e2⟩
    · rintro ⟨q, hq, e1, e2⟩
      exact ⟨q.g, List.mem_map.2 ⟨q, hq, rfl⟩, e1, e2⟩
  have H0 : Hid (∀ w0, w0.ranges Try.prog 3 RV mb (w.heap.size + 1) c D (Maps.has D) (Maps.size D) → (w.alloc (.map #[] 0)).grownBy w0 none → EnS w w0 mb w.heap.size (w.heap.size + 1) c D L (Maps.has D) (Maps.size D)) := fun w0 hrg hg0 => by
    have hb0 : Below w.heap.size w (w.alloc (.map #[] 0)) := (Below.refl _ w).alloc (Nat.le_refl _) _
    have hk0 : Kept (w.alloc (.map #[] 0)) w0 (fun _ => False) := Kept.grown hg0 (fun _ e => by cases e)
    refine ⟨hrg, fun x hx => ?_, hb0.trans (hk0.below (fun _ q => q.elim) (by simp)), 0, [], (set_made w).keep hk0 (fun q => q), by omega, fun x => ?_⟩
    · obtain ⟨y, hy, e⟩ := List.mem_map.1 ((m2 x).1 hx)
      obtain ⟨q, hq, rfl⟩ := List.mem_map.1 hy
      exact ⟨q, hq, e⟩
    · constructor
      · intro hx; cases hx
      · rintro ⟨q, hq, e1, _, e3⟩
        have := (m2 x).2 (by rw [← e1]; exact in_nos (List.mem_map.2 ⟨q, hq, rfl⟩))
        rw [e3] at this; cases this
  have hszw : (w.alloc (.map #[] 0)).heap.size = w.heap.size + 1 := by simp
  obtain ⟨p, hp⟩ : ∃ p, p = Gs.engaged ⟨gp L, k⟩ := ⟨_, rfl⟩
  rw [← hp] at HEn hr ⊢
  have HR := Lib.hid hr
  clear h m1 m2 m3 hr hp
  go_enter Try.func26, Try.ntmps26
  go_wp2_with (at_range; refine wpList_range_own _ rfl _ 65 rfl 3 53 lawI Try.underlying65 RV mb c D rfl M1.out ?_; intro w0 hrg0 hg0 hs0; rw [hszw] at hrg0; have HE := Lib.hid (H0.out w0 hrg0 hg0); clear hrg0 hg0 hs0)
  go_frame
  rw [hszw]
  clear c1
  go_loopw [4, 5] (fun _ _ wr => ∃ (left : Lit → Bool) (cnt : Nat), Hid (EnS w wr mb w.heap.size (w.heap.size + 1) c D L left cnt)) (fun _ _ wr => wr.rangeLeft mb (w.heap.size + 1))
  case atStart => exact ⟨_, _, HE.out⟩
  case round =>
    obtain ⟨left, cnt, hE⟩ := hrel
    rename World => wr
    have HrgL := Lib.hid hE.out.1
    go_wp2_with (at_next; refine wpList_next_prs rfl _ rfl 3 lawI Try.underlying3 mb (w.heap.size + 1) c D left cnt rfl HrgL.out L hE.out.2.1 M3.out ?_ ?_)
    · intro hc0 hl0
      obtain ⟨_, _, hB, d, l, hS, hd, hm⟩ := hE.out
      have HRi := Lib.hid (rising_any w.heap.size d l p wr hS (by omega) HR.out (fun x => by
        rw [HEn.out, hm]
        constructor
        · rintro ⟨q, hq, e1, e2⟩; exact ⟨q, hq, e1, e2, hl0 _⟩
        · rintro ⟨q, hq, e1, e2, _⟩; exact ⟨q, hq, e1, e2⟩))
      have HB := Lib.hid hB
      clear hB hS hd hm hl0 hc0
      go_wp2_with (go_at_call 42; refine HRi.out.mono ?_; rintro e w' ⟨A', c', rfl, hr, hb'⟩; have HRr := Lib.hid (hr.base HB.out.size); have HB' := Lib.hid (HB.out.trans (hb'.mono HB.out.size)); clear hr hb')
      go_ret
      exact ⟨A', c', rfl, HRr.out, HB'.out⟩
    · intro q w1 cnt1 hq hlx hwf hrg1 hlt hg1 hs1 hen
      obtain ⟨hrg, hX, hB, d, l, hS, hd, hm⟩ := hE.out
      have hrw : w.heap.size ≤ wr.heap.size := hB.size
      have hB1 : Below w.heap.size w w1 := hB.trans (grown_below hg1 (by omega) hrw)
      have hC1 := HC.out.fresh hB1
      obtain ⟨d0, _, _, _, hbl⟩ := hC1.ocells hq
      have hS1 : SetAt w1 w.heap.size d l := hS.keep (S := fun b => b = w.heap.size + 1) (Kept.grown hg1 (fun b e => by cases e; exact .inl rfl)) (by omega)
      have hX' : ∀ x : Int, (fun z => left z && !z.sameKey (.int .i64 q.g.n)) (.int .i64 x) = true → ∃ q ∈ L, q.g.n = x := fun x hx => hX x (by simp only [Bool.and_eq_true] at hx; exact hx.1)
      have huq : ∀ p ∈ L, p.g.n = q.g.n → p = q := fun p hp e => HC.out.uniq hp hq e
      have HLt := Lib.hid hlt
      have HrgO := Lib.hid hrg
      by_cases es : q.g.s = 2
      · rw [es] at d0
        have HAd := Lib.hid (add_any w.heap.size d q.g.n l w1 hS1 hwf (by omega))
        have HEnd : Hid (∀ w5, (∀ m, (∀ y, y ∈ m ↔ y = q.g.n ∨ y ∈ l) → SetAt w5 w.heap.size (d + 1) m) → w1.grownBy w5 (some w.heap.size) → w5.ranges Try.prog 3 RV mb (w.heap.size + 1) c D (fun z => left z && !z.sameKey (.int .i64 q.g.n)) cnt1 ∧ EnS w w5 mb w.heap.size (w.heap.size + 1) c D L (fun z => left z && !z.sameKey (.int .i64 q.g.n)) cnt1) := fun w5 h5 hg5 => by
          have hr5 := hrg1.kept hg5 (by simp; omega) (by simp)
          refine ⟨hr5, hr5, hX', hB1.trans (grown_below hg5 (Nat.le_refl _) hB1.size), d + 1, q.g.n :: l, h5 _ (fun y => List.mem_cons), by omega, fun x => ?_⟩
          rw [List.mem_cons, hm]
          constructor
          · rintro (e | ⟨p, hp, e1, e2, e3⟩)
            · rw [e]; exact ⟨q, hq, rfl, es, strike_self left _⟩
            · exact ⟨p, hp, e1, e2, by simp [e3]⟩
          · rintro ⟨p, hp, e1, e2, e3⟩
            by_cases e : x = q.g.n
            · exact .inl e
            · right; rw [strike_other left e] at e3; exact ⟨p, hp, e1, e2, e3⟩
        generalize q.g.n = n0 at *
        generalize q.b = qb at *
        clear hrg hX hB hS hd hm hrg1 hlt hg1 hs1 hB1 hC1 hS1 hX' huq hE HrgL es hwf
        go_wp2_with (go_at_call 52; refine HAd.out.mono ?_; rintro e w5 ⟨rfl, h5, hg5⟩; have HZ := Lib.hid (HEnd.out w5 h5 hg5); clear h5 hg5)
        go_roundw
        case rel => exact ⟨_, cnt1, HZ.out.2⟩
        case measure => have := HLt.out; rw [HZ.out.1.left_eq, HrgO.out.left_eq]; omega
      · have hx : (((q.g.s : Int)) == 2) = false := by simp; omega
        have HEnd : Hid (EnS w w1 mb w.heap.size (w.heap.size + 1) c D L (fun z => left z && !z.sameKey (.int .i64 q.g.n)) cnt1) := by
          refine ⟨hrg1, hX', hB1, d, l, hS1, by omega, fun x => ?_⟩
          rw [hm]
          constructor
          · rintro ⟨p, hp, e1, e2, e3⟩; exact ⟨p, hp, e1, e2, by simp [e3]⟩
          · rintro ⟨p, hp, e1, e2, e3⟩
            by_cases e : x = q.g.n
            · rw [huq p hp (by rw [e1, e])] at e2; exact absurd e2 es
            · rw [strike_other left e] at e3; exact ⟨p, hp, e1, e2, e3⟩
        have HrgN := Lib.hid hrg1
        generalize q.g.n = n0 at *
        generalize q.g.s = s0 at *
        generalize q.b = qb at *
        clear hrg hX hB hS hd hm hrg1 hlt hg1 hs1 hB1 hC1 hS1 hX' huq hE HrgL es hwf
        go_wp2
        go_roundw
        case rel => exact ⟨_, cnt1, HEnd.out⟩
        case measure => have := HLt.out; rw [HrgN.out.left_eq, HrgO.out.left_eq]; omega
end
end Go.Proofs.Ytdndchoghhllmaa
