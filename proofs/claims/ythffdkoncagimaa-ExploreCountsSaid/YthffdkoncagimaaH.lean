/- Count; the closed sets as rows: All. -/
import Derived.Test.YthffdkoncagimaaG
import Derived.Deep.Onto
set_option linter.unusedVariables false
set_option linter.unusedSimpArgs false
namespace Go.Proofs.Ythffdkoncagimaa
open Go.RowKit Go.Shelf
attribute [local go_sem] Oper.semAt_some
/-- a slice of numbers: where it lies, its room, the numbers -/
structure Sl where
  A : Option Addr
  c : Nat
  l : List Int
def Sl.v (t : Sl) : Value := .slice t.A t.l.length t.c
def slV (T : List Sl) : List Value := T.map Sl.v
def SlsOwn (W : World) (B : Nat) (T : List Sl) : Prop := ∀ t ∈ T, RowI W B t.A t.c t.l
theorem SlsOwn.kept {W W' : World} {B : Nat} {T : List Sl} {row : Option Nat} (h : SlsOwn W B T) (hg : W.grownBy W' row) (hn : ∀ r, row = some r → ∀ cur, W.heap[r]? ≠ some (.cells cur 3 (0, 0))) : SlsOwn W' B T := fun t ht => by
  have hr := h t ht
  refine World.ownsRow.kept hr hg ?_
  rcases hr.2 with ⟨q, _⟩ | ⟨g, cap, cur, q, _, hgb, _⟩
  · exact .inl (by rw [q]; rfl)
  · refine .inr fun e' => ?_
    rw [q] at e'
    exact hn g e'.symm cur hgb
theorem SlsOwn.fresh {W W' : World} {B : Nat} {T : List Sl} (h : SlsOwn W B T) (hb : Below W.heap.size W W') : SlsOwn W' B T := fun t ht => (h t ht).fresh hb
theorem SlsOwn.mat {W : World} {B : Nat} {T : List Sl} (h : SlsOwn W B T) {b : Nat} {off : Nat} {cells : ∀ j, (hj : j < T.length) → W.cell? ⟨b, off + j, none⟩ = some (T[j]).v} (hb : b < W.heap.size) : Mat W W.heap.size (some ⟨b, off, none⟩) (T.map (·.l)) := fun hn =>
  ⟨b, off, rfl, hb, fun j hj => by
    rw [List.length_map] at hj
    refine ⟨T[j].A, T[j].c, ?_, ?_⟩
    · rw [cells j hj, rowI_lt (by rw [List.length_map]; exact hj)]; simp [Sl.v]
    · rw [rowI_lt (by rw [List.length_map]; exact hj)]
      have := (h _ (List.getElem_mem hj)).ints
      simpa using this⟩
theorem below_grown {W W' : World} (hb : Below W.heap.size W W') : W.grownBy W' none := ⟨hb.os, hb.tape, hb.output, hb.size, fun k hk _ => hb.block k hk⟩
set_option maxRecDepth 100000 in
set_option maxHeartbeats 1000000 in
theorem pcount_no (A : Option Addr) (c : Nat) (R : List (List Int)) (w : World) (hf : fitB R = false) (hl : R.length ≤ 1000) (hr : ∀ k, k < R.length → (rowI R k).length ≤ 1000) (hM : Mat w w.heap.size A R) :
    Calls Try.prog 8 #[.slice A R.length c] w fun e w' => e = .returned (.tuple #[.int .i64 0, .int .i64 3]) ∧ w = w' := by
  have HR := Lib.hid (needsOf_no A c R w hf hl hr hM)
  clear hM hr hf
  go_enter Try.func8, Try.ntmps8
  go_wp2_with (go_at_call 20; (with_reducible refine HR.out.mono ?_); rintro e w4 ⟨rfl, rfl⟩)
  go_ret2
  exact ⟨rfl, rfl⟩
set_option maxRecDepth 100000 in
set_option maxHeartbeats 1000000 in
theorem pcount_yes (A : Option Addr) (c : Nat) (D : List (List Nat)) (w : World) (hD : Sm D) (hO : OkD D) (hM : Mat w w.heap.size A (rowsI D)) :
    Calls Try.prog 8 #[.slice A D.length c] w fun e w' => e = .returned (.tuple #[.int .i64 ((countL (needsL D) : Nat) : Int), .int .i64 0]) ∧ Below w.heap.size w w' := by
  have HN := Lib.hid (needsOf_yes A c D w hD hO hM)
  have HL := Lib.hid (lok_needs hD)
  clear hM
  generalize needsL D = L at *
  go_enter Try.func8, Try.ntmps8
  go_wp2_with (first
    | (go_at_call 20; (with_reducible refine HN.out.mono ?_); rintro e w4 ⟨A4, c4, rfl, t4, b4⟩; have HC := Lib.hid (count_any A4 c4 L w4 HL.out t4); have B4 := Lib.hid b4; clear t4 b4)
    | (go_at_call 21; (with_reducible refine HC.out.mono ?_); rintro e w5 ⟨rfl, b5⟩; have B5 := Lib.hid (B4.out.trans (b5.mono B4.out.size)); clear b5))
  go_ret2
  exact ⟨rfl, B5.out⟩
/-- rows came back -/
def GivesT (w : World) (R : List (List Int)) (e : Ending) (w' : World) : Prop := ∃ A c T, e = .returned (.tuple #[.slice A R.length c, .int .i64 0]) ∧ T.map (·.l) = R ∧ w'.ownsRow w.heap.size 35 1 (.slice A R.length c) R.length (slV T) ∧ SlsOwn w' w.heap.size T ∧ Below w.heap.size w w'
theorem GivesT.mat {w w' : World} {R : List (List Int)} {A : Option Addr} {c : Nat} {T : List Sl} {B : Nat} (h1 : T.map (·.l) = R) (h2 : w'.ownsRow B 35 1 (.slice A R.length c) R.length (slV T)) (h3 : SlsOwn w' B T) : Mat w' w'.heap.size A R := fun hn => by
  obtain ⟨g, cap, q, hB, hb⟩ := h2.form (by omega)
  obtain ⟨rfl, _, rfl⟩ := Value.slice.inj q
  have hl : T.length = R.length := by rw [← h1, List.length_map]
  subst h1
  have := SlsOwn.mat (off := 0) (cells := fun j hj => by
    rw [Nat.zero_add, h2.cellAt j (by rw [List.length_map]; omega)]
    simp [slV, hj]) h3 hb
  exact this hn
theorem infoL : (Try.prog.info? 35).map (fun i => (i.zero, i.size, i.bytes)) = some (some (.slice none 0 0), 1, 24) := by kernel_rfl
/-- the rows so far -/
def rowsOf (xs : List Nat) : List (List Int) := xs.map fun s => natsI (memb s)
theorem rowsOf_snoc (xs : List Nat) (x : Nat) : rowsOf (xs ++ [x]) = rowsOf xs ++ [natsI (memb x)] := by simp [rowsOf]
def allL (L : List Nat) : List (List Int) := rowsOf (cloTo L (2 ^ L.length))
theorem length_allL (L : List Nat) : (allL L).length = countL L := by simp [allL, rowsOf, countL]
/-- the invariant of All's loop -/
def AllI (w : World) (A : Option Addr) (c : Nat) (L : List Nat) (pre : List Nat) (W : World) : Prop :=
  (∃ v T, Boxed W w.heap.size 22 v ∧ W.ownsRow w.heap.size 35 1 v pre.length (slV T) ∧ SlsOwn W w.heap.size T ∧ T.map (·.l) = rowsOf pre) ∧ Boxed W (w.heap.size + 1) 38 (.slice A L.length c) ∧ Below w.heap.size w W
theorem allI_own (w : World) (A : Option Addr) (c : Nat) (L : List Nat) (B : Nat) (hB : w.heap.size ≤ B) : OwnFrom B (AllI w A c L) := by
  rintro s W W' row ⟨⟨v, T, hv, hr, hT, hm⟩, hb, hbl⟩ hg hrow
  have nb : ∀ (g : Nat) (cur : Array Value) (t : TypeId), W.heap[g]? = some (.cells cur t (0, 0)) → some g ≠ row := fun g cur t h e => by
    obtain ⟨_, o, ho, hc⟩ := hrow g e.symm
    rw [h] at ho; cases ho; cases hc
  refine ⟨⟨v, T, hv.kept hg (nb _ _ _ hv), ?_, hT.kept hg (fun r e cur h => nb _ _ _ h e.symm), hm⟩, hb.kept hg (nb _ _ _ hb), ?_⟩
  · refine World.ownsRow.kept hr hg ?_
    rcases hr.2 with ⟨rfl, _⟩ | ⟨g, cap, cur, rfl, _, hgb, _⟩
    · exact .inl rfl
    · exact .inr fun e' => nb _ _ _ hgb (by simpa [Value.ownBlock] using e')
  · exact ownFrom_below (Nat.le_refl _) hB s W W' row hbl hg hrow
theorem stepIn_run {F : Fence} {n : Nat} {P : Program} {ops : Array Oper} {o : Oper} {a : Act} {w : World} {K : Act → World → Prop} {Q : Exit → Act → World → Prop} {E : Prop} (hgd : o.guard = none) (s x : Operand) (t : TypeId)
    (hop : o.op = Op.call { callee := Callee.builtin Builtin.append, args := #[s, x], argTypes := #[t, t] }) (v u : Value) (hs : a.eval s = v) (hx : a.eval x = u) {v' : Value} {w' : World} (hrun : (Builtin.append_ #[t, t] o.type #[v, u]).run P w = .ok v' w') (h : K (a.put o.dst v') w') :
    if Region.wanted o (yielded ops a.tmps) = true then Oper.wpIn F n P o a w K Q else E := by
  rw [if_pos (by simp [Region.wanted, hgd])]
  unfold Oper.wpIn
  refine ⟨?_, ?_⟩
  · simp [Oper.about, hop, resolve, Target.leads, Sem.run_pure]
  · rw [Oper.semAt_plain F _ _ (by rw [hop]; intro c hc'; cases hc')]
    simp [execOp, hop, resolve, invoke, builtin, hs, hx, hrun, Result.andThen]
    exact h
set_option maxRecDepth 100000 in
set_option maxHeartbeats 4000000 in
theorem all_in (n : Nat) (hn : 4 ≤ n) (A : Option Addr) (c : Nat) (D : List (List Nat)) (most : Int) (w0 : World) (hD : Sm D) (hO : OkD D) (hM : Mat w0 w0.heap.size A (rowsI D)) (h1m : 1 ≤ most) (h2m : most ≤ 4096) (hc : (countL (needsL D) : Int) ≤ most) :
    CallsIn Fence.wide n Try.prog 16 #[.slice A D.length c, .int .i64 most] w0 (GivesT w0 (allL (needsL D))) := by
  have h1 : 1 ≤ n := by omega
  obtain ⟨i0, hi, hz0, hz1, hz2⟩ := info_parts infoL
  have HN := Lib.hid (needsOf_yes A c D w0 hD hO hM)
  have HL := Lib.hid (lok_needs hD)
  have hln := (lok_needs hD).n
  have hpl := pow_len hln
  clear hM
  generalize needsL D = L at *
  have hd1 : decide (most < 1) = false := decide_eq_false (by omega)
  have hd2 : decide (4096 < most) = false := decide_eq_false (by omega)
  have hd3 : decide (most < ((countL L : Nat) : Int)) = false := decide_eq_false (by omega)
  refine callsIn_of_wp_marks Try.func16 rfl trivial ?_ rfl
  simp only [Try.ntmps16, List.size_toArray, List.length_cons, List.length_nil, Nat.reduceAdd, Nat.reduceSub, Array.replicate_succ, Array.replicate_zero, List.push_toArray, List.append_toArray, List.nil_append, List.cons_append]
  gi_wp2_with (first
    | (refine ⟨trivial, ?_⟩; gi_at_call 20; refine (callsIn_wide.2 HN.out).mono ?_; rintro e w4 ⟨A4, c4, rfl, t4, b4⟩; have HC := Lib.hid (count_any A4 c4 L w4 HL.out t4); have B4 := Lib.hid b4; have T4 := Lib.hid t4; clear t4 b4)
    | (refine ⟨trivial, ?_⟩; gi_at_call 21; refine (callsIn_wide.2 HC.out).mono ?_; rintro e w ⟨rfl, b5⟩; have B5 := Lib.hid (B4.out.trans (b5.mono B4.out.size)); have T5 := Lib.hid ((T4.out.below b5).more b5.size); clear b5)
    | (refine ⟨trivial, ?_⟩; gi_at_call 25; refine (closedMake_in _ A4 L.length c4 _).mono ?_; rintro e w' ⟨rfl, rfl⟩))
  have b0 := (Boxed.new w 22 (.slice none 0 0)).alloc (.cells #[.slice A4 L.length c4] 38)
  have b1 := Boxed.new (w.alloc (.cells #[.slice none 0 0] 22)) 38 (.slice A4 L.length c4)
  simp only [World.size_alloc] at b0 b1
  have hB0 : Below w.heap.size w ((w.alloc (.cells #[.slice none 0 0] 22)).alloc (.cells #[.slice A4 L.length c4] 38)) := ((Below.refl _ w).alloc (Nat.le_refl _) _).alloc (by simp) _
  have hs0 : ((w.alloc (.cells #[.slice none 0 0] 22)).alloc (.cells #[.slice A4 L.length c4] 38)).heap.size = w.heap.size + 2 := by simp
  generalize ((w.alloc (.cells #[.slice none 0 0] 22)).alloc (.cells #[.slice A4 L.length c4] 38)) = W0 at b0 b1 hB0 hs0 ⊢
  obtain ⟨I, hIe⟩ : ∃ I, I = AllI w A4 c4 L := ⟨_, rfl⟩
  refine range_runs (α := Nat) rfl h1 (gf := 39) (lb := #[.pointer (some ⟨w.heap.size + 1, 0, none⟩)]) rfl trivial (enters_of Try.func39 (by kernel_rfl) rfl)
    (encs := fun x => #[.int .u64 ((x : Nat) : Int)]) (fun _ => rfl) I
    (fun pre x => x < 2 ^ L.length ∧ pre = cloTo L x ∧ clo L x = true) (fun ys => ys = cloTo L (2 ^ L.length)) ?own
    (by rw [hIe]; exact ⟨⟨_, [], b0, World.ownsRow_nil _ _ _ _, fun t ht => (by cases ht), rfl⟩, b1, hB0⟩)
    (fun x => { tmps := #[.slice A D.length c, .int .i64 most, undef, undef, .slice none 0 0, .int .i64 0, .slice A4 L.length c4, .int .i64 0, .pointer (some ⟨w.heap.size, 0, none⟩), .int .u64 ((x : Nat) : Int), .tuple #[.slice A4 L.length c4, .int .i64 0], .slice A D.length c, .tuple #[.slice A4 L.length c4, .int .i64 0], .slice A4 L.length c4, .int .i64 0, .int .i64 0, .bool false, undef, .int .i64 most, .bool false, .bool false, .int .i64 most, .bool false, .bool false, .slice A4 L.length c4, .int .i64 ((countL L : Nat) : Int), .int .i64 most, .bool false, .slice A4 L.length c4, .func (.func 39) #[] #[.pointer (some ⟨w.heap.size + 1, 0, none⟩)], .int .u64 ((x : Nat) : Int), undef, undef, undef, undef, undef, undef], defers := [] }) ?assign ?body ?iter ?done
  case own =>
    rw [hIe]
    exact allI_own w A4 c4 L _ (by omega)
  case assign =>
    intro l x W K hK
    gi_wp2
    exact hK
  case iter =>
    intro l J W1 hJI hY h0
    exact closed_iter (n - 1) (by omega) l (w.heap.size + 1) A4 c4 L HL.out J (fun pre W h => by
      have := hJI pre W h
      rw [hIe] at this
      exact ⟨this.2.1.cell, (T5.out.below this.2.2).more this.2.2.size⟩) hY W1 h0
  case body =>
    rintro l pre x W hi ⟨hx1, hx2, hx3⟩
    rw [hIe] at hi
    obtain ⟨⟨v, T, hvb, hrow, hT, hTm⟩, hb1, hB⟩ := hi
    have hcl := cloTo_len L x
    rw [← hx2] at hcl
    have hpm : pre.length < 20000 := by omega
    have c0 := hvb.cell
    have HMb := Lib.hid (members_any x W.drew (by omega))
    have Hv := Lib.hid hvb
    have Hrow := Lib.hid hrow
    have HT := Lib.hid hT
    have HTm := Lib.hid hTm
    have Hb1 := Lib.hid hb1
    have HB := Lib.hid hB
    have HI := Lib.hid hIe
    have hsz := hB.size
    have Hl : Hid ((pre ++ [x]).length = pre.length + 1) := by unfold Hid; simp
    have Hrs := Lib.hid (rowsOf_snoc pre x)
    have HAp : Hid (∀ (W3 : World) A3 c3, RowI W3 W.drew.heap.size A3 c3 (natsI (memb x)) → Below W.drew.heap.size W.drew W3 → ∃ (g5 cap5 : Nat) (w5 : World), (Builtin.append_ #[22, 22] 22 #[v, .slice (some ⟨W3.heap.size, 0, none⟩) 1 1]).run Try.prog (W3.alloc (.cells #[.slice A3 (natsI (memb x)).length c3] 35)) = .ok (.slice (some ⟨g5, 0, none⟩) (pre.length + 1) cap5) w5 ∧ (W3.alloc (.cells #[.slice A3 (natsI (memb x)).length c3] 35)).cell? ⟨w.heap.size, 0, none⟩ = some v ∧
        w5.cell? ⟨w.heap.size, 0, none⟩ = some v ∧ w5.frozen? ⟨w.heap.size, 0, none⟩ = false ∧ Hid (KeepsFrom (w.heap.size + 2) W (w5.setCell ⟨w.heap.size, 0, none⟩ (.slice (some ⟨g5, 0, none⟩) (pre.length + 1) cap5)) ∧ I (pre ++ [x]) (w5.setCell ⟨w.heap.size, 0, none⟩ (.slice (some ⟨g5, 0, none⟩) (pre.length + 1) cap5)))) := fun W3 A3 c3 r3 b3 => by
      have b3' : Below W.heap.size W W3 := ⟨b3.os, b3.tape, b3.output, b3.size, b3.block⟩
      have hr3 := own_lay hrow b3'
      have hv3 : Boxed W3 w.heap.size 22 v := hvb.kept (below_grown b3') (by simp)
      obtain ⟨v', w5, hrun, r5, g5, _⟩ := run_append_own (P := Try.prog) (W3.alloc (.cells #[.slice A3 (natsI (memb x)).length c3] 35)) w.heap.size 22 22 35 i0 (.slice none 0 0) 1 24 Try.underlying22 hi hz0 hz1 hz2 rfl (by decide) v pre.length (slV T) (hr3.alloc _) ⟨W3.heap.size, 0, none⟩ 1 1 [.slice A3 (natsI (memb x)).length c3] rfl (cell_one_new _ _ _) (by simp [Value.oneCell']) (by unfold maxLen; omega) (by omega) (by have := b3'.size; simp; omega)
      obtain ⟨g', cap', rfl⟩ := ownsRow_succ r5
      obtain ⟨hv1, hv2, hr2, hk2, hb2⟩ := hv3.appended (by decide) hr3 (by have := b3'.size; omega) (Nat.le_refl _) r5 g5
      refine ⟨g', cap', w5, hrun, (hv3.alloc _).cell, hv1.cell, hv1.frozen, ?_, ?_⟩
      · exact ((KeepsOthers.of_grownBy (below_grown b3') (fun j o e => by cases e)).trans hk2).from _
      · rw [hIe]
        have hT3 : SlsOwn W3 w.heap.size T := hT.fresh b3'
        have hn3 : RowI W3 w.heap.size A3 c3 (natsI (memb x)) := World.ownsRow.mono r3 (by show w.heap.size ≤ W.heap.size; exact hsz)
        have hTn : SlsOwn W3 w.heap.size (T ++ [⟨A3, c3, natsI (memb x)⟩]) := fun t ht => by
          rcases List.mem_append.1 ht with ht | ht
          · exact hT3 t ht
          · rw [List.mem_singleton.1 ht]; exact hn3
        have hTa : SlsOwn (W3.alloc (.cells #[.slice A3 (natsI (memb x)).length c3] 35)) w.heap.size (T ++ [⟨A3, c3, natsI (memb x)⟩]) := hTn.kept (World.grownBy_alloc _ _ none) (fun r e => by cases e)
        have hT5 : SlsOwn w5 w.heap.size (T ++ [⟨A3, c3, natsI (memb x)⟩]) := hTa.kept g5 (fun r e cur h => by
          rcases (hr3.alloc (.cells #[.slice A3 (natsI (memb x)).length c3] 35)).2 with ⟨q, _⟩ | ⟨g, cap, cur2, q, _, hgb, _⟩
          · rw [q] at e; cases e
          · rw [q] at e
            obtain rfl : g = r := by simpa [Value.ownBlock] using e
            rw [hgb] at h
            simp at h)
        have hT6 : SlsOwn (w5.setCell ⟨w.heap.size, 0, none⟩ (.slice (some ⟨g', 0, none⟩) (pre.length + 1) cap')) w.heap.size (T ++ [⟨A3, c3, natsI (memb x)⟩]) := hT5.kept (grownBy_set w5 w.heap.size 0 _) (fun r e cur h => by
          cases e
          rw [show w5.heap[w.heap.size]? = _ from hv1] at h
          simp at h)
        refine ⟨⟨_, _, hv2, ?_, hT6, ?_⟩, ?_, hB.trans (b3'.mono hsz |>.trans hb2)⟩
        · rw [Hl.out]; simpa [slV, Sl.v] using hr2
        · rw [List.map_append, hTm, Hrs.out]; rfl
        · have k3 := hb1.kept (below_grown b3') (by simp)
          have k4 := (k3.alloc (.cells #[.slice A3 (natsI (memb x)).length c3] 35))
          have k5 := k4.kept g5 (k3.not_row (by decide) hr3)
          exact k5.kept (grownBy_set w5 w.heap.size 0 _) (fun e => by injection e with e; omega)
    have Hd0 : Hid (∀ W3, Below W.drew.heap.size W.drew W3 → W3.cell? ⟨w.heap.size, 0, none⟩ = some v) := fun W3 h => (h.cell (p := ⟨w.heap.size, 0, none⟩) (by show w.heap.size < W.heap.size; exact hvb.lt)).trans c0
    have d0 : W.drew.cell? ⟨w.heap.size, 0, none⟩ = some v := c0
    clear hvb hrow hT hTm hb1 hB hIe hx1 hx2 hx3 hcl hi hz0 hz1 hz2
    generalize hpp : pre.length = m at *
    clear hpp
    gi_wp2_with fail
    refine wpIn_region_any (by kernel_rfl) ?_
    (try change wpAnyIn _ _ _ _ _ _ _ _ _ (World.drew _))
    refine wpAnyIn_ready (rs := [0, 1]) (by kernel_rfl) (by simp) ?_
    refine AllReadyIn.cons rfl (fun K hK => ?_) (AllReadyIn.cons rfl (fun K hK => ?_) AllReadyIn.nil)
    · go_simp
      first | (refine hK _ _ ?_; clear hK K) | skip
      (try simp only [Act.put, List.setIfInBounds_toArray, List.set_cons_zero, List.set_cons_succ])
      refine wpAnyIn_ready (rs := [1]) (by kernel_rfl) (by simp) ?_
      refine AllReadyIn.cons rfl (fun K hK => ?_) AllReadyIn.nil
      go_simp
      first | (refine hK _ _ ?_; clear hK K) | skip
      (try simp only [Act.put, List.setIfInBounds_toArray, List.set_cons_zero, List.set_cons_succ])
      refine wpAnyIn_ready (rs := [2]) (by kernel_rfl) (by simp) ?_
      refine AllReadyIn.cons rfl (fun K hK => ?_) AllReadyIn.nil
      go_simp
      gi_wp2_with (refine ⟨trivial, wide_depth, ?_⟩; gi_at_call 33; refine (CallsIn.inRound l (callsIn_wide.2 HMb.out)).mono ?_; rintro e W3 ⟨A3, c3, rfl, r3, b3⟩; have d3 := Hd0.out W3 b3; have HZ := HAp.out W3 A3 c3 r3 b3; obtain ⟨g5, cap5, w5, hrun, d4, d5, f5, HF⟩ := HZ; clear r3 b3)
      first | (refine hK _ _ ?_; clear hK K) | skip
      (try simp only [Act.put, List.setIfInBounds_toArray, List.set_cons_zero, List.set_cons_succ])
      refine wpAnyIn_ready (rs := [3]) (by kernel_rfl) (by simp) ?_
      refine AllReadyIn.cons rfl (fun K hK => ?_) AllReadyIn.nil
      go_simp
      first | (refine hK _ _ ?_; clear hK K) | skip
      (try simp only [Act.put, List.setIfInBounds_toArray, List.set_cons_zero, List.set_cons_succ])
      refine wpAnyIn_ready (rs := [4]) (by kernel_rfl) (by simp) ?_
      refine AllReadyIn.cons rfl (fun K hK => ?_) AllReadyIn.nil
      refine stepIn_run rfl (.tmp 31) (.tmp 34) 22 rfl v (.slice (some ⟨W3.heap.size, 0, none⟩) 1 1) rfl rfl hrun ?_
      refine hK _ _ ?_
      clear hK K
      (try simp only [Act.put, List.setIfInBounds_toArray, List.set_cons_zero, List.set_cons_succ])
      refine wpAnyIn_ready (rs := [5]) (by kernel_rfl) (by simp) ?_
      refine AllReadyIn.cons rfl (fun K hK => ?_) AllReadyIn.nil
      go_simp
      first | (refine hK _ _ ?_; clear hK K) | skip
      refine wpAnyIn_done (by kernel_rfl) ?_ _
      exact HF.out
    · go_simp
      first | (refine hK _ _ ?_; clear hK K) | skip
      (try simp only [Act.put, List.setIfInBounds_toArray, List.set_cons_zero, List.set_cons_succ])
      refine wpAnyIn_ready (rs := [0, 2]) (by kernel_rfl) (by simp) ?_
      refine AllReadyIn.cons rfl (fun K hK => ?_) (AllReadyIn.cons rfl (fun K hK => ?_) AllReadyIn.nil)
      · go_simp
        first | (refine hK _ _ ?_; clear hK K) | skip
        (try simp only [Act.put, List.setIfInBounds_toArray, List.set_cons_zero, List.set_cons_succ])
        refine wpAnyIn_ready (rs := [2]) (by kernel_rfl) (by simp) ?_
        refine AllReadyIn.cons rfl (fun K hK => ?_) AllReadyIn.nil
        go_simp
        gi_wp2_with (refine ⟨trivial, wide_depth, ?_⟩; gi_at_call 33; refine (CallsIn.inRound l (callsIn_wide.2 HMb.out)).mono ?_; rintro e W3 ⟨A3, c3, rfl, r3, b3⟩; have d3 := Hd0.out W3 b3; have HZ := HAp.out W3 A3 c3 r3 b3; obtain ⟨g5, cap5, w5, hrun, d4, d5, f5, HF⟩ := HZ; clear r3 b3)
        first | (refine hK _ _ ?_; clear hK K) | skip
        (try simp only [Act.put, List.setIfInBounds_toArray, List.set_cons_zero, List.set_cons_succ])
        refine wpAnyIn_ready (rs := [3]) (by kernel_rfl) (by simp) ?_
        refine AllReadyIn.cons rfl (fun K hK => ?_) AllReadyIn.nil
        go_simp
        first | (refine hK _ _ ?_; clear hK K) | skip
        (try simp only [Act.put, List.setIfInBounds_toArray, List.set_cons_zero, List.set_cons_succ])
        refine wpAnyIn_ready (rs := [4]) (by kernel_rfl) (by simp) ?_
        refine AllReadyIn.cons rfl (fun K hK => ?_) AllReadyIn.nil
        refine stepIn_run rfl (.tmp 31) (.tmp 34) 22 rfl v (.slice (some ⟨W3.heap.size, 0, none⟩) 1 1) rfl rfl hrun ?_
        refine hK _ _ ?_
        clear hK K
        (try simp only [Act.put, List.setIfInBounds_toArray, List.set_cons_zero, List.set_cons_succ])
        refine wpAnyIn_ready (rs := [5]) (by kernel_rfl) (by simp) ?_
        refine AllReadyIn.cons rfl (fun K hK => ?_) AllReadyIn.nil
        go_simp
        first | (refine hK _ _ ?_; clear hK K) | skip
        refine wpAnyIn_done (by kernel_rfl) ?_ _
        exact HF.out
      · go_simp
        gi_wp2_with (refine ⟨trivial, wide_depth, ?_⟩; gi_at_call 33; refine (CallsIn.inRound l (callsIn_wide.2 HMb.out)).mono ?_; rintro e W3 ⟨A3, c3, rfl, r3, b3⟩; have d3 := Hd0.out W3 b3; have HZ := HAp.out W3 A3 c3 r3 b3; obtain ⟨g5, cap5, w5, hrun, d4, d5, f5, HF⟩ := HZ; clear r3 b3)
        first | (refine hK _ _ ?_; clear hK K) | skip
        (try simp only [Act.put, List.setIfInBounds_toArray, List.set_cons_zero, List.set_cons_succ])
        refine wpAnyIn_ready (rs := [0, 3]) (by kernel_rfl) (by simp) ?_
        refine AllReadyIn.cons rfl (fun K hK => ?_) (AllReadyIn.cons rfl (fun K hK => ?_) AllReadyIn.nil)
        · go_simp
          first | (refine hK _ _ ?_; clear hK K) | skip
          (try simp only [Act.put, List.setIfInBounds_toArray, List.set_cons_zero, List.set_cons_succ])
          refine wpAnyIn_ready (rs := [3]) (by kernel_rfl) (by simp) ?_
          refine AllReadyIn.cons rfl (fun K hK => ?_) AllReadyIn.nil
          go_simp
          first | (refine hK _ _ ?_; clear hK K) | skip
          (try simp only [Act.put, List.setIfInBounds_toArray, List.set_cons_zero, List.set_cons_succ])
          refine wpAnyIn_ready (rs := [4]) (by kernel_rfl) (by simp) ?_
          refine AllReadyIn.cons rfl (fun K hK => ?_) AllReadyIn.nil
          refine stepIn_run rfl (.tmp 31) (.tmp 34) 22 rfl v (.slice (some ⟨W3.heap.size, 0, none⟩) 1 1) rfl rfl hrun ?_
          refine hK _ _ ?_
          clear hK K
          (try simp only [Act.put, List.setIfInBounds_toArray, List.set_cons_zero, List.set_cons_succ])
          refine wpAnyIn_ready (rs := [5]) (by kernel_rfl) (by simp) ?_
          refine AllReadyIn.cons rfl (fun K hK => ?_) AllReadyIn.nil
          go_simp
          first | (refine hK _ _ ?_; clear hK K) | skip
          refine wpAnyIn_done (by kernel_rfl) ?_ _
          exact HF.out
        · go_simp
          first | (refine hK _ _ ?_; clear hK K) | skip
          (try simp only [Act.put, List.setIfInBounds_toArray, List.set_cons_zero, List.set_cons_succ])
          refine wpAnyIn_ready (rs := [0]) (by kernel_rfl) (by simp) ?_
          refine AllReadyIn.cons rfl (fun K hK => ?_) AllReadyIn.nil
          go_simp
          first | (refine hK _ _ ?_; clear hK K) | skip
          (try simp only [Act.put, List.setIfInBounds_toArray, List.set_cons_zero, List.set_cons_succ])
          refine wpAnyIn_ready (rs := [4]) (by kernel_rfl) (by simp) ?_
          refine AllReadyIn.cons rfl (fun K hK => ?_) AllReadyIn.nil
          refine stepIn_run rfl (.tmp 31) (.tmp 34) 22 rfl v (.slice (some ⟨W3.heap.size, 0, none⟩) 1 1) rfl rfl hrun ?_
          refine hK _ _ ?_
          clear hK K
          (try simp only [Act.put, List.setIfInBounds_toArray, List.set_cons_zero, List.set_cons_succ])
          refine wpAnyIn_ready (rs := [5]) (by kernel_rfl) (by simp) ?_
          refine AllReadyIn.cons rfl (fun K hK => ?_) AllReadyIn.nil
          go_simp
          first | (refine hK _ _ ?_; clear hK K) | skip
          refine wpAnyIn_done (by kernel_rfl) ?_ _
          exact HF.out
  case done =>
    rintro D' ys W hD' hys hi' hK
    rw [hIe] at hi'
    obtain ⟨⟨v, T, hvb, hrow, hT, hTm⟩, hb1, hB⟩ := hi'
    have c0 := hvb.cell
    have hlen : (allL L).length = ys.length := by unfold allL; rw [← hys]; simp [rowsOf]
    have hTm2 : T.map (·.l) = allL L := by unfold allL; rw [← hys]; exact hTm
    clear hb1 hys
    gi_wp2
    refine ⟨by simp, .inl ⟨_, _, rfl, run_takeDeferred hK, ?_⟩⟩
    obtain ⟨A9, c9, rfl⟩ := own_form hrow
    refine ⟨_, results_tmp2 rfl _ _ _, A9, c9, T, by rw [hlen]; rfl, hTm2, ?_, ?_, ?_⟩
    · rw [hlen]; exact World.ownsRow.mono (ownsRow_putObj hrow _ hK rfl) B5.out.size
    · exact fun t ht => World.ownsRow.mono ((hT.kept (grownBy_putObj' W D' (.deferred none)) (fun r e cur h => by cases e; rw [hK] at h; cases h)) t ht) B5.out.size
    · exact B5.out.trans ((hB.trans (belowK_b (w := w) (Nat.le_refl _) W D' _ _ (by omega) hK rfl rfl)).mono B5.out.size)
theorem all_yes (A : Option Addr) (c : Nat) (D : List (List Nat)) (most : Int) (w0 : World) (hD : Sm D) (hO : OkD D) (hM : Mat w0 w0.heap.size A (rowsI D)) (h1m : 1 ≤ most) (h2m : most ≤ 4096) (hc : (countL (needsL D) : Int) ≤ most) :
    Calls Try.prog 16 #[.slice A D.length c, .int .i64 most] w0 (GivesT w0 (allL (needsL D))) :=
  (callsIn_wide (n := 4)).1 (all_in 4 (Nat.le_refl _) A c D most w0 hD hO hM h1m h2m hc)
end Go.Proofs.Ythffdkoncagimaa
