/- What the law of the versions marks, and what a disk of marked versions answers. -/
import Derived.Test.YtieeibdhaoaeaaaWDiskPlays
set_option linter.unusedVariables false
set_option linter.unusedSimpArgs false
namespace Go.Proofs.Ytieeibdhaoaeaaa
open Go.RowKit

theorem wpList_alloc_eq {P : Program} {ops : Array Oper} {rest : List Oper} {o : Oper} {a : Act} {w : World} {Q : Exit → Act → World → Prop} (hgd : o.guard = none) (t : TypeId) (ho : o.op = .alloc t) (Z : Array Value)
    (hi : (P.info? t).map (·.zero) = some (some (.agg Z))) (h : wpList P ops Q rest (a.put o.dst (.pointer (some ⟨w.heap.size, 0, none⟩))) (w.alloc (.cells Z t))) : wpList P ops Q (o :: rest) a w :=
  wpList_plain hgd fun _ hK => by
    obtain ⟨i, hi, hz⟩ := Option.map_eq_some_iff.1 hi
    unfold Oper.wp execOp
    simp [ho, Instr.alloc, zeroValue, typeInfo, hi, hz, newVar, newRow, Value.cells]
    exact hK _ _ h
theorem exec_ne {w : World} {o : Oper} {ev : Operand → Value} (t u : TypeId) (x y : Operand) (ho : o.op = .binOp .neq t x y u) (hu : Try.prog.underlying t = some (.array 32 5)) (p q : List Int) (hx : ev x = .agg (bytesV p).toArray) (hy : ev y = .agg (bytesV q).toArray) (hp : p.length = 32) (hq : q.length = 32) (hm : Try.prog.eqGuardType Try.prog.depth t = false) :
    (execOp ev o).run Try.prog w = .ok (.value (.bool (!decide (p = q)))) w := by
  have := eqAny t hu p q hp hq w
  unfold execOp
  simp [ho, hx, hy, run_eqGuard_agg (hm := hm), binOp, Op.equal, Op.maxDepth, this]
def seenL : List Bool := List.replicate 1536 false
theorem info34 : (Try.prog.info? 34).map (·.zero) = some (some (.agg (seenL.map Value.bool).toArray)) := by kernel_rfl
def sn (B : List Bool) (j : Nat) (x : List Int) : Prop := ∀ q : Nat, q < 256 → x = uniS q → B.getD (j * 256 + q) false = true
theorem uniS_inj {a b : Int} (h : uniS a = uniS b) : a = b := by
  have := congrArg (fun l => l.head?) h
  simpa [uniS, List.replicate_succ] using this
theorem isU.nat {x : List Int} (h : isU x) : ∃ q : Nat, q < 256 ∧ x = uniS q := by
  obtain ⟨c, hc, rfl⟩ := h
  exact ⟨c.toNat, by omega, by rw [Int.toNat_of_nonneg hc.1]⟩
/-- the program's disk of six blocks, of which every version but the exempt is marked in the block bs -/
def Vs (w wr : World) (d bs c : Nat) (X : Nat → List Int → Prop) (P : (Nat → Bk) → Prop) : Prop :=
  ∃ S F B, Code wr d 6 S c F ∧ (∀ j, j < 6 → ∀ x, (x = (S j).s ∨ x ∈ (S j).v) → isU x ∧ (X j x ∨ sn B j x)) ∧ P S ∧ (∀ b, F b → w.heap.size ≤ b) ∧ (¬ F bs ∧ w.heap.size ≤ bs ∧ BlkIs wr bs 34 (B.map .bool) ∧ B.length = 1536) ∧ Below w.heap.size w wr
/-- a flushed disk -/
def Vz (w wr : World) (d c : Nat) : Prop := ∃ S F, Code wr d 6 S c F ∧ (∀ j, j < 6 → isU (S j).s ∧ (S j).v = []) ∧ (∀ b, F b → w.heap.size ≤ b) ∧ Below w.heap.size w wr
section
variable {w w1 w2 : World} {d bs c k : Nat} {X Y : Nat → List Int → Prop} {P Q : (Nat → Bk) → Prop}
theorem OwnB.flush {r : Nat} (H : OwnB w w1 d r 6 c) (hc : c < 100000) : Calls Try.prog 15 #[.pointer (some ⟨d, 0, none⟩)] w1 fun e w' => e = .returned (.int .i64 0) ∧ Vz w w' d c := by
  obtain ⟨S, F, h1, h2, h3, h4⟩ := H
  obtain ⟨F1, F2, q1, q2, q3, rfl⟩ := h1
  refine (cflush q1 hc).mono ?_
  rintro e w' ⟨rfl, F', q, hk, hf⟩
  refine ⟨rfl, _, F', q, fun j hj => ⟨h2.now hj, rfl⟩, fun b p => ?_, h4.trans (hk.below (fun b q => h3 b (.inl q)) h4.size)⟩
  rcases hf b p with q | q
  · exact h3 b (.inl q)
  · exact Nat.le_trans h4.size q
theorem Vz.alloc (H : Vz w w1 d c) : Vs w (w1.alloc (.cells (seenL.map Value.bool).toArray 34)) d w1.heap.size c (fun j _ => 0 ≤ j) (fun S => ∀ j, j < 6 → (S j).v = []) := by
  obtain ⟨S, F, h1, h2, h3, h4⟩ := H
  have hB : Below w1.heap.size w1 (w1.alloc (.cells (seenL.map Value.bool).toArray 34)) := below_alloc1 w1 _
  refine ⟨S, F, seenL, h1.fresh hB, fun j hj x hx => ⟨?_, .inl (Nat.zero_le _)⟩, fun j hj => (h2 j hj).2, h3, ⟨fun q => by have := h1.lt _ q; omega, h4.size, heap_alloc_new w1 _, List.length_replicate⟩, h4.trans (hB.mono h4.size)⟩
  rcases hx with rfl | hx
  · exact (h2 j hj).1
  · rw [(h2 j hj).2] at hx; cases hx
theorem Vs.below (H : Vs w w1 d bs c X P) : Below w.heap.size w w1 := by
  obtain ⟨S, F, B, h1, h2, h3, h4, h5, h6⟩ := H
  exact h6
theorem BlkIs.lt' {w : World} {g : Nat} {t : TypeId} {l : List Value} (h : BlkIs w g t l) : g < w.heap.size := (Array.getElem?_eq_some_iff.1 h).1
theorem Vs.next (H : Vs w w1 d bs c X P) (hB : Below w1.heap.size w1 w2) : Vs w w2 d bs c X P := by
  obtain ⟨S, F, B, h1, h2, h3, h4, ⟨h5, h6, h7, h8⟩, h9⟩ := H
  exact ⟨S, F, B, h1.fresh hB, h2, h3, h4, ⟨h5, h6, (hB.block bs h7.lt').trans h7, h8⟩, h9.trans (hB.mono h9.size)⟩
theorem Vs.bs_lt (H : Vs w w1 d bs c X P) : bs < w1.heap.size := by
  obtain ⟨S, F, B, h1, h2, h3, h4, ⟨h5, h6, h7, h8⟩, h9⟩ := H
  exact h7.lt'
theorem Vs.weaken (H : Vs w w1 d bs c X P) (hX : ∀ S, P S → ∀ j, j < 6 → ∀ x, (x = (S j).s ∨ x ∈ (S j).v) → X j x → Y j x) (hP : ∀ S, P S → Q S) : Vs w w1 d bs c Y Q := by
  obtain ⟨S, F, B, h1, h2, h3, h4, h5, h6⟩ := H
  exact ⟨S, F, B, h1, fun j hj x hx => ⟨(h2 j hj x hx).1, (h2 j hj x hx).2.imp (hX S h3 j hj x hx) id⟩, hP S h3, h4, h5, h6⟩
theorem Vs.mono (H : Vs w w1 d bs c X P) {c' : Nat} (hc : c ≤ c') : Vs w w1 d bs c' X P := by
  obtain ⟨S, F, B, h1, h⟩ := H
  exact ⟨S, F, B, h1.mono hc, h⟩
theorem Vs.last (H : Vs w w1 d bs c X P) (hk : k < 6) :
    Calls Try.prog 16 #[.pointer (some ⟨d, 0, none⟩), .int .i64 (k : Int)] w1 fun e w' => ∃ q : Nat, e = .returned (.tuple #[secV (uniS q), .int .i64 0]) ∧ q < 256 ∧ Vs w w' d bs c X (fun S => P S ∧ (S k).s = uniS q) := by
  have H' := H
  obtain ⟨S, F, B, h1, h2, h3, h4, ⟨h5, h6, h7, h8⟩, h9⟩ := H
  obtain ⟨q, hq, e⟩ := (h2 k hk _ (.inl rfl)).1.nat
  refine (clast h1 hk).mono ?_
  rintro e' w' ⟨rfl, hB⟩
  rw [e]
  exact ⟨q, rfl, hq, S, F, B, h1.fresh hB, h2, ⟨h3, e⟩, h4, ⟨h5, h6, (hB.block bs h7.lt').trans h7, h8⟩, h9.trans (hB.mono h9.size)⟩
theorem Vs.read (H : Vs w w1 d bs c X (fun S => ∀ j, j < 6 → (S j).v = [])) (hk : k < 6) (hc : c < 100000) :
    Calls Try.prog 20 #[.pointer (some ⟨d, 0, none⟩), .int .i64 (k : Int)] w1 fun e w' => ∃ q : Nat, e = .returned (.tuple #[secV (uniS q), .int .i64 0]) ∧ q < 256 ∧ Vs w w' d bs c X (fun S => (∀ j, j < 6 → (S j).v = []) ∧ (S k).s = uniS q) := by
  have H' := H
  obtain ⟨S, F, B, h1, h2, h3, h4, ⟨h5, h6, h7, h8⟩, h9⟩ := H
  obtain ⟨q, hq, e⟩ := (h2 k hk _ (.inl rfl)).1.nat
  refine (cread h1 hk hc).mono ?_
  rintro e' w' ⟨rfl, hB⟩
  have hn : (S k).now = uniS q := by unfold Bk.now; rw [h3 k hk]; exact e
  rw [hn]
  exact ⟨q, rfl, hq, S, F, B, h1.fresh hB, h2, ⟨h3, e⟩, h4, ⟨h5, h6, (hB.block bs h7.lt').trans h7, h8⟩, h9.trans (hB.mono h9.size)⟩
theorem getB {B : List Bool} (hl : B.length = 1536) (hk : k < 6) {q : Nat} (hq : q < 256) : (B.map Value.bool)[k * 256 + q]? = some (.bool (B.getD (k * 256 + q) false)) := by
  rw [List.getElem?_map, List.getD_eq_getElem?_getD, List.getElem?_eq_getElem (by omega)]; rfl
theorem Vs.slot (H : Vs w w1 d bs c X P) (hk : k < 6) {q : Nat} (hq : q < 256) : (∃ b, w1.cell? ⟨bs, k * 256 + q, none⟩ = some (.bool b)) ∧ w1.frozen? ⟨bs, k * 256 + q, none⟩ = false := by
  obtain ⟨S, F, B, h1, h2, h3, h4, ⟨h5, h6, h7, h8⟩, h9⟩ := H
  exact ⟨⟨_, by rw [BlkIs.cell h7, getB h8 hk hq]⟩, BlkIs.frozen h7 _⟩
theorem Vs.seen (H : Vs w w1 d bs c (fun _ _ => False) P) (hk : k < 6) {q : Nat} (hq : q < 256) (hP : ∀ S, P S → (S k).s = uniS q) : w1.cell? ⟨bs, k * 256 + q, none⟩ = some (.bool true) := by
  obtain ⟨S, F, B, h1, h2, h3, h4, ⟨h5, h6, h7, h8⟩, h9⟩ := H
  rcases (h2 k hk _ (.inl rfl)).2 with e | e
  · cases e
  · rw [BlkIs.cell h7, getB h8 hk hq, e q hq (hP S h3)]
theorem Vs.mark (H : Vs w w1 d bs c X P) (hk : k < 6) {q : Nat} (hq : q < 256) : Vs w (w1.setCell ⟨bs, k * 256 + q, none⟩ (.bool true)) d bs c (fun j x => X j x ∧ ¬ (j = k ∧ x = uniS q)) P := by
  obtain ⟨S, F, B, h1, h2, h3, h4, ⟨h5, h6, h7, h8⟩, h9⟩ := H
  have hk' : Kept w1 (w1.setCell ⟨bs, k * 256 + q, none⟩ (.bool true)) (fun b => b = bs) := Kept.grown (setCell_grown _ _ _) (fun b e => by cases e; exact .inl rfl)
  refine ⟨S, F, B.set (k * 256 + q) true, h1.keep hk' (fun b p e => h5 (e ▸ p)), fun j hj x hx => ⟨(h2 j hj x hx).1, ?_⟩, h3, h4, ⟨h5, h6, ?_, by rw [List.length_set]; exact h8⟩, h9.trans (hk'.below (fun b e => by subst e; exact h6) h9.size)⟩
  · by_cases e : j = k ∧ x = uniS q
    · refine .inr fun q' hq' hx' => ?_
      rw [e.2] at hx'
      have := uniS_inj hx'
      have e2 : q' = q := by omega
      rw [getD_set _ _ _ _ (by omega), e2, e.1, if_pos rfl]
    · rcases (h2 j hj x hx).2 with y | y
      · exact .inl ⟨y, e⟩
      · refine .inr fun q' hq' hx' => ?_
        rw [getD_set _ _ _ _ (by omega)]
        split
        · rfl
        · exact y q' hq' hx'
  · have := h7.set_ (k * 256 + q) (.bool true)
    rw [← List.map_set] at this
    exact this
theorem Vs.went {F : Nat → Prop} {B : List Bool} {S' : Nat → Bk} {c' : Nat} (h4 : ∀ b, F b → w.heap.size ≤ b) (h5 : ¬ F bs ∧ w.heap.size ≤ bs ∧ BlkIs w1 bs 34 (B.map .bool) ∧ B.length = 1536) (h9 : Below w.heap.size w w1)
    (h2 : ∀ j, j < 6 → ∀ x, (x = (S' j).s ∨ x ∈ (S' j).v) → isU x ∧ (X j x ∨ sn B j x)) (h3 : P S') (hw : Went w1 w2 F (Code w2 d 6 S' c')) : Vs w w2 d bs c' X P := by
  obtain ⟨F', q, hk, hf⟩ := hw
  obtain ⟨h5, h6, h7, h8⟩ := h5
  refine ⟨S', F', B, q, h2, h3, fun b p => ?_, ⟨fun p => ?_, h6, (hk.block bs h7.lt' h5).trans h7, h8⟩, h9.trans (hk.below h4 h9.size)⟩
  · rcases hf b p with q | q
    · exact h4 b q
    · exact Nat.le_trans h9.size q
  · rcases hf _ p with q | q
    · exact h5 q
    · have := h7.lt'
      omega
theorem Vs.cases (H : Vs w w1 d bs c X P) (i : Nat) : Vs w w1 d bs c X (fun S => (S i).b = true) ∨ Vs w w1 d bs c X (fun S => (S i).b = false) := by
  obtain ⟨S, F, B, h1, h2, h3, h⟩ := H
  cases hb : (S i).b with
  | true => exact .inl ⟨S, F, B, h1, h2, hb, h⟩
  | false => exact .inr ⟨S, F, B, h1, h2, hb, h⟩
def noX : Nat → List Int → Prop := fun _ _ => False
theorem Vs.write_out (H : Vs w w1 d bs c noX P) {z : Int} (hz : ¬ (0 ≤ z ∧ z < 6)) (s : List Int) :
    Calls Try.prog 17 #[.pointer (some ⟨d, 0, none⟩), .int .i64 z, secV s] w1 fun e w' => e = .returned (.int .i64 2) ∧ Vs w w' d bs (c + 1) noX (fun _ => True) := by
  have H' := H
  obtain ⟨S, F, B, h1, h2, h3, h4, h5, h9⟩ := H
  refine (cwrite_no h1 z hz s).mono ?_
  rintro e w' ⟨rfl, hB⟩
  exact ⟨rfl, ((H'.next hB).mono (Nat.le_succ c)).weaken (fun _ _ _ _ _ _ h => h) (fun _ _ => trivial)⟩
theorem Vs.write_bad {i : Nat} (H : Vs w w1 d bs c noX (fun S => (S i).b = true)) (hi : i < 6) (s : List Int) :
    Calls Try.prog 17 #[.pointer (some ⟨d, 0, none⟩), .int .i64 (i : Int), secV s] w1 fun e w' => e = .returned (.int .i64 10) ∧ Vs w w' d bs (c + 1) noX (fun _ => True) := by
  have H' := H
  obtain ⟨S, F, B, h1, h2, h3, h4, h5, h9⟩ := H
  refine (cbad h1 hi h3 s).mono ?_
  rintro e w' ⟨rfl, hB⟩
  exact ⟨rfl, ((H'.next hB).mono (Nat.le_succ c)).weaken (fun _ _ _ _ _ _ h => h) (fun _ _ => trivial)⟩
theorem Vs.write_ok {i : Nat} (H : Vs w w1 d bs c noX (fun S => (S i).b = false)) (hi : i < 6) (hc : c < 100000) {q : Nat} (hq : q < 256) :
    Calls Try.prog 17 #[.pointer (some ⟨d, 0, none⟩), .int .i64 (i : Int), secV (uniS q)] w1 fun e w' => e = .returned (.int .i64 0) ∧ Vs w w' d bs (c + 1) (fun j x => j = i ∧ x = uniS q) (fun _ => True) := by
  obtain ⟨S, F, B, h1, h2, h3, h4, h5, h9⟩ := H
  have hb : (0 : Int) ≤ (q : Int) ∧ (q : Int) ≤ 255 := by omega
  refine (cwrite h1 hi h3 (uniS_ok hb) hc).mono ?_
  rintro e w' ⟨rfl, hw⟩
  refine ⟨rfl, Vs.went h4 h5 h9 (fun j hj x hx => ?_) trivial hw⟩
  by_cases e : j = i
  · subst e
    rw [upd_same] at hx
    have hx' : (x = (S j).s ∨ x ∈ (S j).v) ∨ x = uniS q := by
      rcases hx with q' | q'
      · exact .inl (.inl q')
      · rcases List.mem_append.1 q' with q' | q'
        · exact .inl (.inr q')
        · exact .inr (by simpa using q')
    rcases hx' with q' | q'
    · rcases h2 j hj x q' with ⟨a, b | b⟩
      · cases b
      · exact ⟨a, .inr b⟩
    · exact ⟨⟨q, hb, q'⟩, .inl ⟨rfl, q'⟩⟩
  · rw [upd_other _ _ e] at hx
    rcases h2 j hj x hx with ⟨a, b | b⟩
    · cases b
    · exact ⟨a, .inr b⟩
theorem Vs.marked {i q : Nat} (H : Vs w w1 d bs c (fun j x => (j = i ∧ x = uniS q) ∧ ¬ (j = i ∧ x = uniS q)) P) : Vs w w1 d bs c noX P :=
  H.weaken (fun _ _ _ _ _ _ h => absurd h.1 h.2) (fun _ h => h)
theorem Vs.crash (H : Vs w w1 d bs c noX P) (hc : c < 100000) (pick : List Int) (hpw : ∀ x ∈ pick, -9223372036854775808 ≤ x ∧ x ≤ 9223372036854775807) (A : Option Addr) (pc : Nat) (hA : PickAt w (fun _ => False) A pick) :
    Calls Try.prog 19 #[.pointer (some ⟨d, 0, none⟩), .slice A pick.length pc] w1 fun e w' => e = .returned (.int .i64 0) ∧ Vs w w' d bs c noX (fun S => ∀ j, j < 6 → (S j).v = []) := by
  obtain ⟨S, F, B, h1, h2, h3, h4, h5, h9⟩ := H
  have hp : PickAt w1 F A pick := by
    rcases hA with q | ⟨b, o, q1, q2, _, q4⟩
    · exact .inl q
    · exact .inr ⟨b, o, q1, Nat.lt_of_lt_of_le q2 h9.size, fun q => by have := h4 b q; omega, fun j u hj => by rw [World.cell?_of_block (a := ⟨b, o + j, none⟩) (h9.block b q2)]; exact q4 j u hj⟩
  refine (ccrash h1 hc pick hpw A pc hp).mono ?_
  rintro e w' ⟨rfl, hw⟩
  refine ⟨rfl, Vs.went h4 h5 h9 (fun j hj x hx => ?_) (fun j _ => rfl) hw⟩
  have hx' : x = (S j).s ∨ x ∈ (S j).v := by
    rcases hx with e | hx
    · have h0 : ((Option.bind pick[(waits 6 S).idxOf j]? (pickAt (S j).v)).getD (S j).s) = x := e.symm
      cases hp2 : pick[(waits 6 S).idxOf j]? with
      | none => rw [hp2] at h0; exact .inl h0.symm
      | some p =>
        rw [hp2, Option.bind_some] at h0
        cases e2 : pickAt (S j).v p with
        | none => rw [e2] at h0; exact .inl h0.symm
        | some y => rw [e2] at h0; exact .inr (h0 ▸ pickAt_mem e2)
    · cases hx
  exact h2 j hj x hx'
theorem Vs.vers0 (H : Vs w w1 d bs c X (fun S => (∀ j, j < 6 → (S j).v = []) ∧ P S)) (hk : k < 6) (hc : c < 100000) :
    Calls Try.prog 21 #[.pointer (some ⟨d, 0, none⟩), .int .i64 (k : Int)] w1 fun e w' => (e = .returned (.int .i64 0) ∧ Vs w w' d bs c X (fun S => (∀ j, j < 6 → (S j).v = []) ∧ P S)) ∧ Below w1.heap.size w1 w' := by
  have H' := H
  obtain ⟨S, F, B, h1, h2, h3, h4, h5, h9⟩ := H
  refine (cvers h1 (k : Int) (by omega) hc).mono ?_
  rintro e w' ⟨rfl, hB⟩
  have e0 : vers 6 S (k : Int) = 0 := by unfold vers; rw [if_pos (by omega), Int.toNat_natCast, h3.1 k hk]; rfl
  rw [e0]
  exact ⟨⟨rfl, H'.next hB⟩, hB⟩
end
end Go.Proofs.Ytieeibdhaoaeaaa
