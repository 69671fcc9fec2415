/- All of Diff make the one the other one; a whole array built as a slice of one. -/
import Derived.Test.YtieeibdhaoaeaaaHH
namespace Go.Proofs.Ytieeibdhaoaeaaa
open Go.RowKit

theorem segs_last {d : Nat → Bool} : ∀ k, 0 < k → d (k - 1) = true → ∃ L f, f < k ∧ segs d k = L ++ [(f, k)] := by
  intro k
  induction k with
  | zero => intro h; omega
  | succ k ih =>
    intro _ hd
    have hd' : d k = true := hd
    by_cases h : 0 < k ∧ d (k - 1) = true
    · obtain ⟨L, f, hf, e⟩ := ih h.1 h.2
      refine ⟨L, f, by omega, ?_⟩
      rw [segs_more hd' h.1 h.2, e]
      simp
    · have h2 : k = 0 ∨ d (k - 1) = false := by
        by_cases h0 : k = 0
        · exact .inl h0
        · refine .inr ?_
          cases h3 : d (k - 1) with
          | false => rfl
          | true => exact absurd ⟨by omega, h3⟩ h
      exact ⟨segs d k, k, by omega, segs_new hd' h2⟩
theorem seg_all (d : Nat → Bool) : ∀ k, (∀ x ∈ segs d k, x.1 < x.2 ∧ x.2 ≤ k ∧ ∀ i, x.1 ≤ i → i < x.2 → d i = true) ∧ (segs d k).Pairwise (fun x y => x.2 < y.1) ∧ ∀ i, i < k → d i = true → ∃ x ∈ segs d k, x.1 ≤ i ∧ i < x.2 := by
  intro k
  induction k with
  | zero => exact ⟨by simp [segs], by simp [segs], by omega⟩
  | succ k ih =>
    obtain ⟨h1, h2, h3⟩ := ih
    cases hd : d k with
    | false =>
      rw [segs_no hd]
      refine ⟨fun x hx => ⟨(h1 x hx).1, by have := (h1 x hx).2.1; omega, (h1 x hx).2.2⟩, h2, fun i hi hdi => h3 i ?_ hdi⟩
      rcases Nat.lt_or_ge i k with h | h
      · exact h
      · obtain rfl : i = k := by omega
        rw [hd] at hdi; cases hdi
    | true =>
      by_cases hm : 0 < k ∧ d (k - 1) = true
      · obtain ⟨L, f, hf, e⟩ := segs_last k hm.1 hm.2
        have e2 : segs d (k + 1) = L ++ [(f, k + 1)] := by rw [segs_more hd hm.1 hm.2, e]; simp
        rw [e] at h1 h2 h3
        rw [e2]
        have hfk := h1 (f, k) (by simp)
        rw [List.pairwise_append] at h2 ⊢
        refine ⟨fun x hx => ?_, ⟨h2.1, by simp, fun x hx y hy => ?_⟩, fun i hi hdi => ?_⟩
        · rcases List.mem_append.1 hx with h | h
          · have := h1 x (List.mem_append_left _ h)
            exact ⟨this.1, by omega, this.2.2⟩
          · obtain rfl : x = (f, k + 1) := by simpa using h
            refine ⟨by show f < k + 1; omega, Nat.le_refl _, fun i h4 h5 => ?_⟩
            rcases Nat.lt_or_ge i k with h6 | h6
            · exact hfk.2.2 i h4 h6
            · obtain rfl : i = k := by have : i < k + 1 := h5; omega
              exact hd
        · obtain rfl : y = (f, k + 1) := by simpa using hy
          exact h2.2.2 x hx (f, k) (by simp)
        · rcases Nat.lt_or_ge i k with h6 | h6
          · obtain ⟨x, hx, h4, h5⟩ := h3 i h6 hdi
            rcases List.mem_append.1 hx with h | h
            · exact ⟨x, List.mem_append_left _ h, h4, h5⟩
            · obtain rfl : x = (f, k) := by simpa using h
              exact ⟨(f, k + 1), by simp, h4, by show i < k + 1; omega⟩
          · exact ⟨(f, k + 1), by simp, by show f ≤ i; omega, by show i < k + 1; omega⟩
      · have h0 : k = 0 ∨ d (k - 1) = false := by
          by_cases h0 : k = 0
          · exact .inl h0
          · refine .inr ?_
            cases h4 : d (k - 1) with
            | false => rfl
            | true => exact absurd ⟨by omega, h4⟩ hm
        rw [segs_new hd h0, List.pairwise_append]
        refine ⟨fun x hx => ?_, ⟨h2, by simp, fun x hx y hy => ?_⟩, fun i hi hdi => ?_⟩
        · rcases List.mem_append.1 hx with h | h
          · have := h1 x h
            exact ⟨this.1, by omega, this.2.2⟩
          · obtain rfl : x = (k, k + 1) := by simpa using h
            refine ⟨by show k < k + 1; omega, Nat.le_refl _, fun i h4 h5 => ?_⟩
            obtain rfl : i = k := by have : i < k + 1 := h5; have : k ≤ i := h4; omega
            exact hd
        · obtain rfl : y = (k, k + 1) := by simpa using hy
          show x.2 < k
          have hx1 := h1 x hx
          rcases Nat.lt_or_ge x.2 k with h | h
          · exact h
          · have : d (k - 1) = true := hx1.2.2 (k - 1) (by omega) (by omega)
            rcases h0 with h0 | h0
            · omega
            · rw [h0] at this; cases this
        · rcases Nat.lt_or_ge i k with h6 | h6
          · obtain ⟨x, hx, h4, h5⟩ := h3 i h6 hdi
            exact ⟨x, List.mem_append_left _ hx, h4, h5⟩
          · exact ⟨(k, k + 1), by simp, by show k ≤ i; omega, by show i < k + 1; omega⟩

theorem seg_right {bl : Int} {Y : List Int} (h0 : 0 ≤ bl) (h1 : bl < 96) (hY : Y.length = 32) {x : Nat × Nat} (hx : x.1 < x.2 ∧ x.2 ≤ 32) : (segP bl Y x).right = true :=
  cutP_ok bl Y x.1 x.2 h0 h1 hx.1 (by omega) (by omega)
theorem nth_putseg {bl : Int} {X Y : List Int} (h0 : 0 ≤ bl) (h1 : bl < 96) (hX : X.length = 32) (hY : Y.length = 32) (hYa : AllB Y) {x : Nat × Nat} (hx : x.1 < x.2 ∧ x.2 ≤ 32) (i : Nat) :
    nth (put X (segP bl Y x)) i = if x.1 ≤ i ∧ i < x.2 then nth Y i else nth X i := by
  rw [nth_put (seg_right h0 h1 hY hx) hX]
  have e1 : (segP bl Y x).o.toNat = x.1 := rfl
  have e2 : (segP bl Y x).s = strOfNums (part Y x.1 x.2) := rfl
  rw [e1, e2, strOfNums_size, length_part _ _ _ (by omega), sb_strOf _ (part_all hYa _ _)]
  by_cases h : x.1 ≤ i ∧ i < x.2
  · rw [if_pos (by omega), if_pos h, nth_part _ _ _ _ (by omega), show x.1 + (i - x.1) = i by omega]
  · rw [if_neg (by omega), if_neg h]
theorem nth_putsegs {bl : Int} {Y : List Int} (h0 : 0 ≤ bl) (h1 : bl < 96) (hY : Y.length = 32) (hYa : AllB Y) : ∀ (L : List (Nat × Nat)) (X : List Int), X.length = 32 → (∀ x ∈ L, x.1 < x.2 ∧ x.2 ≤ 32) → ∀ i,
    ((∃ x ∈ L, x.1 ≤ i ∧ i < x.2) → nth ((L.map (segP bl Y)).foldl put X) i = nth Y i) ∧ ((¬ ∃ x ∈ L, x.1 ≤ i ∧ i < x.2) → nth ((L.map (segP bl Y)).foldl put X) i = nth X i) ∧ ((L.map (segP bl Y)).foldl put X).length = 32 := by
  intro L
  induction L with
  | nil => intro X hX _ i; exact ⟨by rintro ⟨x, hx, _⟩; simp at hx, fun _ => rfl, hX⟩
  | cons y L ih =>
    intro X hX hL i
    have hy := hL y (by simp)
    have hX2 : (put X (segP bl Y y)).length = 32 := length_put (seg_right h0 h1 hY hy) hX
    have := ih (put X (segP bl Y y)) hX2 (fun x hx => hL x (by simp [hx])) i
    have hn := nth_putseg h0 h1 hX hY hYa hy i
    refine ⟨?_, ?_, this.2.2⟩
    · rintro ⟨x, hx, h3, h4⟩
      by_cases h5 : ∃ x ∈ L, x.1 ≤ i ∧ i < x.2
      · exact this.1 h5
      · have e := this.2.1 h5
        have : x = y := by
          rcases List.mem_cons.1 hx with h | h
          · exact h
          · exact absurd ⟨x, h, h3, h4⟩ h5
        subst this
        rw [List.map_cons, List.foldl_cons, e, hn, if_pos ⟨h3, h4⟩]
    · intro h5
      have h6 : ¬ ∃ x ∈ L, x.1 ≤ i ∧ i < x.2 := fun ⟨x, hx, h⟩ => h5 ⟨x, by simp [hx], h⟩
      rw [List.map_cons, List.foldl_cons, this.2.1 h6, hn, if_neg (fun h => h5 ⟨y, by simp, h⟩)]

theorem segs_in (X Y : List Int) : ∀ x ∈ segs (df X Y) 32, x.1 < x.2 ∧ x.2 ≤ 32 := fun x hx => ⟨((seg_all (df X Y) 32).1 x hx).1, ((seg_all (df X Y) 32).1 x hx).2.1⟩
theorem diff_right {bl : Int} (X : List Int) {Y : List Int} (h0 : 0 ≤ bl) (h1 : bl < 96) (hY : Y.length = 32) : ∀ p ∈ diffP bl Y (df X Y) 32, p.right = true := by
  intro p hp
  obtain ⟨x, hx, rfl⟩ := List.mem_map.1 hp
  exact seg_right h0 h1 hY (segs_in X Y x hx)
section
variable {bl : Int} {X Y : List Int} (h0 : 0 ≤ bl) (h1 : bl < 96) (hX : X.length = 32) (hY : Y.length = 32) (hYa : AllB Y)
include h0 h1 hX hY hYa
/-- ALL OF DIFF MAKE THE ONE THE OTHER ONE -/
theorem diff_makes : allP X (diffP bl Y (df X Y) 32) = some Y := by
  unfold allP
  rw [if_pos (by rw [List.all_eq_true]; exact diff_right X h0 h1 hY)]
  have h := nth_putsegs h0 h1 hY hYa (segs (df X Y) 32) X hX (segs_in X Y)
  have hl : ((diffP bl Y (df X Y) 32).foldl put X).length = 32 := (h 0).2.2
  congr 1
  refine ext_nth (by rw [hl, hY]) fun i hi => ?_
  by_cases he : ∃ x ∈ segs (df X Y) 32, x.1 ≤ i ∧ i < x.2
  · exact (h i).1 he
  · have e := (h i).2.1 he
    refine e.trans ?_
    cases hd : df X Y i with
    | true => exact absurd ((seg_all (df X Y) 32).2.2 i (by omega) hd) he
    | false =>
      have : (nth X i != nth Y i) = false := hd
      simpa [bne] using this
end
set_option maxRecDepth 100000 in
theorem fill36 : ∀ s : List Int, s.length = 32 → Instr.fill (fun i => some (i * 32, 32)) ((Array.range 32).map ((bytesV (List.replicate 32 0)).toArray[· % 32]!)) [(0, .agg (bytesV s).toArray)] = some (bytesV s).toArray
  | [a0, a1, a2, a3, a4, a5, a6, a7, a8, a9, a10, a11, a12, a13, a14, a15, a16, a17, a18, a19, a20, a21, a22, a23, a24, a25, a26, a27, a28, a29, a30, a31], _ => by kernel_rfl
theorem wpList_slice36 {P : Program} {ops : Array Oper} {rest : List Oper} {o : Oper} {a : Act} {w : World} {Q : Exit → Act → World → Prop} (hg : o.guard = none) (x : Operand) (t : TypeId) (ht : P.underlying t = some (.slice 36)) (ho : o.op = .buildSlice t 1 #[(0, x)]) (R : Array Value) (hx : a.eval x = .agg R)
    (i0 : TypeInfo) (hi : P.info? 36 = some i0) (hz : i0.zero = some (.agg (bytesV (List.replicate 32 0)).toArray)) (hs : i0.size = 32)
    (hf : Instr.fill (fun i => some (i * 32, 32)) ((Array.range 32).map ((bytesV (List.replicate 32 0)).toArray[· % 32]!)) [(0, .agg R)] = some R)
    (h : wpList P ops Q rest (a.put o.dst (.slice (some ⟨w.heap.size, 0, none⟩) 1 1)) (w.alloc (.cells R 36))) : wpList P ops Q (o :: rest) a w := by
  refine wpList_buildSlice hg t 36 1 #[(0, x)] ho R i0 _ ht hi hz (by rw [hs]; decide) (by rw [hs]; decide) ?_ h
  rw [hs]
  simpa [hx, Value.cells, bytesV] using hf
theorem row_bts {w : World} {g B t : Nat} {l : List Int} (h : BlkIs w g t (bytesV l)) (hl : AllB l) (hB : g < B) : Bts w B (some ⟨g, 0, none⟩) l :=
  ⟨hl, fun _ => ⟨g, 0, rfl, hB, fun j hj => by
    rw [Nat.zero_add, h.cell, bytesV, List.getElem?_map, List.getElem?_eq_getElem hj, nth_lt hj]; rfl⟩⟩
end Go.Proofs.Ytieeibdhaoaeaaa
