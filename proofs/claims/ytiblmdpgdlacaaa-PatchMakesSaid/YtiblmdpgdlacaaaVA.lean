/- All of Diff make the one the other one: plain words. -/
import Derived.Test.YtiblmdpgdlacaaaWPatchDiffs
namespace Go.Proofs.Ytiblmdpgdlacaaa
open Go.RowKit

theorem seg_all (d : Nat → Bool) : ∀ k, (∀ x ∈ segs d k, x.1 < x.2 ∧ x.2 ≤ k ∧ ∀ i, x.1 ≤ i → i < x.2 → d i = true) ∧ (segs d k).Pairwise (fun x y => x.2 < y.1) ∧ ∀ i, i < k → d i = true → ∃ x ∈ segs d k, x.1 ≤ i ∧ i < x.2 := by
  intro k
  induction k with
  | zero => exact ⟨by simp [segs], by simp [segs], by omega⟩
  | succ k ih =>
    obtain ⟨h1, h2, h3⟩ := ih
    cases hd : d k with
    | false =>
      rw [segs_no hd]
      refine ⟨fun x hx => ⟨(h1 x hx).1, by have := (h1 x hx).2.1; omega, (h1 x hx).2.2⟩, h2, fun i hi hdi => h3 i ?_ hdi⟩
      rcases Nat.lt_or_ge i k with h | h
      · exact h
      · obtain rfl : i = k := by omega
        rw [hd] at hdi; cases hdi
    | true =>
      by_cases hm : 0 < k ∧ d (k - 1) = true
      · obtain ⟨L, f, hf, e⟩ := segs_last k hm.1 hm.2
        have e2 : segs d (k + 1) = L ++ [(f, k + 1)] := by rw [segs_more hd hm.1 hm.2, e]; simp
        rw [e] at h1 h2 h3
        rw [e2]
        have hfk := h1 (f, k) (by simp)
        rw [List.pairwise_append] at h2 ⊢
        refine ⟨fun x hx => ?_, ⟨h2.1, by simp, fun x hx y hy => ?_⟩, fun i hi hdi => ?_⟩
        · rcases List.mem_append.1 hx with h | h
          · have := h1 x (List.mem_append_left _ h)
            exact ⟨this.1, by omega, this.2.2⟩
          · obtain rfl : x = (f, k + 1) := by simpa using h
            refine ⟨by show f < k + 1; omega, Nat.le_refl _, fun i h4 h5 => ?_⟩
            rcases Nat.lt_or_ge i k with h6 | h6
            · exact hfk.2.2 i h4 h6
            · obtain rfl : i = k := by have : i < k + 1 := h5; omega
              exact hd
        · obtain rfl : y = (f, k + 1) := by simpa using hy
          exact h2.2.2 x hx (f, k) (by simp)
        · rcases Nat.lt_or_ge i k with h6 | h6
          · obtain ⟨x, hx, h4, h5⟩ := h3 i h6 hdi
            rcases List.mem_append.1 hx with h | h
            · exact ⟨x, List.mem_append_left _ h, h4, h5⟩
            · obtain rfl : x = (f, k) := by simpa using h
              exact ⟨(f, k + 1), by simp, h4, by show i < k + 1; omega⟩
          · exact ⟨(f, k + 1), by simp, by show f ≤ i; omega, by show i < k + 1; omega⟩
      · have h0 : k = 0 ∨ d (k - 1) = false := by
          by_cases h0 : k = 0
          · exact .inl h0
          · refine .inr ?_
            cases h4 : d (k - 1) with
            | false => rfl
            | true => exact absurd ⟨by omega, h4⟩ hm
        rw [segs_new hd h0, List.pairwise_append]
        refine ⟨fun x hx => ?_, ⟨h2, by simp, fun x hx y hy => ?_⟩, fun i hi hdi => ?_⟩
        · rcases List.mem_append.1 hx with h | h
          · have := h1 x h
            exact ⟨this.1, by omega, this.2.2⟩
          · obtain rfl : x = (k, k + 1) := by simpa using h
            refine ⟨by show k < k + 1; omega, Nat.le_refl _, fun i h4 h5 => ?_⟩
            obtain rfl : i = k := by have : i < k + 1 := h5; have : k ≤ i := h4; omega
            exact hd
        · obtain rfl : y = (k, k + 1) := by simpa using hy
          show x.2 < k
          have hx1 := h1 x hx
          rcases Nat.lt_or_ge x.2 k with h | h
          · exact h
          · have : d (k - 1) = true := hx1.2.2 (k - 1) (by omega) (by omega)
            rcases h0 with h0 | h0
            · omega
            · rw [h0] at this; cases this
        · rcases Nat.lt_or_ge i k with h6 | h6
          · obtain ⟨x, hx, h4, h5⟩ := h3 i h6 hdi
            exact ⟨x, List.mem_append_left _ hx, h4, h5⟩
          · exact ⟨(k, k + 1), by simp, by show k ≤ i; omega, by show i < k + 1; omega⟩

theorem seg_right {bl : Int} {Y : List Int} (h0 : 0 ≤ bl) (h1 : bl < 96) (hY : Y.length = 32) {x : Nat × Nat} (hx : x.1 < x.2 ∧ x.2 ≤ 32) : (segP bl Y x).right = true :=
  cutP_ok bl Y x.1 x.2 h0 h1 hx.1 (by omega) (by omega)
theorem nth_putseg {bl : Int} {X Y : List Int} (h0 : 0 ≤ bl) (h1 : bl < 96) (hX : X.length = 32) (hY : Y.length = 32) (hYa : AllB Y) {x : Nat × Nat} (hx : x.1 < x.2 ∧ x.2 ≤ 32) (i : Nat) :
    nth (put X (segP bl Y x)) i = if x.1 ≤ i ∧ i < x.2 then nth Y i else nth X i := by
  rw [nth_put (seg_right h0 h1 hY hx) hX]
  have e1 : (segP bl Y x).o.toNat = x.1 := rfl
  have e2 : (segP bl Y x).s = strOfNums (part Y x.1 x.2) := rfl
  rw [e1, e2, strOfNums_size, length_part _ _ _ (by omega), sb_strOf _ (part_all hYa _ _)]
  by_cases h : x.1 ≤ i ∧ i < x.2
  · rw [if_pos (by omega), if_pos h, nth_part _ _ _ _ (by omega), show x.1 + (i - x.1) = i by omega]
  · rw [if_neg (by omega), if_neg h]
theorem nth_putsegs {bl : Int} {Y : List Int} (h0 : 0 ≤ bl) (h1 : bl < 96) (hY : Y.length = 32) (hYa : AllB Y) : ∀ (L : List (Nat × Nat)) (X : List Int), X.length = 32 → (∀ x ∈ L, x.1 < x.2 ∧ x.2 ≤ 32) → ∀ i,
    ((∃ x ∈ L, x.1 ≤ i ∧ i < x.2) → nth ((L.map (segP bl Y)).foldl put X) i = nth Y i) ∧ ((¬ ∃ x ∈ L, x.1 ≤ i ∧ i < x.2) → nth ((L.map (segP bl Y)).foldl put X) i = nth X i) ∧ ((L.map (segP bl Y)).foldl put X).length = 32 := by
  intro L
  induction L with
  | nil => intro X hX _ i; exact ⟨by rintro ⟨x, hx, _⟩; simp at hx, fun _ => rfl, hX⟩
  | cons y L ih =>
    intro X hX hL i
    have hy := hL y (by simp)
    have hX2 : (put X (segP bl Y y)).length = 32 := length_put (seg_right h0 h1 hY hy) hX
    have := ih (put X (segP bl Y y)) hX2 (fun x hx => hL x (by simp [hx])) i
    have hn := nth_putseg h0 h1 hX hY hYa hy i
    refine ⟨?_, ?_, this.2.2⟩
    · rintro ⟨x, hx, h3, h4⟩
      by_cases h5 : ∃ x ∈ L, x.1 ≤ i ∧ i < x.2
      · exact this.1 h5
      · have e := this.2.1 h5
        have : x = y := by
          rcases List.mem_cons.1 hx with h | h
          · exact h
          · exact absurd ⟨x, h, h3, h4⟩ h5
        subst this
        rw [List.map_cons, List.foldl_cons, e, hn, if_pos ⟨h3, h4⟩]
    · intro h5
      have h6 : ¬ ∃ x ∈ L, x.1 ≤ i ∧ i < x.2 := fun ⟨x, hx, h⟩ => h5 ⟨x, by simp [hx], h⟩
      rw [List.map_cons, List.foldl_cons, this.2.1 h6, hn, if_neg (fun h => h5 ⟨y, by simp, h⟩)]

theorem segs_in (X Y : List Int) : ∀ x ∈ segs (df X Y) 32, x.1 < x.2 ∧ x.2 ≤ 32 := fun x hx => ⟨((seg_all (df X Y) 32).1 x hx).1, ((seg_all (df X Y) 32).1 x hx).2.1⟩
theorem diff_right {bl : Int} (X : List Int) {Y : List Int} (h0 : 0 ≤ bl) (h1 : bl < 96) (hY : Y.length = 32) : ∀ p ∈ diffP bl Y (df X Y) 32, p.right = true := by
  intro p hp
  obtain ⟨x, hx, rfl⟩ := List.mem_map.1 hp
  exact seg_right h0 h1 hY (segs_in X Y x hx)
section
variable {bl : Int} {X Y : List Int} (h0 : 0 ≤ bl) (h1 : bl < 96) (hX : X.length = 32) (hY : Y.length = 32) (hXa : AllB X) (hYa : AllB Y)
include h0 h1 hX hY hYa
/-- ALL OF DIFF MAKE THE ONE THE OTHER ONE -/
theorem diff_makes : allP X (diffP bl Y (df X Y) 32) = some Y := by
  unfold allP
  rw [if_pos (by rw [List.all_eq_true]; exact diff_right X h0 h1 hY)]
  have h := nth_putsegs h0 h1 hY hYa (segs (df X Y) 32) X hX (segs_in X Y)
  have hl : ((diffP bl Y (df X Y) 32).foldl put X).length = 32 := (h 0).2.2
  congr 1
  refine ext_nth (by rw [hl, hY]) fun i hi => ?_
  by_cases he : ∃ x ∈ segs (df X Y) 32, x.1 ≤ i ∧ i < x.2
  · exact (h i).1 he
  · have e := (h i).2.1 he
    refine e.trans ?_
    cases hd : df X Y i with
    | true => exact absurd ((seg_all (df X Y) 32).2.2 i (by omega) hd) he
    | false =>
      have : (nth X i != nth Y i) = false := hd
      simpa [bne] using this
include hXa
/-- none is idle -/
theorem diff_busy : ∀ p ∈ diffP bl Y (df X Y) 32, idleA X p = false := by
  intro p hp
  have hr := diff_right X h0 h1 hY p hp
  obtain ⟨x, hx, rfl⟩ := List.mem_map.1 hp
  have hs := segs_in X Y x hx
  have hd := ((seg_all (df X Y) 32).1 x hx).2.2 x.1 (Nat.le_refl _) hs.1
  have hi := idle_iff hr hX hXa
  unfold idleA
  have : ¬ (undoP X (segP bl Y x)).s = (segP bl Y x).s := by
    rw [hi]
    intro e
    have hn := nth_putseg h0 h1 hX hY hYa hs x.1
    rw [e, if_pos ⟨Nat.le_refl _, hs.1⟩] at hn
    have hd' : (nth X x.1 != nth Y x.1) = true := hd
    rw [hn] at hd'
    simp at hd'
  simp [this]
end
theorem diff_block {bl : Int} {Y : List Int} {d : Nat → Bool} {k j : Nat} (h : j < (diffP bl Y d k).length) : (pn (diffP bl Y d k) j).b = bl := by
  rw [pn_lt h]
  unfold diffP at h ⊢
  rw [List.getElem_map]
  rfl
theorem diff_gap {bl : Int} {Y : List Int} {d : Nat → Bool} {j : Nat} (hY : Y.length = 32) (h : j + 1 < (diffP bl Y d 32).length) : (pn (diffP bl Y d 32) j).o + (pn (diffP bl Y d 32) j).s.size < (pn (diffP bl Y d 32) (j + 1)).o := by
  have hl : (diffP bl Y d 32).length = (segs d 32).length := by simp [diffP]
  have hp := (seg_all d 32).2.1
  rw [List.pairwise_iff_getElem] at hp
  have hlt := hp j (j + 1) (by omega) (by omega) (by omega)
  have h1 := (seg_all d 32).1 ((segs d 32)[j]'(by omega)) (List.getElem_mem _)
  rw [pn_lt (by omega), pn_lt h]
  have e1 : (diffP bl Y d 32)[j]'(by omega) = segP bl Y ((segs d 32)[j]'(by omega)) := by simp [diffP]
  have e2 : (diffP bl Y d 32)[j + 1]'h = segP bl Y ((segs d 32)[j + 1]'(by omega)) := by simp [diffP]
  rw [e1, e2]
  have s1 : (segP bl Y ((segs d 32)[j]'(by omega))).s.size = ((segs d 32)[j]'(by omega)).2 - ((segs d 32)[j]'(by omega)).1 := by
    have : (segP bl Y ((segs d 32)[j]'(by omega))).s = strOfNums (part Y ((segs d 32)[j]'(by omega)).1 ((segs d 32)[j]'(by omega)).2) := rfl
    rw [this, strOfNums_size, length_part _ _ _ (by omega)]
  rw [s1]
  show ((((segs d 32)[j]'(by omega)).1 : Nat) : Int) + _ < ((((segs d 32)[j + 1]'(by omega)).1 : Nat) : Int)
  omega
theorem diff_none {bl : Int} {X Y : List Int} (hX : X.length = 32) (hY : Y.length = 32) : (diffP bl Y (df X Y) 32).length = 0 ↔ X = Y := by
  have hl : (diffP bl Y (df X Y) 32).length = (segs (df X Y) 32).length := by simp [diffP]
  rw [hl]
  constructor
  · intro h
    have h0 := List.eq_nil_of_length_eq_zero h
    refine ext_nth (by rw [hX, hY]) fun i hi => ?_
    cases hd : df X Y i with
    | true =>
      obtain ⟨x, hx, _⟩ := (seg_all (df X Y) 32).2.2 i (by omega) hd
      rw [h0] at hx; simp at hx
    | false =>
      have : (nth X i != nth Y i) = false := hd
      simpa [bne] using this
  · intro h
    subst h
    cases hs : segs (df X X) 32 with
    | nil => rfl
    | cons x L =>
      have h1 := (seg_all (df X X) 32).1 x (by rw [hs]; simp)
      have h2 := h1.2.2 x.1 (Nat.le_refl _) h1.1
      simp [df] at h2
end Go.Proofs.Ytiblmdpgdlacaaa
