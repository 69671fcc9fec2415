/- What is seen, closed; the bytes of a list of patches, put one behind the other. -/
import Derived.Test.YtegacggkdjgdiaaCP
set_option linter.unusedVariables false
set_option linter.unusedSimpArgs false
namespace Go.Proofs.Ytegacggkdjgdiaa
open Go.RowKit

/-- the set that Close tells of -/
def closeC (DD : List (List Nat)) (seen : List Int) (k : Nat) : Bool := Gr.upM DD (Gr.markI DD.length seen) DD.length k
theorem closeC_list (DD : List (List Nat)) (seen : List Int) : Gr.closeL DD seen = (List.range DD.length).filter (closeC DD seen) := rfl
theorem closeC_iff {DD : List (List Nat)} (hD : Gr.OkD DD) (seen : List Int) (k : Nat) : closeC DD seen k = true ↔ Gr.Ahead DD (Gr.markI DD.length seen) k :=
  Gr.upM_iff hD.right.2 (fun x hx => Gr.markI_lt hx) k
theorem markI_in {m : Nat} {seen : List Int} {k : Nat} : Gr.markI m seen k = true ↔ k < m ∧ (k : Int) ∈ seen := by simp [Gr.markI]
theorem closeC_closed {DD : List (List Nat)} (hD : Gr.OkD DD) (seen : List Int) : ClosedT (Gr.rowN DD) DD.length (closeC DD seen) := fun y hy hc d hd => by
  rw [closeC_iff hD] at hc ⊢
  rcases hc with q | ⟨z, h1, h2⟩
  · exact .inr ⟨y, q, .one hd⟩
  · exact .inr ⟨z, h1, .more hd h2⟩
theorem closeC_least {DD : List (List Nat)} (hD : Gr.OkD DD) (seen : List Int) {U : Nat → Bool} (hU : ClosedT (Gr.rowN DD) DD.length U) (hs : ∀ k, k < DD.length → (k : Int) ∈ seen → U k = true) (k : Nat) (hc : closeC DD seen k = true) : U k = true := by
  rw [closeC_iff hD] at hc
  have hlt : ∀ x y, x ∈ Gr.rowN DD y → y < DD.length := fun x y h => by
    rcases Nat.lt_or_ge y DD.length with g | g
    · exact g
    · rw [Gr.rowN_nil g] at h; cases h
  rcases hc with q | ⟨z, h1, h2⟩
  · obtain ⟨g1, g2⟩ := markI_in.1 q
    exact hs k g1 g2
  · obtain ⟨g1, g2⟩ := markI_in.1 h1
    have hz := hs z g1 g2
    clear h1 g1 g2
    induction h2 with
    | one h => exact hU _ (hlt _ _ h) hz _ h
    | more h k ih => exact hU _ (hlt _ _ h) (ih hz) _ h
/-- what is seen, closed, is what a crash leaves -/
theorem VS.seen {P : Nat → Pt} {DD : List (List Nat)} {n : Nat} {S : Nat → Bk} {l : List Wr} (h : VS P (Gr.rowN DD) DD.length S l) (hD : Gr.OkD DD) (hb : ∀ k, k < DD.length → (P k).b < n) (pick : List Int) (seen : List Int)
    (hs : ∀ k : Nat, k < DD.length → ((k : Int) ∈ seen ↔ hasN l (k : Int) = false ∨ ∃ b q, b < n ∧ q < 32 ∧ nth (crashed n S pick b).s q = (k : Int) + 1)) (b : Nat) :
    mkI P (closeC DD seen) DD.length b = (crashed n S pick b).s := by
  obtain ⟨T, _, h2⟩ := h.close hb (fun y hy d hd => by have := hD.right.2 y d hd; omega) pick
  refine h2 (closeC DD seen) (fun k hk q => ?_) (closeC_closed hD seen) (fun U u1 u2 k hk hc => ?_) b
  · rw [closeC_iff hD]
    exact .inl (markI_in.2 ⟨hk, (hs k hk).2 q⟩)
  · exact closeC_least hD seen u1 (fun k hk q => u2 k hk ((hs k hk).1 q)) k hc
/-- patches of a list, put one behind the other: block b -/
def wantB (P : Nat → Pt) (ks : List Nat) (b : Nat) : List Int := ks.foldl (fun s k => if (P k).b = (b : Int) then put s (P k) else s) (List.replicate 32 0)
theorem wantB_snoc (P : Nat → Pt) (ks : List Nat) (k b : Nat) : wantB P (ks ++ [k]) b = if (P k).b = (b : Int) then put (wantB P ks b) (P k) else wantB P ks b := by
  unfold wantB; rw [List.foldl_append]; rfl
theorem wantB_mkI (P : Nat → Pt) (C : Nat → Bool) (m b : Nat) : wantB P ((List.range m).filter C) b = mkI P C m b := by
  induction m with
  | zero => rfl
  | succ m ih =>
    rw [List.range_succ, List.filter_append]
    show _ = (if (C m && ((P m).b == (b : Int))) = true then put (mkI P C m b) (P m) else mkI P C m b)
    cases hc : C m with
    | false => simp [hc, ih]
    | true =>
      rw [List.filter_cons_of_pos hc, List.filter_nil, wantB_snoc, ih]
      by_cases e : (P m).b = (b : Int)
      · simp [e]
      · simp [e]
theorem wantB_len {P : Nat → Pt} {ks : List Nat} (h : ∀ k ∈ ks, (P k).right = true) (b : Nat) : (wantB P ks b).length = 32 := by
  obtain ⟨r, hr⟩ : ∃ r, r = ks.reverse := ⟨_, rfl⟩
  have : ks = r.reverse := by rw [hr]; simp
  subst this
  clear hr
  induction r with
  | nil => simp [wantB]
  | cons k r ih =>
    rw [List.reverse_cons, wantB_snoc]
    have hl := ih fun x hx => h x (by rw [List.reverse_cons]; exact List.mem_append_left _ hx)
    split
    · exact length_put (h k (by simp)) hl
    · exact hl
/-- five blocks, one behind the other -/
def flat5 (f : Nat → List Int) : List Int := f 0 ++ (f 1 ++ (f 2 ++ (f 3 ++ f 4)))
theorem flat5_imgs (S : Nat → Bk) : imgs S 5 = flat5 fun b => (S b).s := by simp [imgs, flat5, List.range_succ]
theorem flat5_len {f : Nat → List Int} (h : ∀ b, b < 5 → (f b).length = 32) : (flat5 f).length = 160 := by
  simp [flat5, h 0 (by omega), h 1 (by omega), h 2 (by omega), h 3 (by omega), h 4 (by omega)]
theorem flat5_set {f : Nat → List Int} (h : ∀ b, b < 5 → (f b).length = 32) {b q : Nat} (hb : b < 5) (hq : q < 32) (v : Int) : (flat5 f).set (b * 32 + q) v = flat5 fun c => if c = b then (f c).set q v else f c := by
  have h0 := h 0 (by omega)
  have h1 := h 1 (by omega)
  have h2 := h 2 (by omega)
  have h3 := h 3 (by omega)
  have h4 := h 4 (by omega)
  unfold flat5
  obtain rfl | rfl | rfl | rfl | rfl : b = 0 ∨ b = 1 ∨ b = 2 ∨ b = 3 ∨ b = 4 := by omega
  · rw [List.set_append_left _ _ (by omega)]; simp
  · rw [List.set_append_right _ _ (by omega), List.set_append_left _ _ (by omega), h0]; simp
  · rw [List.set_append_right _ _ (by omega), List.set_append_right _ _ (by omega), List.set_append_left _ _ (by omega), h0, h1]
    have e : 2 * 32 + q - 32 - 32 = q := by omega
    simp [e]
  · rw [List.set_append_right _ _ (by omega), List.set_append_right _ _ (by omega), List.set_append_right _ _ (by omega), List.set_append_left _ _ (by omega), h0, h1, h2]
    have e : 3 * 32 + q - 32 - 32 - 32 = q := by omega
    simp [e]
  · rw [List.set_append_right _ _ (by omega), List.set_append_right _ _ (by omega), List.set_append_right _ _ (by omega), List.set_append_right _ _ (by omega), h0, h1, h2, h3]
    have e : 4 * 32 + q - 32 - 32 - 32 - 32 = q := by omega
    simp [e]
theorem flat5_nth {f : Nat → List Int} (h : ∀ b, b < 5 → (f b).length = 32) {b q : Nat} (hb : b < 5) (hq : q < 32) : nth (flat5 f) (b * 32 + q) = nth (f b) q := by
  have h0 := h 0 (by omega)
  have h1 := h 1 (by omega)
  have h2 := h 2 (by omega)
  have h3 := h 3 (by omega)
  have h4 := h 4 (by omega)
  unfold flat5
  obtain rfl | rfl | rfl | rfl | rfl : b = 0 ∨ b = 1 ∨ b = 2 ∨ b = 3 ∨ b = 4 := by omega
  · rw [nth_append, if_pos (by omega)]; simp
  · rw [nth_append, if_neg (by omega), nth_append, if_pos (by omega)]; congr 1; omega
  · rw [nth_append, if_neg (by omega), nth_append, if_neg (by omega), nth_append, if_pos (by omega)]; congr 1; omega
  · rw [nth_append, if_neg (by omega), nth_append, if_neg (by omega), nth_append, if_neg (by omega), nth_append, if_pos (by omega)]; congr 1; omega
  · rw [nth_append, if_neg (by omega), nth_append, if_neg (by omega), nth_append, if_neg (by omega), nth_append, if_neg (by omega)]; congr 1; omega
/-- the first k bytes of a patch, put -/
def putN (s : List Int) (p : Pt) (k : Nat) : List Int := splice s p.o.toNat ((sb p.s).take k)
theorem putN_zero {s : List Int} {p : Pt} (hs : s.length = 32) (hp : p.right = true) : putN s p 0 = s := by
  obtain ⟨r1, r2, r3, r4, r5, r6⟩ := Pt.right_out hp
  have ho : p.o.toNat + ([] : List Int).length ≤ s.length := by rw [List.length_nil]; omega
  refine ext_nth (by unfold putN; rw [List.take_zero, length_splice _ _ _ ho]) fun i _ => ?_
  unfold putN
  rw [List.take_zero, nth_splice _ _ _ _ ho, if_neg (by rw [List.length_nil]; omega)]
theorem putN_all (s : List Int) (p : Pt) : putN s p p.s.size = put s p := by
  unfold putN put
  rw [List.take_of_length_le (by rw [length_sb]; exact Nat.le_refl _)]
theorem putN_len {s : List Int} {p : Pt} (hs : s.length = 32) (hp : p.right = true) (k : Nat) : (putN s p k).length = 32 := by
  obtain ⟨r1, r2, r3, r4, r5, r6⟩ := Pt.right_out hp
  unfold putN
  rw [length_splice _ _ _ (by rw [List.length_take, length_sb]; omega), hs]
theorem putN_succ {s : List Int} {p : Pt} (hs : s.length = 32) (hp : p.right = true) {k : Nat} (hk : k < p.s.size) : putN s p (k + 1) = (putN s p k).set (p.o.toNat + k) (nth (sb p.s) k) := by
  have hl := putN_len hs hp k
  have hl1 := putN_len hs hp (k + 1)
  obtain ⟨r1, r2, r3, r4, r5, r6⟩ := Pt.right_out hp
  refine ext_nth (by rw [List.length_set, hl, hl1]) fun i hi => ?_
  rw [nth_set, hl]
  unfold putN
  rw [nth_splice _ _ _ _ (by rw [List.length_take, length_sb]; omega), nth_splice _ _ _ _ (by rw [List.length_take, length_sb]; omega), List.length_take, List.length_take, length_sb, nth_take, nth_take, Nat.min_eq_left (by omega : k + 1 ≤ p.s.size), Nat.min_eq_left (by omega : k ≤ p.s.size)]
  by_cases e : p.o.toNat + k = i
  · subst e
    rw [if_pos (by omega), if_pos (by omega), if_pos (by omega)]
    congr 1; omega
  · rw [if_neg (show ¬ (p.o.toNat + k = i ∧ i < 32) by omega)]
    by_cases g : p.o.toNat ≤ i ∧ i < p.o.toNat + k
    · rw [if_pos (by omega), if_pos (by omega), if_pos g, if_pos (by omega)]
    · rw [if_neg (by omega), if_neg g]
end Go.Proofs.Ytegacggkdjgdiaa
