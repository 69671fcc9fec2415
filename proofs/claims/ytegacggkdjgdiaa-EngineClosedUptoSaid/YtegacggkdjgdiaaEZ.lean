/- The table of what each patch comes behind, as the law keeps it beside an engine. -/
import Derived.Test.YtegacggkdjgdiaaEY
import Derived.Test.YtegacggkdjgdiaaET
set_option linter.unusedVariables false
set_option linter.unusedSimpArgs false
namespace Go.Proofs.Ytegacggkdjgdiaa
open Go.RowKit
theorem addr_at (b j : Nat) : (⟨b, 0, none⟩ : Addr).add j = ⟨b, 0 + j, none⟩ := by
  by_cases h : j = 0 <;> simp [Addr.add, h]
def tabV (D : List (List Nat)) (Af : Nat → Option Addr) (Cf : Nat → Nat) : List Value := (List.range D.length).map fun j => .slice (Af j) (Gr.rowN D j).length (Cf j)
structure Tab (w : World) (F : Nat → Prop) (B : Nat) (AD : Option Addr) (cD : Nat) (D : List (List Nat)) (Af : Nat → Option Addr) (Cf : Nat → Nat) : Prop where
  tab : w.ownsRow B 24 1 (.slice AD D.length cD) D.length (tabV D Af Cf)
  out : ∀ b, own AD = some b → ¬ F b
  rows : ∀ j, j < D.length → IntsF w (fun b => F b ∨ own AD = some b) (Af j) (Gr.natsI (Gr.rowN D j))
section
variable {w w' : World} {F F' : Nat → Prop} {B cD : Nat} {AD : Option Addr} {D : List (List Nat)} {Af : Nat → Option Addr} {Cf : Nat → Nat}
theorem Tab.nil (w : World) (F : Nat → Prop) (B : Nat) (Af : Nat → Option Addr) (Cf : Nat → Nat) : Tab w F B none 0 [] Af Cf :=
  ⟨World.ownsRow_nil _ _ _ _, (fun b e => by cases e), fun j hj => absurd hj (Nat.not_lt_zero _)⟩
theorem Tab.lt (h : Tab w F B AD cD D Af Cf) : ∀ b, own AD = some b → B ≤ b ∧ b < w.heap.size := fun b e => h.tab.lt b (by rw [own_eq]; exact e)
theorem Tab.keep (h : Tab w F B AD cD D Af Cf) (hk : Kept w w' F) (hF : ∀ b, F' b → F b ∨ w.heap.size ≤ b) : Tab w' F' B AD cD D Af Cf :=
  ⟨hk.row h.tab (fun b e => h.out b (by rw [← own_eq]; exact e)), fun b e q => (hF b q).elim (h.out b e) (fun q => by have := (h.lt b e).2; omega),
    fun j hj => (h.rows j hj).keep hk (fun b q => .inl q) (fun b q => q.elim (fun q => (hF b q).elim (fun q => .inl (.inl q)) .inr) (fun q => .inl (.inr q)))⟩
theorem Tab.fresh (h : Tab w F B AD cD D Af Cf) (hB : Below w.heap.size w w') : Tab w' F B AD cD D Af Cf :=
  h.keep (Kept.fresh hB) (fun b q => .inl q)
theorem Tab.mat (h : Tab w F B AD cD D Af Cf) : Gr.Mat w w.heap.size AD (Gr.rowsI D) := fun hn => by
  rw [Gr.length_rowsI] at hn
  obtain ⟨h1, h2⟩ := row_src h.tab
  obtain ⟨ad, rfl⟩ : ∃ ad, AD = some ad := by
    cases AD with
    | none => have := h2 rfl; omega
    | some ad => exact ⟨ad, rfl⟩
  obtain ⟨b, o, p⟩ := ad
  have hp : o = 0 ∧ p = none := by
    rcases h.tab.2 with ⟨q, h0⟩ | ⟨g, cap, cur, q, _⟩
    · cases q
    · have := (Value.slice.inj q).1
      injection this with this
      injection this with _ e1 e2
      exact ⟨e1, e2⟩
  obtain ⟨rfl, rfl⟩ := hp
  refine ⟨b, 0, rfl, (h.lt b rfl).2, fun j hj => ?_⟩
  rw [Gr.length_rowsI] at hj
  refine ⟨Af j, Cf j, ?_, fun h0 => ?_⟩
  · have := h1 _ rfl j (.slice (Af j) (Gr.rowN D j).length (Cf j)) (by simp [tabV, hj])
    rw [Gr.rowI_rowsI, Gr.length_natsI]
    rw [addr_at] at this
    exact this
  · rw [Gr.rowI_rowsI] at h0 ⊢
    obtain ⟨c, off, e, hc, _, hcs⟩ := h.rows j hj h0
    exact ⟨c, off, e, hc, fun k hk => by rw [Gr.nth_lt hk]; exact hcs k hk⟩
theorem Tab.add (h : Tab w F B AD cD D Af Cf) (hF : ∀ b, F b → b < w.heap.size) {r : List Nat} {Ar A' : Option Addr} {cr c' : Nat} (hr : IntsF w (fun b => F b ∨ own AD = some b) Ar (Gr.natsI r))
    (ho : w'.ownsRow B 24 1 (.slice A' (D.length + 1) c') (D.length + 1) (tabV D Af Cf ++ [.slice Ar r.length cr])) (hg : w.grownBy w' (own AD)) (hor : own A' = own AD ∨ own A' = some w.heap.size) :
    Tab w' F B A' c' (D ++ [r]) (fun j => if j < D.length then Af j else Ar) (fun j => if j < D.length then Cf j else cr) := by
  have hk : Kept w w' (fun b => own AD = some b) := Kept.grown hg (fun k e => .inl e)
  have hn : ∀ b, F b ∨ own A' = some b → (F b ∨ own AD = some b) ∨ w.heap.size ≤ b := fun b q => q.elim (fun q => .inl (.inl q)) (fun q => by
    rcases hor with e | e
    · exact .inl (.inr (by rw [← e]; exact q))
    · rw [e] at q; injection q with q; exact .inr (by omega))
  have hlen : (D ++ [r]).length = D.length + 1 := by simp
  refine ⟨?_, fun b e q => ?_, fun j hj => ?_⟩
  · have : tabV (D ++ [r]) (fun j => if j < D.length then Af j else Ar) (fun j => if j < D.length then Cf j else cr) = tabV D Af Cf ++ [.slice Ar r.length cr] := by
      unfold tabV
      rw [hlen, List.range_succ, List.map_append]
      congr 1
      · refine List.map_congr_left fun j hj => ?_
        have hj := List.mem_range.1 hj
        simp only [rowN_snoc, if_pos hj]
      · simp [rowN_snoc]
    rw [this, hlen]; exact ho
  · rcases hor with e2 | e2
    · exact h.out b (by rw [← e2]; exact e) q
    · rw [e2] at e; injection e with e; have := hF b q; omega
  · rw [hlen] at hj
    rw [rowN_snoc]
    by_cases hj1 : j < D.length
    · simp only [if_pos hj1]
      exact (h.rows j hj1).keep hk (fun b q => .inr q) hn
    · have e : j = D.length := by omega
      simp only [if_neg hj1, if_pos e]
      exact hr.keep hk (fun b q => .inr q) hn
/-- the engine is not the table's -/
theorem Eng.tabbed {ge n cc : Nat} {S : Nat → Bk} {k : Int} {l : List Wr} (he : Eng w ge n S cc k l F) (h : Tab w F B AD cD D Af Cf) (hg : w.grownBy w' (own AD)) : Eng w' ge n S cc k l F :=
  he.keep (G := fun b => own AD = some b) (Kept.grown hg (fun k e => .inl e)) (fun b q e => h.out b e q) (by have := NI.row h.tab (by decide); simpa only [own_eq] using this)
end
/-- one item in a block of its own -/
theorem one_itemF (W : World) (g : Nat) (F : Nat → Prop) (x : It) (A : Option Addr) (c : Nat) (fr : Nat × Nat) (hg : W.heap[g]? = some (.cells #[.int .i64 x.p.b, .int .i64 x.p.o, .string x.p.s, .slice A x.d.length c] 34 fr)) (hF : ¬ F g) (hd : IntsF W F A x.d) : ItemsF W F (some ⟨g, 0, none⟩) [x] := fun _ => by
  refine ⟨g, 0, fun _ => A, fun _ => c, rfl, (Array.getElem?_eq_some_iff.1 hg).1, hF, fun j hj => ?_⟩
  have hj1 : j < 1 := hj
  obtain rfl : j = 0 := by omega
  exact ⟨cell_of_row W g 0 _ 34 fr hg, cell_of_row W g 1 _ 34 fr hg, cell_of_row W g 2 _ 34 fr hg, cell_of_row W g 3 _ 34 fr hg, hd⟩
/-- a row of ints of one's own, outside F -/
theorem ints_own {w : World} {F : Nat → Prop} {B : Nat} {A : Option Addr} {c n : Nat} {zs : List Int} (hn : zs.length = n) (h : w.ownsRow B 3 1 (.slice A n c) n (intsI zs)) (hF : ∀ b, own A = some b → ¬ F b) : IntsF w F A zs := fun h0 => by
  obtain ⟨h1, h2⟩ := row_src h
  rcases h.2 with ⟨q, q0⟩ | ⟨g, cap, cur, q, _⟩
  · omega
  · have := (Value.slice.inj q).1
    subst this
    refine ⟨g, 0, rfl, (h.lt g rfl).2, hF g rfl, fun j hj => ?_⟩
    have := h1 _ rfl j (.int .i64 zs[j]) (by simp [intsI, hj])
    rw [addr_at] at this
    exact this
/-- an item in a box of its own, its numbers a row of its own -/
def BoxS (W2 wr : World) (p : Pt) (A2 : Option Addr) (c2 n : Nat) (xs : List Int) : Prop :=
  wr.heap[W2.heap.size]? = some (.cells #[.int .i64 p.b, .int .i64 p.o, .string p.s, .slice A2 n c2] 34 (0, 0)) ∧ wr.ownsRow (W2.heap.size + 1) 3 1 (.slice A2 n c2) n (intsI xs) ∧ Below W2.heap.size W2 wr
theorem BoxS.keep {W2 wr w2 : World} {p : Pt} {A2 : Option Addr} {c2 n : Nat} {xs : List Int} (h : BoxS W2 wr p A2 c2 n xs) (hB : Below wr.heap.size wr w2) : BoxS W2 w2 p A2 c2 n xs := by
  obtain ⟨h2, h3, h4⟩ := h
  exact ⟨by rw [hB.block _ (Array.getElem?_eq_some_iff.1 h2).1]; exact h2, (Kept.fresh (S := fun _ => False) hB).row h3 (fun _ _ q => q), h4.trans (hB.mono h4.size)⟩
theorem BoxS.more {W2 wr w2 : World} {p : Pt} {A2 A3 : Option Addr} {c2 c3 n m : Nat} {xs ys : List Int} (h : BoxS W2 wr p A2 c2 n xs) (hB : Below (W2.heap.size + 1) wr w2) (ho : w2.ownsRow (W2.heap.size + 1) 3 1 (.slice A3 m c3) m (intsI ys)) :
    (w2.cell? ⟨W2.heap.size, 3, none⟩ = some (.slice A2 n c2) ∧ w2.frozen? ⟨W2.heap.size, 3, none⟩ = false) ∧ BoxS W2 (w2.setCell ⟨W2.heap.size, 3, none⟩ (.slice A3 m c3)) p A3 c3 m ys := by
  obtain ⟨h2, h3, h4⟩ := h
  have e := (hB.block _ (Nat.lt_succ_self _)).trans h2
  have hk : Kept w2 (w2.setCell ⟨W2.heap.size, 3, none⟩ (.slice A3 m c3)) (fun k => k = W2.heap.size) := ⟨rfl, rfl, rfl, by simp, fun k _ hn => heap_setCell_other w2 ⟨W2.heap.size, 3, none⟩ k _ hn⟩
  refine ⟨⟨cell_of_row w2 _ 3 _ 34 (0, 0) e, frozen_of_row w2 _ 3 _ 34 e⟩, ?_, hk.row ho (fun j hj q => by have := (ho.lt j hj).1; omega), (h4.trans (hB.mono (Nat.le_succ _))).setCell (Nat.le_refl _) _⟩
  have := heap_setCell_same w2 W2.heap.size 3 _ 34 (.slice A3 m c3) e
  simpa using this
/-- the item, when the engine is asked -/
theorem BoxS.item {W2 wr : World} {F : Nat → Prop} {p : Pt} {A2 : Option Addr} {c2 n : Nat} {xs : List Int} (h : BoxS W2 wr p A2 c2 n xs) (hn : xs.length = n) (hF : ∀ b, F b → b < W2.heap.size) : ItemsF (wr.alloc (.cells #[.int .i64 p.b, .int .i64 p.o, .string p.s, .slice A2 n c2] 34)) F (some ⟨wr.heap.size, 0, none⟩) [⟨p, xs⟩] := by
  obtain ⟨h2, h3, h4⟩ := h
  subst hn
  exact one_itemF _ wr.heap.size F ⟨p, xs⟩ A2 c2 (0, 0) (heap_alloc_new wr _) (fun q => by have := hF _ q; have := h4.size; omega) (ints_own rfl ((h3).alloc _) (fun b e q => by have := hF _ q; have := (h3.lt b (by rw [own_eq]; exact e)).1; omega))
/-- its row is neither the engine's nor the table's -/
theorem BoxS.ints {W2 wr : World} {G : Nat → Prop} {p : Pt} {A2 : Option Addr} {c2 n : Nat} {xs : List Int} (h : BoxS W2 wr p A2 c2 n xs) (hn : xs.length = n) (hG : ∀ b, G b → b < W2.heap.size) : IntsF wr G A2 xs :=
  ints_own hn h.2.1 (fun b e q => by have := hG _ q; have := (h.2.1.lt b (by rw [own_eq]; exact e)).1; omega)
theorem infoR : (Try.prog.info? 24).map (fun i => (i.zero, i.size, i.bytes)) = some (some (.slice none 0 0), 1, 24) := by kernel_rfl
theorem has_nums (l : List Wr) (n : Int) : decide (n ∈ numsL l) = hasN l n := by
  rw [Bool.eq_iff_iff, decide_eq_true_iff]
  unfold numsL hasN
  rw [List.mem_map, List.any_eq_true]
  exact ⟨fun ⟨x, hx, e⟩ => ⟨x, hx, by simpa using e⟩, fun ⟨x, hx, e⟩ => ⟨x, hx, by simpa using e⟩⟩
theorem doneN_len (l : List Wr) (n : Nat) : (doneN l n).length ≤ n := by
  unfold doneN
  exact Nat.le_trans (List.length_filter_le _ _) (by simp)
theorem grow_row {w : World} {B : Nat} {A : Option Addr} {c n : Nat} {zs : List Int} (hn : zs.length = n) (h : w.ownsRow B 3 1 (.slice A n c) n (intsI zs)) : Gr.Ints w w.heap.size A zs := fun h0 => by
  obtain ⟨b, off, e, hb, _, hc⟩ := ints_own (F := fun _ => False) hn h (fun _ _ q => q) h0
  exact ⟨b, off, e, hb, fun j hj => by rw [Gr.nth_lt hj]; exact hc j hj⟩
end Go.Proofs.Ytegacggkdjgdiaa
