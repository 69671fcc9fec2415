/- What the law sees: which patches last or lie in the image; the list of these. -/
import Derived.Test.YtegacggkdjgdiaaCU
set_option linter.unusedVariables false
set_option linter.unusedSimpArgs false
namespace Go.Proofs.Ytegacggkdjgdiaa
open Go.RowKit

theorem pick_of' {w W : World} {A : Option Addr} {n c : Nat} {l : List Int} (h : NumsIn w A n c l) (hB : Below w.heap.size w W) : PickAt W (fun b => W.heap.size ≤ b) A l := by
  by_cases hl : l = []
  · exact .inl hl
  · obtain ⟨b, o, e, hb, _, hc⟩ := h.2.2.2.2 (List.length_pos_iff.2 hl)
    refine .inr ⟨b, o, e, Nat.lt_of_lt_of_le hb hB.size, fun q => by have := hB.size; omega, fun j u hj => ?_⟩
    rw [List.getElem?_map] at hj
    cases hq : l[j]? with
    | none => rw [hq] at hj; cases hj
    | some y =>
      rw [hq] at hj
      obtain ⟨hj1, hj2⟩ := List.getElem?_eq_some_iff.1 hq
      have := (hB.cell (p := ⟨b, o + j, none⟩) hb).trans (hc j hj1)
      rw [this, hj2]
      exact hj
theorem nth_memI {l : List Int} {k : Nat} (h : k < l.length) : nth l k ∈ l := by rw [nth_lt h]; exact List.getElem_mem _
theorem ints_at {w : World} {B A c n} {l : List Int} (h : w.ownsRow B 3 1 (.slice A n c) n (intsI l)) (hn : l.length = n) {j : Nat} (hj : j < n) : ∃ g, A = some ⟨g, 0, none⟩ ∧ B ≤ g ∧ g < w.heap.size ∧ w.cell? ⟨g, j, none⟩ = some (.int .i64 (nth l j)) := by
  rcases h.2 with ⟨_, h0⟩ | ⟨g, cap, cur, e, _⟩
  · omega
  · have e2 := (Value.slice.inj e).1
    subst e2
    rw [e] at h
    obtain ⟨h1, h2⟩ := h.lt g rfl
    exact ⟨g, rfl, h1, h2, by rw [h.cellAt j (by omega), intsI, List.getElem?_map, List.getElem?_eq_getElem (by omega), nth_lt (by omega)]; rfl⟩
theorem bytes_at {w : World} {B A c n} {l : List Int} (h : w.ownsRow B 5 1 (.slice A n c) n (bytesV l)) (hn : l.length = n) {j : Nat} (hj : j < n) : ∃ g, A = some ⟨g, 0, none⟩ ∧ B ≤ g ∧ g < w.heap.size ∧ w.cell? ⟨g, j, none⟩ = some (.int .u8 (nth l j)) := by
  rcases h.2 with ⟨_, h0⟩ | ⟨g, cap, cur, e, _⟩
  · omega
  · have e2 := (Value.slice.inj e).1
    subst e2
    rw [e] at h
    obtain ⟨h1, h2⟩ := h.lt g rfl
    exact ⟨g, rfl, h1, h2, by rw [h.cellAt j (by omega), bytesV, List.getElem?_map, List.getElem?_eq_getElem (by omega), nth_lt (by omega)]; rfl⟩
def isW (l : List Wr) (k j : Nat) : Bool := ((numsL l).take j).all fun n => !(n == (k : Int))
def isB (img : List Int) (k j : Nat) : Bool := (img.take j).any fun x => x == (k : Int) + 1
def seenB (l : List Wr) (img : List Int) (k : Nat) : Bool := !hasN l (k : Int) || img.any fun x => x == (k : Int) + 1
def seenTo (l : List Wr) (img : List Int) (j : Nat) : List Nat := (List.range j).filter (seenB l img)
theorem isW_succ (l : List Wr) (k : Nat) {j : Nat} (h : j < (numsL l).length) : isW l k (j + 1) = (isW l k j && !(nth (numsL l) j == (k : Int))) := by
  unfold isW
  rw [List.take_succ_eq_append_getElem h, List.all_append, nth_lt h]
  simp
theorem isW_all (l : List Wr) (k : Nat) : isW l k (numsL l).length = !hasN l (k : Int) := by
  unfold isW hasN numsL
  rw [List.take_of_length_le (Nat.le_refl _), List.all_map]
  induction l with
  | nil => rfl
  | cons x l ih => simp only [List.all_cons, List.any_cons, Bool.not_or, Function.comp_apply, ih]
theorem isB_succ (img : List Int) (k : Nat) {j : Nat} (h : j < img.length) : isB img k (j + 1) = (isB img k j || nth img j == (k : Int) + 1) := by
  unfold isB
  rw [List.take_succ_eq_append_getElem h, List.any_append, nth_lt h]
  simp
theorem seenB_eq (l : List Wr) (img : List Int) (k : Nat) : (isW l k (numsL l).length || isB img k img.length) = seenB l img k := by
  unfold isB seenB
  rw [isW_all, List.take_of_length_le (Nat.le_refl _)]
theorem seenTo_succ (l : List Wr) (img : List Int) (j : Nat) : seenTo l img (j + 1) = seenTo l img j ++ (if seenB l img j = true then [j] else []) := by
  unfold seenTo
  rw [List.range_succ, List.filter_append]
  congr 1
  by_cases h : seenB l img j = true
  · simp [h]
  · simp [h]
theorem seenTo_len (l : List Wr) (img : List Int) (j : Nat) : (seenTo l img j).length ≤ j := by
  unfold seenTo
  have := List.length_filter_le (seenB l img) (List.range j)
  rwa [List.length_range] at this
theorem mem_seen {l : List Wr} {img : List Int} {m k : Nat} (hk : k < m) : (k : Int) ∈ Gr.natsI (seenTo l img m) ↔ seenB l img k = true := by
  unfold Gr.natsI seenTo
  rw [List.mem_map]
  constructor
  · rintro ⟨x, hx, e⟩
    have e' : x = k := by omega
    subst e'
    exact (List.mem_filter.1 hx).2
  · intro h
    exact ⟨k, List.mem_filter.2 ⟨List.mem_range.2 hk, h⟩, rfl⟩
theorem any_imgs {S : Nat → Bk} (h : ∀ b, b < 5 → (S b).s.length = 32) (v : Int) : ((imgs S 5).any fun x => x == v) = true ↔ ∃ b q, b < 5 ∧ q < 32 ∧ nth (S b).s q = v := by
  unfold imgs
  rw [List.any_eq_true]
  constructor
  · rintro ⟨x, hx, e⟩
    obtain ⟨b, hb, hq⟩ := List.mem_flatMap.1 hx
    have hb5 := List.mem_range.1 hb
    obtain ⟨q, hq1, hq2⟩ := List.getElem_of_mem hq
    exact ⟨b, q, hb5, by rw [h b hb5] at hq1; exact hq1, by rw [nth_lt hq1, hq2]; simpa using e⟩
  · rintro ⟨b, q, hb, hq, e⟩
    have hq1 : q < (S b).s.length := by rw [h b hb]; exact hq
    exact ⟨nth (S b).s q, List.mem_flatMap.2 ⟨b, List.mem_range.2 hb, by rw [nth_lt hq1]; exact List.getElem_mem _⟩, by simp [e]⟩
theorem seen_iff {S : Nat → Bk} (h : ∀ b, b < 5 → (S b).s.length = 32) (l : List Wr) (m : Nat) : ∀ k : Nat, k < m → ((k : Int) ∈ Gr.natsI (seenTo l (imgs S 5) m) ↔ hasN l (k : Int) = false ∨ ∃ b q, b < 5 ∧ q < 32 ∧ nth (S b).s q = (k : Int) + 1) := fun k hk => by
  rw [mem_seen hk]
  unfold seenB
  rw [Bool.or_eq_true, Bool.not_eq_true', any_imgs h]
theorem close_lt {D : List (List Nat)} {seen : List Int} {x : Nat} (h : x ∈ Gr.closeL D seen) : x < D.length := by
  rw [closeC_list] at h
  exact List.mem_range.1 (List.mem_filter.1 h).1
theorem nats_at {w : World} {B A c} {l : List Nat} (h : w.ownsRow B 3 1 (.slice A l.length c) l.length (Gr.natsV l)) {j : Nat} (hj : j < l.length) : ∃ g, A = some ⟨g, 0, none⟩ ∧ g < w.heap.size ∧ w.cell? ⟨g, j, none⟩ = some (.int .i64 ((Gr.el l j : Nat) : Int)) := by
  rcases h.2 with ⟨_, h0⟩ | ⟨g, cap, cur, e, _⟩
  · omega
  · have e2 := (Value.slice.inj e).1
    subst e2
    rw [e] at h
    exact ⟨g, rfl, (h.lt g rfl).2, by rw [h.cellAt j (by omega), Gr.natsV, List.getElem?_map, List.getElem?_eq_getElem hj, Gr.el_lt hj]; rfl⟩
theorem byte_at5 {l : List Int} {k : Nat} (h : k < l.length) : (bytesV l)[k]? = some (.int .u8 (nth l k)) := by
  rw [bytesV, List.getElem?_map, List.getElem?_eq_getElem h, nth_lt h]; rfl
theorem want_zero (P : Nat → Pt) : flat5 (wantB P []) = List.replicate 160 0 := by
  show List.replicate 32 0 ++ (List.replicate 32 0 ++ (List.replicate 32 0 ++ (List.replicate 32 0 ++ List.replicate 32 0))) = _
  simp only [List.replicate_append_replicate]
theorem blk_text {w : World} {g : Nat} {l : List Int} (h : BlkIs w g 5 (bytesV l)) (hl : l.length = 160) : (convert 23 9 (.slice (some ⟨g, 0, none⟩) 160 160)).run Try.prog w = .ok (.string (strOfNums l)) w := by
  refine run_convert_bytes_arg w 23 5 Try.underlying23 Try.underlying5 g 0 160 160 l hl (fun i hi => ?_) 9 Try.underlying9
  rw [Nat.zero_add, h.cell i, byte_at5 (by omega)]; rfl
/-- the image that the law wants, when it stands at the j-th of a list and at the k-th byte of that one -/
def wantF (P : Nat → Pt) (ks : List Nat) (x k : Nat) (b : Nat) : List Int := if (P x).b = (b : Int) then putN (wantB P ks b) (P x) k else wantB P ks b
theorem wantF_len {P : Nat → Pt} {ks : List Nat} {x : Nat} (h : ∀ k ∈ ks, (P k).right = true) (hx : (P x).right = true) (k b : Nat) : (wantF P ks x k b).length = 32 := by
  unfold wantF
  split
  · exact putN_len (wantB_len h b) hx k
  · exact wantB_len h b
theorem wantF_zero {P : Nat → Pt} {ks : List Nat} {x : Nat} (h : ∀ k ∈ ks, (P k).right = true) (hx : (P x).right = true) : wantF P ks x 0 = wantB P ks := by
  funext b
  unfold wantF
  split
  · exact putN_zero (wantB_len h b) hx
  · rfl
theorem wantF_all {P : Nat → Pt} {ks : List Nat} {x : Nat} : wantF P ks x (P x).s.size = wantB P (ks ++ [x]) := by
  funext b
  rw [wantB_snoc]
  unfold wantF
  split
  · rw [putN_all]
  · rfl
theorem wantF_step {P : Nat → Pt} {ks : List Nat} {x k b : Nat} (h : ∀ k ∈ ks, (P k).right = true) (hx : (P x).right = true) (hk : k < (P x).s.size) (hb : (P x).b = (b : Int)) (hb5 : b < 5) :
    (flat5 (wantF P ks x k)).set (b * 32 + ((P x).o.toNat + k)) (nth (sb (P x).s) k) = flat5 (wantF P ks x (k + 1)) := by
  obtain ⟨_, _, r3, r4, r5, r6⟩ := Pt.right_out hx
  rw [flat5_set (fun b _ => wantF_len h hx k b) hb5 (by omega)]
  congr 1
  funext c
  unfold wantF
  by_cases e : c = b
  · subst e
    rw [if_pos rfl, if_pos hb, if_pos hb, putN_succ (wantB_len h c) hx hk]
  · rw [if_neg e, if_neg (by omega), if_neg (by omega)]
theorem want_end {P : Nat → Pt} {D : List (List Nat)} {S : Nat → Bk} {l : List Wr} (h : VS P (Gr.rowN D) D.length S l) (hD : Gr.OkD D) (hb : ∀ k, k < D.length → (P k).b < (5 : Nat)) (pick : List Int) (h32 : ∀ b, b < 5 → (crashed 5 S pick b).s.length = 32) :
    flat5 (wantB P (Gr.closeL D (Gr.natsI (seenTo l (imgs (crashed 5 S pick) 5) D.length)))) = imgs (crashed 5 S pick) 5 := by
  conv => rhs; rw [flat5_imgs]
  congr 1
  funext b
  rw [closeC_list, wantB_mkI]
  exact h.seen hD hb pick _ (seen_iff h32 l D.length) b
end Go.Proofs.Ytegacggkdjgdiaa
