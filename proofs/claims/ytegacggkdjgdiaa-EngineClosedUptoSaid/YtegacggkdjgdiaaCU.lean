/- What the law reads and adds: rows of numbers as a source, the row of patches, the table. -/
import Derived.Test.YtegacggkdjgdiaaCT
import Derived.Test.YtegacggkdjgdiaaEZ
import Derived.Test.YtegacggkdjgdiaaDQ
set_option linter.unusedVariables false
set_option linter.unusedSimpArgs false
namespace Go.Proofs.Ytegacggkdjgdiaa
open Go.RowKit

theorem IntsF.src {w W : World} {F : Nat → Prop} {A : Option Addr} {zs : List Int} (h : IntsF w F A zs) (hB : Below w.heap.size w W) : (∀ ad, A = some ad → ∀ (j : Nat) u, (intsI zs)[j]? = some u → W.cell? (ad.add j) = some u) ∧ (A = none → zs.length = 0) := by
  refine ⟨fun ad e j u hu => ?_, fun e => ?_⟩
  · have hj : j < zs.length := by
      rcases Nat.lt_or_ge j zs.length with q | q
      · exact q
      · rw [List.getElem?_eq_none (by simpa [intsI] using q)] at hu; cases hu
    obtain ⟨b, off, e2, hb, _, hc⟩ := h (by omega)
    rw [e] at e2
    cases e2
    have := (hB.cell (p := ⟨b, off + j, none⟩) hb).trans (hc j hj)
    rw [show (⟨b, off, none⟩ : Addr).add j = ⟨b, off + j, none⟩ from by unfold Addr.add; split <;> simp_all, this]
    rw [← hu, intsI, List.getElem?_map, List.getElem?_eq_getElem hj]; rfl
  · rcases Nat.eq_zero_or_pos zs.length with q | q
    · exact q
    · obtain ⟨b, off, e2, _⟩ := h q
      rw [e] at e2; cases e2
theorem empty_row3 (w : World) (B : Nat) (hB : B ≤ w.heap.size) : (w.alloc (.cells #[] 3)).ownsRow B 3 1 (.slice (some ⟨w.heap.size, 0, none⟩) 0 0) 0 [] :=
  ⟨rfl, .inr ⟨w.heap.size, 0, #[], rfl, hB, heap_alloc_new w _, Nat.le_refl _, Nat.zero_le _, rfl, rfl⟩⟩
/-- those that are overlapped, of the first j -/
def behTo (L : List Pt) (r : List Nat) (p : Pt) (j : Nat) : List Nat := r ++ (List.range j).filter fun k => (pN L k).over p
theorem behTo_all (L : List Pt) (r : List Nat) (p : Pt) : behTo L r p L.length = behR L r p := rfl
theorem behTo_zero (L : List Pt) (r : List Nat) (p : Pt) : behTo L r p 0 = r := by simp [behTo]
theorem behTo_succ (L : List Pt) (r : List Nat) (p : Pt) (j : Nat) : behTo L r p (j + 1) = behTo L r p j ++ (if (pN L j).over p = true then [j] else []) := by
  unfold behTo
  rw [List.range_succ, List.filter_append, List.append_assoc]
  by_cases h : (pN L j).over p = true
  · simp [h]
  · simp [h]
theorem behTo_len (L : List Pt) (r : List Nat) (p : Pt) (j : Nat) : (behTo L r p j).length ≤ r.length + j := by
  unfold behTo
  rw [List.length_append]
  have := List.length_filter_le (fun k => (pN L k).over p) (List.range j)
  rw [List.length_range] at this
  omega
theorem behR_lt {L : List Pt} {r : List Nat} {p : Pt} (hr : ∀ d ∈ r, d < L.length) : ∀ d ∈ behR L r p, d < L.length := fun d hd => by
  rcases List.mem_append.1 hd with q | q
  · exact hr d q
  · exact List.mem_range.1 (List.mem_filter.1 q).1
theorem AllT.pat {w : World} {F : Nat → Prop} {B cA : Nat} {AA : Option Addr} {L : List Pt} (h : AllT w F B AA cA L) {j : Nat} (hj : j < L.length) :
    ∃ g, AA = some ⟨g, 0, none⟩ ∧ g < w.heap.size ∧ w.cell? ⟨g, j * 3, none⟩ = some (.int .i64 (pN L j).b) ∧ w.cell? ⟨g, j * 3 + 1, none⟩ = some (.int .i64 (pN L j).o) ∧ w.cell? ⟨g, j * 3 + 2, none⟩ = some (.string (pN L j).s) := by
  rcases h.row.2 with ⟨_, hn⟩ | ⟨g, cap, cur, e, _⟩
  · omega
  · have e2 := (Value.slice.inj e).1
    subst e2
    have hr := h.row
    rw [e] at hr
    obtain ⟨q0, q1, q2⟩ := ptsV_at L j hj
    exact ⟨g, rfl, (h.row.lt g rfl).2, by rw [hr.cellAt _ (by omega), q0]; rfl, by rw [hr.cellAt _ (by omega), q1]; rfl, by rw [hr.cellAt _ (by omega), q2]; rfl⟩
theorem right_ok {p : Pt} (h : p.right = true) : p.ok := by
  obtain ⟨a, b, c, d, e, f⟩ := Pt.right_out h
  exact ⟨⟨by omega, by omega⟩, ⟨by omega, by omega⟩, by unfold maxLen; omega⟩
theorem okD_add {D : List (List Nat)} (h : Gr.OkD D) (hN : D.length < 200) {r : List Nat} (hr : ∀ d ∈ r, d < D.length) (hl : r.length ≤ 256) : Gr.OkD (D ++ [r]) := by
  have hlen : (D ++ [r]).length = D.length + 1 := by simp
  refine ⟨⟨by rw [hlen]; omega, fun n d hd => ?_⟩, fun n => ?_⟩
  · rw [rowN_snoc] at hd
    by_cases h1 : n < D.length
    · rw [if_pos h1] at hd; exact h.right.2 n d hd
    · rw [if_neg h1] at hd
      by_cases h2 : n = D.length
      · rw [if_pos h2] at hd; have := hr d hd; omega
      · rw [if_neg h2] at hd; cases hd
  · rw [rowN_snoc]
    by_cases h1 : n < D.length
    · rw [if_pos h1]; exact h.len n
    · rw [if_neg h1]
      by_cases h2 : n = D.length
      · rw [if_pos h2]; exact hl
      · rw [if_neg h2]; simp
theorem row_intsF {w : World} {B m c : Nat} {A : Option Addr} {F : Nat → Prop} {zs : List Int} (h : w.ownsRow B 3 1 (.slice A m c) m (intsI zs)) (hm : zs.length = m) (hF : ∀ b, B ≤ b → b < w.heap.size → own A = some b → ¬ F b) : IntsF w F A zs := fun h0 => by
  rcases h.2 with ⟨_, hn⟩ | ⟨g, cap, cur, e, hB, hg, _⟩
  · omega
  · have e2 := (Value.slice.inj e).1
    subst e2
    rw [e] at h
    have hlt := (h.lt g rfl).2
    refine ⟨g, 0, rfl, hlt, hF g hB hlt rfl, fun j hj => ?_⟩
    rw [Nat.zero_add, h.cellAt j (by omega), intsI, List.getElem?_map, List.getElem?_eq_getElem hj]; rfl
theorem news1 {w : World} {t : TypeId} {u0 : Value} : ∀ ad, some (⟨w.heap.size, 0, none⟩ : Addr) = some ad → ∀ j u, ([u0] : List Value)[j]? = some u → (w.alloc (.cells #[u0] t)).cell? (ad.add j) = some u := fun ad e j u hu => by
  cases e
  exact World.news_of_block (heap_alloc_new w _) j u hu
end Go.Proofs.Ytegacggkdjgdiaa
