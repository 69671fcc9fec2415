/- An engine to whose row one more is laid. -/
import Derived.Test.YtegacggkdjgdiaaEO
set_option linter.unusedVariables false
set_option linter.unusedSimpArgs false
namespace Go.Proofs.Ytegacggkdjgdiaa
open Go.RowKit

/-- a row of those that wait, longer by one, laid into the engine, and its number -/
theorem EngAt.pushed {w Wb w2 : World} {ge gd n cc c c' : Nat} {S : Nat → Bk} {k : Int} {l : List Wr} {A A' : Option Addr} {Fd : Nat → Prop} {x : Wr} (h : EngAt w ge gd n S cc k l A c Fd) (hb : Below w.heap.size w Wb) (hg : Wb.grownBy w2 (own A))
    (ho : w2.ownsRow 0 90 6 (.slice A' (l.length + 1) c') (l.length + 1) (flatW l ++ x.cs)) (hor : own A' = own A ∨ own A' = some Wb.heap.size) (hx : AhAt w x) (hk : x.num = k) (hk0 : 0 ≤ k) (hr : x.p.right = true) (hbn : x.p.b < n) (hl : l.length < 200) :
    (w2.cell? ⟨ge, 2, none⟩ = some (.slice A l.length c) ∧ w2.frozen? ⟨ge, 2, none⟩ = false ∧ ge < w2.heap.size) ∧
    ∀ w3, w3 = w2.setCell ⟨ge, 2, none⟩ (.slice A' (l.length + 1) c') → (w3.cell? ⟨ge, 1, none⟩ = some (.int .i64 k) ∧ w3.frozen? ⟨ge, 1, none⟩ = false ∧ ge < w3.heap.size) ∧
      EngAt (w3.setCell ⟨ge, 1, none⟩ (.int .i64 (k + 1))) ge gd n S cc (k + 1) (l ++ [x]) A' c' Fd ∧ Kept w (w3.setCell ⟨ge, 1, none⟩ (.int .i64 (k + 1))) (footE ge A Fd) ∧ ∀ b, footE ge A' Fd b → footE ge A Fd b ∨ w.heap.size ≤ b := by
  have K1 : Kept w w2 (fun b => own A = some b) := (Kept.fresh (S := fun b => own A = some b) hb).trans (Kept.grown (S := fun b => own A = some b) hg (fun k e => .inl e)) (fun b q => .inl q)
  have hh2 := h.head.keep K1 h.row_ge
  have hsz : w.heap.size ≤ w2.heap.size := K1.size
  refine ⟨⟨hh2.c2, hh2.free 2, hh2.lt⟩, ?_⟩
  rintro w3 rfl
  obtain ⟨h3, k3⟩ := hh2.set2 (.slice A' (l.length + 1) c')
  obtain ⟨h4, k4⟩ := h3.set1 (k + 1)
  refine ⟨⟨h3.c1, h3.free 1, h3.lt⟩, ?_⟩
  generalize hw4 : (w2.setCell ⟨ge, 2, none⟩ (.slice A' (l.length + 1) c')).setCell ⟨ge, 1, none⟩ (.int .i64 (k + 1)) = w4 at *
  have K4 : Kept w2 w4 (fun b => b = ge) := k3.trans k4 (fun b q => .inl q)
  have K : Kept w w4 (fun b => own A = some b ∨ b = ge) := (K1.more (fun b q => .inl (.inl q))).trans K4 (fun b q => .inl (.inr q))
  have hge' : ∀ b, own A' = some b → ¬ b = ge := by
    intro b hb' e
    subst e
    have hrow : RowW w2 0 A' c' (l ++ [x]) → False := fun hr2 => by
      obtain ⟨cs, e⟩ := hr2.typed hb'
      rw [hh2.head] at e
      simp at e
    rcases ho.2 with ⟨q, _⟩ | ⟨g, cap, cur, q, _, hg2, _⟩
    · obtain ⟨rfl, _, _⟩ := Value.slice.inj q
      simp [own] at hb'
    · obtain ⟨rfl, _, _⟩ := Value.slice.inj q
      simp [own] at hb'
      subst hb'
      rw [hh2.head] at hg2
      simp at hg2
  have hlen : (l ++ [x]).length = l.length + 1 := by simp
  have hah : ∀ y ∈ l ++ [x], AhAt w y := fun y hy => by
    rcases List.mem_append.1 hy with q | q
    · exact h.row.ah y q
    · rw [List.mem_singleton] at q; subst q; exact hx
  have hni : NI w (fun b => own A = some b ∨ b = ge) := by
    rintro b (q | q)
    · exact h.row.ni b q
    · exact h.head.ni b q
  refine ⟨⟨?_, h.disk.keep K (fun b q1 q2 => by rcases q2 with q2 | q2; exact h.row_fd b q2 q1; subst q2; exact h.ge_fd q1), ⟨?_, fun y hy => (hah y hy).keep K hni⟩, ?_, ?_, ?_, ?_, by omega⟩, K.more (fun b q => .inl (by rcases q with q | q; exact .inr (.inl q); exact .inl q)), ?_⟩
  · rw [hlen]; exact h4
  · rw [hlen, flatW_append, flatW_one]
    exact K4.row ho (fun b hb' q => hge' b (by rw [← own_eq A' (l.length + 1) c']; exact hb') q)
  · unfold Asc
    rw [List.pairwise_append]
    refine ⟨h.asc, List.pairwise_singleton _ _, fun a ha b hb' => ?_⟩
    rw [List.mem_singleton] at hb'
    subst hb'
    rw [hk]; exact (h.lo a ha).2
  · intro y hy
    rcases List.mem_append.1 hy with q | q
    · exact h.right y q
    · rw [List.mem_singleton] at q; subst q; exact hr
  · intro y hy
    rcases List.mem_append.1 hy with q | q
    · exact h.blk y q
    · rw [List.mem_singleton] at q; subst q; exact hbn
  · intro y hy
    rcases List.mem_append.1 hy with q | q
    · have := h.lo y q; omega
    · rw [List.mem_singleton] at q; subst q; rw [hk]; omega
  · rintro b (q | q | q)
    · exact .inl (.inl q)
    · rcases hor with e | e
      · exact .inl (.inr (.inl (by rw [← e]; exact q)))
      · rw [e] at q
        cases q
        exact .inr hb.size
    · exact .inl (.inr (.inr q))
end Go.Proofs.Ytegacggkdjgdiaa
