/- The document's engine: Add. -/
import Derived.Test.YtegacggkdjgdiaaH7
set_option linter.unusedVariables false
set_option linter.unusedSimpArgs false
namespace Go.Proofs.Ytegacggkdjgdiaa
open Go.RowKit

/-- what Add answers, and leaves -/
def QAddS (w : World) (g n : Nat) (S : Nat → Bk) (cc : Nat) (k : Int) (l : List Vr) (t : List Tr) (F : Nat → Prop) (its : List It) (e : Ending) (w' : World) : Prop :=
  (refusesE n k l.length its ≠ 0 ∧ e = .returned (.tuple #[.int .i64 0, .int .i64 (refusesE n k l.length its)]) ∧ Below w.heap.size w w') ∨
  (refusesE n k l.length its = 0 ∧ e = .returned (.tuple #[.int .i64 k, .int .i64 0]) ∧ Went w w' F (fun F' => ∃ l', QAdded k l k its l' ∧ Qe w' g n S cc (k + its.length) l' t F'))
theorem QAddS.bad {w : World} {g n : Nat} {S : Nat → Bk} {cc : Nat} {k : Int} {l : List Vr} {t : List Tr} {F : Nat → Prop} {its : List It} {w' : World} {r : Int} (h : refusesE n k l.length its = r) (hr : r ≠ 0) (hB : Below w.heap.size w w') : QAddS w g n S cc k l t F its (.returned (.tuple #[.int .i64 0, .int .i64 r])) w' := by
  subst h; exact .inl ⟨hr, rfl, hB⟩
theorem HeadQ.put1 {w : World} {g d : Nat} {vl vt : Value} {k : Int} (h : HeadQ w g d vl vt k) (vl' : Value) : HeadQ (w.setCell ⟨g, 1, none⟩ vl') g d vl' vt k ∧ Kept w (w.setCell ⟨g, 1, none⟩ vl') (fun b => b = g) := by
  have e1 := heap_setCell_same w g 1 _ 133 vl' h.head
  refine ⟨⟨by simpa using e1⟩, ⟨rfl, rfl, rfl, by simp, fun b hb hn => ?_⟩⟩
  rw [heap_setCell_other _ ⟨g, 1, none⟩ b _ hn]
theorem HeadQ.put3 {w : World} {g d : Nat} {vl vt : Value} {k : Int} (h : HeadQ w g d vl vt k) (k' : Int) : HeadQ (w.setCell ⟨g, 3, none⟩ (.int .i64 k')) g d vl vt k' ∧ Kept w (w.setCell ⟨g, 3, none⟩ (.int .i64 k')) (fun b => b = g) := by
  have e1 := heap_setCell_same w g 3 _ 133 (.int .i64 k') h.head
  refine ⟨⟨by simpa using e1⟩, ⟨rfl, rfl, rfl, by simp, fun b hb hn => ?_⟩⟩
  rw [heap_setCell_other _ ⟨g, 3, none⟩ b _ hn]
def overV (l : List Vr) (p : Pt) : List Int := (l.filter fun o => o.p.over p).map Vr.num
theorem overV_step {l : List Vr} {m : Nat} (h : m < l.length) (p : Pt) : overV (l.take (m + 1)) p = if (vn l m).p.over p = true then overV (l.take m) p ++ [(vn l m).num] else overV (l.take m) p := by
  unfold overV; rw [take_vn h, List.filter_append, List.map_append]
  by_cases e : (vn l m).p.over p = true
  · rw [if_pos e]; simp [e]
  · rw [if_neg e]; simp [e]
theorem overV_len (l : List Vr) (p : Pt) : (overV l p).length ≤ l.length := by
  unfold overV; rw [List.length_map]; exact List.length_filter_le _ _
theorem rowV_src {w : World} {B : Nat} {A : Option Addr} {c : Nat} {l : List Vr} (h : RowV w B A c l) : (∀ ad, A = some ad → ∀ j u, (flatV l)[j]? = some u → w.cell? (ad.add j) = some u) ∧ (A = none → l.length = 0) := by
  rcases h.row.2 with ⟨q, h0⟩ | ⟨k, cap, cur, q, _⟩
  · obtain ⟨rfl, _, _⟩ := Value.slice.inj q
    exact ⟨fun ad e => (by cases e), fun _ => h0⟩
  · obtain ⟨rfl, _, _⟩ := Value.slice.inj q
    refine ⟨fun ad e j u hu => ?_, fun e => by cases e⟩
    cases e
    have hlt := (List.getElem?_eq_some_iff.1 hu).1
    rw [length_flatV] at hlt
    rw [Addr.add_lit, Nat.zero_add, h.row.cellAt j hlt]
    exact hu
/-- a new row of those that wait laid into the engine, and its number -/
theorem QAt.pushed {w Wb : World} {g d n cc c c2 c' : Nat} {S : Nat → Bk} {k : Int} {l l' : List Vr} {t : List Tr} {A A2 A' : Option Addr} {Fd : Nat → Prop} (h : QAt w g d n S cc k l t A c A2 c2 Fd) (hb : Below w.heap.size w Wb) (hr : RowV Wb w.heap.size A' c' l') :
    (Wb.cell? ⟨g, 1, none⟩ = some (.slice A l.length c) ∧ Wb.frozen? ⟨g, 1, none⟩ = false ∧ g < Wb.heap.size) ∧
    ∀ w3, w3 = Wb.setCell ⟨g, 1, none⟩ (.slice A' l'.length c') → (w3.cell? ⟨g, 3, none⟩ = some (.int .i64 k) ∧ w3.frozen? ⟨g, 3, none⟩ = false ∧ g < w3.heap.size) ∧
      QAt (w3.setCell ⟨g, 3, none⟩ (.int .i64 (k + 1))) g d n S cc (k + 1) l' t A' c' A2 c2 Fd ∧ Kept w (w3.setCell ⟨g, 3, none⟩ (.int .i64 (k + 1))) (footQ g A A2 Fd) ∧ ∀ b, footQ g A' A2 Fd b → footQ g A A2 Fd b ∨ w.heap.size ≤ b := by
  have h1 := h.fresh hb
  refine ⟨⟨h1.head.c1, h1.head.free 1, h1.head.lt⟩, ?_⟩
  rintro w3 rfl
  obtain ⟨h3, k3⟩ := h1.head.put1 (.slice A' l'.length c')
  obtain ⟨h4, k4⟩ := h3.put3 (k + 1)
  refine ⟨⟨h3.c3, h3.free 3, h3.lt⟩, ?_⟩
  generalize hw4 : (Wb.setCell ⟨g, 1, none⟩ (.slice A' l'.length c')).setCell ⟨g, 3, none⟩ (.int .i64 (k + 1)) = w4 at *
  have K4 : Kept Wb w4 (fun b => b = g) := k3.trans k4 (fun b q => .inl q)
  have K : Kept w w4 (footQ g A A2 Fd) := (Kept.fresh (S := footQ g A A2 Fd) hb).trans K4 (fun b q => .inl (.inl q))
  refine ⟨⟨h4, h1.disk.keep K4 (fun b q e => by subst e; exact h1.g_fd q), (hr.head h1.head K4).zero, h1.tow.head h1.head K4⟩, K, ?_⟩
  rintro b (q | q | q | q)
  · exact .inl (.inl q)
  · exact .inr (hr.lt b q).1
  · exact .inl (.inr (.inr (.inl q)))
  · exact .inl (.inr (.inr (.inr q)))
theorem own_made0 (W : World) {N K : Nat} (hN : W.heap.size = N) (hK : K ≤ W.heap.size) : (W.alloc (.cells #[] 152)).ownsRow K 152 5 (.slice (some ⟨N, 0, none⟩) 0 0) 0 [] := by
  subst hN
  exact World.ownsRow_made W #[] 0 hK (by simp) (by simp)
theorem src_at {w : World} {b : Nat} {cs : Array Value} {t : TypeId} (hh : w.heap[b]? = some (.cells cs t (0, 0))) : ∀ ad, some (⟨b, 0, none⟩ : Addr) = some ad → ∀ j u, cs.toList[j]? = some u → w.cell? (ad.add j) = some u := by
  intro ad e j u hu
  cases e
  exact World.news_of_block hh j u hu
theorem blk_up (n : Nat) : some (n + 1) ≠ (Value.slice (some ⟨n, 0, none⟩) 0 0).ownBlock := by
  intro e
  have e1 : some (n + 1) = some n := e
  injection e1 with e2
  omega
theorem blk_down (n : Nat) : some n ≠ (Value.slice (some ⟨n + 1, 0, none⟩) 0 0).ownBlock := by
  intro e
  have e1 : some n = some (n + 1) := e
  injection e1 with e2
  omega
end Go.Proofs.Ytegacggkdjgdiaa
