/- Settled one by one from below; rows and bytes that stay. -/
import Derived.Test.YtibkipdadpidnaaSL
set_option linter.unusedVariables false
set_option linter.unusedSimpArgs false
namespace Go.Proofs.Ytibkipdadpidnaa
open Go.RowKit
open Pat (Pt AllB undoP nth)
/-- the lowest k settled -/
def lowS (s : Sk) (k : Nat) : Sk := ⟨withL (fun _ => true) s.f (s.l.take k), s.l.drop k, s.k⟩
theorem low_zero (s : Sk) : lowS s 0 = s := rfl
theorem low_end (s : Sk) : lowS s s.l.length = ⟨allB s, [], s.k⟩ := by
  unfold lowS allB; rw [List.take_length, List.drop_length]
theorem with_cons (k : Int → Bool) (f : List Int) (x : On) (r : List On) : withL k f (x :: r) = withL k (if k x.n = true then Pat.put f x.p else f) r := rfl
theorem drop_onn {l : List On} {k : Nat} (h : k < l.length) : l.drop k = onn l k :: l.drop (k + 1) := by
  rw [onn_lt h]; exact List.drop_eq_getElem_cons h
theorem low_above {l : List On} {k : Nat} (hk : k < l.length) (hr : RiseO l) : ∀ y ∈ l.drop (k + 1), (onn l k).n < y.n := by
  have h : RiseO (l.drop k) := List.Pairwise.sublist (List.drop_sublist k l) hr
  rw [drop_onn hk] at h
  exact (List.pairwise_cons.1 h).1
theorem low_on {l : List On} {k : Nat} (hk : k < l.length) : isOn (l.drop k) (onn l k).n = true := by
  rw [isOn_iff, drop_onn hk]; exact ⟨_, List.mem_cons_self .., rfl⟩
theorem low_needs {l : List On} {k : Nat} (hk : k < l.length) (hr : RiseO l) : needsL (l.drop k) (onn l k).n = [] := by
  unfold needsL
  rw [if_pos (low_on hk)]
  have : (l.drop k).filter (needF (onn l k).n (patP (l.drop k) (onn l k).n)) = [] := by
    rw [List.filter_eq_nil_iff]
    intro y hy
    rw [drop_onn hk] at hy
    unfold needF
    rcases List.mem_cons.1 hy with rfl | hy
    · simp
    · have := low_above hk hr y hy
      have h2 : ¬ y.n < (onn l k).n := by omega
      simp [h2]
  rw [this]; rfl
theorem low_may {l : List On} {k : Nat} (hk : k < l.length) (hr : RiseO l) : mayE (l.drop k) [(onn l k).n] = 0 := by
  unfold mayE
  have h1 : [(onn l k).n].all (isOn (l.drop k)) = true := by simp [low_on hk]
  have h2 : [(onn l k).n].all (needsIn (l.drop k) [(onn l k).n]) = true := by
    simp only [List.all_cons, List.all_nil, Bool.and_true]
    unfold needsIn; rw [low_needs hk hr]; rfl
  rw [if_pos h1, if_pos h2]
theorem low_step {s : Sk} {k : Nat} (hk : k < s.l.length) (hr : RiseO s.l) : settle0 (lowS s k) [(onn s.l k).n] = lowS s (k + 1) := by
  unfold settle0
  rw [if_pos (show mayE (lowS s k).l [(onn s.l k).n] = 0 from low_may hk hr)]
  unfold settleS lowS
  simp only
  have ha := low_above hk hr
  have hno : ∀ y ∈ s.l.drop (k + 1), decide (y.n ∈ [(onn s.l k).n]) = false := fun y hy => by
    have := ha y hy
    have h2 : y.n ≠ (onn s.l k).n := by omega
    simp [h2]
  congr 1
  · rw [drop_onn hk, take_onn hk, withL_append, with_cons, with_cons, if_pos (by simp), if_pos rfl, with_congr (k' := fun _ => false) (fun x hx => hno x hx), with_none]; rfl
  · rw [drop_onn hk, List.filter_cons_of_neg (by simp)]
    exact List.filter_eq_self.2 (fun y hy => by rw [hno y hy]; rfl)
theorem low_ok {c : Nat} {s : Sk} (h : Ok c s) (k : Nat) : Ok c (lowS s k) := h.sub (List.drop_sublist k s.l)
/-- bytes in a block of their own -/
structure BtB (w : World) (g r d : Nat) (f : List Int) : Prop where
  b : Pat.Bts w w.heap.size (some ⟨d, 0, none⟩) f
  ng : d ≠ g
  nr : d ≠ r
  lt : d < w.heap.size
theorem BtB.kg {g r d : Nat} {w w' : World} {f : List Int} (h : BtB w g r d f) (k : KG g r w w') : BtB w' g r d f :=
  ⟨⟨h.b.1, fun hn => by
    obtain ⟨b, off, e, hb, hc⟩ := h.b.2 hn
    cases e
    refine ⟨d, 0, rfl, Nat.lt_of_lt_of_le h.lt k.size, fun j hj => (k.cell h.lt ?_).trans (hc j hj)⟩
    rintro (e | e)
    · exact h.ng e
    · exact h.nr e⟩, h.ng, h.nr, Nat.lt_of_lt_of_le h.lt k.size⟩
theorem GivesB.btb {B g r d : Nat} {s u : Sk} {w w' : World} {f : List Int} (t : Two B w g r s u) (hd : w.heap.size ≤ d) (h : Pat.Bts w' w'.heap.size (some ⟨d, 0, none⟩) f) (hl : f.length = 32) : BtB w' g r d f :=
  ⟨h, fun e => by have := t.glt; omega, fun e => by have := t.rlt; omega, by
    obtain ⟨b, off, e, hb, _⟩ := h.2 (by omega)
    cases e; exact hb⟩
/-- a row of one's own stays -/
theorem kg_row {B B0 g r c : Nat} {s u : Sk} {w w' : World} {A : Option Addr} {l : List Int} (t : Two B w g r s u) (h : RowI w B0 A c l) (k : KG g r w w') : RowI w' B0 A c l :=
  h.keep k (fun b e => by
    rintro (rfl | rfl)
    · exact own_notHead h ⟨by decide, by decide⟩ b e t.gHead
    · exact own_notHead h ⟨by decide, by decide⟩ b e t.rHead)
end Go.Proofs.Ytibkipdadpidnaa
