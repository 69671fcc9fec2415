/- Plain words: what comes one by one, when it can; Overlaps as it is answered; bytes and patches that came in. -/
import Derived.Test.YtkfjkhacchbkeaaE
import Derived.Test.YtkfjkhacchbkeaaC
import Derived.Test.YtkfjkhacchbkeaaGYB
import Derived.Test.YtkfjkhacchbkeaaGN
namespace Go.Proofs.Ytkfjkhacchbkeaa
set_option linter.unusedVariables false
set_option linter.unusedSimpArgs false
open Go.RowKit

theorem nodup_len : ∀ (n : Nat) (l : List Nat), l.Nodup → (∀ x ∈ l, x < n) → l.length ≤ n := by
  intro n
  induction n with
  | zero =>
    intro l _ h
    cases l with
    | nil => simp
    | cons a l => exact absurd (h a (by simp)) (by omega)
  | succ n ih =>
    intro l hn h
    have h1 := ih (l.erase n) (hn.erase n) (fun x hx => by
      have h2 := h x (List.mem_of_mem_erase hx)
      have h3 : x ≠ n := (hn.mem_erase_iff.1 hx).1
      omega)
    by_cases hm : n ∈ l
    · have := List.length_erase_of_mem hm; omega
    · rw [List.erase_of_not_mem hm] at h1; omega
theorem full_len (n : Nat) (l : List Nat) (hn : l.Nodup) (h : ∀ x ∈ l, x < n) (hf : ∀ x, x < n → x ∈ l) : l.length = n := by
  have h1 := nodup_len n l hn h
  have h2 : (List.range n).length ≤ l.length := by
    have key : ∀ (a b : List Nat), a.Nodup → (∀ x ∈ a, x ∈ b) → a.length ≤ b.length := by
      intro a
      induction a with
      | nil => intro b _ _; simp
      | cons x a ih =>
        intro b ha hb
        have hx := hb x (by simp)
        obtain ⟨hxa, ha'⟩ := List.nodup_cons.1 ha
        have := ih (b.erase x) ha' (fun y hy => by
          have hyb := hb y (List.mem_cons_of_mem _ hy)
          exact (List.mem_erase_of_ne (show y ≠ x from fun e => hxa (by rw [← e]; exact hy))).2 hyb)
        rw [List.length_erase_of_mem hx] at this
        have := List.length_pos_of_mem hx
        simp only [List.length_cons]; omega
    exact key _ _ List.nodup_range (fun x hx => hf x (List.mem_range.1 hx))
  simp at h2; omega
/-- what was done is closed, each number once -/
structure Good (D : List (List Nat)) (done : List Nat) : Prop where
  closed : ClosedP D (natsI done)
  nodup : done.Nodup
  lt : ∀ x ∈ done, x < D.length
theorem Good.nil (D : List (List Nat)) : Good D [] :=
  ⟨⟨fun x hx => by simp [natsI] at hx, fun n hn => by simp [markI, natsI] at hn⟩, List.nodup_nil, fun x hx => by cases hx⟩
theorem Good.len {D : List (List Nat)} {done : List Nat} (h : Good D done) : done.length ≤ D.length := nodup_len _ _ h.nodup h.lt
theorem readyL_nodup {D : List (List Nat)} (hD : Right D) (l k : List Int) : (readyL D l k).Nodup := by
  rw [readyL_eq hD]
  exact (listM_rising _ _).imp (fun h => Nat.ne_of_lt h)
theorem Good.more {D : List (List Nat)} (hD : Right D) {done : List Nat} (h : Good D done) (k : List Int) : Good D (done ++ readyL D (natsI done) k) := by
  have hmem : ∀ n, markI D.length (natsI (done ++ readyL D (natsI done) k)) n = true ↔ n < D.length ∧ (n ∈ done ∨ n ∈ readyL D (natsI done) k) := fun n => by
    rw [markI_nats, List.mem_append]
  have hlt : ∀ x ∈ done ++ readyL D (natsI done) k, x < D.length := fun x hx => by
    rcases List.mem_append.1 hx with hx | hx
    · exact h.lt x hx
    · exact (ready_out hD hx).1
  refine ⟨⟨fun x hx => ?_, fun n hn d hd => ?_⟩, ?_, hlt⟩
  · obtain ⟨i, hi, rfl⟩ := List.mem_map.1 hx
    have := hlt i hi
    unfold isN; simp; omega
  · rw [hmem] at hn ⊢
    refine ⟨hD.row_lt n d hd, ?_⟩
    rcases hn.2 with h1 | h1
    · have := h.closed.2 n (markI_nats.2 ⟨hn.1, h1⟩) d hd
      exact .inl (markI_nats.1 this).2
    · rcases (ready_out hD h1).2.2.2 d hd with h2 | h2
      · exact .inl (markI_nats.1 h2).2
      · exact .inr h2
  · refine List.nodup_append.2 ⟨h.nodup, readyL_nodup hD _ _, fun a ha b hb e => ?_⟩
    subst e
    have h1 := (ready_out hD hb).2.2.1
    rw [Bool.eq_false_iff] at h1
    exact h1 (markI_nats.2 ⟨h.lt a ha, ha⟩)
theorem Good.comes {D : List (List Nat)} (hD : Right D) {done : List Nat} (h : Good D done) {i : Nat} (hi : i < D.length) (hall : ∀ j, j < i → j ∈ done) : ∀ j, j < i + 1 → j ∈ done ++ readyL D (natsI done) [(i : Int)] := by
  intro j hj
  by_cases e : j = i
  · subst e
    by_cases hm : j ∈ done
    · exact List.mem_append.2 (.inl hm)
    · refine List.mem_append.2 (.inr (ready_in_of hD hi (by simp) ?_ fun d hd => .inl (markI_nats.2 ⟨hD.row_lt j d hd, hall d (hD.2 j d hd)⟩)))
      rw [Bool.eq_false_iff]
      intro h1
      exact hm (markI_nats.1 h1).2
  · exact List.mem_append.2 (.inl (hall j (by omega)))

/-- Overlaps answers the items of some patches that are right -/
def OvA (w : World) (l : List Pat.Pt) (e : Ending) (w' : World) : Prop :=
  Below w.heap.size w w' ∧ ∃ (ls : List Pat.Pt) (A : Option Addr) (c : Nat), e = .returned (.slice A ls.length c) ∧ Items w' w'.heap.size A (overL ls) ∧ ls.length ≤ l.length ∧ ls.length ≤ 64 ∧ Fine ls ∧ patsB ls = true ∧ (patsB l = true → ls = l) ∧ (patsB l = false → ls = [])
theorem OverSays.any {w w' : World} {l : List Pat.Pt} {e : Ending} (hF : Fine l) (h : OverSays w l e w') : OvA w l e w' := by
  obtain ⟨hB, ⟨hp, A, c, he, hI⟩ | ⟨hp, he⟩⟩ := h
  · exact ⟨hB, l, A, c, he, hI, Nat.le_refl _, by simp [patsB] at hp; exact hp.1, hF, hp, fun _ => rfl, fun h => by rw [hp] at h; cases h⟩
  · have hf0 : Fine [] := fun k hk => absurd hk (Nat.not_lt_zero _)
    exact ⟨hB, [], none, 0, he, Items.nil, Nat.zero_le _, Nat.zero_le _, hf0, rfl, (fun h => by rw [hp] at h; cases h), (fun _ => rfl)⟩

theorem pn_take {l : List Pat.Pt} {k j : Nat} (h : j < (l.take k).length) : Pat.pn (l.take k) j = Pat.pn l j := by
  rw [Pat.pn_lt h, Pat.pn_lt (by rw [List.length_take] at h; omega), List.getElem_take]
theorem Pats.take {w : World} {B : Nat} {A : Option Addr} {l : List Pat.Pt} (h : Pat.Pats w B A l) (k : Nat) : Pat.Pats w B A (l.take k) := fun hn => by
  have hn' := hn
  rw [List.length_take] at hn'
  obtain ⟨b, off, e, hb, hc⟩ := h (by omega)
  refine ⟨b, off, e, hb, fun j hj => ?_⟩
  rw [pn_take hj]
  exact hc j (by rw [List.length_take] at hj; omega)
theorem Fine.take {l : List Pat.Pt} (h : Fine l) (k : Nat) : Fine (l.take k) := fun j hj => by
  rw [pn_take hj]; exact h j (by rw [List.length_take] at hj; omega)
/-- bytes that came in -/
def Bytes (w : World) (A : Option Addr) (n : Nat) : Prop := 0 < n → ∃ b off, A = some ⟨b, off, none⟩ ∧ b < w.heap.size ∧ ∀ j, j < n → ∃ x : Int, w.cell? ⟨b, off + j, none⟩ = some (.int .u8 x)
theorem IsRow.bytes {w : World} {a : Option Addr} {len cap : Nat} {zs : List Int} (h : IsRow .u8 w a len cap zs) : len ≤ cap ∧ cap ≤ maxLen ∧ Bytes w a len := by
  rcases h with ⟨rfl, rfl, rfl, rfl⟩ | ⟨x, rfl, hl, hm, hz, hc, _⟩
  · exact ⟨Nat.le_refl _, Nat.zero_le _, fun h => by omega⟩
  · refine ⟨hl, hm, fun hp => ?_⟩
    obtain ⟨b, off, spot⟩ := x
    have hc0 := hc 0 (by omega)
    have hspot : spot = none := by simpa [Addr.add] using World.cell?_spot hc0
    subst hspot
    refine ⟨b, off, rfl, lt_cell (by simpa [Addr.add] using hc0), fun j hj => ?_⟩
    have hcj := hc j (by omega)
    rw [add_plain] at hcj
    exact ⟨_, hcj⟩
end Go.Proofs.Ytkfjkhacchbkeaa
