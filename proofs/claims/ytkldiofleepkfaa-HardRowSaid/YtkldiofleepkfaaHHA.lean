/- Patches that are written together, plain: what waits, its units, which of them can be written. -/
import Derived.Test.YtkldiofleepkfaaH1
set_option linter.unusedVariables false
set_option linter.unusedSimpArgs false
namespace Go.Proofs.Ytkldiofleepkfaa.Hd
/-- a patch that waits: its number, it, those that it comes behind (they waited when it was added), its unit -/
structure Hw where
  num : Int
  p : Pt
  ah : List Int
  u : Int
def Asc (l : List Hw) : Prop := l.Pairwise fun a b => a.num < b.num
def ofU (l : List Hw) (u : Int) : List Hw := l.filter fun x => x.u == u
def heads (l : List Hw) : List Hw := l.filter fun x => x.num == x.u
def units (l : List Hw) : List Int := (heads l).map (·.num)
/-- the units of a block, rising -/
def onU (l : List Hw) (b : Int) : List Int := ((heads l).filter fun x => x.p.b == b).map (·.num)
def hasN (l : List Hw) (n : Int) : Bool := l.any fun x => x.num == n
theorem hasN_iff {l : List Hw} {n : Int} : hasN l n = true ↔ ∃ x ∈ l, x.num = n := by simp [hasN]
/-- the unit of a number that waits; its own number else -/
def unitOf (l : List Hw) (n : Int) : Int := ((l.find? fun x => x.num == n).map (·.u)).getD n
/-- what holds of all that waits -/
structure Ok (l : List Hw) : Prop where
  asc : Asc l
  head : ∀ x ∈ l, ∃ y ∈ l, y.num = x.u ∧ y.u = x.u ∧ y.p.b = x.p.b
  low : ∀ x ∈ l, x.u ≤ x.num
  rise : ∀ x ∈ l, x.ah.Pairwise (· < ·)
  behind : ∀ x ∈ l, ∀ d ∈ x.ah, d < x.num
  /-- only a block's last unit is joined -/
  last : ∀ x ∈ l, ∀ y ∈ l, x.p.b = y.p.b → x.u < y.u → x.num < y.num
  /-- who joins a unit comes behind nothing that this did not come behind -/
  unit : ∀ x ∈ l, ∀ y ∈ l, y.num ∈ x.ah → y.u ≤ x.u
theorem Ok.nil : Ok [] := ⟨List.Pairwise.nil, by simp, by simp, by simp, by simp, by simp, by simp⟩
theorem Asc.inj {l : List Hw} (h : Asc l) {x y : Hw} (hx : x ∈ l) (hy : y ∈ l) (e : x.num = y.num) : x = y := by
  obtain ⟨i, hi, rfl⟩ := List.getElem_of_mem hx
  obtain ⟨j, hj, rfl⟩ := List.getElem_of_mem hy
  have hp := List.pairwise_iff_getElem.1 h
  rcases Nat.lt_trichotomy i j with q | q | q
  · have := hp i j hi hj q; omega
  · subst q; rfl
  · have := hp j i hj hi q; omega
theorem unitOf_at {l : List Hw} (h : Asc l) {x : Hw} (hx : x ∈ l) : unitOf l x.num = x.u := by
  unfold unitOf
  cases hf : l.find? fun y => y.num == x.num with
  | none =>
    have := List.find?_eq_none.1 hf x hx
    simp at this
  | some y =>
    have h1 := List.find?_some hf
    have h2 := List.mem_of_find?_eq_some hf
    have e : y = x := h.inj h2 hx (by simpa using h1)
    rw [e]; rfl
theorem mem_onU {l : List Hw} {b u : Int} : u ∈ onU l b ↔ ∃ x ∈ l, x.num = u ∧ x.u = u ∧ x.p.b = b := by
  unfold onU heads
  rw [List.mem_map]
  constructor
  · rintro ⟨x, hx, rfl⟩
    rw [List.mem_filter, List.mem_filter] at hx
    exact ⟨x, hx.1.1, rfl, by have := hx.1.2; simp at this; exact this.symm, by simpa using hx.2⟩
  · rintro ⟨x, hx, h1, h2, h3⟩
    exact ⟨x, List.mem_filter.2 ⟨List.mem_filter.2 ⟨hx, by simp [h1, h2]⟩, by simpa using h3⟩, h1⟩
theorem onU_rises {l : List Hw} (h : Asc l) (b : Int) : (onU l b).Pairwise (· < ·) := by
  unfold onU heads
  rw [List.pairwise_map]
  exact (h.filter _).filter _
theorem mem_ofU {l : List Hw} {u : Int} {x : Hw} : x ∈ ofU l u ↔ x ∈ l ∧ x.u = u := by simp [ofU]
/-- may a unit be written, when those of a list are? -/
def okU (l : List Hw) (kept : List Int) (u : Int) : Bool := (ofU l u).all fun x => x.ah.all fun d => !hasN l d || (unitOf l d == u || kept.contains (unitOf l d))
def keepU (l : List Hw) (kept : List Int) : List Int → List Int
  | [] => kept
  | u :: r => keepU l (if okU l kept u then kept ++ [u] else kept) r
/-- the units of a block that can be written -/
def readyU (l : List Hw) (b : Int) : List Int := keepU l [] (onU l b)
theorem okU_iff {l : List Hw} (h : Asc l) {kept : List Int} {u : Int} : okU l kept u = true ↔ ∀ x ∈ l, x.u = u → ∀ y ∈ l, y.num ∈ x.ah → y.u = u ∨ y.u ∈ kept := by
  unfold okU
  simp only [List.all_eq_true, Bool.or_eq_true, Bool.not_eq_true', beq_iff_eq, List.contains_iff_mem]
  constructor
  · intro hh x hx hu y hy hd
    have := hh x (mem_ofU.2 ⟨hx, hu⟩) y.num hd
    rw [unitOf_at h hy] at this
    rcases this with q | q
    · exact absurd (hasN_iff.2 ⟨y, hy, rfl⟩) (by rw [q]; simp)
    · exact q
  · intro hh x hx d hd
    cases hn : hasN l d with
    | false => exact .inl rfl
    | true =>
      obtain ⟨y, hy, rfl⟩ := hasN_iff.1 hn
      have hx' := mem_ofU.1 hx
      rw [unitOf_at h hy]
      exact .inr (hh x hx'.1 hx'.2 y hy hd)
/-- a set of units that can be written as one: each comes behind such alone that are in it, or last -/
def ClU (l : List Hw) (T : Int → Prop) : Prop := ∀ x ∈ l, T x.u → ∀ y ∈ l, y.num ∈ x.ah → T y.u
theorem keepU_sub {l : List Hw} : ∀ (us kept : List Int), ∀ u ∈ keepU l kept us, u ∈ kept ∨ u ∈ us
  | [], kept, u, h => .inl h
  | v :: r, kept, u, h => by
    unfold keepU at h
    rcases keepU_sub r _ u h with q | q
    · split at q
      · rcases List.mem_append.1 q with q | q
        · exact .inl q
        · exact .inr (by rw [List.mem_singleton.1 q]; exact List.mem_cons_self)
      · exact .inl q
    · exact .inr (List.mem_cons_of_mem _ q)
theorem keepU_mono {l : List Hw} : ∀ (us kept : List Int), ∀ u ∈ kept, u ∈ keepU l kept us
  | [], kept, u, h => h
  | v :: r, kept, u, h => by
    unfold keepU
    refine keepU_mono r _ u ?_
    split
    · exact List.mem_append_left _ h
    · exact h
theorem okU_mono {l : List Hw} (h : Asc l) {k1 k2 : List Int} {u : Int} (hk : ∀ v ∈ k1, v ∈ k2) (ho : okU l k1 u = true) : okU l k2 u = true := by
  rw [okU_iff h] at ho ⊢
  exact fun x hx hu y hy hd => (ho x hx hu y hy hd).imp id (hk _)
/-- whoever stays may stay -/
theorem keepU_ok {l : List Hw} (h : Asc l) : ∀ (us kept : List Int), (∀ v ∈ kept, okU l kept v = true) → ∀ u ∈ keepU l kept us, okU l (keepU l kept us) u = true
  | [], kept, hk, u, hu => hk u hu
  | v :: r, kept, hk, u, hu => by
    unfold keepU at hu ⊢
    refine keepU_ok h r _ ?_ u hu
    by_cases ho : okU l kept v = true
    · rw [if_pos ho]
      intro w hw
      rcases List.mem_append.1 hw with q | q
      · exact okU_mono h (fun x hx => List.mem_append_left _ hx) (hk w q)
      · rw [List.mem_singleton.1 q]; exact okU_mono h (fun x hx => List.mem_append_left _ hx) ho
    · rw [if_neg ho]; exact hk
/-- a closed set loses nothing -/
theorem keepU_all {l : List Hw} (h : Ok l) {T : Int → Prop} (hT : ClU l T) : ∀ (us kept : List Int), us.Pairwise (· < ·) → (∀ v ∈ us, ∀ y ∈ l, y.u < v → T y.u → y.u ∈ kept ∨ y.u ∈ us) → ∀ u ∈ us, T u → u ∈ keepU l kept us
  | [], kept, _, _, u, hu, _ => by cases hu
  | v :: r, kept, hp, hlow, u, hu, hTu => by
    obtain ⟨hv, hr⟩ := List.pairwise_cons.1 hp
    unfold keepU
    rcases List.mem_cons.1 hu with rfl | hu
    · refine keepU_mono r _ _ ?_
      have ho : okU l kept u = true := by
        rw [okU_iff h.asc]
        intro x hx hxu y hy hd
        have hTy : T y.u := hT x hx (by rw [hxu]; exact hTu) y hy hd
        have hle := h.unit x hx y hy hd
        rw [hxu] at hle
        rcases Int.lt_or_eq_of_le hle with q | q
        · rcases hlow u List.mem_cons_self y hy q hTy with q2 | q2
          · exact .inr q2
          · rcases List.mem_cons.1 q2 with q3 | q3
            · exact .inl q3
            · have := hv _ q3; omega
        · exact .inl q
      rw [if_pos ho]
      exact List.mem_append_right _ List.mem_cons_self
    · refine keepU_all h hT r _ hr (fun w hw y hy hlt hTy => ?_) u hu hTu
      rcases hlow w (List.mem_cons_of_mem _ hw) y hy hlt hTy with q | q
      · left
        split
        · exact List.mem_append_left _ q
        · exact q
      · rcases List.mem_cons.1 q with q2 | q2
        · left
          have ho : okU l kept v = true := by
            rw [okU_iff h.asc]
            intro x hx hxu z hz hd
            have hTz : T z.u := hT x hx (by rw [hxu, ← q2]; exact hTy) z hz hd
            have hle := h.unit x hx z hz hd
            rw [hxu] at hle
            rcases Int.lt_or_eq_of_le hle with q | q
            · rcases hlow v List.mem_cons_self z hz q hTz with q3 | q3
              · exact .inr q3
              · rcases List.mem_cons.1 q3 with q4 | q4
                · exact .inl q4
                · have := hv _ q4; omega
            · exact .inl q
          rw [if_pos ho, q2]
          exact List.mem_append_right _ List.mem_cons_self
        · exact .inr q2
theorem ready_on {l : List Hw} {b u : Int} (hu : u ∈ readyU l b) : u ∈ onU l b := by
  rcases keepU_sub _ _ u hu with q | q
  · cases q
  · exact q
/-- what is ready is closed -/
theorem ready_closed {l : List Hw} (h : Ok l) (b : Int) : ClU l (· ∈ readyU l b) := fun x hx hu y hy hd => by
  have ho := keepU_ok h.asc (onU l b) [] (fun v hv => by cases hv) x.u hu
  rcases (okU_iff h.asc).1 ho x hx rfl y hy hd with q | q
  · rw [q]; exact hu
  · exact q
/-- and the greatest that is -/
theorem ready_greatest {l : List Hw} (h : Ok l) (b : Int) {T : Int → Prop} (hT : ClU l T) (hb : ∀ y ∈ l, T y.u → y.u ∈ onU l b) : ∀ u ∈ onU l b, T u → u ∈ readyU l b :=
  keepU_all h hT (onU l b) [] (onU_rises h.asc b) (fun v hv y hy _ hTy => .inr (hb y hy hTy))
end Go.Proofs.Ytkldiofleepkfaa.Hd
