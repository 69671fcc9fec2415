/- Patches that are written together, plain: who joins, what is added, written, flushed keeps what holds of all that waits. -/
import Derived.Test.YtkldiofleepkfaaHHA
set_option linter.unusedVariables false
set_option linter.unusedSimpArgs false
namespace Go.Proofs.Ytkldiofleepkfaa.Hd
/-- what a unit's patches are, and all that one of these comes behind, over such that wait -/
inductive Near (l : List Hw) (u : Int) : Int → Prop
  | unit {x : Hw} : x ∈ l → x.u = u → Near l u x.num
  | ahead {x : Hw} {d : Int} : x ∈ l → Near l u x.num → d ∈ x.ah → Near l u d
theorem Near.le {l : List Hw} (h : Ok l) {u n : Int} (hn : Near l u n) : ∀ y ∈ l, y.num = n → y.u ≤ u := by
  induction hn with
  | unit hx hu => intro y hy e; rw [h.asc.inj hy hx e, hu]; exact Int.le_refl _
  | ahead hx _ hd ih =>
    intro y hy e
    subst e
    exact Int.le_trans (h.unit _ hx y hy hd) (ih _ hx rfl)
theorem snoc_ind {α : Type} {M : List α → Prop} (h0 : M []) (h1 : ∀ r y, M r → M (r ++ [y])) (l : List α) : M l := by
  have h : ∀ r : List α, M r.reverse := fun r => by
    induction r with
    | nil => exact h0
    | cons a r ih => rw [List.reverse_cons]; exact h1 _ _ ih
  have := h l.reverse
  rwa [List.reverse_reverse] at this
/-- a block's last unit; none: -1 -/
def lastU (l : List Hw) (b : Int) : Int := l.foldl (fun m x => if x.p.b == b && decide (m < x.u) then x.u else m) (-1)
theorem lastU_snoc (l : List Hw) (x : Hw) (b : Int) : lastU (l ++ [x]) b = if x.p.b == b && decide (lastU l b < x.u) then x.u else lastU l b := by
  unfold lastU; rw [List.foldl_append]; rfl
theorem lastU_ge (b : Int) : ∀ (l : List Hw), ∀ x ∈ l, x.p.b = b → x.u ≤ lastU l b := by
  refine snoc_ind (fun x hx => by cases hx) (fun r y ih => ?_)
  · intro x hx hb
    rw [lastU_snoc]
    rcases List.mem_append.1 hx with q | q
    · have := ih x q hb
      split
      · next hc => simp at hc; omega
      · exact this
    · rw [List.mem_singleton.1 q] at hb ⊢
      split
      · exact Int.le_refl _
      · next hc => simp [hb] at hc; exact hc
theorem lastU_in (b : Int) : ∀ (l : List Hw), lastU l b = -1 ∨ ∃ x ∈ l, x.p.b = b ∧ x.u = lastU l b := by
  refine snoc_ind (.inl rfl) (fun r y ih => ?_)
  · rw [lastU_snoc]
    split
    · next hc => simp at hc; exact .inr ⟨y, by simp, hc.1, rfl⟩
    · rcases ih with q | ⟨x, hx, h1, h2⟩
      · exact .inl q
      · exact .inr ⟨x, List.mem_append_left _ hx, h1, h2⟩
/-- what was written since the last Flush, as units -/
structure SentOk (l : List Hw) (sent : List Int) : Prop where
  is : ∀ u ∈ sent, ∃ x ∈ l, x.num = u ∧ x.u = u
  cl : ∀ x ∈ l, x.u ∈ sent → ∀ y ∈ l, y.num ∈ x.ah → y.u ∈ sent ∧ y.p.b = x.p.b
theorem SentOk.nil (l : List Hw) : SentOk l [] := ⟨by simp, by simp⟩
open Classical in
/-- the unit of one that is added -/
noncomputable def homeU (l : List Hw) (sent : List Int) (n b : Int) (ah : List Int) : Int :=
  if 0 ≤ lastU l b ∧ lastU l b ∉ sent ∧ ∀ d ∈ ah, Near l (lastU l b) d then lastU l b else n
theorem homeU_is (l : List Hw) (sent : List Int) (n b : Int) (ah : List Int) :
    (homeU l sent n b ah = lastU l b ∧ 0 ≤ lastU l b ∧ lastU l b ∉ sent ∧ ∀ d ∈ ah, Near l (lastU l b) d) ∨ (homeU l sent n b ah = n ∧ ¬ (0 ≤ lastU l b ∧ lastU l b ∉ sent ∧ ∀ d ∈ ah, Near l (lastU l b) d)) := by
  unfold homeU
  split
  · next h => exact .inl ⟨rfl, h⟩
  · next h => exact .inr ⟨rfl, h⟩
noncomputable def addH (l : List Hw) (sent : List Int) (n : Int) (p : Pt) (ah : List Int) : List Hw := l ++ [⟨n, p, ah, homeU l sent n p.b ah⟩]
/-- numbers are from 0 -/
def Lo (l : List Hw) (k : Int) : Prop := ∀ x ∈ l, 0 ≤ x.num ∧ x.num < k
theorem Ok.added {l : List Hw} (h : Ok l) {sent : List Int} {n : Int} (hn : Lo l n) (p : Pt) {ah : List Int} (h1 : ah.Pairwise (· < ·)) (h2 : ∀ d ∈ ah, ∃ y ∈ l, y.num = d) : Ok (addH l sent n p ah) := by
  have hlo : ∀ x ∈ l, x.u < n := fun x hx => by have := h.low x hx; have := (hn x hx).2; omega
  have hpos : ∀ x ∈ l, 0 ≤ x.u := fun x hx => by
    obtain ⟨y, hy, e, _⟩ := h.head x hx
    have := (hn y hy).1
    omega
  have hH := homeU_is l sent n p.b ah
  unfold addH
  generalize homeU l sent n p.b ah = u at *
  have hul : u ≤ n := by
    rcases hH with ⟨rfl, q0, _⟩ | ⟨rfl, _⟩
    · rcases lastU_in p.b l with q | ⟨x, hx, _, e⟩
      · omega
      · have := hlo x hx; omega
    · exact Int.le_refl _
  constructor
  · unfold Asc
    rw [List.pairwise_append]
    exact ⟨h.asc, List.pairwise_singleton _ _, fun a ha b hb => by rw [List.mem_singleton.1 hb]; exact (hn a ha).2⟩
  · intro x hx
    rcases List.mem_append.1 hx with q | q
    · obtain ⟨y, hy, e⟩ := h.head x q; exact ⟨y, List.mem_append_left _ hy, e⟩
    · rw [List.mem_singleton.1 q]
      rcases hH with ⟨rfl, q0, _⟩ | ⟨rfl, _⟩
      · rcases lastU_in p.b l with e | ⟨z, hz, e1, e2⟩
        · omega
        · obtain ⟨y, hy, e3, e4, e5⟩ := h.head z hz
          exact ⟨y, List.mem_append_left _ hy, by rw [e3, e2], by rw [e4, e2], by rw [e5, e1]⟩
      · exact ⟨_, List.mem_append_right _ List.mem_cons_self, rfl, rfl, rfl⟩
  · intro x hx
    rcases List.mem_append.1 hx with q | q
    · exact h.low x q
    · rw [List.mem_singleton.1 q]; exact hul
  · intro x hx
    rcases List.mem_append.1 hx with q | q
    · exact h.rise x q
    · rw [List.mem_singleton.1 q]; exact h1
  · intro x hx d hd
    rcases List.mem_append.1 hx with q | q
    · exact h.behind x q d hd
    · rw [List.mem_singleton.1 q] at hd ⊢
      obtain ⟨y, hy, rfl⟩ := h2 d hd
      exact (hn y hy).2
  · intro x hx y hy hb hlt
    rcases List.mem_append.1 hx with q | q <;> rcases List.mem_append.1 hy with q2 | q2
    · exact h.last x q y q2 hb hlt
    · rw [List.mem_singleton.1 q2]; exact (hn x q).2
    · rw [List.mem_singleton.1 q] at hb hlt ⊢
      exfalso
      rcases hH with ⟨rfl, _⟩ | ⟨rfl, _⟩
      · have := lastU_ge p.b l y q2 hb.symm
        simp at hlt; omega
      · have := hlo y q2; simp at hlt; omega
    · rw [List.mem_singleton.1 q, List.mem_singleton.1 q2] at hlt; omega
  · intro x hx y hy hd
    rcases List.mem_append.1 hx with q | q <;> rcases List.mem_append.1 hy with q2 | q2
    · exact h.unit x q y q2 hd
    · rw [List.mem_singleton.1 q2] at hd
      have := h.behind x q _ hd
      have := (hn x q).2
      simp at this ⊢; simp at *; omega
    · rw [List.mem_singleton.1 q] at hd ⊢
      rcases hH with ⟨rfl, _, _, q3⟩ | ⟨rfl, _⟩
      · exact (q3 _ hd).le h y q2 rfl
      · exact Int.le_of_lt (hlo y q2)
    · rw [List.mem_singleton.1 q, List.mem_singleton.1 q2]; exact Int.le_refl _
theorem SentOk.added {l : List Hw} (h : Ok l) {sent : List Int} (hs : SentOk l sent) {n : Int} (hn : Lo l n) (p : Pt) (ah : List Int) : SentOk (addH l sent n p ah) sent := by
  have hH := homeU_is l sent n p.b ah
  unfold addH
  generalize homeU l sent n p.b ah = u at *
  have hns : n ∉ sent := fun hm => by
    obtain ⟨x, hx, e, _⟩ := hs.is n hm
    have := (hn x hx).2; omega
  have hu : u ∉ sent := by
    rcases hH with ⟨rfl, _, q, _⟩ | ⟨rfl, _⟩
    · exact q
    · exact hns
  constructor
  · intro v hv
    obtain ⟨x, hx, e⟩ := hs.is v hv
    exact ⟨x, List.mem_append_left _ hx, e⟩
  · intro x hx hxu y hy hd
    rcases List.mem_append.1 hx with q | q
    · rcases List.mem_append.1 hy with q2 | q2
      · exact hs.cl x q hxu y q2 hd
      · rw [List.mem_singleton.1 q2] at hd
        have h5 := h.behind x q _ hd
        have h6 := (hn x q).2
        simp at h5; omega
    · rw [List.mem_singleton.1 q] at hxu; exact absurd hxu hu
/-- what was sent can still be written -/
theorem sent_ready {l : List Hw} (h : Ok l) {sent : List Int} (hs : SentOk l sent) {b u : Int} (hu : u ∈ sent) (hb : u ∈ onU l b) : u ∈ readyU l b := by
  refine ready_greatest h b (T := fun v => v ∈ sent ∧ v ∈ onU l b) (fun x hx hT y hy hd => ?_) (fun y hy hT => hT.2) u hb ⟨hu, hb⟩
  obtain ⟨h1, h2⟩ := hs.cl x hx hT.1 y hy hd
  refine ⟨h1, ?_⟩
  obtain ⟨z, hz, e1, e2, e3⟩ := mem_onU.1 hT.2
  obtain ⟨x', hx', f1, f2, f3⟩ := h.head x hx
  obtain ⟨y', hy', g1, g2, g3⟩ := h.head y hy
  refine mem_onU.2 ⟨y', hy', g1, g2, ?_⟩
  rw [g3, h2, ← f3, h.asc.inj hx' hz (by rw [f1, e1]), e3]
/-- a Write lets these be sent, too -/
theorem SentOk.wrote {l : List Hw} (h : Ok l) {sent : List Int} (hs : SentOk l sent) (b : Int) {sent' : List Int} (hm : ∀ u, u ∈ sent' ↔ u ∈ sent ∨ u ∈ readyU l b) : SentOk l sent' := by
  have hbk : ∀ x ∈ l, x.u ∈ onU l b → x.p.b = b := fun x hx q => by
    obtain ⟨z, hz, e1, e2, e3⟩ := mem_onU.1 q
    obtain ⟨x', hx', f1, f2, f3⟩ := h.head x hx
    rw [← f3, h.asc.inj hx' hz (by rw [f1, e1]), e3]
  constructor
  · intro u hu
    rcases (hm u).1 hu with q | q
    · exact hs.is u q
    · obtain ⟨z, hz, e1, e2, _⟩ := mem_onU.1 (ready_on q)
      exact ⟨z, hz, e1, e2⟩
  · intro x hx hxu y hy hd
    rcases (hm _).1 hxu with q | q
    · have := hs.cl x hx q y hy hd
      exact ⟨(hm _).2 (.inl this.1), this.2⟩
    · have := ready_closed h b x hx q y hy hd
      exact ⟨(hm _).2 (.inr this), by rw [hbk x hx (ready_on q), hbk y hy (ready_on this)]⟩
/-- units that last are gone, whole -/
def lessU (l : List Hw) (sent : List Int) : List Hw := l.filter fun x => !sent.contains x.u
theorem mem_lessU {l : List Hw} {sent : List Int} {x : Hw} : x ∈ lessU l sent ↔ x ∈ l ∧ x.u ∉ sent := by simp [lessU]
theorem Ok.less {l : List Hw} (h : Ok l) (sent : List Int) : Ok (lessU l sent) := by
  constructor
  · exact h.asc.filter _
  · intro x hx
    obtain ⟨h1, h2⟩ := mem_lessU.1 hx
    obtain ⟨y, hy, e1, e2, e3⟩ := h.head x h1
    exact ⟨y, mem_lessU.2 ⟨hy, by rw [e2]; exact h2⟩, e1, e2, e3⟩
  · exact fun x hx => h.low x (mem_lessU.1 hx).1
  · exact fun x hx => h.rise x (mem_lessU.1 hx).1
  · exact fun x hx => h.behind x (mem_lessU.1 hx).1
  · exact fun x hx y hy => h.last x (mem_lessU.1 hx).1 y (mem_lessU.1 hy).1
  · exact fun x hx y hy => h.unit x (mem_lessU.1 hx).1 y (mem_lessU.1 hy).1
theorem Lo.less {l : List Hw} {k : Int} (h : Lo l k) (sent : List Int) : Lo (lessU l sent) k := fun x hx => h x (mem_lessU.1 hx).1
theorem Lo.added {l : List Hw} {k : Int} (h : Lo l k) (hk : 0 ≤ k) {sent : List Int} (p : Pt) (ah : List Int) : Lo (addH l sent k p ah) (k + 1) := fun x hx => by
  rcases List.mem_append.1 hx with q | q
  · have := h x q; omega
  · rw [List.mem_singleton.1 q]; simp; omega
theorem Lo.more {l : List Hw} {k k' : Int} (h : Lo l k) (hk : k ≤ k') : Lo l k' := fun x hx => by have := h x hx; omega
/-- the smallest unit of all can be written at once -/
theorem first_ready {l : List Hw} (h : Ok l) {x : Hw} (hx : x ∈ l) (hf : ∀ y ∈ l, x.u ≤ y.u) : x.u ∈ readyU l x.p.b := by
  obtain ⟨z, hz, e1, e2, e3⟩ := h.head x hx
  have hon : x.u ∈ onU l x.p.b := mem_onU.2 ⟨z, hz, e1, e2, e3⟩
  refine ready_greatest h x.p.b (T := fun v => v = x.u) (fun a ha hT y hy hd => ?_) (fun y hy hT => by rw [hT]; exact hon) _ hon rfl
  have := h.unit a ha y hy hd
  have := hf y hy
  omega
theorem exists_first {l : List Hw} (h : l ≠ []) : ∃ x ∈ l, ∀ y ∈ l, x.u ≤ y.u := by
  induction l with
  | nil => exact absurd rfl h
  | cons a r ih =>
    by_cases hr : r = []
    · subst hr; exact ⟨a, List.mem_cons_self, fun y hy => by rw [List.mem_singleton.1 hy]; exact Int.le_refl _⟩
    · obtain ⟨x, hx, hm⟩ := ih hr
      by_cases hc : a.u ≤ x.u
      · exact ⟨a, List.mem_cons_self, fun y hy => by
          rcases List.mem_cons.1 hy with rfl | q
          · exact Int.le_refl _
          · exact Int.le_trans hc (hm y q)⟩
      · exact ⟨x, List.mem_cons_of_mem _ hx, fun y hy => by
          rcases List.mem_cons.1 hy with rfl | q
          · omega
          · exact hm y q⟩
/-- the document's way: as long as a unit of the set has one that comes behind one that waits and is not in it, such a unit is left out -/
theorem ready_drop {l : List Hw} (h : Ok l) {b : Int} {T : List Int} (hT : ∀ u ∈ readyU l b, u ∈ T) {x y : Hw} (hx : x ∈ l) (hy : y ∈ l) (hd : y.num ∈ x.ah) (hn : y.u ∉ T) : ∀ u ∈ readyU l b, u ∈ T ∧ u ≠ x.u := fun u hu =>
  ⟨hT u hu, fun e => hn (hT _ (ready_closed h b x hx (by rw [← e]; exact hu) y hy hd))⟩
theorem ready_end {l : List Hw} (h : Ok l) {b : Int} {T : List Int} (hT : ∀ u ∈ readyU l b, u ∈ T) (hon : ∀ u ∈ T, u ∈ onU l b) (hcl : ClU l (· ∈ T)) : ∀ u, u ∈ T ↔ u ∈ readyU l b := fun u =>
  ⟨fun hu => ready_greatest h b hcl (fun y hy q => hon _ q) u (hon u hu) hu, hT u⟩
end Go.Proofs.Ytkldiofleepkfaa.Hd
