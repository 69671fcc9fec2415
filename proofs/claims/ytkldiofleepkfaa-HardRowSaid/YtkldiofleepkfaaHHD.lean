/- Patches that are written together, plain: who may join, step by step. -/
import Derived.Test.YtkldiofleepkfaaHHC
set_option linter.unusedVariables false
set_option linter.unusedSimpArgs false
namespace Go.Proofs.Ytkldiofleepkfaa.Hd
/-- a unit's patches and all that they come behind, being gathered: s is to be looked at, T was -/
structure Cls (l : List Hw) (u : Int) (s T : List Int) : Prop where
  near : ∀ n ∈ T, Near l u n ∧ hasN l n = true
  left : ∀ n ∈ s, Near l u n
  unit : ∀ x ∈ l, x.u = u → x.num ∈ T ∨ x.num ∈ s
  cl : ∀ x ∈ l, x.num ∈ T → ∀ d ∈ x.ah, hasN l d = true → d ∈ T ∨ d ∈ s
theorem Cls.start (l : List Hw) (u : Int) : Cls l u ((ofU l u).map (·.num)) [] := by
  refine ⟨by simp, fun n hn => ?_, fun x hx hu => .inr (List.mem_map.2 ⟨x, mem_ofU.2 ⟨hx, hu⟩, rfl⟩), by simp⟩
  obtain ⟨x, hx, rfl⟩ := List.mem_map.1 hn
  obtain ⟨h1, h2⟩ := mem_ofU.1 hx
  exact .unit h1 h2
theorem Cls.skip {l : List Hw} {u : Int} {s T : List Int} {n : Int} (h : Cls l u (s ++ [n]) T) (hn : n ∈ T ∨ hasN l n = false) : Cls l u s T := by
  have hd : ∀ d, hasN l d = true → (d ∈ T ∨ d ∈ s ++ [n]) → d ∈ T ∨ d ∈ s := fun d hw q => by
    rcases q with q | q
    · exact .inl q
    · rcases List.mem_append.1 q with q | q
      · exact .inr q
      · rw [List.mem_singleton] at q
        subst q
        rcases hn with q | q
        · exact .inl q
        · rw [hw] at q; cases q
  exact ⟨h.near, fun m hm => h.left m (List.mem_append_left _ hm), fun x hx hu => hd _ (hasN_iff.2 ⟨x, hx, rfl⟩) (h.unit x hx hu), fun x hx hT d hdd hw => hd d hw (h.cl x hx hT d hdd hw)⟩
theorem Cls.mark {l : List Hw} (ho : Asc l) {u : Int} {s T T' : List Int} {y : Hw} (h : Cls l u (s ++ [y.num]) T) (hy : y ∈ l) (hT : ∀ m, m ∈ T' ↔ m = y.num ∨ m ∈ T) : Cls l u (s ++ y.ah) T' := by
  have hny : Near l u y.num := h.left _ (by simp)
  refine ⟨fun n hn => ?_, fun n hn => ?_, fun x hx hu => ?_, fun x hx hxT d hd hw => ?_⟩
  · rcases (hT n).1 hn with rfl | q
    · exact ⟨hny, hasN_iff.2 ⟨y, hy, rfl⟩⟩
    · exact h.near n q
  · rcases List.mem_append.1 hn with q | q
    · exact h.left n (List.mem_append_left _ q)
    · exact .ahead hy hny q
  · rcases h.unit x hx hu with q | q
    · exact .inl ((hT _).2 (.inr q))
    · rcases List.mem_append.1 q with q | q
      · exact .inr (List.mem_append_left _ q)
      · exact .inl ((hT _).2 (.inl (List.mem_singleton.1 q)))
  · rcases (hT _).1 hxT with q | q
    · have e : x = y := ho.inj hx hy q
      subst e
      exact .inr (List.mem_append_right _ hd)
    · rcases h.cl x hx q d hd hw with q | q
      · exact .inl ((hT _).2 (.inr q))
      · rcases List.mem_append.1 q with q | q
        · exact .inr (List.mem_append_left _ q)
        · exact .inl ((hT _).2 (.inl (List.mem_singleton.1 q)))
theorem Cls.done {l : List Hw} {u : Int} {T : List Int} (h : Cls l u [] T) (n : Int) : n ∈ T ↔ hasN l n = true ∧ Near l u n := by
  constructor
  · exact fun q => ⟨(h.near n q).2, (h.near n q).1⟩
  · rintro ⟨hw, hn⟩
    induction hn with
    | unit hx hu => exact (h.unit _ hx hu).elim id (fun q => by cases q)
    | ahead hx _ hd ih => exact (h.cl _ hx (ih (hasN_iff.2 ⟨_, hx, rfl⟩)) _ hd hw).elim id (fun q => by cases q)
/-- how much may still be looked at -/
def wgt (T : List Int) : List Hw → Nat
  | [] => 0
  | x :: r => (if x.num ∈ T then 0 else x.ah.length + 1) + wgt T r
theorem wgt_mono {T T' : List Int} (h : ∀ n ∈ T, n ∈ T') : ∀ l : List Hw, wgt T' l ≤ wgt T l
  | [] => Nat.le_refl _
  | x :: r => by
    have := wgt_mono h r
    unfold wgt
    by_cases q : x.num ∈ T
    · rw [if_pos q, if_pos (h _ q)]; omega
    · rw [if_neg q]; split <;> omega
theorem wgt_mark {T T' : List Int} (h : ∀ n ∈ T, n ∈ T') {y : Hw} (hy : y.num ∉ T) (hy' : y.num ∈ T') : ∀ l : List Hw, y ∈ l → wgt T' l + (y.ah.length + 1) ≤ wgt T l
  | [], q => by cases q
  | x :: r, q => by
    have hm := wgt_mono h r
    unfold wgt
    rcases List.mem_cons.1 q with rfl | q
    · rw [if_pos hy', if_neg hy]; omega
    · have := wgt_mark h hy hy' r q
      by_cases q2 : x.num ∈ T
      · rw [if_pos q2, if_pos (h _ q2)]; omega
      · rw [if_neg q2]; split <;> omega
theorem rise_len {b : Nat} : ∀ {l : List Int} {a : Nat}, l.Pairwise (· < ·) → (∀ d ∈ l, (a : Int) ≤ d ∧ d < b) → a ≤ b → l.length + a ≤ b
  | [], a, _, _, h => by simpa using h
  | x :: r, a, hp, hb, h => by
    obtain ⟨h1, h2⟩ := List.pairwise_cons.1 hp
    obtain ⟨q1, q2⟩ := hb x List.mem_cons_self
    have := rise_len (b := b) (a := x.toNat + 1) h2 (fun d hd => ⟨by have := h1 d hd; omega, (hb d (List.mem_cons_of_mem _ hd)).2⟩) (by omega)
    rw [List.length_cons]; omega
theorem wgt_le (T : List Int) {m : Nat} : ∀ {l : List Hw}, (∀ x ∈ l, x.ah.length ≤ m) → wgt T l ≤ l.length * (m + 1)
  | [], _ => by simp [wgt]
  | x :: r, h => by
    have := wgt_le T (l := r) (fun y hy => h y (List.mem_cons_of_mem _ hy))
    have := h x List.mem_cons_self
    unfold wgt
    rw [List.length_cons, Nat.succ_mul]
    split <;> omega
/-- a block's last unit is the last of its units -/
theorem last_on {l : List Hw} (h : Ok l) {k : Int} (hl : Lo l k) {b u : Int} {T : List Int} (e : onU l b = T ++ [u]) : lastU l b = u := by
  have hu : u ∈ onU l b := by rw [e]; simp
  obtain ⟨x, hx, e1, e2, e3⟩ := mem_onU.1 hu
  have hge := lastU_ge b l x hx e3
  have h0 := (hl x hx).1
  rcases lastU_in b l with q | ⟨y, hy, f1, f2⟩
  · omega
  · have hyo : y.u ∈ onU l b := (blk_of h hy).2 f1
    have hr := onU_rises h.asc b
    rw [e] at hyo hr
    rcases List.mem_append.1 hyo with q | q
    · have := (List.pairwise_append.1 hr).2.2 _ q u (by simp)
      omega
    · rw [List.mem_singleton] at q; omega
theorem last_none {l : List Hw} (h : Ok l) {b : Int} (e : onU l b = []) : lastU l b = -1 := by
  rcases lastU_in b l with q | ⟨y, hy, f1, f2⟩
  · exact q
  · have := (blk_of h hy).2 f1
    rw [e] at this; cases this
end Go.Proofs.Ytkldiofleepkfaa.Hd
