/- A region whose last operation writes what the region reads: the fact S holds behind all of them but that one. -/
import Derived.Test.YtibkipdadpidnaaC
import Derived.Deep.RegionHeld
set_option linter.unusedVariables false
set_option linter.unusedSimpArgs false
namespace Go.Proofs.Ytibkipdadpidnaa
open Go.RowKit
section
variable {P : Program} {ops : Array Oper} {Q : Exit → Act → World → Prop} {md : Region.Mode} {S : World → Prop} {z : Nat}
/-- the rest of a region, in whatever order: S behind each operation but number z -/
def RestZ (P : Program) (md : Region.Mode) (ops : Array Oper) (Q : Exit → Act → World → Prop) (S : World → Prop) (z : Nat) : Nat → Array Bool → Act → World → Prop
  | 0, l, a, w => Region.ready md ops l = [] ∧ Q .normal a w
  | n + 1, l, a, w => (Region.ready md ops l = [] → Q .normal a w) ∧ ∀ j ∈ Region.ready md ops l, wpOp P ops Q j (fun a' w' => (j ≠ z → S w') ∧ RestZ P md ops Q S z n (l.setIfInBounds j true) a' w') a w
theorem RestZ.any : ∀ (n : Nat) (l : Array Bool) (a : Act) (w : World), RestZ P md ops Q S z n l a w → wpAny P md ops Q n l a w
  | 0, _, _, _, h => h
  | n + 1, _, _, _, h => ⟨h.1, fun j hj => wpOp_mono (fun a' w' q => RestZ.any n _ a' w' q.2) (h.2 j hj)⟩
/-- what has come up has what it waits for behind it -/
def Cls (md : Region.Mode) (ops : Array Oper) (l : Array Bool) : Prop :=
  ∀ (j : Nat) (o : Oper), ops[j]? = some o → l.getD j true = true → ∀ e ∈ o.after, Region.binds md e = true → l.getD e.on false = true
theorem Cls.next {l : Array Bool} {j : Nat} (h : Cls md ops l) (hj : j ∈ Region.ready md ops l) : Cls md ops (l.setIfInBounds j true) := by
  intro k o ho hk e he hb
  obtain ⟨_, oj, hoj, hall⟩ := mem_ready.1 hj
  by_cases q : j = k
  · subst q
    obtain rfl : oj = o := Option.some.inj (hoj.symm.trans ho)
    exact getD_set_true (hall e he hb)
  · rw [getD_set_ne true q] at hk
    exact getD_set_true (h k o ho hk e he hb)
def clsB (md : Region.Mode) (ops : Array Oper) (l : Array Bool) : Bool :=
  (List.range ops.size).all fun j => !l.getD j true || ((ops[j]?).map fun o => o.after.all fun e => !Region.binds md e || l.getD e.on false).getD true
theorem cls_of {l : Array Bool} (h : clsB md ops l = true) : Cls md ops l := by
  intro j o ho hj e he hb
  have h1 := List.all_eq_true.1 h j (List.mem_range.2 (Array.getElem?_eq_some_iff.1 ho).1)
  simp only [hj, ho, Option.map_some, Option.getD_some, Bool.not_true, Bool.false_or] at h1
  have h2 := Array.all_eq_true_iff_forall_mem.1 h1 e he
  simpa [hb] using h2
/-- y waits for the first of r, that for the next .. -/
def waits (md : Region.Mode) (ops : Array Oper) : Nat → List Nat → Bool
  | _, [] => true
  | y, x :: r => ((ops[y]?).map fun o => o.after.any fun e => Region.binds md e && e.on == x).getD false && waits md ops x r
theorem waits_in {l : Array Bool} (hc : Cls md ops l) : ∀ (r : List Nat) (y : Nat), waits md ops y r = true → (∀ o, ops[y]? = some o → ∀ e ∈ o.after, Region.binds md e = true → l.getD e.on false = true) → ∀ x ∈ r, l.getD x false = true
  | [], _, _, _ => fun x h => (by cases h)
  | x :: r, y, hw, hy => by
    simp only [waits, Bool.and_eq_true] at hw
    obtain ⟨h1, h2⟩ := hw
    have hx : l.getD x false = true := by
      cases ho : ops[y]? with
      | none => rw [ho] at h1; simp at h1
      | some o =>
        rw [ho] at h1
        simp only [Option.map_some, Option.getD_some] at h1
        obtain ⟨e, he, hb⟩ := Array.any_eq_true'.1 h1
        simp only [Bool.and_eq_true, beq_iff_eq] at hb
        rw [← hb.2]
        exact hy o ho e he hb.1
    intro k hk
    rcases List.mem_cons.1 hk with rfl | hk
    · exact hx
    · refine waits_in hc r x h2 (fun o ho e he hb => hc x o ho ?_ e he hb) k hk
      cases q : l[x]? with
      | none => simp [Array.getD_eq_getD_getElem?, q]
      | some b => simpa [Array.getD_eq_getD_getElem?, q] using hx
theorem RestZ.first {i : Nat} {oi : Oper} {v : Value} (hi : ops[i]? = some oi) (hsel : ∀ (j : Nat) (o : Oper) cs b, ops[j]? = some o → o.op ≠ .select cs b)
    (hQ : ∀ c a w, Q (.panic c) (a.put oi.dst v) w → Q (.panic c) a w) (hz : ∀ l, Cls md ops l → z ∈ Region.ready md ops l → l.getD i true = true) :
    ∀ (n : Nat) (l : Array Bool) (a : Act) (w : World), Cls md ops l →
      (∀ j oj, ops[j]? = some oj → j ≠ i → l.getD j true = false → (∀ e ∈ oj.after, Region.binds md e = true → e.on ≠ i) → oi.apart ops oj = true) →
      i ∈ Region.ready md ops l → YieldsIf P ops S oi v a → S w → RestZ P md ops Q S z n (l.setIfInBounds i true) (a.put oi.dst v) w → RestZ P md ops Q S z (n + 1) l a w := by
  intro n
  induction n with
  | zero =>
    intro l a w _ _ hr hy hS H
    refine ⟨fun q => (by rw [q] at hr; cases hr), fun j hj => ?_⟩
    by_cases e : j = i
    · subst e; exact hy.wpOp hi hS ⟨fun _ => hS, H⟩
    · have := ready_mono hj e
      rw [H.1] at this; cases this
  | succ n ih =>
    intro l a w hc hfr hr hy hS H
    refine ⟨fun q => (by rw [q] at hr; cases hr), fun j hj => ?_⟩
    by_cases e : j = i
    · subst e; exact hy.wpOp hi hS ⟨fun _ => hS, H⟩
    have hun := (mem_ready.1 hr).1
    have hjz : j ≠ z := fun q => by
      have := hz l hc (by rw [← q]; exact hj)
      rw [this] at hun; cases hun
    obtain ⟨hjun, oj, hoj, hall⟩ := mem_ready.1 hj
    have hnot : ∀ e ∈ oj.after, Region.binds md e = true → e.on ≠ i := fun e he hb q => by
      have h1 := hall e he hb
      rw [q] at h1
      cases g : l[i]? with
      | none => simp [Array.getD_eq_getD_getElem?, g] at h1
      | some b => simp [Array.getD_eq_getD_getElem?, g] at h1 hun; rw [h1] at hun; cases hun
    have hstep := wpOp_putIf hoj (hfr j oj hoj e hjun hnot) (fun cs b => hsel i oi cs b hi) (fun cs b => hsel j oj cs b hoj) hQ hy (H.2 j (ready_mono hj e))
    refine wpOp_mono (fun a' w' q => ⟨fun _ => q.2.1 hjz, ih (l.setIfInBounds j true) a' w' (hc.next hj) ?_ (ready_mono hr (Ne.symm e)) q.1 (q.2.1 hjz) ?_⟩) hstep
    · intro k ok hok hki hkun hno
      refine hfr k ok hok hki ?_ hno
      by_cases g : j = k
      · subst g; exact hjun
      · rw [getD_set_ne true g] at hkun; exact hkun
    · rw [Array.setIfInBounds_comm _ _ e]
      exact q.2.2
/-- take number i first, its slot written out; z waits for the numbers of path, the last of which is i -/
theorem takeZ (i : Nat) (path : List Nat) {oi : Oper} (d : Option Tmp) {v : Value} {n : Nat} {l : Array Bool} {a : Act} {w : World} (hi : ops[i]? = some oi) (hd : oi.dst = d)
    (hs : Region.noSelect ops = true) (hf : Region.free md ops l i = true) (hr : (Region.ready md ops l).contains i = true) (hcl : clsB md ops l = true) (hp : (waits md ops z path && path.contains i) = true)
    (hQ : ∀ c a w, Q (.panic c) (a.put d v) w → Q (.panic c) a w) (hw : Region.wanted oi (yielded ops a.tmps) = true) (hy : ∀ w, S w → (execOp a.eval oi).run P w = .ok (.value v) w) (hS : S w)
    (h : RestZ P md ops Q S z n (l.setIfInBounds i true) (a.put d v) w) : RestZ P md ops Q S z (n + 1) l a w := by
  subst hd
  rw [Bool.and_eq_true] at hp
  refine RestZ.first hi (Region.noSelect_spec hs) hQ (fun l' hc' hz' => ?_) n l a w (cls_of hcl) (Region.free_spec hi hf) (by simpa using hr) (Or.inl ⟨hw, hy⟩) hS h
  obtain ⟨_, oz, hoz, hall⟩ := mem_ready.1 hz'
  have h1 := waits_in hc' path z hp.1 (fun o ho e he hb => by obtain rfl : oz = o := Option.some.inj (hoz.symm.trans ho); exact hall e he hb) i (by simpa using hp.2)
  cases q : l'[i]? with
  | none => simp [Array.getD_eq_getD_getElem?, q]
  | some b => simpa [Array.getD_eq_getD_getElem?, q] using h1
/-- whichever comes up -/
def AllZ (P : Program) (md : Region.Mode) (ops : Array Oper) (Q : Exit → Act → World → Prop) (S : World → Prop) (z n : Nat) (l : Array Bool) (a : Act) (w : World) (rs : List Nat) : Prop :=
  ∀ j ∈ rs, wpOp P ops Q j (fun a' w' => (j ≠ z → S w') ∧ RestZ P md ops Q S z n (l.setIfInBounds j true) a' w') a w
theorem AllZ.nil {n : Nat} {l : Array Bool} {a : Act} {w : World} : AllZ P md ops Q S z n l a w [] := fun _ h => by cases h
theorem AllZ.cons {n : Nat} {l : Array Bool} {a : Act} {w : World} {j : Nat} {o : Oper} {rs : List Nat} (ho : ops[j]? = some o)
    (h : ∀ K : Act → World → Prop, Shut (∀ a w, (j ≠ z → S w) → ((j ≠ z → S w) → RestZ P md ops Q S z n (l.setIfInBounds j true) a w) → K a w) → if Region.wanted o (yielded ops a.tmps) = true then Oper.wp P o a w K Q else K (a.put o.dst undef) w)
    (hs : AllZ P md ops Q S z n l a w rs) : AllZ P md ops Q S z n l a w (j :: rs) := fun k hk => by
  rcases List.mem_cons.1 hk with rfl | hk
  · exact wpOp_step ho (fun K hK => h K (fun a w hS hW => hK a w ⟨hS, hW hS⟩))
  · exact hs k hk
theorem readyZ {rs : List Nat} {n : Nat} {l : Array Bool} {a : Act} {w : World} (hr : Region.ready md ops l = rs) (hne : rs ≠ []) (h : AllZ P md ops Q S z n l a w rs) : RestZ P md ops Q S z (n + 1) l a w :=
  ⟨fun h0 => absurd (hr ▸ h0) hne, hr ▸ h⟩
theorem doneZ {l : Array Bool} {a : Act} {w : World} (hr : Region.ready md ops l = []) (h : Q .normal a w) : ∀ n, RestZ P md ops Q S z n l a w
  | 0 => ⟨hr, h⟩
  | _ + 1 => ⟨fun _ => h, by rw [hr]; simp⟩
theorem beginZ (S : World → Prop) (z : Nat) {id : Nat} {a : Act} {w : World} (hm : P.follows .mixedOrders = true) (hS : S w.drew)
    (h : S w.drew → RestZ P .any ops Q S z ops.size (Array.replicate ops.size false) a w.drew) : (Code.region id ops true).wp P Q a w :=
  wp_region_any hm (RestZ.any _ _ _ _ (h hS))
end
end Go.Proofs.Ytibkipdadpidnaa
