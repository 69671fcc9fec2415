/- Rows of such as wait, asked and thinned: IndexFunc, ContainsFunc, DeleteFunc; Flush. -/
import Derived.Test.YtegacggkdjgdiaaEH
import Derived.Deep.MidRow
set_option linter.unusedVariables false
set_option linter.unusedSimpArgs false
namespace Go.Proofs.Ytegacggkdjgdiaa
open Go.RowKit

theorem unwritten_any (x : Wr) (w : World) : Calls Try.prog 40 #[x.v] w fun e w' => e = .returned (.bool (!x.wr)) ∧ Below w.heap.size w w' := by
  obtain ⟨num, ⟨b, o, s⟩, ah, A, c, wr⟩ := x
  unfold Wr.v Wr.cs
  generalize ah.length = m at *
  dsimp only
  go_enter Try.func40, Try.ntmps40
  go_wp2
  go_ret
  exact ⟨rfl, (Below.refl _ _).alloc (Nat.le_refl _) _⟩
theorem written_any (x : Wr) (w : World) : Calls Try.prog 45 #[x.v] w fun e w' => e = .returned (.bool x.wr) ∧ Below w.heap.size w w' := by
  obtain ⟨num, ⟨b, o, s⟩, ah, A, c, wr⟩ := x
  unfold Wr.v Wr.cs
  generalize ah.length = m at *
  dsimp only
  go_enter Try.func45, Try.ntmps45
  go_wp2
  go_ret
  exact ⟨rfl, (Below.refl _ _).alloc (Nat.le_refl _) _⟩
/-- where the first one stands of which f is true -/
def idxF (f : Wr → Bool) (l : List Wr) : Int := if l.any f then (l.findIdx f : Int) else -1
theorem idxF_at {f : Wr → Bool} {l : List Wr} {k : Nat} (hk : k < l.length) (h1 : ∀ j, j < k → f (wn l j) = false) (h2 : f (wn l k) = true) : l.any f = true ∧ l.findIdx f = k := by
  refine ⟨List.any_eq_true.2 ⟨l[k], List.getElem_mem hk, by rw [← wn_lt hk]; exact h2⟩, ?_⟩
  rw [List.findIdx_eq hk]
  refine ⟨by rw [← wn_lt hk]; exact h2, fun j hj => ?_⟩
  have := h1 j hj
  rwa [wn_lt (by omega)] at this
theorem idxF_none {f : Wr → Bool} {l : List Wr} (h1 : ∀ j, j < l.length → f (wn l j) = false) : l.any f = false := by
  rw [List.any_eq_false]
  intro x hx
  obtain ⟨j, hj, rfl⟩ := List.mem_iff_getElem.1 hx
  have := h1 j hj
  rw [wn_lt hj] at this
  simp [this]
theorem idxF_ge (f : Wr → Bool) (l : List Wr) : decide (0 ≤ idxF f l) = l.any f := by
  unfold idxF
  cases h : l.any f <;> simp

set_option maxRecDepth 100000 in
set_option maxHeartbeats 1000000 in
theorem index_un (B : Nat) (A : Option Addr) (c : Nat) (l : List Wr) (w : World) (hR : RowW w B A c l) (hl : l.length ≤ 1000) :
    Calls Try.prog 66 #[.slice A l.length c, .func (.func 40) #[] #[]] w fun e w' => e = .returned (.int .i64 (idxF (fun x => !x.wr) l)) ∧ Below w.heap.size w w' := by
  have HR := Lib.hid hR
  obtain ⟨f, hf⟩ : ∃ f : Wr → Bool, f = (fun x => !x.wr) := ⟨_, rfl⟩
  have HF : Hid (∀ x W, Calls Try.prog 40 #[Wr.v x] W fun e w' => e = .returned (.bool (f x)) ∧ Below W.heap.size W w') := by rw [hf]; exact unwritten_any
  rw [← hf]
  clear hR hf
  go_enter Try.func66, Try.ntmps66
  go_wp2
  go_loopw [8] (fun q wr => ∃ k : Nat, k ≤ l.length ∧ q = .int .i64 k ∧ Below w.heap.size w wr ∧ Hid (∀ j, j < k → f (wn l j) = false)) (fun q _ => l.length - (intOf q).toNat)
  case atStart => exact ⟨0, Nat.zero_le _, rfl, Below.refl _ _, fun j hj => absurd hj (by omega)⟩
  case round =>
    obtain ⟨k, hk, rfl, hB, hno⟩ := hrel
    rename World => wr
    have HB := Lib.hid hB
    clear hB
    by_cases hlt : k < l.length
    · have hlti : (k : Int) < (l.length : Int) := by omega
      have hk0 : (0 : Int) ≤ (k : Int) := by omega
      obtain ⟨ab, hA, h3, h4, hb, hcs, _⟩ := (HR.out.fresh HB.out).at_ hlt
      subst hA
      unfold maxLen at h4
      have c0 := hcs 0 (by omega)
      have c1 := hcs 1 (by omega)
      have c2 := hcs 2 (by omega)
      have c3 := hcs 3 (by omega)
      have c4 := hcs 4 (by omega)
      have c5 := hcs 5 (by omega)
      have HE := Lib.hid (fun W => HF.out (wn l k) W)
      clear hcs
      cases ht : f (wn l k) with
      | true =>
        have Hf : Hid (idxF f l = (k : Int)) := by
          obtain ⟨h1, h2⟩ := idxF_at hlt hno.out ht
          unfold Hid idxF; rw [h1, h2]; rfl
        rw [ht] at HE
        clear ht
        generalize wn l k = x at c0 c1 c2 c3 c4 c5 HE
        obtain ⟨num, ⟨b, o, s⟩, ah, a4, cc, fl⟩ := x
        unfold Wr.v Wr.cs at HE
        simp [Wr.cs] at c0 c1 c2 c3 c4 c5
        generalize ah.length = m at *
        go_wp2_with (refine (HE.out _).mono ?_; rintro e w1 ⟨rfl, hb1⟩; have HB1 := Lib.hid hb1; clear hb1)
        go_ret
        rw [Hf.out]
        exact ⟨rfl, HB.out.trans (HB1.out.mono HB.out.size)⟩
      | false =>
        have Hn : Hid (∀ j, j < k + 1 → f (wn l j) = false) := fun j hj => by
          rcases Nat.lt_or_ge j k with h | h
          · exact hno.out j h
          · obtain rfl : j = k := by omega
            exact ht
        rw [ht] at HE
        clear ht
        generalize wn l k = x at c0 c1 c2 c3 c4 c5 HE
        obtain ⟨num, ⟨b, o, s⟩, ah, a4, cc, fl⟩ := x
        unfold Wr.v Wr.cs at HE
        simp [Wr.cs] at c0 c1 c2 c3 c4 c5
        generalize ah.length = m at *
        go_wp2_with (refine (HE.out _).mono ?_; rintro e w1 ⟨rfl, hb1⟩; have HB1 := Lib.hid hb1; clear hb1)
        go_roundw
        case rel => exact ⟨k + 1, by omega, by go_num, HB.out.trans (HB1.out.mono HB.out.size), Hn.out⟩
        case measure => simp [intOf]; omega
    · obtain rfl : k = l.length := by omega
      have Hf : Hid (idxF f l = -1) := by
        unfold Hid idxF; rw [idxF_none hno.out]; rfl
      go_wp2
      go_ret
      rw [Hf.out]
      exact ⟨rfl, HB.out⟩
set_option maxRecDepth 100000 in
set_option maxHeartbeats 1000000 in
theorem index_wr (B : Nat) (A : Option Addr) (c : Nat) (l : List Wr) (w : World) (hR : RowW w B A c l) (hl : l.length ≤ 1000) :
    Calls Try.prog 66 #[.slice A l.length c, .func (.func 45) #[] #[]] w fun e w' => e = .returned (.int .i64 (idxF (fun x => x.wr) l)) ∧ Below w.heap.size w w' := by
  have HR := Lib.hid hR
  obtain ⟨f, hf⟩ : ∃ f : Wr → Bool, f = (fun x => x.wr) := ⟨_, rfl⟩
  have HF : Hid (∀ x W, Calls Try.prog 45 #[Wr.v x] W fun e w' => e = .returned (.bool (f x)) ∧ Below W.heap.size W w') := by rw [hf]; exact written_any
  rw [← hf]
  clear hR hf
  go_enter Try.func66, Try.ntmps66
  go_wp2
  go_loopw [8] (fun q wr => ∃ k : Nat, k ≤ l.length ∧ q = .int .i64 k ∧ Below w.heap.size w wr ∧ Hid (∀ j, j < k → f (wn l j) = false)) (fun q _ => l.length - (intOf q).toNat)
  case atStart => exact ⟨0, Nat.zero_le _, rfl, Below.refl _ _, fun j hj => absurd hj (by omega)⟩
  case round =>
    obtain ⟨k, hk, rfl, hB, hno⟩ := hrel
    rename World => wr
    have HB := Lib.hid hB
    clear hB
    by_cases hlt : k < l.length
    · have hlti : (k : Int) < (l.length : Int) := by omega
      have hk0 : (0 : Int) ≤ (k : Int) := by omega
      obtain ⟨ab, hA, h3, h4, hb, hcs, _⟩ := (HR.out.fresh HB.out).at_ hlt
      subst hA
      unfold maxLen at h4
      have c0 := hcs 0 (by omega)
      have c1 := hcs 1 (by omega)
      have c2 := hcs 2 (by omega)
      have c3 := hcs 3 (by omega)
      have c4 := hcs 4 (by omega)
      have c5 := hcs 5 (by omega)
      have HE := Lib.hid (fun W => HF.out (wn l k) W)
      clear hcs
      cases ht : f (wn l k) with
      | true =>
        have Hf : Hid (idxF f l = (k : Int)) := by
          obtain ⟨h1, h2⟩ := idxF_at hlt hno.out ht
          unfold Hid idxF; rw [h1, h2]; rfl
        rw [ht] at HE
        clear ht
        generalize wn l k = x at c0 c1 c2 c3 c4 c5 HE
        obtain ⟨num, ⟨b, o, s⟩, ah, a4, cc, fl⟩ := x
        unfold Wr.v Wr.cs at HE
        simp [Wr.cs] at c0 c1 c2 c3 c4 c5
        generalize ah.length = m at *
        go_wp2_with (refine (HE.out _).mono ?_; rintro e w1 ⟨rfl, hb1⟩; have HB1 := Lib.hid hb1; clear hb1)
        go_ret
        rw [Hf.out]
        exact ⟨rfl, HB.out.trans (HB1.out.mono HB.out.size)⟩
      | false =>
        have Hn : Hid (∀ j, j < k + 1 → f (wn l j) = false) := fun j hj => by
          rcases Nat.lt_or_ge j k with h | h
          · exact hno.out j h
          · obtain rfl : j = k := by omega
            exact ht
        rw [ht] at HE
        clear ht
        generalize wn l k = x at c0 c1 c2 c3 c4 c5 HE
        obtain ⟨num, ⟨b, o, s⟩, ah, a4, cc, fl⟩ := x
        unfold Wr.v Wr.cs at HE
        simp [Wr.cs] at c0 c1 c2 c3 c4 c5
        generalize ah.length = m at *
        go_wp2_with (refine (HE.out _).mono ?_; rintro e w1 ⟨rfl, hb1⟩; have HB1 := Lib.hid hb1; clear hb1)
        go_roundw
        case rel => exact ⟨k + 1, by omega, by go_num, HB.out.trans (HB1.out.mono HB.out.size), Hn.out⟩
        case measure => simp [intOf]; omega
    · obtain rfl : k = l.length := by omega
      have Hf : Hid (idxF f l = -1) := by
        unfold Hid idxF; rw [idxF_none hno.out]; rfl
      go_wp2
      go_ret
      rw [Hf.out]
      exact ⟨rfl, HB.out⟩
theorem contains_any (B : Nat) (A : Option Addr) (c : Nat) (l : List Wr) (w : World) (hR : RowW w B A c l) (hl : l.length ≤ 1000) :
    Calls Try.prog 39 #[.slice A l.length c, .func (.func 40) #[] #[]] w fun e w' => e = .returned (.bool (l.any fun x => !x.wr)) ∧ Below w.heap.size w w' := by
  have HI := Lib.hid (index_un B A c l w hR hl)
  have Hc := Lib.hid (idxF_ge (fun x => !x.wr) l)
  generalize l.length = m at *
  clear hR
  obtain ⟨r, hr⟩ : ∃ r, r = idxF (fun x => !x.wr) l := ⟨_, rfl⟩
  rw [← hr] at HI Hc
  clear hr
  go_enter Try.func39, Try.ntmps39
  go_wp2_with (refine HI.out.mono ?_; rintro e w1 ⟨rfl, hb1⟩)
  go_ret
  rw [← Hc.out]
  exact ⟨rfl, hb1⟩

/-- values laid over others, from the o-th on -/
def setV (xs : List Value) (o : Nat) : List Value → List Value
  | [] => xs
  | v :: vs => setV (xs.set o v) (o + 1) vs
theorem grown_trans {w w1 w2 : World} {g : Nat} (h : w.grownBy w1 (some g)) (k : w1.grownBy w2 (some g)) : w.grownBy w2 (some g) :=
  ⟨k.os.trans h.os, k.tape.trans h.tape, k.output.trans h.output, Nat.le_trans h.size k.size, fun z hz hz2 => (k.block z (Nat.lt_of_lt_of_le hz h.size) hz2).trans (h.block z hz hz2)⟩
theorem own_setCells {B : Nat} {e : TypeId} {size g n cap : Nat} : ∀ (vs : List Value) (o : Nat) (xs : List Value) (w : World), w.ownsRow B e size (.slice (some ⟨g, 0, none⟩) n cap) n xs →
    (w.setCells g o vs).ownsRow B e size (.slice (some ⟨g, 0, none⟩) n cap) n (setV xs o vs) ∧ w.grownBy (w.setCells g o vs) (some g)
  | [], _, _, w, h => ⟨h, World.grownBy.refl w _⟩
  | v :: vs, o, xs, w, h => by
    obtain ⟨h1, h2⟩ := h.stored o v
    obtain ⟨h3, h4⟩ := own_setCells vs (o + 1) (xs.set o v) _ h1
    exact ⟨h3, grown_trans h2 h4⟩
theorem setV_append (a b : List Value) (o : Nat) : ∀ (vs : List Value) , setV (a ++ b) (a.length + o) vs = a ++ setV b o vs := by
  intro vs
  induction vs generalizing b o with
  | nil => rfl
  | cons v vs ih =>
    unfold setV
    rw [List.set_append_right _ _ (by omega), show a.length + o - a.length = o by omega, show a.length + o + 1 = a.length + (o + 1) by omega, ih]
theorem flatW_put {l : List Wr} {k : Nat} (hk : k < l.length) (x : Wr) : setV (flatW l) (k * 6) x.cs = flatW (l.set k x) := by
  induction l generalizing k with
  | nil => simp at hk
  | cons h r ih =>
    cases k with
    | zero => simp [flatW_cons, Wr.cs, setV]
    | succ k =>
      have := setV_append h.cs (flatW r) (k * 6) x.cs
      rw [flatW_cons, show (k + 1) * 6 = h.cs.length + k * 6 by rw [length_cs]; omega, this, ih (by simpa using hk), List.set_cons_succ, flatW_cons]
theorem RowW.there {w : World} {B : Nat} {A : Option Addr} {c ab : Nat} {l : List Wr} (h : RowW w B A c l) (hA : A = some ⟨ab, 0, none⟩) {q : Nat} (hq : q < l.length) : w.there ab (q * 6) 6 := by
  obtain ⟨ab', hA', _, _, _, hcs, hfr⟩ := h.at_ hq
  rw [hA] at hA'
  cases hA'
  intro j hj
  rw [hcs j hj]
  refine ⟨?_, hfr _⟩
  have : j < (wn l q).cs.length := by rw [length_cs]; exact hj
  rw [List.getElem?_eq_getElem this]; rfl
end Go.Proofs.Ytegacggkdjgdiaa
