/- Has, Pins, Dirty, Pin, Drop, New of a cache. -/
import Derived.Test.YthibnnllecdpaaaE
namespace Go.Proofs.Ythibnnllecdpaaa
open Go.RowKit

theorem head_apart {T E : TypeId} {B : Nat} {w : World} {g n : Nat} {v : Value} {cs : Array Value} {xs : List Value} (hne : T ≠ E) (hh : w.heap[g]? = some (.cells cs T (0, 0))) (hr : w.ownsRow B E 4 v n xs) : v.ownBlock ≠ some g := by
  intro q
  rcases hr.2 with ⟨rfl, _⟩ | ⟨k, cap, cur, rfl, _, hk, _⟩
  · simp [Value.ownBlock] at q
  · have : k = g := by simpa [Value.ownBlock] using q
    subst this
    have := hh.symm.trans hk
    simp at this
    exact hne this.2
namespace CacheAt
variable {T E : TypeId} {B : Nat} {w w2 : World} {g : Nat} {v : Value} {m : Int} {l : List H}
/-- an element's field stored over -/
theorem stored {b n cap : Nat} (h : CacheAt T E B w g (.slice (some ⟨b, 0, none⟩) n cap) m l) (hn : n = l.length) {k : Nat} (hk : k < n) (f : H → H) (j : Nat) (u : Value) (hf : ∀ h : H, (f h).cs = h.cs.set j u) (hj : j < 4) :
    CacheAt T E B (w.setCell ⟨b, k * 4 + j, none⟩ u) g (.slice (some ⟨b, 0, none⟩) n cap) m (modH l k f) ∧ Kept w (w.setCell ⟨b, k * 4 + j, none⟩ u) (At g (.slice (some ⟨b, 0, none⟩) n cap)) := by
  subst hn
  obtain ⟨r, gr⟩ := own_stored h.row hk f j u hf hj
  have hgb : g ≠ b := fun e => h.apart (by rw [e]; rfl)
  refine ⟨⟨?_, by rw [length_modH]; exact r, h.ne, h.lo⟩, Kept.grown gr fun k e => .inl (.inr (by simpa [Value.ownBlock] using e))⟩
  rw [gr.block g h.glt (by simpa using hgb)]
  exact h.head
/-- another row laid into the cache -/
theorem laid {v' : Value} {l' : List H} (hh : w2.heap[g]? = some (.cells #[.int .i64 m, v] T (0, 0))) (hr : w2.ownsRow B E 4 v' l'.length (flat l')) (hne : T ≠ E) (hlo : B ≤ g) :
    CacheAt T E B (w2.setCell ⟨g, 1, none⟩ v') g v' m l' ∧ Kept w2 (w2.setCell ⟨g, 1, none⟩ v') (fun k => k = g) := by
  have ha := head_apart hne hh hr
  have hk : Kept w2 (w2.setCell ⟨g, 1, none⟩ v') (fun k => k = g) := ⟨rfl, rfl, rfl, by simp, fun k _ hn => heap_setCell_other w2 ⟨g, 1, none⟩ k v' hn⟩
  refine ⟨⟨?_, hk.row hr (fun k e q => ha (by rw [e, q])), hne, hlo⟩, hk⟩
  have := heap_setCell_same w2 g 1 _ T v' hh
  simpa using this
end CacheAt
theorem Went.same {T E : TypeId} {B : Nat} {w w' : World} {g : Nat} {v : Value} {m : Int} {l : List H} (h : CacheAt T E B w' g v m l) (hk : Kept w w' (At g v)) : Went T E B w g v m l w' := ⟨v, h, hk, fun _ e => .inl e⟩
theorem Went.fresh {T E : TypeId} {B : Nat} {w w' : World} {g : Nat} {v : Value} {m : Int} {l : List H} (h : CacheAt T E B w g v m l) (hb : Below w.heap.size w w') : Went T E B w g v m l w' := .same (h.fresh hb) (Kept.fresh hb)
section
variable (B g : Nat) (v : Value) (m : Int) (l : List H) (x : Int) (w : World)

theorem has_any (hC : CacheAt 69 66 B w g v m l) (hl : l.length ≤ 1000) :
    Calls Try.prog 15 #[.pointer (some ⟨g, 0, none⟩), .int .i64 x] w fun e w' => e = .returned (.bool (has l x)) ∧ Below w.heap.size w w' := by
  have HF := Lib.hid (ask_any B g v m l x w hC hl)
  clear hC
  generalize idx l x = n at HF
  cases hx : has l x with
  | true =>
    simp only [hx, if_true] at HF
    clear hx
    go_enter Try.func15, Try.ntmps15
    go_wp2_with (refine HF.out.mono ?_; rintro e w1 ⟨rfl, hb1⟩)
    go_ret
    exact ⟨rfl, hb1⟩
  | false =>
    simp only [hx, Bool.false_eq_true, if_false] at HF
    clear hx
    go_enter Try.func15, Try.ntmps15
    go_wp2_with (refine HF.out.mono ?_; rintro e w1 ⟨rfl, hb1⟩)
    go_ret
    exact ⟨rfl, hb1⟩
theorem pins_any (hC : CacheAt 69 66 B w g v m l) (hl : l.length ≤ 1000) :
    Calls Try.prog 22 #[.pointer (some ⟨g, 0, none⟩), .int .i64 x] w fun e w' => e = .returned (.int .i64 (pinsN l x)) ∧ Below w.heap.size w w' := by
  have HF := Lib.hid (ask_any B g v m l x w hC hl)
  unfold pinsN
  cases hx : has l x with
  | true =>
    simp only [hx, if_true] at HF
    have hs := hC.slot
    have hg := hC.glt
    have hk := has_lt hx
    obtain ⟨b, cap, rfl, h1, h2, hb, hBb, c0, c1, c2, c3, cf⟩ := row_at hC.row hk
    clear hC hx
    simp only [if_true]
    generalize idx l x = k at *
    have hk0 : (0 : Int) ≤ (k : Int) := by omega
    have hki : (k : Int) < (l.length : Int) := by omega
    go_enter Try.func22, Try.ntmps22
    go_wp2_with (refine HF.out.mono ?_; rintro e w1 ⟨rfl, hb1⟩; obtain ⟨hcl, hfr⟩ := bcell hb1; have HB1 := Lib.hid hb1; clear hb1)
    go_ret
    exact ⟨rfl, HB1.out⟩
  | false =>
    simp only [hx, Bool.false_eq_true, if_false] at HF
    clear hx hC
    simp only [Bool.false_eq_true, if_false]
    go_enter Try.func22, Try.ntmps22
    go_wp2_with (refine HF.out.mono ?_; rintro e w1 ⟨rfl, hb1⟩)
    go_ret
    exact ⟨rfl, hb1⟩
theorem dirty_any (on : Bool) (hC : CacheAt 69 66 B w g v m l) (hl : l.length ≤ 1000) :
    Calls Try.prog 17 #[.pointer (some ⟨g, 0, none⟩), .int .i64 x, .bool on] w fun e w' => e = .returned (.int .i64 (dirtyE l x)) ∧ Went 69 66 B w g v m (dirtyL l x on) w' := by
  have HF := Lib.hid (ask_any B g v m l x w hC hl)
  unfold dirtyE dirtyL
  have HC := Lib.hid hC
  cases hx : has l x with
  | true =>
    simp only [hx, if_true] at HF
    have hs := hC.slot
    have hg := hC.glt
    have hk := has_lt hx
    obtain ⟨b, cap, rfl, h1, h2, hb, hBb, c0, c1, c2, c3, cf⟩ := row_at hC.row hk
    clear hC hx
    simp only [if_true]
    generalize idx l x = k at *
    have hk0 : (0 : Int) ≤ (k : Int) := by omega
    have hki : (k : Int) < (l.length : Int) := by omega
    have Hfin : Hid (∀ w1, Below w.heap.size w w1 → Went 69 66 B w g (.slice (some ⟨b, 0, none⟩) l.length cap) m (modH l k (H.dirt · on)) (w1.setCell ⟨b, k * 4 + 2, none⟩ (.bool on))) := fun w1 hb1 => by
      obtain ⟨r, kp⟩ := (HC.out.fresh hb1).stored rfl hk (H.dirt · on) 2 (.bool on) (fun _ => rfl) (by omega)
      exact .same r ((Kept.fresh hb1).trans kp (fun _ q => .inl q))
    go_enter Try.func17, Try.ntmps17
    go_wp2_with (refine HF.out.mono ?_; rintro e w1 ⟨rfl, hb1⟩; obtain ⟨hcl, hfr⟩ := bcell hb1; have HB1 := Lib.hid hb1; clear hb1)
    go_ret
    exact ⟨rfl, Hfin.out _ HB1.out⟩
  | false =>
    simp only [hx, Bool.false_eq_true, if_false] at HF
    clear hx hC
    simp only [Bool.false_eq_true, if_false]
    go_enter Try.func17, Try.ntmps17
    go_wp2_with (refine HF.out.mono ?_; rintro e w1 ⟨rfl, hb1⟩; have HB1 := Lib.hid hb1; clear hb1)
    go_ret
    exact ⟨rfl, Went.fresh HC.out HB1.out⟩
theorem pin_any (on : Bool) (hC : CacheAt 69 66 B w g v m l) (hl : l.length ≤ 1000) (hp : Few 1000000 l) :
    Calls Try.prog 16 #[.pointer (some ⟨g, 0, none⟩), .int .i64 x, .bool on] w fun e w' => e = .returned (.int .i64 (pinE l x on)) ∧ Went 69 66 B w g v m (pinL l x on) w' := by
  have HF := Lib.hid (ask_any B g v m l x w hC hl)
  unfold pinE pinL
  have HC := Lib.hid hC
  cases hx : has l x with
  | true =>
    simp only [hx, if_true] at HF
    have hs := hC.slot
    have hg := hC.glt
    have hk := has_lt hx
    have hpk := hp.nth (by omega) (idx l x)
    obtain ⟨b, cap, rfl, h1, h2, hb, hBb, c0, c1, c2, c3, cf⟩ := row_at hC.row hk
    clear hC hx hp
    simp only [if_true]
    generalize idx l x = k at *
    have hk0 : (0 : Int) ≤ (k : Int) := by omega
    have hki : (k : Int) < (l.length : Int) := by omega
    have Hfin : Hid (∀ w1 d p, p = (nthH l k).p + d → Below w.heap.size w w1 → Went 69 66 B w g (.slice (some ⟨b, 0, none⟩) l.length cap) m (modH l k (H.pin · d)) (w1.setCell ⟨b, k * 4 + 1, none⟩ (.int .i64 p))) := fun w1 d p hd hb1 => by
      obtain ⟨r, kp⟩ := (HC.out.fresh hb1).stored rfl hk (fun h => ⟨h.b, p, h.d, h.t⟩) 1 (.int .i64 p) (fun _ => rfl) (by omega)
      have e : modH l k (fun h => ⟨h.b, p, h.d, h.t⟩) = modH l k (H.pin · d) := by unfold modH; rw [hd]; rfl
      rw [e] at r
      exact .same r ((Kept.fresh hb1).trans kp (fun _ q => .inl q))
    obtain ⟨h0, h6⟩ := hpk
    generalize (nthH l k).p = p at *
    cases on with
    | true =>
      simp only [Bool.not_true, Bool.false_and, Bool.false_eq_true, if_false, if_true]
      go_enter Try.func16, Try.ntmps16
      go_wp2_with (refine HF.out.mono ?_; rintro e w1 ⟨rfl, hb1⟩; obtain ⟨hcl, hfr⟩ := bcell hb1; have HB1 := Lib.hid hb1; clear hb1)
      go_ret
      exact ⟨rfl, Hfin.out _ 1 _ rfl HB1.out⟩
    | false =>
      by_cases hp0 : p = 0
      · subst hp0
        simp only [Bool.not_false, Bool.true_and, BEq.rfl, if_true]
        go_enter Try.func16, Try.ntmps16
        go_wp2_with (refine HF.out.mono ?_; rintro e w1 ⟨rfl, hb1⟩; obtain ⟨hcl, hfr⟩ := bcell hb1; have HB1 := Lib.hid hb1; clear hb1)
        go_ret
        exact ⟨rfl, Went.fresh HC.out HB1.out⟩
      · have hpf : (p == 0) = false := by simpa using hp0
        simp only [Bool.not_false, Bool.true_and, hpf, Bool.false_eq_true, if_false]
        go_enter Try.func16, Try.ntmps16
        go_wp2_with (refine HF.out.mono ?_; rintro e w1 ⟨rfl, hb1⟩; obtain ⟨hcl, hfr⟩ := bcell hb1; have HB1 := Lib.hid hb1; clear hb1)
        go_ret
        exact ⟨rfl, Hfin.out _ (-1) _ (by omega) HB1.out⟩
  | false =>
    simp only [hx, Bool.false_eq_true, if_false] at HF
    clear hx hC
    simp only [Bool.false_eq_true, if_false]
    go_enter Try.func16, Try.ntmps16
    go_wp2_with (refine HF.out.mono ?_; rintro e w1 ⟨rfl, hb1⟩; have HB1 := Lib.hid hb1; clear hb1)
    go_ret
    exact ⟨rfl, Went.fresh HC.out HB1.out⟩
set_option maxHeartbeats 1000000 in
set_option maxRecDepth 100000 in
theorem drop_any (hC : CacheAt 69 66 B w g v m l) (hl : l.length ≤ 1000) :
    Calls Try.prog 18 #[.pointer (some ⟨g, 0, none⟩), .int .i64 x] w fun e w' => e = .returned (.int .i64 (dropE l x)) ∧ Went 69 66 B w g v m (dropL l x) w' := by
  have HF := Lib.hid (ask_any B g v m l x w hC hl)
  unfold dropE dropL
  have HC := Lib.hid hC
  cases hx : has l x with
  | true =>
    simp only [hx, if_true] at HF
    have hs := hC.slot
    have hg := hC.glt
    have hk := has_lt hx
    obtain ⟨b, cap, rfl, h1, h2, hb, hBb, c0, c1, c2, c3, cf⟩ := row_at hC.row hk
    have hgb : g ≠ b := fun e => hC.apart (by rw [e]; rfl)
    clear hC hx
    simp only [if_true]
    generalize idx l x = k at *
    have hk0 : (0 : Int) ≤ (k : Int) := by omega
    have hki : (k : Int) < (l.length : Int) := by omega
    have HE := Lib.hid (fun w => can_any (nthH l k) w)
    cases hcan : (nthH l k).can with
    | false =>
      rw [hcan] at HE
      clear hcan
      simp only [Bool.false_eq_true, if_false]
      generalize nthH l k = h at c0 c1 c2 c3 HE
      obtain ⟨hb', hp', hd', ht'⟩ := h
      unfold H.v at HE
      go_enter Try.func18, Try.ntmps18
      go_wp2_with (first
        | (go_at_call 42; refine HF.out.mono ?_; rintro e w1 ⟨rfl, hb1⟩; obtain ⟨hcl, hfr⟩ := bcell hb1; have HB1 := Lib.hid hb1; clear hb1)
        | (go_at_call 38; refine (HE.out _).mono ?_; rintro e w2 ⟨rfl, hb2⟩; have HB2 := Lib.hid hb2; clear hb2))
      go_ret
      exact ⟨rfl, Went.fresh HC.out (HB1.out.trans (HB2.out.mono HB1.out.size))⟩
    | true =>
      rw [hcan] at HE
      clear hcan
      simp only [if_true]
      generalize nthH l k = h at c0 c1 c2 c3 HE
      obtain ⟨hb', hp', hd', ht'⟩ := h
      unfold H.v at HE
      obtain ⟨q, hq⟩ : ∃ q, l.length = q + 1 := ⟨l.length - 1, by omega⟩
      have HD : Hid (∀ W, Below w.heap.size w W → Calls Try.prog 41 #[.slice (some ⟨b, 0, none⟩) l.length cap, .int .i64 (k : Int), .int .i64 ((k : Int) + 1)] W fun e w' => e = .returned (.slice (some ⟨b, 0, none⟩) q cap) ∧
          w'.ownsRow B 66 4 (.slice (some ⟨b, 0, none⟩) q cap) q (flat (l.eraseIdx k)) ∧ W.grownBy w' (some b)) := fun W hW =>
        delete_any B b cap l.length k (k + 1) q (k : Int) ((k : Int) + 1) l W (HC.out.fresh hW).row rfl hk hl rfl hq rfl (by omega)
      have Hfin : Hid (∀ w2 w3, Below w.heap.size w w2 → w3.ownsRow B 66 4 (.slice (some ⟨b, 0, none⟩) q cap) q (flat (l.eraseIdx k)) → w2.grownBy w3 (some b) →
          Went 69 66 B w g (.slice (some ⟨b, 0, none⟩) l.length cap) m (l.eraseIdx k) (w3.setCell ⟨g, 1, none⟩ (.slice (some ⟨b, 0, none⟩) q cap))) := fun w2 w3 hb2 hr hgr => by
        have hC2 := HC.out.fresh hb2
        have hh : w3.heap[g]? = some (.cells #[.int .i64 m, .slice (some ⟨b, 0, none⟩) l.length cap] 69 (0, 0)) := by rw [hgr.block g hC2.glt (by simpa using hgb)]; exact hC2.head
        have hql : (l.eraseIdx k).length = q := by rw [List.length_eraseIdx, if_pos hk]; omega
        obtain ⟨r, kp⟩ := CacheAt.laid (E := 66) (B := B) (v' := .slice (some ⟨b, 0, none⟩) q cap) (l' := l.eraseIdx k) hh (by rw [hql]; exact hr) (by decide) HC.out.lo
        refine ⟨_, r, ?_, fun k e => .inl e⟩
        refine (Kept.fresh hb2).trans (S' := At g (.slice (some ⟨b, 0, none⟩) l.length cap)) ?_ (fun _ q => .inl q)
        refine (Kept.grown hgr (S := At g (.slice (some ⟨b, 0, none⟩) l.length cap)) (fun k e => .inl (.inr e))).trans kp (fun k e => .inl (.inl e))
      clear hq
      go_enter Try.func18, Try.ntmps18
      go_wp2_with (first
        | (go_at_call 42; refine HF.out.mono ?_; rintro e w1 ⟨rfl, hb1⟩; obtain ⟨hcl, hfr⟩ := bcell hb1; have hz1 := hb1.size; have HB1 := Lib.hid hb1; clear hb1)
        | (go_at_call 38; refine (HE.out _).mono ?_; rintro e w2 ⟨rfl, hb2⟩; obtain ⟨hcl2, hfr2⟩ := bcell hb2; have hz2 := hb2.size; have hg2 : g < w1.heap.size := (by omega); have HB2 := Lib.hid hb2; have HB12 := Lib.hid (HB1.out.trans (hb2.mono HB1.out.size)); clear hb2)
        | (go_at_call 41; with_reducible refine (HD.out _ HB12.out).mono ?_; rintro e w3 ⟨rfl, hr3, hgr3⟩;
           have hh3 : w3.heap[g]? = some (.cells #[.int .i64 m, .slice (some ⟨b, 0, none⟩) l.length cap] 69 (0, 0)) := by rw [hgr3.block g (by omega) (by simpa using hgb)]; exact (HC.out.fresh HB12.out).head
           have hs3 := cell_of_row w3 g 1 _ 69 (0, 0) hh3
           have hf3 := frozen_of_row w3 g 1 _ 69 hh3
           have HR3 := Lib.hid hr3
           have HG3 := Lib.hid hgr3
           clear hr3 hgr3 hh3))
      go_ret
      exact ⟨rfl, Hfin.out _ _ HB12.out HR3.out HG3.out⟩
  | false =>
    simp only [hx, Bool.false_eq_true, if_false] at HF
    clear hx hC
    simp only [Bool.false_eq_true, if_false]
    go_enter Try.func18, Try.ntmps18
    go_wp2_with (refine HF.out.mono ?_; rintro e w1 ⟨rfl, hb1⟩; have HB1 := Lib.hid hb1; clear hb1)
    go_ret
    exact ⟨rfl, Went.fresh HC.out HB1.out⟩
end
end Go.Proofs.Ythibnnllecdpaaa
