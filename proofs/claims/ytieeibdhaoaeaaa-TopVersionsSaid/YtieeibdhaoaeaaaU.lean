/- Diff. -/
import Derived.Test.YtieeibdhaoaeaaaG
import Derived.Laws.AppendOwnNone
import Derived.BigRegion
namespace Go.Proofs.Ytieeibdhaoaeaaa
open Go.RowKit

theorem own_below {w w' : World} {base B : Nat} {e : TypeId} {size : Nat} {v : Value} {n : Nat} {xs : List Value} (h : w.ownsRow base e size v n xs) (hb : Below B w w') (hlt : ∀ j, v.ownBlock = some j → j < B) : w'.ownsRow base e size v n xs := by
  refine ⟨h.1, ?_⟩
  rcases h.2 with hn | ⟨g, cap, cur, rfl, h1, h2, rest⟩
  · exact .inl hn
  · refine .inr ⟨g, cap, cur, rfl, h1, ?_, rest⟩
    rw [hb.block g (hlt g rfl)]
    exact h2
theorem own_next {w w' : World} {base : Nat} {e : TypeId} {size : Nat} {v : Value} {n : Nat} {xs : List Value} (h : w.ownsRow base e size v n xs) (hb : Below w.heap.size w w') : w'.ownsRow base e size v n xs :=
  own_below h hb fun j hj => (h.lt j hj).2
theorem add_plain' (b o j : Nat) : (⟨b, o, none⟩ : Addr).add j = ⟨b, o + j, none⟩ := by unfold Addr.add; split <;> simp_all
theorem ext_nth {a b : List Int} (hl : a.length = b.length) (h : ∀ i, i < a.length → nth a i = nth b i) : a = b := by
  apply List.ext_getElem hl
  intro i h1 h2
  have := h i h1
  rwa [nth_lt h1, nth_lt h2] at this
theorem nth_set (l : List Int) (i j : Nat) (v : Int) : nth (l.set i v) j = if i = j ∧ j < l.length then v else nth l j := by
  unfold nth
  rw [List.getD_eq_getElem?_getD, List.getD_eq_getElem?_getD, List.getElem?_set]
  by_cases h : i = j
  · subst h
    by_cases hl : i < l.length
    · simp [hl]
    · rw [if_pos rfl, if_neg hl, if_neg (by simp [hl]), List.getElem?_eq_none (by omega)]
  · rw [if_neg h, if_neg (by simp [h])]
theorem nth_take (l : List Int) (k i : Nat) : nth (l.take k) i = if i < k then nth l i else 0 := by
  unfold nth
  rw [List.getD_eq_getElem?_getD, List.getD_eq_getElem?_getD, List.getElem?_take]
  split <;> simp
theorem nth_drop (l : List Int) (k i : Nat) : nth (l.drop k) i = nth l (k + i) := by
  unfold nth
  rw [List.getD_eq_getElem?_getD, List.getD_eq_getElem?_getD, List.getElem?_drop]
theorem nth_append (a b : List Int) (i : Nat) : nth (a ++ b) i = if i < a.length then nth a i else nth b (i - a.length) := by
  unfold nth
  rw [List.getD_eq_getElem?_getD, List.getD_eq_getElem?_getD, List.getD_eq_getElem?_getD, List.getElem?_append]
  split <;> rfl
theorem nth_splice (l m : List Int) (o i : Nat) (h : o + m.length ≤ l.length) : nth (splice l o m) i = if o ≤ i ∧ i < o + m.length then nth m (i - o) else nth l i := by
  unfold splice
  rw [nth_append, nth_append, nth_take, nth_drop, List.length_take]
  have e : min o l.length = o := by omega
  rw [e]
  by_cases h1 : i < o
  · rw [if_pos h1, if_pos h1, if_neg (by omega)]
  · rw [if_neg h1]
    by_cases h2 : i - o < m.length
    · rw [if_pos h2, if_pos (by omega)]
    · rw [if_neg h2, if_neg (by omega), show o + m.length + (i - o - m.length) = i by omega]

theorem nth_put {l : List Int} {p : Pt} (hp : p.right = true) (hl : l.length = 32) (i : Nat) : nth (put l p) i = if p.o.toNat ≤ i ∧ i < p.o.toNat + p.s.size then nth (sb p.s) (i - p.o.toNat) else nth l i := by
  obtain ⟨_, _, h3, h4, h5, h6⟩ := Pt.right_out hp
  unfold put
  rw [nth_splice _ _ _ _ (by rw [length_sb]; omega), length_sb]
theorem info66' : (Try.prog.info? 66).map (fun i => (i.zero, i.size, i.bytes)) = some (some (.agg #[.int .i64 0, .int .i64 0, .string ⟨#[]⟩]), 3, 32) := by kernel_rfl

/-- the rows of places below k at which d is true: from, to -/
def segs (d : Nat → Bool) : Nat → List (Nat × Nat)
  | 0 => []
  | k + 1 => if d k then (if 0 < k ∧ d (k - 1) = true then (segs d k).dropLast ++ [(((segs d k).getLast?.getD (0, 0)).1, k + 1)] else segs d k ++ [(k, k + 1)]) else segs d k
theorem segs_no {d : Nat → Bool} {k : Nat} (h : d k = false) : segs d (k + 1) = segs d k := by simp [segs, h]
theorem segs_new {d : Nat → Bool} {k : Nat} (h : d k = true) (h2 : k = 0 ∨ d (k - 1) = false) : segs d (k + 1) = segs d k ++ [(k, k + 1)] := by
  have : ¬ (0 < k ∧ d (k - 1) = true) := by
    rintro ⟨h3, h4⟩
    rcases h2 with h2 | h2
    · omega
    · rw [h2] at h4; cases h4
  simp [segs, h, this]
theorem segs_more {d : Nat → Bool} {k : Nat} (h : d k = true) (h1 : 0 < k) (h2 : d (k - 1) = true) : segs d (k + 1) = (segs d k).dropLast ++ [(((segs d k).getLast?.getD (0, 0)).1, k + 1)] := by
  simp [segs, h, h1, h2]
/-- a row that goes from f to j -/
theorem segs_run {d : Nat → Bool} {f : Nat} (h0 : f = 0 ∨ d (f - 1) = false) : ∀ n, (∀ i, f ≤ i → i < f + n → d i = true) → segs d (f + n) = segs d f ++ (if 0 < n then [(f, f + n)] else []) := by
  intro n
  induction n with
  | zero => intro _; simp
  | succ n ih =>
    intro h
    have hn := ih (fun i h1 h2 => h i h1 (by omega))
    by_cases e : n = 0
    · subst e
      rw [show f + (0 + 1) = f + 1 from rfl, segs_new (h f (by omega) (by omega)) h0]
      simp
    · rw [show f + (n + 1) = (f + n) + 1 from rfl, segs_more (h (f + n) (by omega) (by omega)) (by omega) (h (f + n - 1) (by omega) (by omega)), hn, if_pos (by omega)]
      simp
theorem length_segs (d : Nat → Bool) (k : Nat) : (segs d k).length ≤ k := by
  induction k with
  | zero => simp [segs]
  | succ k ih =>
    unfold segs
    split
    · split
      · simp
        omega
      · simp; omega
    · omega
/-- the patches of rows -/
def segP (b : Int) (c : List Int) (x : Nat × Nat) : Pt := cutP b c x.1 x.2
def diffP (b : Int) (c : List Int) (d : Nat → Bool) (k : Nat) : List Pt := (segs d k).map (segP b c)
def ptsV (l : List Pt) : List Value := l.flatMap Pt.cs
theorem length_ptsV (l : List Pt) : (ptsV l).length = l.length * 3 := by
  induction l with
  | nil => rfl
  | cons p l ih =>
    have : ptsV (p :: l) = p.cs ++ ptsV l := rfl
    rw [this, List.length_append, ih, List.length_cons]
    simp [Pt.cs]; omega
theorem ptsV_snoc (l : List Pt) (p : Pt) : ptsV (l ++ [p]) = ptsV l ++ p.cs := by simp [ptsV]
theorem ptsV_one (l : List Pt) : ∀ u ∈ ptsV l, u.oneCell' = true := by
  intro u hu
  obtain ⟨p, _, h⟩ := List.mem_flatMap.1 hu
  simp [Pt.cs] at h
  rcases h with rfl | rfl | rfl <;> rfl
theorem ptsV_at (l : List Pt) (j : Nat) (hj : j < l.length) : (ptsV l)[j * 3]? = some (.int .i64 (pn l j).b) ∧ (ptsV l)[j * 3 + 1]? = some (.int .i64 (pn l j).o) ∧ (ptsV l)[j * 3 + 2]? = some (.string (pn l j).s) := by
  induction l generalizing j with
  | nil => simp at hj
  | cons p l ih =>
    have e : ptsV (p :: l) = p.cs ++ ptsV l := rfl
    rw [e]
    cases j with
    | zero => exact ⟨rfl, rfl, rfl⟩
    | succ j =>
      have hj' : j < l.length := by simpa using hj
      have := ih j hj'
      have ep : pn (p :: l) (j + 1) = pn l j := rfl
      have hc : p.cs.length = 3 := rfl
      rw [ep]
      refine ⟨?_, ?_, ?_⟩
      · rw [List.getElem?_append_right (by rw [hc]; omega), hc, show (j + 1) * 3 - 3 = j * 3 by omega]; exact this.1
      · rw [List.getElem?_append_right (by rw [hc]; omega), hc, show (j + 1) * 3 + 1 - 3 = j * 3 + 1 by omega]; exact this.2.1
      · rw [List.getElem?_append_right (by rw [hc]; omega), hc, show (j + 1) * 3 + 2 - 3 = j * 3 + 2 by omega]; exact this.2.2
/-- a slice that owns patches -/
def OwnP (w : World) (B : Nat) (v : Value) (l : List Pt) : Prop := w.ownsRow B 66 3 v l.length (ptsV l)
theorem OwnP.form {w : World} {B : Nat} {v : Value} {l : List Pt} (h : OwnP w B v l) : ∃ A c, v = .slice A l.length c ∧ l.length ≤ c ∧ c ≤ maxLen ∧ Pats w w.heap.size A l := by
  rcases h.2 with ⟨rfl, hn⟩ | ⟨g, cap, cur, rfl, _, hg, hnc, hcm, _⟩
  · obtain rfl : l = [] := List.eq_nil_of_length_eq_zero hn
    exact ⟨none, 0, rfl, Nat.le_refl _, Nat.zero_le _, Pats.nil⟩
  · refine ⟨some ⟨g, 0, none⟩, cap, rfl, hnc, hcm, fun _ => ⟨g, 0, rfl, (h.lt g rfl).2, fun j hj => ?_⟩⟩
    obtain ⟨a0, a1, a2⟩ := ptsV_at l j hj
    rw [Nat.zero_add, h.cellAt _ (by omega), h.cellAt _ (by omega), h.cellAt _ (by omega)]
    exact ⟨a0, a1, a2⟩
/-- a world but for draws -/
def Qt (w w' : World) : Prop := ∃ n, w' = w.drewN n
theorem Qt.refl (w : World) : Qt w w := ⟨0, rfl⟩
theorem Qt.bts {w w' : World} {B : Nat} {A : Option Addr} {l : List Int} (q : Qt w w') (h : Bts w B A l) : Bts w' B A l := by obtain ⟨n, rfl⟩ := q; exact h
theorem Qt.size {w w' : World} (q : Qt w w') : w'.heap.size = w.heap.size := by obtain ⟨n, rfl⟩ := q; rfl
theorem Qt.own {w w' : World} {B : Nat} {v : Value} {l : List Pt} (q : Qt w w') (h : OwnP w B v l) : OwnP w' B v l := by obtain ⟨n, rfl⟩ := q; exact h
theorem drewN_below (B : Nat) (w : World) (n : Nat) : Below B w (w.drewN n) := ⟨rfl, rfl, rfl, Nat.le_refl _, fun _ _ => rfl⟩
theorem Qt.below {w w' : World} (q : Qt w w') (B : Nat) : Below B w w' := by obtain ⟨n, rfl⟩ := q; exact drewN_below B w n
theorem Qt.more {w w' : World} (q : Qt w w') (n : Nat) : Qt w (w'.drewN n) := by obtain ⟨m, rfl⟩ := q; exact ⟨m + n, World.drewN_drewN w m n⟩

def df (a b : List Int) (i : Nat) : Bool := nth a i != nth b i
theorem diff_bad (bl : Int) (A A2 : Option Addr) (n c m c2 : Nat) (w : World) (h : n ≠ 32 ∨ m ≠ 32 ∨ bl < 0 ∨ 96 ≤ bl) :
    Calls Try.prog 32 #[.int .i64 bl, .slice A n c, .slice A2 m c2] w fun e w' => e = .returned (.slice none 0 0) ∧ w = w' := by
  by_cases h1 : n = 32
  · by_cases h2 : m = 32
    · have hb : bl < 0 ∨ 96 ≤ bl := by omega
      subst h1 h2
      clear h
      go_enter Try.func32, Try.ntmps32
      go_wp2_with (go_at_call 49; refine (mayBe_no _ _ hb).mono ?_; rintro e w' ⟨rfl, rfl⟩)
      go_ret
      exact ⟨rfl, rfl⟩
    · have h0 : ((m : Int) == 32) = false := by rw [beq_eq_false_iff_ne]; omega
      have h3 : (m == 32) = false := by rw [beq_eq_false_iff_ne]; exact h2
      have h4 : ¬ (m : Int) = 32 := by omega
      subst h1
      clear h
      go_enter Try.func32, Try.ntmps32
      go_wp2
      go_ret
      exact ⟨rfl, rfl⟩
  · have h0 : ((n : Int) == 32) = false := by rw [beq_eq_false_iff_ne]; omega
    have h3 : (n == 32) = false := by rw [beq_eq_false_iff_ne]; exact h1
    have h4 : ¬ (n : Int) = 32 := by omega
    clear h
    go_enter Try.func32, Try.ntmps32
    go_wp2
    go_ret
    exact ⟨rfl, rfl⟩

theorem diffP_run {b : Int} {c : List Int} {d : Nat → Bool} {f j : Nat} (h0 : f = 0 ∨ d (f - 1) = false) (hfj : f ≤ j) (h : ∀ i, f ≤ i → i < j → d i = true) : diffP b c d j = diffP b c d f ++ (if f < j then [cutP b c f j] else []) := by
  have := segs_run h0 (j - f) (fun i h1 h2 => h i h1 (by omega))
  rw [show f + (j - f) = j by omega] at this
  unfold diffP
  rw [this, List.map_append]
  by_cases e : f < j
  · rw [if_pos e, if_pos (by omega)]; rfl
  · rw [if_neg e, if_neg (by omega)]; rfl
theorem diffP_no {b : Int} {c : List Int} {d : Nat → Bool} {k : Nat} (h : d k = false) : diffP b c d (k + 1) = diffP b c d k := by unfold diffP; rw [segs_no h]
theorem length_diffP (b : Int) (c : List Int) (d : Nat → Bool) (k : Nat) : (diffP b c d k).length ≤ k := by unfold diffP; rw [List.length_map]; exact length_segs d k
theorem OwnP.next {w w' : World} {B : Nat} {v : Value} {l : List Pt} (h : OwnP w B v l) (hB : Below w.heap.size w w') : OwnP w' B v l := own_next h hB

theorem cells_new (W : World) (l : List Value) (t : TypeId) : ∀ j u, l[j]? = some u → (W.alloc (.cells l.toArray t)).cell? ((⟨W.heap.size, 0, none⟩ : Addr).add j) = some u := fun j u h => by
  rw [add_plain', Nat.zero_add]
  exact (BlkIs.cell (heap_alloc_new W (.cells l.toArray t)) j).trans h

set_option maxRecDepth 100000 in
set_option maxHeartbeats 2000000 in
theorem diff_yes (bl : Int) (A A2 : Option Addr) (c c2 : Nat) (a b : List Int) (w : World) (hb0 : 0 ≤ bl) (hb1 : bl < 96) (h1 : Bts w w.heap.size A a) (h2 : Bts w w.heap.size A2 b) (ha : a.length = 32) (hb : b.length = 32) (hc2 : 32 ≤ c2) :
    Calls Try.prog 32 #[.int .i64 bl, .slice A 32 c, .slice A2 32 c2] w fun e w' => ∃ v, e = .returned v ∧ OwnP w' w.heap.size v (diffP bl b (df a b) 32) ∧ Below w.heap.size w w' := by
  obtain ⟨i0, hi, hz0, hz1, hz2⟩ := info_parts info66'
  obtain ⟨ba, oa, rfl, hba, _⟩ := h1.at_ (show 0 < a.length by omega)
  obtain ⟨bb, ob, rfl, hbb, _⟩ := h2.at_ (show 0 < b.length by omega)
  have hca : ∀ W, Below w.heap.size w W → ∀ j, j < 32 → W.cell? ⟨ba, oa + j, none⟩ = some (.int .u8 (nth a j)) := fun W hW j hj => by
    obtain ⟨b', o', e, _, hc⟩ := (h1.below hW).at_ (show j < a.length by omega)
    injection e with e; injection e with e1 e2; subst e1; subst e2
    exact hc
  have hcb : ∀ W, Below w.heap.size w W → ∀ j, j < 32 → W.cell? ⟨bb, ob + j, none⟩ = some (.int .u8 (nth b j)) := fun W hW j hj => by
    obtain ⟨b', o', e, _, hc⟩ := (h2.below hW).at_ (show j < b.length by omega)
    injection e with e; injection e with e1 e2; subst e1; subst e2
    exact hc
  have CU : Hid (∀ W, Below w.heap.size w W → ∀ f t : Nat, f < t → t ≤ 32 → Calls Try.prog 50 #[.int .i64 bl, .slice (some ⟨bb, ob, none⟩) 32 c2, .int .i64 (f : Int), .int .i64 (t : Int)] W fun e w' => e = .returned (cutP bl b f t).v ∧ Below W.heap.size W w') := fun W hW f t hf ht => by
    have := cut_any bl (some ⟨bb, ob, none⟩) c2 b f t W ((h2.below hW).more hW.size) hf (by omega) (by omega)
    rwa [hb] at this
  have HCA := Lib.hid hca
  have HCB := Lib.hid hcb
  obtain ⟨d, hd⟩ : ∃ d, d = df a b := ⟨_, rfl⟩
  have Hd : Hid (∀ i, d i = (nth a i != nth b i)) := fun i => by rw [hd]; rfl
  rw [← hd]
  obtain ⟨D, hD⟩ : ∃ D : Nat → List Pt, D = diffP bl b d := ⟨_, rfl⟩
  have D0 : Hid (D 0 = []) := by unfold Hid; rw [hD]; rfl
  have DR : Hid (∀ f j, (f = 0 ∨ d (f - 1) = false) → f ≤ j → (∀ i, f ≤ i → i < j → d i = true) → D j = D f ++ (if f < j then [cutP bl b f j] else [])) := fun f j x y z => by rw [hD]; exact diffP_run x y z
  have DN : Hid (∀ k, d k = false → D (k + 1) = D k) := fun k h => by rw [hD]; exact diffP_no h
  have DL : Hid (∀ k, (D k).length ≤ k) := fun k => by rw [hD]; exact length_diffP _ _ _ _
  have e32 : diffP bl b d 32 = D 32 := by rw [hD]
  rw [e32]
  clear hca hcb h1 h2 ha hb hd hD e32
  go_enter Try.func32, Try.ntmps32
  go_wp2_with (go_at_call 49; refine (mayBe_yes _ _ hb0 hb1).mono ?_; rintro e w' ⟨rfl, rfl⟩)
  go_loopw [7, 8, 9] (fun v i _ wr => ∃ k : Nat, k ≤ 33 ∧ i = .int .i64 k ∧ OwnP wr w.heap.size v (D (min k 32)) ∧ Below w.heap.size w wr ∧ (k = 0 ∨ d (k - 1) = false ∨ k = 33)) (fun _ i _ _ => 33 - (intOf i).toNat)
  case atStart => exact ⟨0, by omega, rfl, by rw [show min 0 32 = 0 from rfl, D0.out]; exact World.ownsRow_nil _ _ _ _, Below.refl _ _, .inl rfl⟩
  case round =>
    obtain ⟨k, hk, rfl, hown, hB, hst⟩ := hrel
    rename World => wr
    have O := Lib.hid hown
    have HB := Lib.hid hB
    clear hown hB
    by_cases hlt : k < 32
    · have hlti : (k : Int) < 32 := by omega
      have hst' : k = 0 ∨ d (k - 1) = false := by
        rcases hst with h | h | h
        · exact .inl h
        · exact .inr h
        · omega
      have HS := Lib.hid hst'
      clear hst hst'
      go_wp2
      go_loopw [8] (fun i wq => ∃ j : Nat, k ≤ j ∧ j ≤ 32 ∧ i = .int .i64 j ∧ Qt wr wq ∧ ∀ i, k ≤ i → i < j → d i = true) (fun i _ => 32 - (intOf i).toNat)
      case atStart => exact ⟨k, Nat.le_refl _, by omega, rfl, Qt.refl _, fun i h1 h2 => by omega⟩
      case round =>
        obtain ⟨j, hj0, hj, rfl, hq, hall⟩ := hrel
        rename World => wq
        have Q := Lib.hid hq
        have HAll := Lib.hid hall
        clear hq hall
        have HBq := Lib.hid (HB.out.trans ((Q.out.below wr.heap.size).mono HB.out.size))
        by_cases hjl : j < 32
        · have hjli : (j : Int) < 32 := by omega
          have hj00 : (0 : Int) ≤ (j : Int) := by omega
          have ca := HCA.out wq HBq.out j hjl
          have cb := HCB.out wq HBq.out j hjl
          have hdj := Hd.out j
          obtain ⟨x, hx⟩ : ∃ x, x = nth a j := ⟨_, rfl⟩
          obtain ⟨y, hy⟩ : ∃ y, y = nth b j := ⟨_, rfl⟩
          rw [← hx] at ca hdj
          rw [← hy] at cb hdj
          clear hx hy
          by_cases hxy : x = y
          · subst hxy
            have Hdj : Hid (d j = false) := by unfold Hid; rw [hdj]; simp
            clear hdj
            have hsub : D (min (j + 1) 32) = D k ++ (if k < j then [cutP bl b k j] else []) := by
              rw [show min (j + 1) 32 = j + 1 by omega, DN.out j Hdj.out]
              exact DR.out k j HS.out hj0 HAll.out
            have hstn : j + 1 = 0 ∨ d (j + 1 - 1) = false ∨ j + 1 = 33 := .inr (.inl Hdj.out)
            rw [show min k 32 = k by omega] at O
            have HST := Lib.hid hstn
            clear hstn
            by_cases hkj : k < j
            · rw [if_pos hkj] at hsub
              have HSub := Lib.hid hsub
              have hkji : (k : Int) < (j : Int) := by omega
              have hlk := DL.out k
              clear hsub
              go_wp2_with fail
              go_quiet (fail)
              have HBn := Lib.hid (HBq.out.trans ((drewN_below wq.heap.size wq nq).mono HBq.out.size))
              have On : OwnP (wq.drewN nq) w.heap.size u7 (D k) := (Q.out.more nq).own O.out
              have ON := Lib.hid On
              obtain ⟨wz, hwz⟩ : ∃ wz, wz = wq.drewN nq := ⟨_, rfl⟩
              rw [← hwz] at HBn ON ⊢
              clear On hwz
              go_wp2_with fail
              refine (CU.out _ HBn.out k j hkj hj).mono ?_
              rintro e w5 ⟨rfl, hB5⟩
              have O5 := Lib.hid (ON.out.next hB5)
              have HB5 := Lib.hid (HBn.out.trans (hB5.mono HBn.out.size))
              obtain ⟨r, hr⟩ : ∃ r, r = cutP bl b k j := ⟨_, rfl⟩
              rw [← hr] at HSub ⊢
              clear hB5 hr
              obtain ⟨rb, ro, rs⟩ := r
              unfold Pt.v
              go_wp2_with (at_builtin; refine wpList_append_own _ rfl _ _ 62 rfl w.heap.size 66 i0 (.agg #[.int .i64 0, .int .i64 0, .string ⟨#[]⟩]) 3 32 Try.underlying62 hi hz0 hz1 hz2 rfl (by decide) _ _ _ rfl (World.ownsRow.alloc O5.out _) ⟨w5.heap.size, 0, none⟩ 1 1 [.int .i64 rb, .int .i64 ro, .string rs] rfl rfl (cells_new w5 _ 66) (by simp [Value.oneCell']) (by unfold maxLen; omega) (by omega) (by have := HB5.out.size; simp; omega) ?_)
              intro v' w9 hown' hgrow _
              have hg9 : w5.grownBy w9 _ := (World.grownBy_alloc w5 _ _).trans hgrow
              have HB9 := Lib.hid (HB5.out.grown hg9 HB5.out.size (fun i hi => (World.ownsRow.lt O5.out i hi).1))
              have O9 : Hid (OwnP w9 w.heap.size v' (D (min (j + 1) 32))) := by
                unfold Hid OwnP
                rw [HSub.out, ptsV_snoc, List.length_append]
                exact hown'
              clear hown' hgrow hg9
              go_wp2
              go_roundw
              case rel => exact ⟨j + 1, by omega, by go_num, O9.out, HB9.out, HST.out⟩
              case measure => simp [intOf]; omega
            · rw [if_neg hkj, List.append_nil] at hsub
              have HSub := Lib.hid hsub
              have hkji : ¬ (k : Int) < (j : Int) := by omega
              clear hsub
              go_wp2_with fail
              go_quiet (fail)
              have HBn := Lib.hid (HBq.out.trans ((drewN_below wq.heap.size wq nq).mono HBq.out.size))
              have ON := Lib.hid (show OwnP (wq.drewN nq) w.heap.size u7 (D k) from (Q.out.more nq).own O.out)
              go_wp2
              go_roundw
              case rel => exact ⟨j + 1, by omega, by go_num, by rw [HSub.out]; exact ON.out, HBn.out, HST.out⟩
              case measure => simp [intOf]; omega
          · have hne : (x == y) = false := by rw [beq_eq_false_iff_ne]; exact hxy
            have hne2 : (x != y) = true := by simp [bne, hne]
            have Hdj : Hid (d j = true) := by unfold Hid; rw [hdj]; exact hne2
            clear hdj
            go_wp2_with fail
            go_quiet (fail)
            go_wp2
            go_roundw
            case rel =>
              refine ⟨j + 1, by omega, by omega, by go_num, Q.out.more _, fun i h1 h2 => ?_⟩
              by_cases e : i = j
              · subst e; exact Hdj.out
              · exact HAll.out i h1 (by omega)
            case measure => simp [intOf]; omega
        · have hjli : ¬ (j : Int) < 32 := by omega
          have hjd : decide ((j : Int) < 32) = false := by simpa using hjli
          have hsub : D (min (j + 1) 32) = D k ++ (if k < j then [cutP bl b k j] else []) := by
            rw [show min (j + 1) 32 = j by omega]
            exact DR.out k j HS.out hj0 HAll.out
          have hstn : j + 1 = 0 ∨ d (j + 1 - 1) = false ∨ j + 1 = 33 := by omega
          rw [show min k 32 = k by omega] at O
          have HST := Lib.hid hstn
          clear hstn
          by_cases hkj : k < j
          · rw [if_pos hkj] at hsub
            have HSub := Lib.hid hsub
            have hkji : (k : Int) < (j : Int) := by omega
            have hlk := DL.out k
            clear hsub
            go_wp2_with fail
            go_quiet (fail)
            have HBn := Lib.hid (HBq.out.trans ((drewN_below wq.heap.size wq nq).mono HBq.out.size))
            have On : OwnP (wq.drewN nq) w.heap.size u7 (D k) := (Q.out.more nq).own O.out
            have ON := Lib.hid On
            obtain ⟨wz, hwz⟩ : ∃ wz, wz = wq.drewN nq := ⟨_, rfl⟩
            rw [← hwz] at HBn ON ⊢
            clear On hwz
            go_wp2_with fail
            refine (CU.out _ HBn.out k j hkj hj).mono ?_
            rintro e w5 ⟨rfl, hB5⟩
            have O5 := Lib.hid (ON.out.next hB5)
            have HB5 := Lib.hid (HBn.out.trans (hB5.mono HBn.out.size))
            obtain ⟨r, hr⟩ : ∃ r, r = cutP bl b k j := ⟨_, rfl⟩
            rw [← hr] at HSub ⊢
            clear hB5 hr
            obtain ⟨rb, ro, rs⟩ := r
            unfold Pt.v
            go_wp2_with (at_builtin; refine wpList_append_own _ rfl _ _ 62 rfl w.heap.size 66 i0 (.agg #[.int .i64 0, .int .i64 0, .string ⟨#[]⟩]) 3 32 Try.underlying62 hi hz0 hz1 hz2 rfl (by decide) _ _ _ rfl (World.ownsRow.alloc O5.out _) ⟨w5.heap.size, 0, none⟩ 1 1 [.int .i64 rb, .int .i64 ro, .string rs] rfl rfl (cells_new w5 _ 66) (by simp [Value.oneCell']) (by unfold maxLen; omega) (by omega) (by have := HB5.out.size; simp; omega) ?_)
            intro v' w9 hown' hgrow _
            have hg9 : w5.grownBy w9 _ := (World.grownBy_alloc w5 _ _).trans hgrow
            have HB9 := Lib.hid (HB5.out.grown hg9 HB5.out.size (fun i hi => (World.ownsRow.lt O5.out i hi).1))
            have O9 : Hid (OwnP w9 w.heap.size v' (D (min (j + 1) 32))) := by
              unfold Hid OwnP
              rw [HSub.out, ptsV_snoc, List.length_append]
              exact hown'
            clear hown' hgrow hg9
            go_wp2
            go_roundw
            case rel => exact ⟨j + 1, by omega, by go_num, O9.out, HB9.out, HST.out⟩
            case measure => simp [intOf]; omega
          · rw [if_neg hkj, List.append_nil] at hsub
            have HSub := Lib.hid hsub
            have hkji : ¬ (k : Int) < (j : Int) := by omega
            clear hsub
            go_wp2_with fail
            go_quiet (fail)
            have HBn := Lib.hid (HBq.out.trans ((drewN_below wq.heap.size wq nq).mono HBq.out.size))
            have ON := Lib.hid (show OwnP (wq.drewN nq) w.heap.size u7 (D k) from (Q.out.more nq).own O.out)
            go_wp2
            go_roundw
            case rel => exact ⟨j + 1, by omega, by go_num, by rw [HSub.out]; exact ON.out, HBn.out, HST.out⟩
            case measure => simp [intOf]; omega
    · have hlti : ¬ (k : Int) < 32 := by omega
      have e : min k 32 = 32 := by omega
      rw [e] at O
      go_wp2
      go_ret
      exact ⟨_, rfl, O.out, HB.out⟩
end Go.Proofs.Ytieeibdhaoaeaaa
