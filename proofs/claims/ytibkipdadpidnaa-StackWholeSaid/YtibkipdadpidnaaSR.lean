/- Roll of both; the bytes' texts. -/
import Derived.Test.YtibkipdadpidnaaSK
import Derived.Test.YtibkipdadpidnaaSE
set_option linter.unusedVariables false
set_option linter.unusedSimpArgs false
namespace Go.Proofs.Ytibkipdadpidnaa
open Go.RowKit
open Pat (Pt AllB undoP nth)
/-- the bytes with those of some alone -/
def onlyB (s : Sk) (m : List Int) : List Int := withL (fun n => decide (n ∈ m)) s.f s.l
def rollF (s : Sk) (m : List Int) : List Int := if mayE s.l m = 0 then onlyB s m else []
def GivesR (w : World) (f : List Int) (E : Int) (e : Ending) (w' : World) : Prop := ∃ A n c, e = .returned (.tuple #[.slice A n c, .int .i64 E]) ∧ n = f.length ∧ Pat.Bts w' w'.heap.size A f ∧ Below w.heap.size w w'
section
variable {B c g r : Nat} {s u : Sk} {w : World}
theorem q_roll (t : Two B w g r s u) (hO : Ok c s) (hc : c ≤ 190) (A0 : Option Addr) (c0 : Nat) (m : List Int) (hm : m.length ≤ 900) (hmw : ∀ x ∈ m, WfI x) (hI : Ints w w.heap.size A0 m) : Calls Try.prog 14 #[.pointer (some ⟨g, 0, none⟩), .slice A0 m.length c0] w (GivesR w (rollF s m) (mayE s.l m)) := by
  obtain ⟨L, h⟩ := t.p
  have h2 := hO.len
  unfold rollF
  by_cases q : mayE s.l m = 0
  · rw [if_pos q]
    exact (proll_ok B g L s w A0 c0 m h hO.r hO.rise (hO.wf (by omega)) (by omega) hm hmw hI q).mono fun e w' ⟨d, e1, e2, e3, e4⟩ => by
      have hl := withL_len (k := fun n => decide (n ∈ m)) hO.r h.len
      exact ⟨_, 32, 32, by rw [q]; exact e1, hl.symm, bts_blk e2 (withL_all h.all) hl, e4⟩
  · rw [if_neg q]
    exact (proll_no B g L s w A0 c0 m h hO.r hO.rise (hO.wf (by omega)) (by omega) hm hmw hI q).mono fun e w' ⟨e1, e2⟩ => ⟨none, 0, 0, e1, rfl, Pat.Bts.nil, e2⟩
theorem d_roll (t : Two B w g r u s) (hO : Ok c s) (hc : c ≤ 190) (hf : s.f.length = 32) (A0 : Option Addr) (c0 : Nat) (m : List Int) (hm : m.length ≤ 900) (hI : Ints w w.heap.size A0 m) : Calls Try.prog 16 #[.pointer (some ⟨r, 0, none⟩), .slice A0 m.length c0] w (GivesR w (rollF s m) (mayE s.l m)) := by
  obtain ⟨bA, bc, A, c', h⟩ := t.r
  have h2 := hO.len
  unfold rollF
  by_cases q : mayE s.l m = 0
  · rw [if_pos q]
    exact (rroll_ok B r bA A bc c' s w A0 c0 m h hO.r (by omega) (by omega) hI q).mono fun e w' ⟨d, c2, e1, e2, e3⟩ => by
      have hl := withL_len (k := fun n => decide (n ∈ m)) hO.r hf
      exact ⟨_, 32, c2, by rw [q]; exact e1, hl.symm, (own_bts e2 (withL_all h.all) hl).2.1, e3⟩
  · rw [if_neg q]
    exact (rroll_no B r bA A bc c' s w A0 c0 m h hO.r (by omega) (by omega) hI q).mono fun e w' ⟨e1, e2⟩ => ⟨none, 0, 0, e1, rfl, Pat.Bts.nil, e2⟩
end
end Go.Proofs.Ytibkipdadpidnaa
/- Settled one by one from below; rows and bytes that stay. -/
set_option linter.unusedVariables false
set_option linter.unusedSimpArgs false
namespace Go.Proofs.Ytibkipdadpidnaa
open Go.RowKit
open Pat (Pt AllB undoP nth)
/-- the lowest k settled -/
def lowS (s : Sk) (k : Nat) : Sk := ⟨withL (fun _ => true) s.f (s.l.take k), s.l.drop k, s.k⟩
theorem low_zero (s : Sk) : lowS s 0 = s := rfl
theorem low_end (s : Sk) : lowS s s.l.length = ⟨allB s, [], s.k⟩ := by
  unfold lowS allB; rw [List.take_length, List.drop_length]
theorem with_cons (k : Int → Bool) (f : List Int) (x : On) (r : List On) : withL k f (x :: r) = withL k (if k x.n = true then Pat.put f x.p else f) r := rfl
theorem drop_onn {l : List On} {k : Nat} (h : k < l.length) : l.drop k = onn l k :: l.drop (k + 1) := by
  rw [onn_lt h]; exact List.drop_eq_getElem_cons h
theorem low_above {l : List On} {k : Nat} (hk : k < l.length) (hr : RiseO l) : ∀ y ∈ l.drop (k + 1), (onn l k).n < y.n := by
  have h : RiseO (l.drop k) := List.Pairwise.sublist (List.drop_sublist k l) hr
  rw [drop_onn hk] at h
  exact (List.pairwise_cons.1 h).1
theorem low_on {l : List On} {k : Nat} (hk : k < l.length) : isOn (l.drop k) (onn l k).n = true := by
  rw [isOn_iff, drop_onn hk]; exact ⟨_, List.mem_cons_self .., rfl⟩
theorem low_needs {l : List On} {k : Nat} (hk : k < l.length) (hr : RiseO l) : needsL (l.drop k) (onn l k).n = [] := by
  unfold needsL
  rw [if_pos (low_on hk)]
  have : (l.drop k).filter (needF (onn l k).n (patP (l.drop k) (onn l k).n)) = [] := by
    rw [List.filter_eq_nil_iff]
    intro y hy
    rw [drop_onn hk] at hy
    unfold needF
    rcases List.mem_cons.1 hy with rfl | hy
    · simp
    · have := low_above hk hr y hy
      have h2 : ¬ y.n < (onn l k).n := by omega
      simp [h2]
  rw [this]; rfl
theorem low_may {l : List On} {k : Nat} (hk : k < l.length) (hr : RiseO l) : mayE (l.drop k) [(onn l k).n] = 0 := by
  unfold mayE
  have h1 : [(onn l k).n].all (isOn (l.drop k)) = true := by simp [low_on hk]
  have h2 : [(onn l k).n].all (needsIn (l.drop k) [(onn l k).n]) = true := by
    simp only [List.all_cons, List.all_nil, Bool.and_true]
    unfold needsIn; rw [low_needs hk hr]; rfl
  rw [if_pos h1, if_pos h2]
theorem low_step {s : Sk} {k : Nat} (hk : k < s.l.length) (hr : RiseO s.l) : settle0 (lowS s k) [(onn s.l k).n] = lowS s (k + 1) := by
  unfold settle0
  rw [if_pos (show mayE (lowS s k).l [(onn s.l k).n] = 0 from low_may hk hr)]
  unfold settleS lowS
  simp only
  have ha := low_above hk hr
  have hno : ∀ y ∈ s.l.drop (k + 1), decide (y.n ∈ [(onn s.l k).n]) = false := fun y hy => by
    have := ha y hy
    have h2 : y.n ≠ (onn s.l k).n := by omega
    simp [h2]
  congr 1
  · rw [drop_onn hk, take_onn hk, withL_append, with_cons, with_cons, if_pos (by simp), if_pos rfl, with_congr (k' := fun _ => false) (fun x hx => hno x hx), with_none]; rfl
  · rw [drop_onn hk, List.filter_cons_of_neg (by simp)]
    exact List.filter_eq_self.2 (fun y hy => by rw [hno y hy]; rfl)
theorem low_ok {c : Nat} {s : Sk} (h : Ok c s) (k : Nat) : Ok c (lowS s k) := h.sub (List.drop_sublist k s.l)
/-- bytes in a block of their own -/
structure BtB (w : World) (g r d : Nat) (f : List Int) : Prop where
  b : Pat.Bts w w.heap.size (some ⟨d, 0, none⟩) f
  ng : d ≠ g
  nr : d ≠ r
  lt : d < w.heap.size
theorem BtB.kg {g r d : Nat} {w w' : World} {f : List Int} (h : BtB w g r d f) (k : KG g r w w') : BtB w' g r d f :=
  ⟨⟨h.b.1, fun hn => by
    obtain ⟨b, off, e, hb, hc⟩ := h.b.2 hn
    cases e
    refine ⟨d, 0, rfl, Nat.lt_of_lt_of_le h.lt k.size, fun j hj => (k.cell h.lt ?_).trans (hc j hj)⟩
    rintro (e | e)
    · exact h.ng e
    · exact h.nr e⟩, h.ng, h.nr, Nat.lt_of_lt_of_le h.lt k.size⟩
theorem GivesB.btb {B g r d : Nat} {s u : Sk} {w w' : World} {f : List Int} (t : Two B w g r s u) (hd : w.heap.size ≤ d) (h : Pat.Bts w' w'.heap.size (some ⟨d, 0, none⟩) f) (hl : f.length = 32) : BtB w' g r d f :=
  ⟨h, fun e => by have := t.glt; omega, fun e => by have := t.rlt; omega, by
    obtain ⟨b, off, e, hb, _⟩ := h.2 (by omega)
    cases e; exact hb⟩
/-- a row of one's own stays -/
theorem kg_row {B B0 g r c : Nat} {s u : Sk} {w w' : World} {A : Option Addr} {l : List Int} (t : Two B w g r s u) (h : RowI w B0 A c l) (k : KG g r w w') : RowI w' B0 A c l :=
  h.keep k (fun b e => by
    rintro (rfl | rfl)
    · exact own_notHead h ⟨by decide, by decide⟩ b e t.gHead
    · exact own_notHead h ⟨by decide, by decide⟩ b e t.rHead)
end Go.Proofs.Ytibkipdadpidnaa
/- What Push and Pop, Roll of all and of none, Settle and Squash leave. -/
set_option linter.unusedVariables false
set_option linter.unusedSimpArgs false
namespace Go.Proofs.Ytibkipdadpidnaa
open Go.RowKit
open Pat (Pt AllB undoP nth)
theorem push_rise {c : Nat} {s : Sk} {p : Pt} (h : Ok c s) (hp : p.right = true) : RiseO (pushS s p).l := by
  have := h.push p
  unfold push0 at this
  rw [if_pos hp] at this
  exact this.rise
theorem push_mem (s : Sk) (p : Pt) : (⟨s.k, p⟩ : On) ∈ (pushS s p).l := List.mem_append_right _ (List.mem_singleton.2 rfl)
theorem push_on (s : Sk) (p : Pt) : isOn (pushS s p).l s.k = true := isOn_iff.2 ⟨_, push_mem s p, rfl⟩
theorem push_pat {c : Nat} {s : Sk} {p : Pt} (h : Ok c s) (hp : p.right = true) : patP (pushS s p).l s.k = p := patP_mem (push_rise h hp) (push_mem s p)
theorem push_all (s : Sk) (p : Pt) : allB (pushS s p) = Pat.put (allB s) p := by
  unfold allB pushS
  simp only
  rw [withL_append]; rfl
theorem push_under {c : Nat} {s : Sk} {p : Pt} (h : Ok c s) (hp : p.right = true) : undT (pushS s p) s.k = (undoP (allB s) p).s := by
  unfold undT
  rw [if_pos (push_on s p)]
  unfold underT
  rw [push_pat h hp]
  have : withL (fun m => decide (m < s.k)) (pushS s p).f (pushS s p).l = allB s := by
    unfold pushS allB
    simp only
    rw [withL_append, with_cons, if_neg (by simp), with_congr (l := s.l) (k' := fun _ => true) (fun x hx => by simp [(h.rng x hx).2])]; rfl
  rw [this]
theorem push_undE (s : Sk) (p : Pt) : undE (pushS s p) s.k = 0 := if_pos (push_on s p)
theorem pop_push (s : Sk) (p : Pt) : popS (pushS s p) = ⟨s.f, s.l, s.k + 1⟩ := by
  unfold popS pushS
  simp
theorem popP_push (s : Sk) (p : Pt) : popP (pushS s p) = p ∧ popE (pushS s p) = 0 := by
  unfold popP popE pushS
  simp
/-- what stood under a patch, put back -/
theorem put_undo {f : List Int} {p : Pt} (ha : AllB f) (hl : f.length = 32) (hp : p.right = true) : Pat.put (Pat.put f p) (undoP f p) = f := by
  have hl2 := Pat.length_put hp hl
  refine Pat.ext_nth (by rw [Pat.length_put (Pat.undo_right hl hp) hl2, hl]) (fun i _ => ?_)
  rw [wr_back (x := ⟨0, p⟩) ha hp hl hl2, wr_put (x := ⟨0, p⟩) hp hl]
  unfold Wr.back Wr.put
  split <;> rfl
theorem undo_size {f : List Int} {p : Pt} (ha : AllB f) (hl : f.length = 32) (hp : p.right = true) : (undoP f p).s.size = p.s.size := by
  have h := Pat.undo_right hl hp
  have h1 : (Pat.sb (undoP f p).s).length = (Pat.part f p.o.toNat (p.o.toNat + p.s.size)).length := by rw [Pat.undo_sb ha]
  rw [Pat.length_sb] at h1
  rw [h1]
  have hb := hp
  simp only [Pat.Pt.right, Bool.and_eq_true, decide_eq_true_eq] at hb
  rw [Pat.length_part _ _ _ (by omega)]
  omega
theorem may_nil (l : List On) : mayE l [] = 0 := rfl
theorem only_nil (s : Sk) : onlyB s [] = s.f := by
  unfold onlyB
  rw [with_congr (k' := fun _ => false) (fun x _ => by simp), with_none]
theorem num_in {l : List On} {x : On} (h : x ∈ l) : x.n ∈ nums l := List.mem_map.2 ⟨x, h, rfl⟩
theorem may_all (l : List On) : mayE l (nums l) = 0 := by
  unfold mayE
  have h1 : (nums l).all (isOn l) = true := by
    rw [List.all_eq_true]; intro n hn
    obtain ⟨x, hx, rfl⟩ := List.mem_map.1 hn
    exact isOn_iff.2 ⟨x, hx, rfl⟩
  have h2 : (nums l).all (needsIn l (nums l)) = true := by
    rw [List.all_eq_true]; intro n hn
    unfold needsIn
    rw [List.all_eq_true]; intro y hy
    unfold needsL at hy
    split at hy
    · obtain ⟨x, hx, rfl⟩ := List.mem_map.1 hy
      exact decide_eq_true (num_in (List.mem_filter.1 hx).1)
    · cases hy
  rw [if_pos h1, if_pos h2]
theorem only_all (s : Sk) : onlyB s (nums s.l) = allB s := with_congr fun x hx => decide_eq_true (num_in hx)
theorem settle_bytes {c : Nat} {s : Sk} (h : Ok c s) (hl : s.f.length = 32) (m : List Int) : allB (settle0 s m) = allB s := by
  unfold settle0
  split
  · rename_i e
    exact settle_with h.r hl (closed_of_may e h.rise)
  · rfl
/-- where Squash is right: the two, and what stands between them -/
theorem squash_form {c : Nat} {s : Sk} (h : Ok c s) {a n : Int} (e : sqE s.l a n = 0) : ∃ l1 x m y r, s.l = l1 ++ (x :: m) ++ (y :: r) ∧ x.n = a ∧ y.n = n ∧ patP s.l a = x.p ∧ patP s.l n = y.p ∧ (∀ q ∈ m, meetP y.p q.p = false) ∧ x.p.apart ⟨x.p.b, y.p.o, y.p.s⟩ = false ∧
    sqL s.l a n (Pat.joinP (patP s.l a) (sqQ s.l a n)) = l1 ++ (⟨a, Pat.joinP x.p ⟨x.p.b, y.p.o, y.p.s⟩⟩ :: m) ++ r := by
  unfold sqE at e
  split at e
  · cases e
  rename_i hon
  split at e
  · cases e
  rename_i han
  split at e
  · cases e
  rename_i hbet
  split at e
  · cases e
  rename_i hap
  have hoa : isOn s.l a = true := by cases q : isOn s.l a; exact absurd (.inl q) hon; rfl
  have hono : isOn s.l n = true := by cases q : isOn s.l n; exact absurd (.inr q) hon; rfl
  obtain ⟨x, hx, hxa⟩ := isOn_iff.1 hoa
  obtain ⟨y, hy, hyn⟩ := isOn_iff.1 hono
  have hpx : patP s.l a = x.p := by rw [← hxa]; exact patP_mem h.rise hx
  have hpy : patP s.l n = y.p := by rw [← hyn]; exact patP_mem h.rise hy
  obtain ⟨l1, t, hl⟩ := List.append_of_mem hx
  have hr := h.rise
  have hr2 := hr
  unfold RiseO at hr2
  rw [hl] at hr2
  obtain ⟨p1, p2, p3⟩ := List.pairwise_append.1 hr2
  have hyt : y ∈ t := by
    rw [hl] at hy
    rcases List.mem_append.1 hy with q | q
    · have := p3 y q x (List.mem_cons_self ..); omega
    · rcases List.mem_cons.1 q with q | q
      · rw [q] at hyn; omega
      · exact q
  obtain ⟨m, r, ht⟩ := List.append_of_mem hyt
  subst ht
  have hl' : s.l = l1 ++ (x :: m) ++ (y :: r) := by rw [hl]; simp
  obtain ⟨p4, p5⟩ := List.pairwise_cons.1 p2
  obtain ⟨p6, p7, p8⟩ := List.pairwise_append.1 p5
  obtain ⟨p9, p10⟩ := List.pairwise_cons.1 p7
  have hm : ∀ q ∈ m, a < q.n ∧ q.n < n := fun q hq => by
    have h1 := p4 q (List.mem_append_left _ hq)
    have h2 := p8 q hq y (List.mem_cons_self ..)
    omega
  have hb : ∀ q ∈ m, (meetP x.p q.p || meetP q.p y.p) = false := fun q hq => by
    cases hh : (meetP x.p q.p || meetP q.p y.p) with
    | false => rfl
    | true =>
      refine absurd ?_ hbet
      unfold bet
      rw [List.any_eq_true]
      refine ⟨q, by rw [hl']; exact List.mem_append_left _ (List.mem_append_right _ (List.mem_cons_of_mem _ hq)), ?_⟩
      have := hm q hq
      rw [hpx, hpy, hh]
      simp [this.1, this.2]
  refine ⟨l1, x, m, y, r, hl', hxa, hyn, hpx, hpy, fun q hq => ?_, ?_, ?_⟩
  · have := hb q hq
    rw [Bool.or_eq_false_iff] at this
    rw [meet_symm]; exact this.2
  · unfold sqQ at hap
    rw [hpx, hpy] at hap
    simpa using hap
  · unfold sqQ
    rw [hpx, hpy]
    generalize Pat.joinP x.p ⟨x.p.b, y.p.o, y.p.s⟩ = j
    unfold sqL
    rw [hl']
    have k1 : ∀ q ∈ l1, q.n < a := fun q hq => by have := p3 q hq x (List.mem_cons_self ..); omega
    have k3 : ∀ q ∈ r, n < q.n := fun q hq => by have := p9 q hq; omega
    have han : a < n := by omega
    have f1 : l1.filter (fun z => decide (z.n ≠ n)) = l1 := List.filter_eq_self.2 fun q hq => by have := k1 q hq; exact decide_eq_true (by omega)
    have f2 : m.filter (fun z => decide (z.n ≠ n)) = m := List.filter_eq_self.2 fun q hq => by have := hm q hq; exact decide_eq_true (by omega)
    have f3 : r.filter (fun z => decide (z.n ≠ n)) = r := List.filter_eq_self.2 fun q hq => by have := k3 q hq; exact decide_eq_true (by omega)
    have g : ∀ l : List On, (∀ q ∈ l, q.n ≠ a) → l.map (sqX a j) = l := fun l hq => by
      rw [List.map_congr_left (g := id) (fun q h => by unfold sqX; rw [if_neg (hq q h)]; rfl), List.map_id]
    rw [List.filter_append, List.filter_append, List.filter_cons_of_pos (by simp; omega), List.filter_cons_of_neg (by simp; omega), f1, f2, f3, List.map_append, List.map_append, List.map_cons, g l1 (fun q hq => by have := k1 q hq; omega), g m (fun q hq => by have := hm q hq; omega), g r (fun q hq => by have := k3 q hq; omega)]
    unfold sqX
    rw [if_pos hxa, hxa]
theorem squash_bytes {c : Nat} {s : Sk} (h : Ok c s) (hl : s.f.length = 32) (a n : Int) : allB (squash0 s a n) = allB s := by
  unfold squash0
  split
  · rename_i e
    obtain ⟨l1, x, m, y, r, h1, h2, h3, h4, h5, h6, h7, h8⟩ := squash_form h e
    have hr := h.r
    unfold allB squashS
    simp only
    rw [h8, h1]
    rw [h1] at hr
    exact squash_with (j := ⟨a, Pat.joinP x.p ⟨x.p.b, y.p.o, y.p.s⟩⟩) hr hl h6 h7 rfl
  · rfl
theorem squash_less {c : Nat} {s : Sk} (h : Ok c s) {a n : Int} (e : sqE s.l a n = 0) : (squash0 s a n).l.length + 1 = s.l.length := by
  unfold squash0
  rw [if_pos e]
  obtain ⟨l1, x, m, y, r, h1, h2, h3, h4, h5, h6, h7, h8⟩ := squash_form h e
  show (sqL s.l a n (Pat.joinP (patP s.l a) (sqQ s.l a n))).length + 1 = _
  rw [h8, h1]
  simp only [List.length_append, List.length_cons]
  omega
end Go.Proofs.Ytibkipdadpidnaa
/- A box ahead of a play; a text copied into bytes of one's own. -/
set_option linter.unusedVariables false
set_option linter.unusedSimpArgs false
namespace Go.Proofs.Ytibkipdadpidnaa
open Go.RowKit
open Pat (Pt AllB undoP nth)
theorem Dd.ok.up {w w' : World} {d : Dd} (h : d.ok w w.heap.size) (hb : Below w.heap.size w w') : d.ok w' w'.heap.size := ⟨h.p, h.c, h.m, (h.i.below hb).more hb.size, h.f⟩
theorem Deeds.up {w w' : World} {A : Option Addr} {ds : List Dd} (h : Deeds w A ds) (hb : Below w.heap.size w w') : Deeds w' A ds := fun hn => by
  obtain ⟨b, off, e, hlt, hc⟩ := h hn
  obtain ⟨b', off', e', hlt', hc'⟩ := h.next hb hn
  rw [e] at e'
  obtain ⟨rfl, rfl⟩ : b' = b ∧ off' = off := by cases e'; exact ⟨rfl, rfl⟩
  exact ⟨b', off', e, hlt', fun j hj => ⟨(hc' j hj).1, (hc j hj).2.up hb⟩⟩
theorem wpList_copy_text2 {w : World} {ops : Array Oper} {rest : List Oper} {o : Oper} {a : Act} {Q : Exit → Act → World → Prop} (hgd : o.guard = none) (d s : Operand)
    (ho : o.op = .call { callee := .builtin .copy, args := #[d, s], argTypes := #[22, 9] })
    (g off dLen dCap : Nat) (t : ByteArray) (hd : a.eval d = .slice (some ⟨g, off, none⟩) dLen dCap) (hs : a.eval s = .string t)
    (cur : List Value) (ty : TypeId) (hg : Pat.BlkIs w g ty cur) (hn : t.size ≤ dLen) (hfit : off + t.size ≤ cur.length)
    (h : wpList Try.prog ops Q rest (a.put o.dst (goInt t.size)) (w.setRow g (splice cur off (Pat.bytesV (Pat.sb t))).toArray)) : wpList Try.prog ops Q (o :: rest) a w := by
  refine wpList_plain hgd fun K hK => ?_
  have hrun := run_copy_text2 w 22 9 o.type 5 g off dLen dCap t cur ty Try.underlying22 Pat.size5 hg hn hfit
  unfold Oper.wp
  simp [execOp, ho, resolve, invoke, builtin, hd, hs, hrun, Result.andThen]
  exact hK _ _ h
/-- the bytes, in a block that is theirs alone -/
theorem q_bytes2 {B c g r : Nat} {s u : Sk} {w : World} (t : Two B w g r s u) (hO : Ok c s) (hc : c ≤ 190) : Calls Try.prog 17 #[.pointer (some ⟨g, 0, none⟩)] w fun e w' => ∃ d, e = .returned (.slice (some ⟨d, 0, none⟩) 32 32) ∧ Pat.BlkIs w' d 71 (Pat.bytesV (allB s)) ∧ w.heap.size ≤ d ∧ Below w.heap.size w w' := by
  obtain ⟨L, h⟩ := t.p
  have h2 := hO.len
  exact pbytes_any B g L s w h hO.r (by omega)
/-- what stood under is put back -/
theorem back_in {c d : Nat} {s : Sk} {p : Pt} {V w : World} (hO : Ok c s) (hl : s.f.length = 32) (ha : AllB s.f) (hp : p.right = true) (hw : Pat.BlkIs w d 71 (Pat.bytesV (allB (pushS s p)))) (hd : V.heap.size ≤ d) (hb : Below V.heap.size V w) :
    Pat.BlkIs (w.setRow d (splice (Pat.bytesV (allB (pushS s p))) p.o.toNat (Pat.bytesV (Pat.sb (undoP (allB s) p).s))).toArray) d 71 (Pat.bytesV (allB s)) ∧ Below V.heap.size V (w.setRow d (splice (Pat.bytesV (allB (pushS s p))) p.o.toNat (Pat.bytesV (Pat.sb (undoP (allB s) p).s))).toArray) := by
  have hA : AllB (allB s) := withL_all ha
  have hL : (allB s).length = 32 := withL_len hO.r hl
  constructor
  · have e : Pat.bytesV (allB s) = splice (Pat.bytesV (allB (pushS s p))) p.o.toNat (Pat.bytesV (Pat.sb (undoP (allB s) p).s)) := by
      conv => lhs; rw [← put_undo hA hL hp]
      rw [push_all]
      exact (Pat.splice_bytes _ _ _).symm
    rw [e]
    exact setRow_heap w d _ _ 71 (0, 0) hw
  · exact Kept.below (S := fun b => b = d) ((Kept.fresh (S := fun b => b = d) hb).trans (Kept.row' w d _) (fun b e => .inl e)) (fun b e => by rw [e]; exact hd) (Nat.le_refl _)
end Go.Proofs.Ytibkipdadpidnaa
