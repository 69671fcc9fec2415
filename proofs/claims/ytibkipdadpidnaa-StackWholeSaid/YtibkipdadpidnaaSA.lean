/- Both stacks side by side. -/
import Derived.Test.YtibkipdadpidnaaZC
import Derived.Test.YtibkipdadpidnaaZB
set_option linter.unusedVariables false
set_option linter.unusedSimpArgs false
namespace Go.Proofs.Ytibkipdadpidnaa
open Go.RowKit
open Pat (Pt AllB undoP nth)
/-- what holds behind c deeds -/
structure Ok (c : Nat) (s : Sk) : Prop where
  r : Rights s.l
  rise : RiseO s.l
  rng : ∀ x ∈ s.l, 0 ≤ x.n ∧ x.n < s.k
  k0 : 0 ≤ s.k
  k1 : s.k ≤ c
  len : s.l.length ≤ c
def push0 (s : Sk) (p : Pt) : Sk := if p.right = true then pushS s p else s
def pushK (s : Sk) (p : Pt) : Int := if p.right = true then s.k else 0
def pushE (p : Pt) : Int := if p.right = true then 0 else 3
def popP (s : Sk) : Pt := (s.l.getLast?.map (·.p)).getD Pat.zeroP
def popE (s : Sk) : Int := if s.l = [] then 5 else 0
def settle0 (s : Sk) (m : List Int) : Sk := if mayE s.l m = 0 then settleS s m else s
def squash0 (s : Sk) (a n : Int) : Sk := if sqE s.l a n = 0 then squashS s a n else s
namespace Ok
variable {c : Nat} {s : Sk}
theorem more {d : Nat} (h : Ok c s) (hd : c ≤ d) : Ok d s := ⟨h.r, h.rise, h.rng, h.k0, by have := h.k1; omega, by have := h.len; omega⟩
theorem wf (h : Ok c s) (hc : c ≤ 10000) : WfO s.l := fun x hx => by
  have h1 := h.rng x hx
  have h2 := h.k1
  unfold WfI; omega
theorem sub {f : List Int} {l : List On} (h : Ok c s) (hl : l.Sublist s.l) : Ok c ⟨f, l, s.k⟩ :=
  ⟨fun x hx => h.r x (hl.subset hx), List.Pairwise.sublist hl h.rise, fun x hx => h.rng x (hl.subset hx), h.k0, h.k1, Nat.le_trans hl.length_le h.len⟩
theorem pop (h : Ok c s) : Ok c (popS s) := h.sub (List.dropLast_sublist _)
theorem settle (h : Ok c s) (m : List Int) : Ok c (settle0 s m) := by
  unfold settle0; split
  · exact h.sub (List.filter_sublist ..)
  · exact h
theorem push (h : Ok c s) (p : Pt) : Ok (c + 1) (push0 s p) := by
  unfold push0; split
  · rename_i e
    have h1 := h.k1
    have h2 := h.k0
    have h3 := h.len
    refine ⟨fun x hx => ?_, List.pairwise_append.2 ⟨h.rise, List.pairwise_singleton _ _, fun x hx y hy => ?_⟩, fun x hx => ?_, ?_, ?_, ?_⟩
    · rcases List.mem_append.1 hx with h4 | h4
      · exact h.r x h4
      · rw [List.mem_singleton.1 h4]; exact e
    · rw [List.mem_singleton.1 hy]; exact (h.rng x hx).2
    · show 0 ≤ x.n ∧ x.n < s.k + 1
      rcases List.mem_append.1 hx with h4 | h4
      · have := h.rng x h4; omega
      · rw [List.mem_singleton.1 h4]; exact ⟨h2, by show s.k < s.k + 1; omega⟩
    · show 0 ≤ s.k + 1; omega
    · show s.k + 1 ≤ ((c + 1 : Nat) : Int); omega
    · show (s.l ++ _).length ≤ _; rw [List.length_append]; simp; omega
  · exact h.more (by omega)
theorem squash (h : Ok c s) (a n : Int) : Ok c (squash0 s a n) := by
  unfold squash0; split
  · rename_i e
    have hap : (patP s.l a).apart (sqQ s.l a n) = false := by
      unfold sqE at e
      split at e
      · cases e
      · split at e
        · cases e
        · split at e
          · cases e
          · split at e
            · cases e
            · rename_i h4; simpa using h4
    have key : ∀ x ∈ sqL s.l a n (Pat.joinP (patP s.l a) (sqQ s.l a n)), ∃ y ∈ s.l, y.n = x.n ∧ x.p.right = true := fun x hx => by
      obtain ⟨y, hy, rfl⟩ := List.mem_map.1 hx
      have hy := (List.mem_filter.1 hy).1
      refine ⟨y, hy, ?_⟩
      unfold sqX
      split
      · exact ⟨rfl, Pat.joinP_right hap⟩
      · exact ⟨rfl, h.r y hy⟩
    refine ⟨fun x hx => by obtain ⟨_, _, _, q⟩ := key x hx; exact q, ?_, fun x hx => by obtain ⟨y, hy, e, _⟩ := key x hx; rw [← e]; exact h.rng y hy, h.k0, h.k1, Nat.le_trans (sqL_len _ _ _ _) h.len⟩
    show (List.map _ _).Pairwise _
    rw [List.pairwise_map]
    refine List.Pairwise.imp (fun {x y} q => ?_) (List.Pairwise.sublist (List.filter_sublist ..) h.rise)
    have e1 : ∀ z : On, (sqX a (Pat.joinP (patP s.l a) (sqQ s.l a n)) z).n = z.n := fun z => by unfold sqX; split <;> rfl
    rw [e1, e1]; exact q
  · exact h
end Ok
/-- the program's and the document's, in blocks from B on -/
structure Two (B : Nat) (w : World) (g r : Nat) (s u : Sk) : Prop where
  lo : B ≤ w.heap.size
  p : ∃ L, StkAt B w g L s
  r : Rf B w r u
/-- all but both heads is as it was -/
def KG (g r : Nat) (w w' : World) : Prop := Kept w w' (fun b => b = g ∨ b = r)
theorem KG.trans {g r : Nat} {w w1 w2 : World} (h : KG g r w w1) (k : KG g r w1 w2) : KG g r w w2 := Kept.trans h k fun _ e => .inl e
theorem KG.fresh {g r : Nat} {w w1 : World} (h : Below w.heap.size w w1) : KG g r w w1 := Kept.fresh h
theorem KG.refl (g r : Nat) (w : World) : KG g r w w := Kept.refl _ _
namespace Two
variable {B g r : Nat} {w w' : World} {s s' u u' : Sk}
theorem glt (t : Two B w g r s u) : g < w.heap.size := by obtain ⟨L, h⟩ := t.p; exact h.glt
theorem rlt (t : Two B w g r s u) : r < w.heap.size := by obtain ⟨bA, bc, A, c, h⟩ := t.r; exact h.glt
theorem gB (t : Two B w g r s u) : B ≤ g := by obtain ⟨L, h⟩ := t.p; exact h.lo
theorem rB (t : Two B w g r s u) : B ≤ r := by obtain ⟨bA, bc, A, c, h⟩ := t.r; exact h.lo
theorem gHead (t : Two B w g r s u) : HeadB w g := by obtain ⟨L, h⟩ := t.p; exact h.isHead
theorem rHead (t : Two B w g r s u) : HeadB w r := by obtain ⟨bA, bc, A, c, h⟩ := t.r; exact h.isHead
theorem len (t : Two B w g r s u) : s.f.length = 32 := by obtain ⟨L, h⟩ := t.p; exact h.len
theorem all (t : Two B w g r s u) : AllB s.f := by obtain ⟨L, h⟩ := t.p; exact h.all
theorem ne (t : Two B w g r s u) : g ≠ r := fun e => by
  obtain ⟨L, h⟩ := t.p
  obtain ⟨bA, bc, A, c, h2⟩ := t.r
  have h1 := h.head
  rw [e] at h1
  have := h1.symm.trans h2.head
  simp only [Option.some.injEq, Obj.cells.injEq] at this
  exact absurd this.2.1 (by decide)
theorem fresh (t : Two B w g r s u) (hb : Below w.heap.size w w') : Two B w' g r s u := by
  obtain ⟨L, h⟩ := t.p
  obtain ⟨bA, bc, A, c, h2⟩ := t.r
  exact ⟨Nat.le_trans t.lo hb.size, ⟨L, h.fresh hb⟩, bA, bc, A, c, h2.fresh hb⟩
theorem pw (t : Two B w g r s u) (h : PW B w g s' w') : Two B w' g r s' u ∧ KG g r w w' := by
  obtain ⟨bA, bc, A, c, h2⟩ := t.r
  exact ⟨⟨Nat.le_trans t.lo h.2.size, h.1, bA, bc, A, c, h2.keep h.2 (fun e => t.ne e.symm) (fun b e => by rw [e]; exact t.gHead)⟩, h.2.more (fun b e => .inl (.inl e))⟩
theorem rw_ (t : Two B w g r s u) (h : RW B w r u' w') : Two B w' g r s u' ∧ KG g r w w' := by
  obtain ⟨L, h2⟩ := t.p
  exact ⟨⟨Nat.le_trans t.lo h.2.size, ⟨L, h2.keep h.2 (fun e => t.ne e) (fun b e => by rw [e]; exact t.rHead)⟩, h.1⟩, h.2.more (fun b e => .inl (.inr e))⟩
theorem below (t : Two B w g r s u) (h : KG g r w w') : Below B w w' := Kept.below h (fun b e => by rcases e with rfl | rfl; exact t.gB; exact t.rB) t.lo
theorem ints {A : Option Addr} {l : List Int} (t : Two B w g r s u) (hI : Ints w B A l) (h : KG g r w w') : Ints w' B A l := hI.below (t.below h)
end Two
section
variable {B c g r : Nat} {s u : Sk} {w : World}
theorem q_push (t : Two B w g r s u) (hO : Ok c s) (hc : c ≤ 190) (p : Pt) (hp : p.ok) : Calls Try.prog 18 #[.pointer (some ⟨g, 0, none⟩), p.v] w fun e w' => e = .returned (.tuple #[.int .i64 (pushK s p), .int .i64 (pushE p)]) ∧ Two B w' g r (push0 s p) u ∧ KG g r w w' := by
  obtain ⟨L, h⟩ := t.p
  unfold pushK pushE push0
  have h0 := hO.k0
  have h1 := hO.k1
  have h2 := hO.len
  cases hr : p.right with
  | true => rw [if_pos rfl, if_pos rfl, if_pos rfl]; exact (ppush_yes B g L s w p h (by omega) h0 (by omega) hr).mono fun e w' q => ⟨q.1, t.pw q.2⟩
  | false => rw [if_neg (by decide), if_neg (by decide), if_neg (by decide)]; exact (ppush_no B g L s w p h hp hr).mono fun e w' q => ⟨q.1, t.pw q.2⟩
theorem d_push (t : Two B w g r u s) (hO : Ok c s) (hc : c ≤ 190) (p : Pt) (hp : p.ok) : Calls Try.prog 59 #[.pointer (some ⟨r, 0, none⟩), p.v] w fun e w' => e = .returned (.tuple #[.int .i64 (pushK s p), .int .i64 (pushE p)]) ∧ Two B w' g r u (push0 s p) ∧ KG g r w w' := by
  obtain ⟨bA, bc, A, c', h⟩ := t.r
  unfold pushK pushE push0
  have h0 := hO.k0
  have h1 := hO.k1
  have h2 := hO.len
  cases hr : p.right with
  | true => rw [if_pos rfl, if_pos rfl, if_pos rfl]; exact (rpush_yes B r bA A bc c' s p w h (by omega) h0 (by omega) hr).mono fun e w' q => ⟨q.1, t.rw_ q.2⟩
  | false => rw [if_neg (by decide), if_neg (by decide), if_neg (by decide)]; exact (rpush_no B r bA A bc c' s p w h hp hr).mono fun e w' q => ⟨q.1, t.rw_ q.2⟩
theorem pop_last {n : Nat} (hn : s.l.length = n + 1) : popP s = (onn s.l n).p ∧ popE s = 0 := by
  refine ⟨?_, if_neg (fun e => by rw [e] at hn; cases hn)⟩
  unfold popP
  rw [List.getLast?_eq_getElem?, hn, Nat.add_sub_cancel, List.getElem?_eq_getElem (by omega), onn_lt (by omega)]; rfl
theorem pop_nil (hn : s.l = []) : popP s = Pat.zeroP ∧ popE s = 5 ∧ popS s = s := by
  obtain ⟨f, l, k⟩ := s
  subst hn
  exact ⟨rfl, if_pos rfl, rfl⟩
theorem q_pop (t : Two B w g r s u) : Calls Try.prog 20 #[.pointer (some ⟨g, 0, none⟩)] w fun e w' => e = .returned (.tuple #[(popP s).v, .int .i64 (popE s)]) ∧ Two B w' g r (popS s) u ∧ KG g r w w' := by
  obtain ⟨L, h⟩ := t.p
  cases q : s.l.length with
  | zero =>
    have q : s.l = [] := List.length_eq_zero_iff.1 q
    obtain ⟨e1, e2, e3⟩ := pop_nil q
    rw [e1, e2, e3]
    exact (ppop_none B g L s w h q).mono fun e w' q => ⟨q.1, t.pw q.2⟩
  | succ n =>
    obtain ⟨e1, e2⟩ := pop_last q
    rw [e1, e2]
    exact (ppop_yes B g L s w _ h n q rfl).mono fun e w' q => ⟨q.1, t.pw q.2⟩
theorem d_pop (t : Two B w g r u s) (hO : Ok c s) (hc : c ≤ 190) : Calls Try.prog 60 #[.pointer (some ⟨r, 0, none⟩)] w fun e w' => e = .returned (.tuple #[(popP s).v, .int .i64 (popE s)]) ∧ Two B w' g r u (popS s) ∧ KG g r w w' := by
  obtain ⟨bA, bc, A, c', h⟩ := t.r
  have h2 := hO.len
  cases q : s.l.length with
  | zero =>
    have q : s.l = [] := List.length_eq_zero_iff.1 q
    obtain ⟨e1, e2, e3⟩ := pop_nil q
    rw [e1, e2, e3]
    exact (rpop_none B r bA A bc c' s w h q).mono fun e w' q => ⟨q.1, t.rw_ q.2⟩
  | succ n =>
    obtain ⟨e1, e2⟩ := pop_last q
    rw [e1, e2]
    exact (rpop_yes B r bA A bc c' s w _ h n q rfl (by omega)).mono fun e w' q => ⟨q.1, t.rw_ q.2⟩
theorem q_settle (t : Two B w g r s u) (hO : Ok c s) (hc : c ≤ 190) (A0 : Option Addr) (c0 : Nat) (m : List Int) (hm : m.length ≤ 900) (hmw : ∀ x ∈ m, WfI x) (hI : Ints w w.heap.size A0 m) : Calls Try.prog 24 #[.pointer (some ⟨g, 0, none⟩), .slice A0 m.length c0] w fun e w' => e = .returned (.int .i64 (mayE s.l m)) ∧ Two B w' g r (settle0 s m) u ∧ KG g r w w' := by
  obtain ⟨L, h⟩ := t.p
  have h2 := hO.len
  unfold settle0
  by_cases q : mayE s.l m = 0
  · rw [if_pos q]
    exact (psettle_ok B g L s w A0 c0 m h hO.r hO.rise (hO.wf (by omega)) (by omega) hm hmw hI q).mono fun e w' q2 => ⟨by rw [q]; exact q2.1, t.pw q2.2⟩
  · rw [if_neg q]
    exact (psettle_no B g L s w A0 c0 m h hO.r hO.rise (hO.wf (by omega)) (by omega) hm hmw hI q).mono fun e w' q2 => ⟨q2.1, t.pw q2.2⟩
theorem d_settle (t : Two B w g r u s) (hO : Ok c s) (hc : c ≤ 190) (A0 : Option Addr) (c0 : Nat) (m : List Int) (hm : m.length ≤ 900) (hI : Ints w B A0 m) : Calls Try.prog 61 #[.pointer (some ⟨r, 0, none⟩), .slice A0 m.length c0] w fun e w' => e = .returned (.int .i64 (mayE s.l m)) ∧ Two B w' g r u (settle0 s m) ∧ KG g r w w' := by
  obtain ⟨bA, bc, A, c', h⟩ := t.r
  have h2 := hO.len
  unfold settle0
  exact (rsettle_any B r bA A bc c' s w A0 c0 m h hO.r (by omega) (by omega) (hI.more t.lo) (fun V hV => (hI.below (Kept.below hV (fun b e => by rw [e]; exact t.rB) t.lo)).more (Nat.le_trans t.lo hV.size))).mono fun e w' q2 => ⟨q2.1, t.rw_ q2.2⟩
theorem q_squash (t : Two B w g r s u) (hO : Ok c s) (hc : c ≤ 190) (a n : Int) : Calls Try.prog 23 #[.pointer (some ⟨g, 0, none⟩), .int .i64 a, .int .i64 n] w fun e w' => e = .returned (.int .i64 (sqE s.l a n)) ∧ Two B w' g r (squash0 s a n) u ∧ KG g r w w' := by
  obtain ⟨L, h⟩ := t.p
  have h2 := hO.len
  unfold squash0
  cases ha : isOn s.l a with
  | false => exact (psquash_off B g L s a n w h hO.r hO.rise (by omega) (.inl ha)).mono fun e w' q2 => ⟨q2.1, t.pw q2.2⟩
  | true =>
    cases hn : isOn s.l n with
    | false => exact (psquash_off B g L s a n w h hO.r hO.rise (by omega) (.inr hn)).mono fun e w' q2 => ⟨q2.1, t.pw q2.2⟩
    | true =>
      by_cases q : n ≤ a
      · exact (psquash_low B g L s a n w h hO.r hO.rise (by omega) ha hn q).mono fun e w' q2 => ⟨q2.1, t.pw q2.2⟩
      · exact (psquash_main B g L s a n w h hO.r hO.rise (by omega) ha hn (by omega)).mono fun e w' q2 => ⟨q2.1, t.pw q2.2⟩
theorem d_squash (t : Two B w g r u s) (hO : Ok c s) (hc : c ≤ 190) (a n : Int) : Calls Try.prog 62 #[.pointer (some ⟨r, 0, none⟩), .int .i64 a, .int .i64 n] w fun e w' => e = .returned (.int .i64 (sqE s.l a n)) ∧ Two B w' g r u (squash0 s a n) ∧ KG g r w w' := by
  obtain ⟨bA, bc, A, c', h⟩ := t.r
  have h2 := hO.len
  unfold squash0
  cases ha : isOn s.l a with
  | false => exact (rsquash_off B r bA A bc c' s a n w h hO.r (by omega) (.inl ha)).mono fun e w' q2 => ⟨q2.1, t.rw_ q2.2⟩
  | true =>
    cases hn : isOn s.l n with
    | false => exact (rsquash_off B r bA A bc c' s a n w h hO.r (by omega) (.inr hn)).mono fun e w' q2 => ⟨q2.1, t.rw_ q2.2⟩
    | true =>
      by_cases q : n ≤ a
      · exact (rsquash_low B r bA A bc c' s a n w h hO.r (by omega) ha hn q).mono fun e w' q2 => ⟨q2.1, t.rw_ q2.2⟩
      · exact (rsquash_main B r bA A bc c' s a n w h hO.r (by omega) ha hn (by omega)).mono fun e w' q2 => ⟨q2.1, t.rw_ q2.2⟩
end
end Go.Proofs.Ytibkipdadpidnaa
