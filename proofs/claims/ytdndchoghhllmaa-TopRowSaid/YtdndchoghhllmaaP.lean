/- The program's groups: what a call that writes leaves; Depend. -/
import Derived.Test.YtdndchoghhllmaaO
set_option linter.unusedVariables false
set_option linter.unusedSimpArgs false
namespace Go.Proofs.Ytdndchoghhllmaa
open Go.RowKit
open Go.Maps (Keyed)
def updL (L : List Pr) (n : Int) (f : Gp → Gp) : List Pr := L.map fun q => if q.g.n = n then { q with g := f q.g } else q
theorem gp_upd (L : List Pr) (n : Int) (f : Gp → Gp) : gp (updL L n f) = putN (gp L) n f := by
  unfold gp updL putN
  rw [List.map_map, List.map_map]
  congr 1
  funext q
  simp only [Function.comp]
  split <;> rfl
theorem mem_upd {L : List Pr} {n : Int} {f : Gp → Gp} {q : Pr} (h : q ∈ updL L n f) : ∃ q0 ∈ L, q = if q0.g.n = n then { q0 with g := f q0.g } else q0 := by
  obtain ⟨q0, h0, e⟩ := List.mem_map.1 h
  exact ⟨q0, h0, e.symm⟩
theorem upd_has {L : List Pr} {n : Int} {f : Gp → Gp} {b g mb : Nat} (h : OfP g mb (updL L n f) b) : OfP g mb L b := by
  rcases h with h | h | ⟨q, hq, h⟩
  · exact .inl h
  · exact .inr (.inl h)
  · obtain ⟨q0, h0, e⟩ := mem_upd hq
    refine .inr (.inr ⟨q0, h0, ?_⟩)
    rw [e] at h
    split at h <;> exact h
/-- one group is another, all others are as they were -/
theorem PrgAt.upd {B c d : Nat} {w w' : World} {g mb : Nat} {L : List Pr} {k : Int} (h : PrgAt B c w g mb L k) {f : Gp → Gp} (hf : ∀ x, (f x).n = x.n) {q0 : Pr} (hq0 : q0 ∈ L) {S : Nat → Prop} (hk : Kept w w' S) (hS : ∀ b, S b → q0.has b) (hcd : c ≤ d)
    (h1 : w'.heap[q0.b]? = some (.cells #[.int .u8 (f q0.g).s, .map (some q0.pm), .map (some q0.am)] 63 (0, 0))) (h2 : SetAt w' q0.pm d (f q0.g).p) (h3 : SetAt w' q0.am d (f q0.g).a) : PrgAt B d w' g mb (updL L q0.g.n f) k := by
  obtain ⟨D, m1, m2, m3⟩ := h.map
  obtain ⟨o1, o2, o3, o4, o5, o6, _⟩ := h.ap.one q0 hq0
  have hg : ¬ S g := fun q => by rcases hS g q with e | e | e; exact o1 e.symm; exact o3 e.symm; exact o5 e.symm
  have hm : ¬ S mb := fun q => by rcases hS mb q with e | e | e; exact o2 e.symm; exact o4 e.symm; exact o6 e.symm
  have hnos : nos (gp (updL L q0.g.n f)) = nos (gp L) := by rw [gp_upd]; exact nos_put hf
  have hoth : ∀ q ∈ L, q.g.n ≠ q0.g.n → ∀ b, q.has b → ¬ S b := fun q hq hne b hb s => h.ap.two q hq q0 hq0 hne b hb (hS b s)
  refine ⟨(hk.block g h.glt hg).trans h.head, ⟨D, (hk.map m1 hm).mono hcd, fun x => by rw [hnos]; exact m2 x, fun q hq z => ?_⟩, by rw [hnos]; exact h.nd, fun q hq => ?_, fun q hq => ?_, fun q hq => ?_, ⟨h.ap.gm, fun q hq => ?_, fun q hq q' hq' hne b hb => ?_⟩, h.lo.1, h.lo.2.1, fun q hq b hb => ?_⟩
  · obtain ⟨p, hp, rfl⟩ := mem_upd hq
    split
    · show D.atKey (.int .i64 (f p.g).n) z = _
      rw [hf]; exact m3 p hp z
    · exact m3 p hp z
  · obtain ⟨p, hp, rfl⟩ := mem_upd hq
    by_cases e : p.g.n = q0.g.n
    · rw [if_pos e, h.uniq hp hq0 e]; exact h1
    · rw [if_neg e]
      exact (hk.block p.b (h.lt _ (.inr (.inr ⟨p, hp, .inl rfl⟩))) (hoth p hp e _ (.inl rfl))).trans (h.ones p hp)
  · obtain ⟨p, hp, rfl⟩ := mem_upd hq
    by_cases e : p.g.n = q0.g.n
    · rw [if_pos e, h.uniq hp hq0 e]; exact h2
    · rw [if_neg e]
      exact ((h.pats p hp).keep hk (hoth p hp e _ (.inr (.inl rfl)))).more hcd
  · obtain ⟨p, hp, rfl⟩ := mem_upd hq
    by_cases e : p.g.n = q0.g.n
    · rw [if_pos e, h.uniq hp hq0 e]; exact h3
    · rw [if_neg e]
      exact ((h.ahs p hp).keep hk (hoth p hp e _ (.inr (.inr rfl)))).more hcd
  · obtain ⟨p, hp, rfl⟩ := mem_upd hq
    split <;> exact h.ap.one p hp
  · obtain ⟨p, hp, rfl⟩ := mem_upd hq
    obtain ⟨p', hp', rfl⟩ := mem_upd hq'
    have key : p.g.n ≠ p'.g.n := by
      intro e
      apply hne
      split <;> split <;> simp [hf, e]
    have hb' : p.has b := by split at hb <;> exact hb
    intro hc
    have hc' : p'.has b := by split at hc <;> exact hc
    exact h.ap.two p hp p' hp' key b hb' hc'
  · obtain ⟨p, hp, rfl⟩ := mem_upd hq
    exact h.lo.2.2 p hp b (by split at hb <;> exact hb)
/-- what a call that writes to the program's groups leaves -/
def PWent (B c : Nat) (w : World) (g mb : Nat) (L : List Pr) (x : Gs) (w' : World) : Prop :=
  ∃ L', PrgAt B c w' g mb L' x.k ∧ gp L' = x.l ∧ Kept w w' (OfP g mb L) ∧ ∀ b, OfP g mb L' b → OfP g mb L b ∨ w.heap.size ≤ b
theorem PWent.same {B c d : Nat} {w w' : World} {g mb : Nat} {L : List Pr} {k : Int} (h : PrgAt B c w g mb L k) (hcd : c ≤ d) (hb : Below w.heap.size w w') : PWent B d w g mb L ⟨gp L, k⟩ w' :=
  ⟨L, (h.fresh hb).more hcd, rfl, Kept.fresh hb, fun b e => .inl e⟩
theorem PWent.more {B c d : Nat} {w w' : World} {g mb : Nat} {L : List Pr} {x : Gs} (h : PWent B c w g mb L x w') (hcd : c ≤ d) : PWent B d w g mb L x w' := by
  obtain ⟨L', h1, h2, h3, h4⟩ := h; exact ⟨L', h1.more hcd, h2, h3, h4⟩
section
variable (B c g mb : Nat) (L : List Pr) (k n m : Int) (w : World)
set_option maxRecDepth 100000 in
set_option maxHeartbeats 2000000 in
theorem depend_any (h : PrgAt B c w g mb L k) (hn : WfI n) (hm : WfI m) (hc : c < 1000000) : Calls Try.prog 30 #[.pointer (some ⟨g, 0, none⟩), .int .i64 n, .int .i64 m] w fun e w' =>
    e = .returned (.int .i64 (Gs.dependE ⟨gp L, k⟩ n m)) ∧ PWent B (c + 1) w g mb L (if Gs.dependE ⟨gp L, k⟩ n m = 0 then Gs.depend ⟨gp L, k⟩ n m else ⟨gp L, k⟩) w' := by
  have HS := Lib.hid (PWent.same (d := c + 1) h (Nat.le_succ c) (Below.refl _ _))
  by_cases hin : n ∈ nos (gp L)
  · obtain ⟨q, hq, e1, e2⟩ := h.of_ hin
    have HA := ask_in B c g mb L k w h hq (by rw [e2]; exact hn)
    rw [e2] at HA
    replace HA := Lib.hid HA
    obtain ⟨d0, _, d2, _, hb⟩ := h.ocells hq
    by_cases him : m ∈ nos (gp L)
    · obtain ⟨p, hp, f1, f2⟩ := h.of_ him
      have HB := ask_in B c g mb L k w h hp (by rw [f2]; exact hm)
      rw [f2] at HB
      replace HB := Lib.hid HB
      obtain ⟨t0, _, _, _, hpb⟩ := h.ocells hp
      have hE : Gs.dependE ⟨gp L, k⟩ n m = if q.g.s ≠ 1 ∨ p.g.s ≠ 4 then 13 else 0 := by
        unfold Gs.dependE
        rw [if_neg (fun z => z ⟨hin, him⟩), ← e1, ← f1]
      have HAdd := Lib.hid (add_any q.am c m q.g.a w (h.ahs q hq) hm (by omega))
      have HP : Hid (∀ w7, (∀ a, (∀ y, y ∈ a ↔ y = m ∨ y ∈ q.g.a) → SetAt w7 q.am (c + 1) a) → w.grownBy w7 (some q.am) → PWent B (c + 1) w g mb L (Gs.depend ⟨gp L, k⟩ n m) w7) := fun w7 h7 hg7 => by
        have hk := Kept.grown (S := fun b => b = q.am) hg7 (fun b e => by cases e; exact .inl rfl)
        have ho := h.ap.one q hq
        refine ⟨updL L n fun x => { x with a := x.a ++ [m] }, ?_, gp_upd _ _ _, hk.more (fun b e => .inl (.inr (.inr ⟨q, hq, .inr (.inr e)⟩))), fun b hb => .inl (upd_has hb)⟩
        rw [← e2]
        exact h.upd (f := fun x => { x with a := x.a ++ [m] }) (fun _ => rfl) hq hk (fun b e => .inr (.inr e)) (Nat.le_succ c) ((hk.block q.b hb (fun e => ho.2.2.2.2.2.2.2.1 e)).trans (h.ones q hq)) (((h.pats q hq).keep hk (fun e => ho.2.2.2.2.2.2.2.2 e)).more (Nat.le_succ c)) (h7 (q.g.a ++ [m]) (fun y => by rw [List.mem_append, List.mem_singleton]; exact Or.comm))
      generalize q.g.s = s at *
      generalize p.g.s = t at *
      generalize q.g.a = qa at *
      generalize q.b = qb at *
      generalize q.am = qm at *
      generalize p.b = pb at *
      by_cases es : s = 1
      · have hs : ((s : Int) != 1) = false := by simp; omega
        by_cases et : t = 4
        · have ht : ((t : Int) != 4) = false := by simp; omega
          have H0 : Hid (Gs.dependE ⟨gp L, k⟩ n m = 0) := by unfold Hid; rw [hE, if_neg (by omega)]
          rw [H0.out, if_pos rfl]
          clear h hn hm hin him e1 e2 f1 f2 hE es et
          go_enter Try.func30, Try.ntmps30
          go_wp2_with (first
            | (with_reducible refine HA.out.mono ?_; rintro e w' ⟨rfl, rfl⟩)
            | (with_reducible refine HB.out.mono ?_; rintro e w' ⟨rfl, rfl⟩)
            | (go_at_call 52; refine HAdd.out.mono ?_; rintro e w7 ⟨rfl, h7, hg7⟩; have H7 := Lib.hid (HP.out w7 h7 hg7); clear h7 hg7))
          go_ret
          exact ⟨rfl, H7.out⟩
        · have ht : ((t : Int) != 4) = true := by simp; omega
          have H0 : Hid (Gs.dependE ⟨gp L, k⟩ n m = 13) := by unfold Hid; rw [hE, if_pos (by omega)]
          rw [H0.out, if_neg (by decide)]
          clear h hn hm hin him e1 e2 f1 f2 hE es et
          go_enter Try.func30, Try.ntmps30
          go_wp2_with (first
            | (with_reducible refine HA.out.mono ?_; rintro e w' ⟨rfl, rfl⟩)
            | (with_reducible refine HB.out.mono ?_; rintro e w' ⟨rfl, rfl⟩))
          go_ret
          exact ⟨rfl, HS.out⟩
      · have hs : ((s : Int) != 1) = true := by simp; omega
        have H0 : Hid (Gs.dependE ⟨gp L, k⟩ n m = 13) := by unfold Hid; rw [hE, if_pos (by omega)]
        rw [H0.out, if_neg (by decide)]
        clear h hn hm hin him e1 e2 f1 f2 hE es
        go_enter Try.func30, Try.ntmps30
        go_wp2_with (first
          | (with_reducible refine HA.out.mono ?_; rintro e w' ⟨rfl, rfl⟩)
          | (with_reducible refine HB.out.mono ?_; rintro e w' ⟨rfl, rfl⟩))
        go_ret
        exact ⟨rfl, HS.out⟩
    · have HB := Lib.hid (ask_out B c g mb L k m w h hm him)
      have H0 : Hid (Gs.dependE ⟨gp L, k⟩ n m = 5) := by unfold Hid Gs.dependE; rw [if_pos (fun z => him z.2)]
      rw [H0.out, if_neg (by decide)]
      generalize q.b = qb at *
      clear h hn hm hin him e1 e2
      go_enter Try.func30, Try.ntmps30
      go_wp2_with (first
        | (with_reducible refine HA.out.mono ?_; rintro e w' ⟨rfl, rfl⟩)
        | (with_reducible refine HB.out.mono ?_; rintro e w' ⟨rfl, rfl⟩))
      go_ret
      exact ⟨rfl, HS.out⟩
  · have HA := Lib.hid (ask_out B c g mb L k n w h hn hin)
    have H0 : Hid (Gs.dependE ⟨gp L, k⟩ n m = 5) := by unfold Hid Gs.dependE; rw [if_pos (fun z => hin z.1)]
    rw [H0.out, if_neg (by decide)]
    clear h hn hm hin
    go_enter Try.func30, Try.ntmps30
    go_wp2_with (refine HA.out.mono ?_; rintro e w' ⟨rfl, rfl⟩)
    go_ret
    exact ⟨rfl, HS.out⟩
end
end Go.Proofs.Ytdndchoghhllmaa
