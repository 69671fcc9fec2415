/- The program's groups: Abandon. -/
import Derived.Test.YtdndchoghhllmaaU
set_option linter.unusedVariables false
set_option linter.unusedSimpArgs false
namespace Go.Proofs.Ytdndchoghhllmaa
open Go.RowKit Go.Maps Go.Sort Go.Shelf
def delL (L : List Pr) (n : Int) : List Pr := L.filter fun q => !(isN n q.g)
theorem gp_del (L : List Pr) (n : Int) : gp (delL L n) = (gp L).filter fun g => !(isN n g) := by
  unfold gp delL
  rw [List.filter_map]
  rfl
theorem mem_del {L : List Pr} {n : Int} {q : Pr} : q ∈ delL L n ↔ q ∈ L ∧ q.g.n ≠ n := by
  unfold delL
  rw [List.mem_filter]
  constructor
  · rintro ⟨h1, h2⟩
    exact ⟨h1, fun e => by rw [isN_iff.2 e] at h2; cases h2⟩
  · rintro ⟨h1, h2⟩
    refine ⟨h1, ?_⟩
    cases q : isN n _ with
    | false => rfl
    | true => exact absurd (isN_iff.1 q) h2
theorem PrgAt.del {B c : Nat} {w w' : World} {g mb : Nat} {L : List Pr} {k : Int} (h : PrgAt B c w g mb L k) (n : Int) (hk : Kept w w' (fun b => b = mb)) {D : DataW Value} (m2 : ∀ x, Maps.has D (.int .i64 x) = true ↔ x ∈ nos (gp L)) (m3 : ∀ q ∈ L, ∀ z, D.atKey (.int .i64 q.g.n) z = .held (.pointer (some ⟨q.b, 0, none⟩)))
    (hm : w'.ownsMap Try.prog 3 RV mb c (D.del (.int .i64 n))) : PrgAt B c w' g mb (delL L n) k := by
  have hin : ∀ q ∈ delL L n, q ∈ L := fun q hq => (mem_del.1 hq).1
  have hne : ∀ q ∈ delL L n, ∀ b, q.has b → ¬ b = mb := fun q hq b hb e => by
    obtain ⟨o1, o2, o3, o4, o5, o6, _⟩ := h.ap.one q (hin q hq)
    subst e
    rcases hb with e | e | e
    · exact o2 e.symm
    · exact o4 e.symm
    · exact o6 e.symm
  refine ⟨(hk.block g h.glt h.ap.gm).trans h.head, ⟨_, hm, fun x => ?_, fun q hq z => ?_⟩, ?_, fun q hq => ?_, fun q hq => (h.pats q (hin q hq)).keep hk (hne q hq _ (.inr (.inl rfl))), fun q hq => (h.ahs q (hin q hq)).keep hk (hne q hq _ (.inr (.inr rfl))), ⟨h.ap.gm, fun q hq => h.ap.one q (hin q hq), fun q hq q' hq' => h.ap.two q (hin q hq) q' (hin q' hq')⟩, h.lo.1, h.lo.2.1, fun q hq => h.lo.2.2 q (hin q hq)⟩
  · by_cases e : x = n
    · rw [e, Maps.has_del_same]
      constructor
      · intro z; cases z
      · intro z
        obtain ⟨y, hy, ey⟩ := List.mem_map.1 z
        obtain ⟨q, hq, rfl⟩ := List.mem_map.1 hy
        exact absurd ey (mem_del.1 hq).2
    · rw [Maps.has_del_other (ne_key e), m2]
      constructor
      · intro z
        obtain ⟨y, hy, ey⟩ := List.mem_map.1 z
        obtain ⟨q, hq, rfl⟩ := List.mem_map.1 hy
        rw [← ey]
        exact in_nos (List.mem_map.2 ⟨q, mem_del.2 ⟨hq, by rw [ey]; exact e⟩, rfl⟩)
      · intro z
        obtain ⟨y, hy, ey⟩ := List.mem_map.1 z
        obtain ⟨q, hq, rfl⟩ := List.mem_map.1 hy
        rw [← ey]
        exact in_nos (List.mem_map.2 ⟨q, hin q hq, rfl⟩)
  · rw [Maps.atKey_del_other (ne_key (mem_del.1 hq).2)]
    exact m3 q (hin q hq) z
  · rw [gp_del]
    exact h.nd.sublist ((List.filter_sublist).map _)
  · exact (hk.block q.b (h.lt _ (.inr (.inr ⟨q, hin q hq, .inl rfl⟩))) (hne q hq _ (.inl rfl))).trans (h.ones q (hin q hq))
/-- Abandon under way: of those that came none comes behind n -/
def AbS (w wr : World) (mb r c : Nat) (D : DataW Value) (L : List Pr) (n : Int) (left : Lit → Bool) (cnt : Nat) : Prop :=
  wr.ranges Try.prog 3 RV mb r c D left cnt ∧ (∀ x : Int, left (.int .i64 x) = true → ∃ q ∈ L, q.g.n = x) ∧ Below w.heap.size w wr ∧ ∀ q ∈ L, left (.int .i64 q.g.n) = false → n ∉ q.g.a
section
variable (B c g mb : Nat) (L : List Pr) (k n : Int) (w : World)
set_option maxRecDepth 100000 in
set_option maxHeartbeats 2000000 in
theorem abandon_any (h : PrgAt B c w g mb L k) (hn : WfI n) : Calls Try.prog 28 #[.pointer (some ⟨g, 0, none⟩), .int .i64 n] w fun e w' =>
    e = .returned (.int .i64 (Gs.abandonE ⟨gp L, k⟩ n)) ∧ PWent B c w g mb L (if Gs.abandonE ⟨gp L, k⟩ n = 0 then Gs.abandon ⟨gp L, k⟩ n else ⟨gp L, k⟩) w' := by
  have HS : Hid (∀ w', Below w.heap.size w w' → PWent B c w g mb L ⟨gp L, k⟩ w') := fun w' hb => PWent.same h (Nat.le_refl c) hb
  by_cases hin : n ∈ nos (gp L)
  · obtain ⟨q, hq, e1, e2⟩ := h.of_ hin
    have HA := ask_in B c g mb L k w h hq (by rw [e2]; exact hn)
    rw [e2] at HA
    replace HA := Lib.hid HA
    obtain ⟨d0, _, _, _, hb⟩ := h.ocells hq
    obtain ⟨_, c1⟩ := h.hcells
    have hg := h.glt
    by_cases hs : q.g.s = 2
    · have H0 : Hid (Gs.abandonE ⟨gp L, k⟩ n = 13) := by unfold Hid Gs.abandonE; rw [if_neg (fun z => z hin), if_pos (by rw [← e1]; exact hs)]
      have HS0 := Lib.hid (HS.out w (Below.refl _ _))
      rw [H0.out, if_neg (by decide)]
      rw [hs] at d0
      generalize q.b = qb at *
      clear h hn hin e1 e2 HS hs
      go_enter Try.func28, Try.ntmps28
      go_wp2_with (go_at_call 39; refine HA.out.mono ?_; rintro e w' ⟨rfl, rfl⟩)
      go_ret
      exact ⟨rfl, HS0.out⟩
    · have hsx : ((q.g.s : Int) == 2) = false := by simp; omega
      have HC := Lib.hid h
      have HNn := Lib.hid hn
      have HE : Hid (Gs.abandonE ⟨gp L, k⟩ n = if (gp L).any (fun g => decide (n ∈ g.a)) = true then 12 else 0) := by unfold Hid Gs.abandonE; rw [if_neg (fun z => z hin), if_neg (by rw [← e1]; exact hs)]
      obtain ⟨D, m1, m2, m3⟩ := h.map
      have M1 := Lib.hid m1
      have M2 := Lib.hid m2
      have M3 := Lib.hid m3
      have HK := Lib.hid (keyI hn)
      have HR0 : Hid (∀ w0, w0.ranges Try.prog 3 RV mb w.heap.size c D (Maps.has D) (Maps.size D) → w.grownBy w0 none → AbS w w0 mb w.heap.size c D L n (Maps.has D) (Maps.size D)) := fun w0 hrg hg0 => by
        refine ⟨hrg, fun x hx => ?_, (Kept.grown (S := fun _ => False) hg0 (fun _ e => by cases e)).below (fun _ q => q.elim) (Nat.le_refl _), fun q hq e => ?_⟩
        · obtain ⟨y, hy, e⟩ := List.mem_map.1 ((m2 x).1 hx)
          obtain ⟨q, hq, rfl⟩ := List.mem_map.1 hy
          exact ⟨q, hq, e⟩
        · have := (m2 q.g.n).2 (in_nos (List.mem_map.2 ⟨q, hq, rfl⟩))
          rw [e] at this; cases this
      obtain ⟨Y, hY⟩ : ∃ Y, Y = (if Gs.abandonE ⟨gp L, k⟩ n = 0 then Gs.abandon ⟨gp L, k⟩ n else ⟨gp L, k⟩) := ⟨_, rfl⟩
      rw [← hY]
      have HY := Lib.hid hY
      generalize q.g.s = s at *
      generalize q.b = qb at *
      clear h hn hin e1 e2 m1 m2 m3 hs hY
      go_enter Try.func28, Try.ntmps28
      go_wp2_with (first
        | (go_at_call 39; refine HA.out.mono ?_; rintro e w' ⟨rfl, rfl⟩)
        | (at_range; refine wpList_range_own _ rfl _ 65 rfl 3 53 lawI Try.underlying65 RV mb c D rfl M1.out ?_; intro w0 hrg0 hg0 hs0; have HE0 := Lib.hid (HR0.out w0 hrg0 hg0); clear hrg0 hg0 hs0))
      go_frame
      clear c1 d0
      go_loopw [8] (fun _ wr => ∃ (left : Lit → Bool) (cnt : Nat), Hid (AbS w wr mb w.heap.size c D L n left cnt)) (fun _ wr => wr.rangeLeft mb w.heap.size)
      case atStart => exact ⟨_, _, HE0.out⟩
      case round =>
        obtain ⟨left, cnt, hE⟩ := hrel
        rename World => wr
        have HrgL := Lib.hid hE.out.1
        go_wp2_with (at_next; refine wpList_next_prs rfl _ rfl 3 lawI Try.underlying3 mb w.heap.size c D left cnt rfl HrgL.out L hE.out.2.1 M3.out ?_ ?_)
        · intro hc0 hl0
          obtain ⟨_, _, hB, hno⟩ := hE.out
          have hC1 := HC.out.fresh hB
          obtain ⟨_, c1⟩ := hC1.hcells
          have hg1 := hC1.glt
          have h0 : (gp L).any (fun g => decide (n ∈ g.a)) = false := by
            rw [List.any_eq_false]
            intro x hx
            obtain ⟨q, hq, rfl⟩ := List.mem_map.1 hx
            simpa using hno q hq (hl0 _)
          have HE1 : Hid (Gs.abandonE ⟨gp L, k⟩ n = 0) := by unfold Hid; rw [HE.out, h0]; rfl
          have hM1 : Hid (wr.ownsMap Try.prog 3 RV mb c D) := (Kept.fresh (S := fun _ => False) hB).map M1.out (fun q => q)
          have HEnd : Hid (∀ w5, w5.ownsMap Try.prog 3 RV mb c (D.del (.int .i64 n)) → wr.mapTurned w5 mb → PWent B c w g mb L (Gs.abandon ⟨gp L, k⟩ n) w5) := fun w5 h5 ht => by
            have hk := Kept.grown (S := fun b => b = mb) ht.grown (fun b e => by cases e; exact .inl rfl)
            refine ⟨delL L n, hC1.del n hk M2.out M3.out h5, gp_del L n, (Kept.fresh (S := OfP g mb L) hB).trans hk (fun b e => .inl (.inr (.inl e))), fun b hb => .inl ?_⟩
            rcases hb with hb | hb | ⟨q, hq, hb⟩
            · exact .inl hb
            · exact .inr (.inl hb)
            · exact .inr (.inr ⟨q, (mem_del.1 hq).1, hb⟩)
          clear hB hno hC1 h0 hl0 hc0 hE HrgL
          go_wp2_with (at_delete; refine wpList_delete_own _ rfl _ _ 65 3 rfl 53 lawI Try.underlying65 RV mb c D rfl hM1.out _ (.int .i64 n) rfl HK.out ?_; intro w5 h5 ht5; have HZ := Lib.hid (HEnd.out w5 h5 ht5); clear h5 ht5)
          go_ret
          exact ⟨by rw [HE1.out]; rfl, by rw [HY.out, HE1.out, if_pos rfl]; exact HZ.out⟩
        · intro q w1 cnt1 hq hlx hwf hrg1 hlt hg1 hs1 hen
          obtain ⟨hrg, hX, hB, hno⟩ := hE.out
          have hrw : w.heap.size ≤ wr.heap.size := hB.size
          have hB1 : Below w.heap.size w w1 := hB.trans (grown_below hg1 (Nat.le_refl _) hrw)
          have hC1 := HC.out.fresh hB1
          obtain ⟨_, _, d2, _, hbl⟩ := hC1.ocells hq
          have HLt := Lib.hid hlt
          have HrgO := Lib.hid hrg
          have HHas := Lib.hid (hasS_any q.am c n q.g.a w1 (hC1.ahs q hq) HNn.out)
          have HB1 := Lib.hid hB1
          cases hd : decide (n ∈ q.g.a) with
          | true =>
            have HE1 : Hid (Gs.abandonE ⟨gp L, k⟩ n = 12) := by
              unfold Hid
              have hq2 : q.g ∈ gp L := List.mem_map.2 ⟨q, hq, rfl⟩
              have hany : (gp L).any (fun g => decide (n ∈ g.a)) = true := List.any_eq_true.2 ⟨q.g, hq2, hd⟩
              rw [HE.out, hany]; rfl
            rw [hd] at HHas
            generalize q.g.n = n0 at *
            generalize q.b = qb at *
            generalize q.am = qm at *
            clear hrg hX hB hno hrg1 hlt hg1 hs1 hB1 hC1 hE HrgL hwf hd
            go_wp2_with (go_at_call 54; refine HHas.out.mono ?_; rintro e w5 ⟨rfl, hb5⟩; have HZ := Lib.hid (HS.out w5 (HB1.out.trans (hb5.mono HB1.out.size))); clear hb5)
            go_ret
            exact ⟨by rw [HE1.out]; rfl, by rw [HY.out, HE1.out, if_neg (by decide)]; exact HZ.out⟩
          | false =>
            have hnq : n ∉ q.g.a := of_decide_eq_false hd
            have HEnd : Hid (∀ w5, Below w1.heap.size w1 w5 → w5.ranges Try.prog 3 RV mb w.heap.size c D (fun z => left z && !z.sameKey (.int .i64 q.g.n)) cnt1 ∧ AbS w w5 mb w.heap.size c D L n (fun z => left z && !z.sameKey (.int .i64 q.g.n)) cnt1) := fun w5 hb5 => by
              have hr5 := hrg1.kept (below_grown hb5) (by simp) (by simp)
              refine ⟨hr5, hr5, fun x hx => hX x (by simp only [Bool.and_eq_true] at hx; exact hx.1), hB1.trans (hb5.mono hB1.size), fun p hp e => ?_⟩
              by_cases e3 : p.g.n = q.g.n
              · rw [HC.out.uniq hp hq e3]; exact hnq
              · rw [strike_other left e3] at e
                exact hno p hp e
            rw [hd] at HHas
            generalize q.g.n = n0 at *
            generalize q.b = qb at *
            generalize q.am = qm at *
            clear hrg hX hB hno hrg1 hlt hg1 hs1 hB1 hC1 hE HrgL hwf hd hnq
            go_wp2_with (go_at_call 54; refine HHas.out.mono ?_; rintro e w5 ⟨rfl, hb5⟩; have HZ := Lib.hid (HEnd.out w5 hb5); clear hb5)
            go_roundw
            case rel => exact ⟨_, cnt1, HZ.out.2⟩
            case measure => have := HLt.out; rw [HZ.out.1.left_eq, HrgO.out.left_eq]; omega
  · have HA := Lib.hid (ask_out B c g mb L k n w h hn hin)
    have H0 : Hid (Gs.abandonE ⟨gp L, k⟩ n = 5) := by unfold Hid Gs.abandonE; rw [if_pos hin]
    have HS0 := Lib.hid (HS.out w (Below.refl _ _))
    rw [H0.out, if_neg (by decide)]
    clear h hn hin HS
    go_enter Try.func28, Try.ntmps28
    go_wp2_with (refine HA.out.mono ?_; rintro e w' ⟨rfl, rfl⟩)
    go_ret
    exact ⟨rfl, HS0.out⟩
end
end Go.Proofs.Ytdndchoghhllmaa
