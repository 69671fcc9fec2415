/- CylFresh: the walk of the law's text. -/
import Derived.Test.YtpcindemkkdbbaaMB
import Derived.Test.YtpcindemkkdbbaaON
import Derived.Test.YtpcindemkkdbbaaCG
import Derived.Test.YtpcindemkkdbbaaCH
import Derived.Test.YtpcindemkkdbbaaGV
import Derived.RegionTactic
namespace Go.Proofs.Ytpcindemkkdbbaa.cylFresh
set_option linter.unusedVariables false
set_option linter.unusedSimpArgs false
open Go.RowKit

theorem two {W : World} {g : Nat} {t : TypeId} {x0 x1 : Value} (h : W.heap[g]? = some (.cells #[x0, x1] t (0, 0))) : W.cell? ⟨g, 0, none⟩ = some x0 ∧ W.cell? ⟨g, 1, none⟩ = some x1 := by
  refine ⟨?_, ?_⟩ <;> rw [cellAt_of h] <;> rfl
theorem set_ro (l : List Cy) (j : Nat) (r : Int) : (l.set j { cyN l j with ro := r }).set j { cyN (l.set j { cyN l j with ro := r }) j with ro := (cyN l j).ro } = l := by
  by_cases hj : j < l.length
  · rw [List.set_set, cyN_set hj, if_pos rfl]
    show l.set j (cyN l j) = l
    rw [cyN_lt hj, List.set_getElem_self]
  · rw [List.set_eq_of_length_le (by rw [List.length_set]; omega), List.set_eq_of_length_le (by omega)]
set_option maxRecDepth 100000 in
set_option maxHeartbeats 8000000 in
theorem walk (A1 : Option Addr) (n1 c1 : Nat) (l1 : List Int) (A2 : Option Addr) (n2 c2 : Nat) (l2 : List Int) (a : Int) (w : World) (hl1 : BtsIn w A1 n1 c1 l1) (hl2 : BtsIn w A2 n2 c2 l2) (ha : 0 ≤ a ∧ a ≤ 65535) :
    Calls Try.prog 8 #[.slice A1 n1 c1, .slice A2 n2 c2, .int .u16 a] w fun e w' => e = .returned (.bool true) ∧ Below w.heap.size w w' := by
  have HM : Hid (Calls Try.prog 44 #[.slice A1 n1 c1, .slice A2 n2 c2] w (MadeSays w l1)) := made_any A1 c1 n1 l1 A2 c2 n2 l2 hl1.1.symm hl2.1.symm (by have := hl1.2.1; omega) (by have := hl2.2.1; omega) w hl1.2.2 hl2.2.2
  have HLv : Hid (∀ W, Calls Try.prog 21 #[] W fun e w' => e = .returned (.bool true) ∧ Below W.heap.size W w') := fun W => live_any W
  obtain ⟨ha0, ha1⟩ := ha
  clear hl1 hl2
  obtain ⟨Q, hQ⟩ : ∃ Q : Ending → World → Prop, Q = fun e w' => e = .returned (.bool true) ∧ Below w.heap.size w w' := ⟨_, rfl⟩
  have HQ : Hid (∀ w', Below w.heap.size w w' → Q (.returned (.bool true)) w') := by unfold Hid; rw [hQ]; exact fun w' h => ⟨rfl, h⟩
  rw [← hQ]
  clear hQ
  go_enter Try.func8, Try.ntmps8
  go_wp2_with fail
  refine HM.out.mono ?_
  rintro e w1 ⟨A, c, L, rfl, hWO, hLl, hCy, hB1⟩
  obtain ⟨m, hm⟩ : ∃ m, m = L.length := ⟨_, rfl⟩
  rw [← hm]
  have Hm := Lib.hid hm
  have HCy := Lib.hid hCy
  have HB1 := Lib.hid hB1
  have HWO := Lib.hid hWO
  clear hm hCy hB1 hWO hLl HM
  by_cases hm0 : m = 0
  · have hL : L = [] := List.length_eq_zero_iff.1 (by rw [← Hm.out]; exact hm0)
    have HT : Hid (Calls Try.prog 26 #[.slice A 0 c, .agg #[.int .i64 0, .int .i64 0]] w1 fun e w' => ∃ A c, e = .returned (.tuple #[.slice A 0 c, .agg #[.int .i64 0, .int .i64 0], .int .i64 3]) ∧ Below w1.heap.size w1 w') := by
      have hC := HCy.out
      rw [hL] at hC
      refine (take_any A c 0 [] 0 0 rfl w1 nil_small0 hC).mono ?_
      rintro e w' ⟨A', c', rfl, _, hB⟩
      exact ⟨A', c', rfl, hB⟩
    subst hm0
    clear hL
    go_wp2_with fail
    refine HT.out.mono ?_
    rintro e w2 ⟨A', c', rfl, hB2⟩
    have HB2 := Lib.hid (HB1.out.trans (hB2.mono HB1.out.size))
    clear hB2
    go_wp2_with fail
    refine (HLv.out _).mono ?_
    rintro e w3 ⟨rfl, hB3⟩
    have HB3 := Lib.hid ((HB2.out.alloc HB2.out.size _).trans (hB3.mono (by have := HB2.out.size; simp; omega)))
    clear hB3
    go_wp2_with fail
    exact HQ.out _ HB3.out
  · have hmi : (0 : Int) < (m : Int) := by omega
    have hmne : ¬ (m : Int) = 0 := by omega
    have hW : Whole L := HWO.out.resolve_left (fun e => by have := Hm.out; rw [e] at this; exact hm0 this)
    have hm16 : m ≤ 16 := by rw [Hm.out]; exact hW.n2
    have hge : 0 ≤ a % (m : Int) := Int.emod_nonneg _ hmne
    have hgl := Int.emod_lt_of_pos a hmi
    obtain ⟨g, hg⟩ : ∃ g : Nat, a % (m : Int) = g := ⟨(a % (m : Int)).toNat, by rw [Int.toNat_of_nonneg hge]⟩
    have hgm : g < m := by omega
    have hgmi : (g : Int) < (m : Int) := by omega
    have hg0 : (0 : Int) ≤ (g : Int) := by omega
    obtain ⟨gb, off, Ag, cg, A2g, c2g, rfl, hgb, hcy⟩ := HCy.out.at_ (k := g) (by rw [← Hm.out]; exact hgm)
    have hc1 := hcy.c1
    have hblb := (hW.ok g (by rw [← Hm.out]; exact hgm)).bl
    have HW := Lib.hid hW
    obtain ⟨bl, hbl⟩ : ∃ bl, bl = (cyN L g).bl := ⟨_, rfl⟩
    rw [← hbl] at hc1 hblb
    have hbl1 : 0 < bl := by omega
    have hbl0 : ¬ bl = 0 := by omega
    have hbl2 : bl ≤ 64 := hblb.2
    have hq0 : 0 ≤ a / 16 := by omega
    have HT : Hid (Calls Try.prog 26 #[.slice (some ⟨gb, off, none⟩) m c, .agg #[.int .i64 g, .int .i64 (a / 16 % bl)]] w1 (AnSays w1 (takeL L g (a / 16 % bl)))) := take_any _ c m L g _ Hm.out w1 (whole_small hW) HCy.out
    have HF : Hid (∀ W, Below w1.heap.size w1 W → Calls Try.prog 39 #[.slice (some ⟨gb, off, none⟩) m c] W (FreeSays W L)) := fun W h => free_any _ c m L Hm.out W (whole_small HW.out) (HCy.out.next h)
    have HTc := Lib.hid (takeL_whole hW (ng := g) (nb := a / 16 % bl) (by rw [← Hm.out]; exact hgm) (Int.emod_nonneg _ hbl0) (by rw [← hbl]; exact Int.emod_lt_of_pos _ hbl1))
    have HFb : Hid (0 ≤ freeB L ∧ freeB L ≤ 1024) := by
      have := sum_in (f := Cy.fb) (l := L) (m := 64) (fun i hi => (hW.ok i hi).fb_in) L.length (Nat.le_refl _)
      have e : freeB L = sumF Cy.fb L L.length := by unfold freeB; rw [if_pos ((wholeL_iff L).2 hW)]
      have h16 := hW.n2
      unfold Hid; rw [e]; omega
    clear hbl hcy hblb hW hge hgl hm0
    go_wp2_with fail
    refine HT.out.mono ?_
    rcases HTc.out with ⟨q1, q2⟩ | ⟨g2, b2, q1, q2, q3, q4⟩
    · rw [q1]
      rintro e w2 ⟨A', c', rfl, _, hB2⟩
      have HBw2 := Lib.hid hB2
      have HB2 := Lib.hid (HB1.out.trans (hB2.mono HB1.out.size))
      have Q2 := Lib.hid q2
      clear hB2 q1 q2 HT HTc
      go_wp2_with fail
      refine (HF.out _ (HBw2.out.alloc HBw2.out.size _)).mono ?_
      rintro e w3 ⟨rfl, hB3⟩
      rw [Q2.out]
      have HB3 := Lib.hid ((HB2.out.alloc HB2.out.size _).trans (hB3.mono (by have := HB2.out.size; simp; omega)))
      clear hB3
      go_wp2_with fail
      refine (HLv.out _).mono ?_
      rintro e w4 ⟨rfl, hB4⟩
      have HB4 := Lib.hid (HB3.out.trans (hB4.mono HB3.out.size))
      clear hB4
      go_wp2_with fail
      exact HQ.out _ HB4.out
    · have HFr := Lib.hid (fresh_give HW.out q1 q2 q3)
      have hg2m : g2 < m := by rw [Hm.out]; exact q1
      have hg2i : (g2 : Int) < (m : Int) := by omega
      have hg20 : (0 : Int) ≤ (g2 : Int) := by omega
      obtain ⟨gb', off', Ag', cg', A2g', c2g', he', _, hcy'⟩ := HCy.out.at_ (k := g2) q1
      have he2 := Option.some.inj he'
      obtain ⟨rfl, rfl⟩ : gb = gb' ∧ off = off' := ⟨congrArg (·.block) he2, congrArg (·.off) he2⟩
      obtain ⟨ro, hro⟩ : ∃ ro, ro = (cyN L g2).ro := ⟨_, rfl⟩
      have HRo : Hid (∀ W, Below w1.heap.size w1 W → W.cell? ⟨gb, off + g2 * 7 + 4, none⟩ = some (.int .i64 ro)) := fun W h => ((h.cell (p := ⟨gb, off + g2 * 7 + 4, none⟩) hgb).trans hcy'.c4).trans (by rw [hro])
      have HSr := Lib.hid (set_ro L g2 ((b2 + 1) % (cyN L g2).bl))
      have HYl : Hid ((L.set g2 { cyN L g2 with ro := ((b2 : Int) + 1) % (cyN L g2).bl }).length = m) := by unfold Hid; rw [List.length_set]; exact Hm.out.symm
      rw [← hro] at HSr
      rw [q4]
      rintro e w2 ⟨A', c', rfl, hG, hB2⟩
      have hX : (L.set g2 (useC (cyN L g2) b2)).length = m := by rw [List.length_set]; exact Hm.out.symm
      dsimp only at hG ⊢
      obtain ⟨X, hXe⟩ : ∃ X, X = L.set g2 (useC (cyN L g2) b2) := ⟨_, rfl⟩
      rw [← hXe] at hG hX HFr ⊢
      obtain ⟨Y, hYe⟩ : ∃ Y, Y = L.set g2 { cyN L g2 with ro := ((b2 : Int) + 1) % (cyN L g2).bl } := ⟨_, rfl⟩
      rw [← hYe] at HFr HYl HSr
      rw [hX]
      have HX := Lib.hid hX
      have HCX := Lib.hid hG.cyls
      have HBw2 := Lib.hid hB2
      have HB2 := Lib.hid (HB1.out.trans (hB2.mono HB1.out.size))
      clear hB2 hG q1 q2 q3 q4 HT HTc hX hXe hYe hcy' he' he2 hro hc1 hbl1 hbl0 hbl2 hq0
      obtain ⟨N, hN⟩ : ∃ N, N = freeB L := ⟨_, rfl⟩
      have hN0 : 0 ≤ N := by rw [hN]; exact HFb.out.1
      have hN1 : N ≤ 1024 := by rw [hN]; exact HFb.out.2
      have HFX : Hid (∀ W, Below w2.heap.size w2 W → Calls Try.prog 39 #[.slice A' m c'] W fun e w' => (∃ q, e = .returned (.tuple #[.int .i64 (N - 1), .int .i64 q])) ∧ Below W.heap.size W w') := fun W h => by
        have := free_any A' c' m X HX.out.symm W (whole_small HFr.out.1) (HCX.out.next h)
        refine this.mono ?_
        rintro e w' ⟨rfl, hB⟩
        exact ⟨⟨_, by rw [HFr.out.2.1, hN]⟩, hB⟩
      have HFL : Hid (∀ W, Below w1.heap.size w1 W → Calls Try.prog 39 #[.slice (some ⟨gb, off, none⟩) m c] W fun e w' => (∃ q, e = .returned (.tuple #[.int .i64 N, .int .i64 q])) ∧ Below W.heap.size W w') := fun W h => by
        refine (HF.out W h).mono ?_
        rintro e w' ⟨rfl, hB⟩
        exact ⟨⟨_, by rw [hN]⟩, hB⟩
      have HGX : Hid (∀ W, Below w2.heap.size w2 W → Calls Try.prog 28 #[.slice A' m c', .agg #[.int .i64 g2, .int .i64 b2]] W (AnSays2 W ⟨Y, 0, 0, 0⟩)) := fun W h => by
        have := give_any A' c' m X g2 b2 HX.out.symm W (whole_small HFr.out.1) (HCX.out.next h)
        rw [HFr.out.2.2.1] at this; exact this
      have HGL : Hid (∀ W, Below w1.heap.size w1 W → Calls Try.prog 28 #[.slice (some ⟨gb, off, none⟩) m c, .agg #[.int .i64 g2, .int .i64 b2]] W fun e w' => (∃ A c, e = .returned (.tuple #[.slice A 0 c, .int .i64 5])) ∧ Below W.heap.size W w') := fun W h => by
        have := give_any _ c m L g2 b2 Hm.out W (whole_small HW.out) (HCy.out.next h)
        rw [HFr.out.2.2.2] at this
        refine this.mono ?_
        rintro e w' ⟨A, c, rfl, _, hB⟩
        exact ⟨⟨A, c, rfl⟩, hB⟩
      have HWX : Hid (∀ W, Below w2.heap.size w2 W → Calls Try.prog 31 #[.slice A' m c'] W fun e w' => e = .returned (.bool true) ∧ Below W.heap.size W w') := fun W h => by
        have := whole_any A' c' m X HX.out.symm W (whole_small HFr.out.1) (HCX.out.next h)
        rw [(wholeL_iff X).2 HFr.out.1] at this; exact this
      clear HF hN
      go_wp2_with fail
      have hB23 : Below w2.heap.size w2 (w2.alloc (.cells #[.int .i64 g2, .int .i64 b2] 41)) := (Below.refl _ w2).alloc (Nat.le_refl _) _
      have H3 : Hid ((w2.alloc (.cells #[.int .i64 g2, .int .i64 b2] 41)).heap[w2.heap.size]? = some (.cells #[.int .i64 g2, .int .i64 b2] 41 (0, 0))) := Go.heap_alloc_new w2 _
      generalize w2.alloc (.cells #[.int .i64 g2, .int .i64 b2] 41) = w3 at hB23 H3 ⊢
      have HB23 := Lib.hid hB23
      have HB13 := Lib.hid (HBw2.out.trans (hB23.mono HBw2.out.size))
      have hz3 := lt_heap H3.out
      clear hB23
      refine (HFL.out _ HB13.out).mono ?_
      rintro e w4 ⟨⟨qi, rfl⟩, hB4⟩
      have H4 := Lib.hid ((hB4.block _ hz3).trans H3.out)
      have HB24 := Lib.hid (HB23.out.trans (hB4.mono HB23.out.size))
      have HB14 := Lib.hid (HB13.out.trans (hB4.mono HB13.out.size))
      have hz4 := lt_heap H4.out
      clear hB4
      go_wp2_with fail
      refine (HFX.out _ HB24.out).mono ?_
      rintro e w5 ⟨⟨qi2, rfl⟩, hB5⟩
      have H5 := Lib.hid ((hB5.block _ hz4).trans H4.out)
      have HB25 := Lib.hid (HB24.out.trans (hB5.mono HB24.out.size))
      have HB15 := Lib.hid (HB14.out.trans (hB5.mono HB14.out.size))
      have hz5 := lt_heap H5.out
      obtain ⟨e0, e1⟩ := two H5.out
      clear hB5
      go_wp2_with fail
      refine (HGX.out _ HB25.out).mono ?_
      rintro e w6 ⟨Ay, cy, rfl, hGy, hB6⟩
      dsimp only at hGy ⊢
      rw [HYl.out]
      rcases hGy with ⟨_, q, _⟩ | ⟨yb, Ry, Cyy, rfl, hcye, hGr⟩
      · exfalso
        have := HYl.out
        rw [q] at this
        simp at this; omega
      clear hcye
      have H6 := Lib.hid ((hB6.block _ hz5).trans H5.out)
      have HB26 := Lib.hid (HB25.out.trans (hB6.mono HB25.out.size))
      have HB16 := Lib.hid (HB15.out.trans (hB6.mono HB15.out.size))
      have hz6 := lt_heap H6.out
      have hyl : w5.heap.size ≤ yb := hGr.low
      have HGr := Lib.hid hGr
      clear hB6 e0 e1 hGr
      go_wp2_with fail
      refine (HWX.out _ HB26.out).mono ?_
      rintro e w7 ⟨rfl, hB7⟩
      have H7 := Lib.hid ((hB7.block _ hz6).trans H6.out)
      have HB17 := Lib.hid (HB16.out.trans (hB7.mono HB16.out.size))
      have hz7 := lt_heap H7.out
      have hGr7 := HGr.out.next hB7
      have hyz : yb < w7.heap.size := hGr7.lt
      obtain ⟨e0, e1⟩ := two H7.out
      have er := HRo.out _ HB17.out
      have hgz : gb < w7.heap.size := by have := HB17.out.size; omega
      have fr := frozen_of_row w7 _ (g2 * 7 + 4) _ 24 hGr7.blk
      have ey : w7.cell? ⟨yb, g2 * 7 + 4, none⟩ = some (.int .i64 (cyN Y g2).ro) := hGr7.cell (j := g2) (i := 4) (by rw [HYl.out]; exact hg2m) (by omega)
      have HGr7 := Lib.hid hGr7
      clear hB7 hGr7
      go_wp2_with fail
      go_region
      all_goals
        have hk8 : Kept w7 ((w7.setCell ⟨yb, g2 * 7 + 4, none⟩ (.int .i64 ro)).drew) (fun b => b = yb) := ((Kept.refl w7 (fun b => b = yb)).set (.inl rfl)).drew
        have hY8 : Cyls ((w7.setCell ⟨yb, g2 * 7 + 4, none⟩ (.int .i64 ro)).drew) ((w7.setCell ⟨yb, g2 * 7 + 4, none⟩ (.int .i64 ro)).drew).heap.size (some ⟨yb, 0, none⟩) (Y.set g2 { cyN Y g2 with ro := ro }) := (grp_ro HGr7.out (by rw [HYl.out]; exact hg2m) ro).next (Below.refl _ _).drew
        rw [HSr.out] at hY8
        generalize (w7.setCell ⟨yb, g2 * 7 + 4, none⟩ (.int .i64 ro)).drew = w8 at hk8 hY8 ⊢
        have hB78 : Below w5.heap.size w7 w8 := hk8.below (fun b q => by have q' : b = yb := q; omega) (by omega)
        have HB18 := Lib.hid (HB17.out.trans (hB78.mono HB15.out.size))
        have H8 := Lib.hid ((hB78.block _ hz5).trans H7.out)
        have hz8 := lt_heap H8.out
        obtain ⟨e0, e1⟩ := two H8.out
        have HY8 := Lib.hid hY8
        clear hk8 hY8 hB78 er fr ey
        go_wp2_with fail
        refine (HGL.out _ HB18.out).mono ?_
        rintro e w9 ⟨⟨A9, c9, rfl⟩, hB9⟩
        have HB19 := Lib.hid (HB18.out.trans (hB9.mono HB18.out.size))
        have HY9 := Lib.hid (HY8.out.next hB9)
        clear hB9 e0 e1
        go_wp2_with fail
        refine (HLv.out _).mono ?_
        rintro e w10 ⟨rfl, hB10⟩
        have HB110 := Lib.hid (HB19.out.trans (hB10.mono HB19.out.size))
        have HY10 := Lib.hid (HY9.out.next hB10)
        have HSA : Hid (Calls Try.prog 30 #[.slice (some ⟨yb, 0, none⟩) m cy, .slice (some ⟨gb, off, none⟩) m c] w10 fun e w' => e = .returned (.bool true) ∧ Below w10.heap.size w10 w') := by
          have := sameall_any (some ⟨yb, 0, none⟩) cy m L (some ⟨gb, off, none⟩) c m L Hm.out Hm.out w10 (whole_small HW.out) (whole_small HW.out) HY10.out (HCy.out.next HB110.out)
          rw [sameL_iff.2 rfl] at this; exact this
        clear hB10
        go_wp2_with fail
        refine HSA.out.mono ?_
        rintro e w11 ⟨rfl, hB11⟩
        have HB11 := Lib.hid (HB1.out.trans ((HB110.out.trans (hB11.mono HB110.out.size)).mono HB1.out.size))
        clear hB11
        go_wp2_with fail
        exact HQ.out _ HB11.out
end Go.Proofs.Ytpcindemkkdbbaa.cylFresh
