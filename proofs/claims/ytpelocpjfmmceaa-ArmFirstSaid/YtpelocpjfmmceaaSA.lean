/- The document's own arm: Next. -/
import Derived.Test.YtpelocpjfmmceaaRZ
set_option linter.unusedVariables false
set_option linter.unusedSimpArgs false
namespace Go.Proofs.Ytpelocpjfmmceaa
open Go.RowKit

theorem oldFrom_step {l : List Rq} {q : Nat} (hq : q < l.length) : oldFrom l (l.length - q) = if old (rn l q) = true then (q : Int) else oldFrom l (l.length - (q + 1)) := by
  obtain ⟨j, hj⟩ : ∃ j, l.length - q = j + 1 := ⟨l.length - q - 1, by omega⟩
  rw [hj, show l.length - (q + 1) = j by omega]
  rw [show oldFrom l (j + 1) = if old (rn l (l.length - (j + 1))) = true then ((l.length - (j + 1) : Nat) : Int) else oldFrom l j from rfl, show l.length - (j + 1) = q by omega]
theorem RAt.age {B : Nat} {w : World} {g ab c : Nat} {x y : Ar} (h : RAt B w g (some ⟨ab, 0, none⟩) c x) {k : Nat} (hk : k < x.l.length) {a : Int} (ha : a = (rn x.l k).a + 1) (hy : y = { x with l := modQ x.l k aged1 }) :
    RAt B (w.setCell ⟨ab, k * 2 + 1, none⟩ (.int .i64 a)) g (some ⟨ab, 0, none⟩) c y := by
  subst hy
  have hne : g ≠ ab := fun e => h.apart (by rw [e]; rfl)
  refine ⟨?_, h.row.stored1 hk ha, h.ne, h.lo⟩
  show (w.setCell ⟨ab, k * 2 + 1, none⟩ (.int .i64 a)).heap[g]? = some (.cells (hR { x with l := modQ x.l k aged1 } (.slice _ (modQ x.l k aged1).length c)) 70 (0, 0))
  rw [heap_setCell_other w ⟨ab, k * 2 + 1, none⟩ g _ hne, h.head, length_modQ]
  rfl

set_option maxRecDepth 100000 in
set_option maxHeartbeats 4000000 in
theorem rnext_old (B g : Nat) (A : Option Addr) (c : Nat) (x : Ar) (w : World) (hC : RAt B w g A c x) (hl : x.l.length ≤ 1000) (h0 : 0 < x.l.length) (hs : x.s < 1024) (hn : 1 ≤ x.n) (hn64 : x.n ≤ 64) (hm : x.m ≤ 1000000000)
    (hage : ∀ r ∈ x.l, 0 ≤ r.a ∧ r.a ≤ 1000000000) (hnd : (blk x.l).Nodup) (hB : B ≤ w.heap.size) (k : Nat) (hk : k < x.l.length) (hof : oldFrom x.l x.l.length = (k : Int)) (hne : (rn x.l k).b ≠ (x.s : Int)) (u : Bool) (hu : u = !decide ((rn x.l k).b < (x.s : Int))) (b : Int) (hbk : (rn x.l k).b = b) (hb0 : 0 ≤ b) (hb1 : b < 1024) :
    Calls Try.prog 40 #[.pointer (some ⟨g, 0, none⟩)] w fun e w' => e = .returned (.tuple #[.int .i64 b, .bool true]) ∧ RWent B w g A (x.gone b u) w' := by
  obtain ⟨_, _, cS, cU, _, cs⟩ := rcells hC
  have hg := hC.glt
  have HR0 := Lib.hid hC.row
  have hki : (k : Int) < (x.l.length : Int) := by omega
  have Hu3 : Hid (∀ W, Below w.heap.size w W → RWent B w g A { x with u := u } (W.setCell ⟨g, 3, none⟩ (.bool (decide ((rn x.l k).b < (x.s : Int)))))) := fun W hW => by
    obtain ⟨r, kp⟩ := field B g A c x W (y := { x with u := u }) (j := 3) (v := .bool (decide ((rn x.l k).b < (x.s : Int)))) (hC.fresh hW) rfl (fun v => by rw [hu]; show (hR x v).setIfInBounds 3 _ = hR _ v; unfold hR; simp)
    exact ⟨A, c, r, (Kept.fresh (S := Of g A) hW).trans kp (fun k q => .inl (.inl q)), fun k e => .inl e⟩
  have fU := hC.free 3
  have hcap := own_cap hC.row
  unfold maxLen at hcap
  have hld : (dropL x.l b).length ≤ x.l.length := List.length_filter_le _ _
  have hl2 : (dropL x.l b).length ≤ 1000 := by omega
  have Hage : Hid (∀ k, k < (dropL x.l b).length → 0 ≤ (rn (dropL x.l b) k).a ∧ (rn (dropL x.l b) k).a ≤ 1000000000) := fun k hk => hage _ (List.mem_filter.1 (rn_mem hk)).1
  have hfar := far_le x.s b.toNat x.n hs (by omega) hn hn64
  have Hw : Hid (∀ W A2 c2, RAt B W g A2 c2 { x with u := u } → Calls Try.prog 55 #[.pointer (some ⟨g, 0, none⟩), .int .i64 b] W fun e w' => e = .returned (.int .i64 (far x.s b.toNat x.n : Nat)) ∧ Below W.heap.size W w') := fun W A2 c2 h => raway_any B g A2 c2 { x with u := u } b W h hs hn hn64 hb0 hb1
  have Hdrop : Hid (∀ W q, RWent B w g A { x with u := u } W → q = (x.m : Int) + (far x.s b.toNat x.n : Nat) → Calls Try.prog 56 #[.pointer (some ⟨g, 0, none⟩), .int .i64 k] ((W.setCell ⟨g, 4, none⟩ (.int .i64 q)).setCell ⟨g, 2, none⟩ (.int .i64 b)) fun e w' => e = .returned (.tuple #[]) ∧
      RWent B w g A ⟨x.p, x.n, b.toNat, x.m + far x.s b.toNat x.n, u, dropL x.l b⟩ w') := fun W q ⟨A2, c2, h1, h2, h3⟩ hq => by
    obtain ⟨r1, k1⟩ := field B g A2 c2 _ W (y := ⟨x.p, x.n, x.s, x.m + far x.s b.toNat x.n, u, x.l⟩) (j := 4) (v := .int .i64 q) h1 rfl (fun v => by subst hq; rfl)
    obtain ⟨r2, k2⟩ := field B g A2 c2 _ _ (y := ⟨x.p, x.n, b.toNat, x.m + far x.s b.toNat x.n, u, x.l⟩) (j := 2) (v := .int .i64 b) r1 rfl (fun v => by
      show (hR _ v).setIfInBounds 2 _ = #[.int .u8 x.p, .int .i64 x.n, .int .i64 (b.toNat : Int), .bool (!u), .int .i64 _, v]
      rw [show ((b.toNat : Int)) = b by omega]; rfl)
    have hk2 := (h2.trans k1 (fun k q => .inl (.inl q))).trans k2 (fun k q => .inl (.inl q))
    refine (rdrop_any B g A2 c2 ⟨x.p, x.n, b.toNat, x.m + far x.s b.toNat x.n, u, x.l⟩ _ k hk r2 hl (Nat.le_trans hB hk2.size)).mono ?_
    rintro e w' ⟨e1, A3, c3, h4, h5, h6⟩
    have hOf : ∀ k, Of g A2 k → Of g A k ∨ w.heap.size ≤ k := fun k q => by rcases q with q | q; exact .inl (.inl q); rcases h3 k q with q | q; exact .inl (.inr q); exact .inr q
    refine ⟨e1, A3, c3, ?_, hk2.trans h5 hOf, fun k e => by rcases h6 k e with q | q; exact h3 k q; exact .inr (Nat.le_trans hk2.size q)⟩
    have := erase_is hnd hk
    rw [hbk] at this
    rw [← this]
    exact h4
  have Hend : Hid (∀ W A2 c2, RAt B W g A2 c2 ⟨x.p, x.n, b.toNat, x.m + far x.s b.toNat x.n, u, ageK (dropL x.l b) (dropL x.l b).length⟩ → RAt B W g A2 c2 (x.gone b u)) := fun W A2 c2 h => by
    unfold Ar.gone
    rw [← ageK_all]
    exact h
  have h0i : ((x.l.length : Int) == 0) = false := by rw [beq_eq_false_iff_ne]; omega
  have h0n : (x.l.length == 0) = false := by rw [beq_eq_false_iff_ne]; omega
  obtain ⟨d, hd⟩ : ∃ d, d = far x.s b.toNat x.n := ⟨_, rfl⟩
  rw [← hd] at hfar Hw Hdrop Hend
  obtain ⟨L, hL⟩ : ∃ L, L = dropL x.l b := ⟨_, rfl⟩
  rw [← hL] at Hdrop Hage hl2 Hend
  rw [hbk] at Hu3 hne
  generalize x.gone b u = xg at *
  obtain ⟨xp, xn, xs, xm, xu, l⟩ := x
  dsimp only at *
  have Hnat := Lib.hid (show b.toNat = b.toNat from rfl)
  generalize b.toNat = bn at Hdrop Hend
  clear hC hd hL hage hld hb0 hb1 hs hn hn64 hnd Hnat hu
  go_enter Try.func40, Try.ntmps40
  go_wp2
  go_loopw [4, 5] (fun t i wr => ∃ r : Nat, r ≤ l.length ∧ ((r = 0 ∧ i = .int .i64 (-1)) ∨ ∃ q : Nat, r = q + 1 ∧ i = .int .i64 q) ∧ t = .int .i64 (oldFrom l (l.length - r)) ∧ Below w.heap.size w wr) (fun _ i _ => (intOf i + 1).toNat)
  case atStart => exact ⟨l.length, Nat.le_refl _, .inr ⟨l.length - 1, by omega, by congr 1; omega⟩, by rw [Nat.sub_self]; rfl, Below.refl _ _⟩
  case round =>
    obtain ⟨r, hr, hi, rfl, hB⟩ := hrel
    rename World => wr
    have HB := Lib.hid hB
    have hsr : wr.cell? ⟨g, 5, none⟩ = some (.slice A l.length c) := (hB.cell (p := ⟨g, 5, none⟩) hg).trans cs
    rcases hi with ⟨rfl, rfl⟩ | ⟨q, rfl, rfl⟩
    · clear cs hr

      obtain ⟨ab0, hA0, h30, h40, hb0', _, d0, _, _⟩ := (show RowQ 81 wr B A c l from HR0.out.fresh hB).at_ hk
      subst hA0
      rw [hbk] at d0
      have hof' : oldFrom l (l.length - 0) = (k : Int) := by rw [Nat.sub_zero]; exact hof
      rw [hof']
      have hkb0 : (0 : Int) ≤ (k : Int) := by omega
      have e2 := (hB.cell (p := ⟨g, 2, none⟩) hg).trans cS
      have e3 := (hB.cell (p := ⟨g, 3, none⟩) hg).trans cU
      have f3 := (hB.frozen (p := ⟨g, 3, none⟩) hg).trans fU
      have hg1 : g < wr.heap.size := Nat.lt_of_lt_of_le hg hB.size
      have hbs : (b != (xs : Int)) = true := by simp [hne]
      have HU := Lib.hid (Hu3.out wr HB.out)
      clear hB cS cU fU hof hof'
      unfold maxLen at h40
      go_wp2

      obtain ⟨A2, c2, hP2, hK2, hO2⟩ := HU.out
      have HP2 := Lib.hid hP2
      have hg2 := hP2.glt
      obtain ⟨_, _, z2, _, z4, z5⟩ := rcells hP2
      dsimp only at z2 z4 z5
      obtain ⟨ab, hA2, q3, q4, qb, _, y0, _, _⟩ := hP2.row.at_ hk
      dsimp only at y0 q3
      subst hA2
      rw [hbk] at y0
      have v4 := hP2.free 4
      have v2 := hP2.free 2
      unfold maxLen at q4
      have hki : (k : Int) < (l.length : Int) := by omega
      have hk0 : (0 : Int) ≤ (k : Int) := by omega
      have HwP := Lib.hid (fun W hW => Hw.out W (some ⟨ab, 0, none⟩) c2 (HP2.out.fresh (w' := W) hW))
      have HDr := Lib.hid (fun W (hW : Below _ _ W) q => Hdrop.out W q ⟨some ⟨ab, 0, none⟩, c2, HP2.out.fresh hW, hK2.trans (Kept.fresh hW) (fun k q => .inl q), hO2⟩)
      clear hP2 hK2 hO2 HU
      generalize hw2 : (wr.setCell ⟨g, 3, none⟩ (.bool (decide (b < (xs : Int))))) = wz at *
      clear hw2
      go_upto_region 15 with fail
      go_cut [] from 74 to 83 (fun wx => ∃ w5, wx = w5.setCell ⟨g, 4, none⟩ (.int .i64 ((xm : Int) + (d : Nat))) ∧ Below wz.heap.size wz w5)
      case first =>
        go_region_with (go_at_call 55; refine (HwP.out _ (Below.refl _ _).drew).mono ?_; rintro e w5 ⟨rfl, hb5⟩; have HB5 := Lib.hid ((Below.refl wz.heap.size wz).drew.trans hb5); have d4 : w5.cell? ⟨g, 4, none⟩ = some (.int .i64 xm) := (hb5.cell (p := ⟨g, 4, none⟩) hg2).trans z4; have g4 := (hb5.frozen (p := ⟨g, 4, none⟩) hg2).trans v4; have hg5 : g < w5.heap.size := Nat.lt_of_lt_of_le hg2 hb5.size; clear hb5)
        all_goals
          go_wp2_with fail
          go_meet
          exact ⟨_, by rw [IntWalk.i64_in _ (by omega)], HB5.out⟩
      case rest =>
        obtain ⟨w5, rfl, hB5⟩ := hcut
        have HB5 := Lib.hid hB5
        have d2 := (hB5.cell (p := ⟨g, 2, none⟩) hg2).trans z2
        have g2 := (hB5.frozen (p := ⟨g, 2, none⟩) hg2).trans v2
        have hg5 : g < w5.heap.size := Nat.lt_of_lt_of_le hg2 hB5.size
        clear hB5
        go_wp2_with (go_at_call 56; refine (HDr.out w5 HB5.out _ rfl).mono ?_; rintro e w6 ⟨rfl, A3, c3, h6, k6, o6⟩; have H6 := Lib.hid h6; have K6 := Lib.hid k6; have O6 := Lib.hid o6; clear h6 k6 o6)
        go_loopw [8] (fun i wr => ∃ k : Nat, k ≤ L.length ∧ i = .int .i64 k ∧ Hid (RAt B wr g A3 c3 ⟨xp, xn, bn, xm + d, u, ageK L k⟩) ∧ Hid (Kept w wr (Of g (some ⟨ab0, 0, none⟩)))) (fun i _ => L.length - (intOf i).toNat)
        case atStart => exact ⟨0, Nat.zero_le _, rfl, H6.out, K6.out⟩
        case round =>
          obtain ⟨k2, hk2, rfl, hP, hK⟩ := hrel
          rename World => wr2
          have hsz := hP.out.glt
          have sr : wr2.cell? ⟨g, 5, none⟩ = some (.slice A3 L.length c3) := by
            have := (rcells hP.out).2.2.2.2.2
            dsimp only at this
            rwa [length_ageK] at this
          by_cases hlt : k2 < L.length
          · have hlti : (k2 : Int) < (L.length : Int) := by omega
            have hk20 : (0 : Int) ≤ (k2 : Int) := by omega
            obtain ⟨ab3, hA3, h33, h34, hb3, hBb3, _, q1, hfz⟩ := hP.out.row.at_ (show k2 < (ageK L k2).length by rw [length_ageK]; exact hlt)
            subst hA3
            have hf1 := hfz (k2 * 2 + 1)
            obtain ⟨ha0, ha1⟩ := Hage.out k2 hlt
            have er : rn (ageK L k2) k2 = rn L k2 := by rw [rn_ageK L k2 k2 hlt, if_neg (Nat.lt_irrefl k2)]
            have Hst : Hid (∀ q, q = (rn L k2).a + 1 → RAt B (wr2.setCell ⟨ab3, k2 * 2 + 1, none⟩ (.int .i64 q)) g (some ⟨ab3, 0, none⟩) c3 ⟨xp, xn, bn, xm + d, u, ageK L (k2 + 1)⟩ ∧ Kept w (wr2.setCell ⟨ab3, k2 * 2 + 1, none⟩ (.int .i64 q)) (Of g (some ⟨ab0, 0, none⟩))) := fun q hq => by
              refine ⟨RAt.age hP.out (show k2 < (ageK L k2).length by rw [length_ageK]; exact hlt) (by show q = (rn (ageK L k2) k2).a + 1; rw [er, hq]) rfl, ?_⟩
              refine hK.out.trans (Kept.set wr2 ab3 (k2 * 2 + 1) _) (fun b q => ?_)
              subst q
              rcases O6.out b rfl with q | q
              · exact .inl (.inr q)
              · exact .inr q
            have hgn : g ≠ ab3 := fun e => hP.out.apart (by rw [e]; rfl)
            rw [er] at q1
            clear hP hfz er
            rw [length_ageK] at h33
            unfold maxLen at h34
            generalize (rn L k2).a = ra at *
            go_wp2
            go_roundw
            case rel => exact ⟨k2 + 1, by omega, by go_num, (Hst.out _ rfl).1, (Hst.out _ rfl).2⟩
            case measure => simp [intOf]; omega
          · obtain rfl : k2 = L.length := by omega
            have hlti : ¬ (L.length : Int) < (L.length : Int) := by omega
            have HF := Lib.hid (Hend.out _ _ _ hP.out)
            clear hP
            go_wp2
            go_ret2
            exact ⟨rfl, A3, c3, HF.out, hK.out, O6.out⟩
    · have hq : q < l.length := by omega
      have hqi : (q : Int) < (l.length : Int) := by omega
      have hq0 : (0 : Int) ≤ (q : Int) := by omega
      obtain ⟨ab, hA, h3, h4, hb, _, _, c1, _⟩ := (show RowQ 81 wr B A c l from HR0.out.fresh hB).at_ hq
      subst hA
      have Hs := Lib.hid (oldFrom_step hq)
      unfold maxLen at h4
      cases ho : old (rn l q) with
      | true =>
        have Hs2 : Hid (oldFrom l (l.length - q) = (q : Int)) := by unfold Hid; rw [Hs.out, ho, if_pos rfl]
        have h12 : (12 : Int) ≤ (rn l q).a := of_decide_eq_true ho
        clear ho Hs hB cs cS cU fU
        generalize (rn l q).a = ra at *
        generalize oldFrom l (l.length - (q + 1)) = z at *
        go_wp2
        go_roundw
        case rel => exact ⟨q, by omega, by (by_cases e : q = 0; exact .inl ⟨e, by subst e; rfl⟩; exact .inr ⟨q - 1, by omega, by congr 1; omega⟩), by rw [Hs2.out], HB.out⟩
        case measure => simp [intOf]
      | false =>
        have Hs2 : Hid (oldFrom l (l.length - q) = oldFrom l (l.length - (q + 1))) := by unfold Hid; rw [Hs.out, ho, if_neg (by decide)]
        have h12 : decide ((12 : Int) ≤ (rn l q).a) = false := ho
        clear ho Hs hB cs cS cU fU
        generalize (rn l q).a = ra at *
        obtain ⟨z, hz⟩ : ∃ z, z = oldFrom l (l.length - (q + 1)) := ⟨_, rfl⟩
        rw [← hz] at Hs2 ⊢
        clear hz
        go_wp2
        go_roundw
        case rel => exact ⟨q, by omega, by (by_cases e : q = 0; exact .inl ⟨e, by subst e; rfl⟩; exact .inr ⟨q - 1, by omega, by congr 1; omega⟩), by rw [Hs2.out], HB.out⟩
        case measure => simp [intOf]

set_option maxRecDepth 100000 in
set_option maxHeartbeats 4000000 in
theorem rnext_pol (B g : Nat) (A : Option Addr) (c : Nat) (x : Ar) (w : World) (hC : RAt B w g A c x) (hl : x.l.length ≤ 1000) (h0 : 0 < x.l.length) (hs : x.s < 1024) (hn : 1 ≤ x.n) (hn64 : x.n ≤ 64) (hm : x.m ≤ 1000000000)
    (hage : ∀ r ∈ x.l, 0 ≤ r.a ∧ r.a ≤ 1000000000) (hnd : (blk x.l).Nodup) (hB : B ≤ w.heap.size) (k : Nat) (hk : k < x.l.length) (hof : oldFrom x.l x.l.length = -1) (u : Bool) (hch : ∀ W, Below w.heap.size w W → Calls Try.prog 54 #[.pointer (some ⟨g, 0, none⟩)] W fun e w' => e = .returned (.int .i64 k) ∧ RWent B W g A { x with u := u } w') (b : Int) (hbk : (rn x.l k).b = b) (hb0 : 0 ≤ b) (hb1 : b < 1024) :
    Calls Try.prog 40 #[.pointer (some ⟨g, 0, none⟩)] w fun e w' => e = .returned (.tuple #[.int .i64 b, .bool true]) ∧ RWent B w g A (x.gone b u) w' := by
  obtain ⟨_, _, cS, cU, _, cs⟩ := rcells hC
  have hg := hC.glt
  have HR0 := Lib.hid hC.row
  have HCh : Hid (∀ W, Below w.heap.size w W → Calls Try.prog 54 #[.pointer (some ⟨g, 0, none⟩)] W fun e w' => e = .returned (.int .i64 k) ∧ RWent B w g A { x with u := u } w') := fun W hW => (hch W hW).mono fun e w' ⟨h1, h2⟩ => ⟨h1, Went.from h2 hW⟩
  have hcap := own_cap hC.row
  unfold maxLen at hcap
  have hld : (dropL x.l b).length ≤ x.l.length := List.length_filter_le _ _
  have hl2 : (dropL x.l b).length ≤ 1000 := by omega
  have Hage : Hid (∀ k, k < (dropL x.l b).length → 0 ≤ (rn (dropL x.l b) k).a ∧ (rn (dropL x.l b) k).a ≤ 1000000000) := fun k hk => hage _ (List.mem_filter.1 (rn_mem hk)).1
  have hfar := far_le x.s b.toNat x.n hs (by omega) hn hn64
  have Hw : Hid (∀ W A2 c2, RAt B W g A2 c2 { x with u := u } → Calls Try.prog 55 #[.pointer (some ⟨g, 0, none⟩), .int .i64 b] W fun e w' => e = .returned (.int .i64 (far x.s b.toNat x.n : Nat)) ∧ Below W.heap.size W w') := fun W A2 c2 h => raway_any B g A2 c2 { x with u := u } b W h hs hn hn64 hb0 hb1
  have Hdrop : Hid (∀ W q, RWent B w g A { x with u := u } W → q = (x.m : Int) + (far x.s b.toNat x.n : Nat) → Calls Try.prog 56 #[.pointer (some ⟨g, 0, none⟩), .int .i64 k] ((W.setCell ⟨g, 4, none⟩ (.int .i64 q)).setCell ⟨g, 2, none⟩ (.int .i64 b)) fun e w' => e = .returned (.tuple #[]) ∧
      RWent B w g A ⟨x.p, x.n, b.toNat, x.m + far x.s b.toNat x.n, u, dropL x.l b⟩ w') := fun W q ⟨A2, c2, h1, h2, h3⟩ hq => by
    obtain ⟨r1, k1⟩ := field B g A2 c2 _ W (y := ⟨x.p, x.n, x.s, x.m + far x.s b.toNat x.n, u, x.l⟩) (j := 4) (v := .int .i64 q) h1 rfl (fun v => by subst hq; rfl)
    obtain ⟨r2, k2⟩ := field B g A2 c2 _ _ (y := ⟨x.p, x.n, b.toNat, x.m + far x.s b.toNat x.n, u, x.l⟩) (j := 2) (v := .int .i64 b) r1 rfl (fun v => by
      show (hR _ v).setIfInBounds 2 _ = #[.int .u8 x.p, .int .i64 x.n, .int .i64 (b.toNat : Int), .bool (!u), .int .i64 _, v]
      rw [show ((b.toNat : Int)) = b by omega]; rfl)
    have hk2 := (h2.trans k1 (fun k q => .inl (.inl q))).trans k2 (fun k q => .inl (.inl q))
    refine (rdrop_any B g A2 c2 ⟨x.p, x.n, b.toNat, x.m + far x.s b.toNat x.n, u, x.l⟩ _ k hk r2 hl (Nat.le_trans hB hk2.size)).mono ?_
    rintro e w' ⟨e1, A3, c3, h4, h5, h6⟩
    have hOf : ∀ k, Of g A2 k → Of g A k ∨ w.heap.size ≤ k := fun k q => by rcases q with q | q; exact .inl (.inl q); rcases h3 k q with q | q; exact .inl (.inr q); exact .inr q
    refine ⟨e1, A3, c3, ?_, hk2.trans h5 hOf, fun k e => by rcases h6 k e with q | q; exact h3 k q; exact .inr (Nat.le_trans hk2.size q)⟩
    have := erase_is hnd hk
    rw [hbk] at this
    rw [← this]
    exact h4
  have Hend : Hid (∀ W A2 c2, RAt B W g A2 c2 ⟨x.p, x.n, b.toNat, x.m + far x.s b.toNat x.n, u, ageK (dropL x.l b) (dropL x.l b).length⟩ → RAt B W g A2 c2 (x.gone b u)) := fun W A2 c2 h => by
    unfold Ar.gone
    rw [← ageK_all]
    exact h
  have h0i : ((x.l.length : Int) == 0) = false := by rw [beq_eq_false_iff_ne]; omega
  have h0n : (x.l.length == 0) = false := by rw [beq_eq_false_iff_ne]; omega
  obtain ⟨d, hd⟩ : ∃ d, d = far x.s b.toNat x.n := ⟨_, rfl⟩
  rw [← hd] at hfar Hw Hdrop Hend
  obtain ⟨L, hL⟩ : ∃ L, L = dropL x.l b := ⟨_, rfl⟩
  rw [← hL] at Hdrop Hage hl2 Hend
  skip
  generalize x.gone b u = xg at *
  obtain ⟨xp, xn, xs, xm, xu, l⟩ := x
  dsimp only at *
  have Hnat := Lib.hid (show b.toNat = b.toNat from rfl)
  generalize b.toNat = bn at Hdrop Hend
  clear hC hd hL hage hld hb0 hb1 hs hn hn64 hnd Hnat hch
  go_enter Try.func40, Try.ntmps40
  go_wp2
  go_loopw [4, 5] (fun t i wr => ∃ r : Nat, r ≤ l.length ∧ ((r = 0 ∧ i = .int .i64 (-1)) ∨ ∃ q : Nat, r = q + 1 ∧ i = .int .i64 q) ∧ t = .int .i64 (oldFrom l (l.length - r)) ∧ Below w.heap.size w wr) (fun _ i _ => (intOf i + 1).toNat)
  case atStart => exact ⟨l.length, Nat.le_refl _, .inr ⟨l.length - 1, by omega, by congr 1; omega⟩, by rw [Nat.sub_self]; rfl, Below.refl _ _⟩
  case round =>
    obtain ⟨r, hr, hi, rfl, hB⟩ := hrel
    rename World => wr
    have HB := Lib.hid hB
    have hsr : wr.cell? ⟨g, 5, none⟩ = some (.slice A l.length c) := (hB.cell (p := ⟨g, 5, none⟩) hg).trans cs
    rcases hi with ⟨rfl, rfl⟩ | ⟨q, rfl, rfl⟩
    · clear cs hr

      have hof' : oldFrom l (l.length - 0) = -1 := by rw [Nat.sub_zero]; exact hof
      rw [hof']
      have hg1 : g < wr.heap.size := Nat.lt_of_lt_of_le hg hB.size
      clear hB cS cU hof hof'
      go_upto_region 14 with (go_at_call 54; refine (HCh.out _ HB.out).mono ?_; rintro e w2 ⟨rfl, hw2⟩; have HU := Lib.hid hw2; clear hw2)

      obtain ⟨A2, c2, hP2, hK2, hO2⟩ := HU.out
      have HP2 := Lib.hid hP2
      have hg2 := hP2.glt
      obtain ⟨_, _, z2, _, z4, z5⟩ := rcells hP2
      dsimp only at z2 z4 z5
      obtain ⟨ab, hA2, q3, q4, qb, _, y0, _, _⟩ := hP2.row.at_ hk
      dsimp only at y0 q3
      subst hA2
      rw [hbk] at y0
      have v4 := hP2.free 4
      have v2 := hP2.free 2
      unfold maxLen at q4
      have hki : (k : Int) < (l.length : Int) := by omega
      have hk0 : (0 : Int) ≤ (k : Int) := by omega
      have HwP := Lib.hid (fun W hW => Hw.out W (some ⟨ab, 0, none⟩) c2 (HP2.out.fresh (w' := W) hW))
      have HDr := Lib.hid (fun W (hW : Below _ _ W) q => Hdrop.out W q ⟨some ⟨ab, 0, none⟩, c2, HP2.out.fresh hW, hK2.trans (Kept.fresh hW) (fun k q => .inl q), hO2⟩)
      clear hP2 hK2 hO2 HU
      generalize hw2 : w2 = wz at *
      clear hw2
      go_upto_region 15 with fail
      go_cut [] from 74 to 83 (fun wx => ∃ w5, wx = w5.setCell ⟨g, 4, none⟩ (.int .i64 ((xm : Int) + (d : Nat))) ∧ Below wz.heap.size wz w5)
      case first =>
        go_region_with (go_at_call 55; refine (HwP.out _ (Below.refl _ _).drew).mono ?_; rintro e w5 ⟨rfl, hb5⟩; have HB5 := Lib.hid ((Below.refl wz.heap.size wz).drew.trans hb5); have d4 : w5.cell? ⟨g, 4, none⟩ = some (.int .i64 xm) := (hb5.cell (p := ⟨g, 4, none⟩) hg2).trans z4; have g4 := (hb5.frozen (p := ⟨g, 4, none⟩) hg2).trans v4; have hg5 : g < w5.heap.size := Nat.lt_of_lt_of_le hg2 hb5.size; clear hb5)
        all_goals
          go_wp2_with fail
          go_meet
          exact ⟨_, by rw [IntWalk.i64_in _ (by omega)], HB5.out⟩
      case rest =>
        obtain ⟨w5, rfl, hB5⟩ := hcut
        have HB5 := Lib.hid hB5
        have d2 := (hB5.cell (p := ⟨g, 2, none⟩) hg2).trans z2
        have g2 := (hB5.frozen (p := ⟨g, 2, none⟩) hg2).trans v2
        have hg5 : g < w5.heap.size := Nat.lt_of_lt_of_le hg2 hB5.size
        clear hB5
        go_wp2_with (go_at_call 56; refine (HDr.out w5 HB5.out _ rfl).mono ?_; rintro e w6 ⟨rfl, A3, c3, h6, k6, o6⟩; have H6 := Lib.hid h6; have K6 := Lib.hid k6; have O6 := Lib.hid o6; clear h6 k6 o6)
        go_loopw [8] (fun i wr => ∃ k : Nat, k ≤ L.length ∧ i = .int .i64 k ∧ Hid (RAt B wr g A3 c3 ⟨xp, xn, bn, xm + d, u, ageK L k⟩) ∧ Hid (Kept w wr (Of g A))) (fun i _ => L.length - (intOf i).toNat)
        case atStart => exact ⟨0, Nat.zero_le _, rfl, H6.out, K6.out⟩
        case round =>
          obtain ⟨k2, hk2, rfl, hP, hK⟩ := hrel
          rename World => wr2
          have hsz := hP.out.glt
          have sr : wr2.cell? ⟨g, 5, none⟩ = some (.slice A3 L.length c3) := by
            have := (rcells hP.out).2.2.2.2.2
            dsimp only at this
            rwa [length_ageK] at this
          by_cases hlt : k2 < L.length
          · have hlti : (k2 : Int) < (L.length : Int) := by omega
            have hk20 : (0 : Int) ≤ (k2 : Int) := by omega
            obtain ⟨ab3, hA3, h33, h34, hb3, hBb3, _, q1, hfz⟩ := hP.out.row.at_ (show k2 < (ageK L k2).length by rw [length_ageK]; exact hlt)
            subst hA3
            have hf1 := hfz (k2 * 2 + 1)
            obtain ⟨ha0, ha1⟩ := Hage.out k2 hlt
            have er : rn (ageK L k2) k2 = rn L k2 := by rw [rn_ageK L k2 k2 hlt, if_neg (Nat.lt_irrefl k2)]
            have Hst : Hid (∀ q, q = (rn L k2).a + 1 → RAt B (wr2.setCell ⟨ab3, k2 * 2 + 1, none⟩ (.int .i64 q)) g (some ⟨ab3, 0, none⟩) c3 ⟨xp, xn, bn, xm + d, u, ageK L (k2 + 1)⟩ ∧ Kept w (wr2.setCell ⟨ab3, k2 * 2 + 1, none⟩ (.int .i64 q)) (Of g A)) := fun q hq => by
              refine ⟨RAt.age hP.out (show k2 < (ageK L k2).length by rw [length_ageK]; exact hlt) (by show q = (rn (ageK L k2) k2).a + 1; rw [er, hq]) rfl, ?_⟩
              refine hK.out.trans (Kept.set wr2 ab3 (k2 * 2 + 1) _) (fun b q => ?_)
              subst q
              rcases O6.out b rfl with q | q
              · exact .inl (.inr q)
              · exact .inr q
            have hgn : g ≠ ab3 := fun e => hP.out.apart (by rw [e]; rfl)
            rw [er] at q1
            clear hP hfz er
            rw [length_ageK] at h33
            unfold maxLen at h34
            generalize (rn L k2).a = ra at *
            go_wp2
            go_roundw
            case rel => exact ⟨k2 + 1, by omega, by go_num, (Hst.out _ rfl).1, (Hst.out _ rfl).2⟩
            case measure => simp [intOf]; omega
          · obtain rfl : k2 = L.length := by omega
            have hlti : ¬ (L.length : Int) < (L.length : Int) := by omega
            have HF := Lib.hid (Hend.out _ _ _ hP.out)
            clear hP
            go_wp2
            go_ret2
            exact ⟨rfl, A3, c3, HF.out, hK.out, O6.out⟩
    · have hq : q < l.length := by omega
      have hqi : (q : Int) < (l.length : Int) := by omega
      have hq0 : (0 : Int) ≤ (q : Int) := by omega
      obtain ⟨ab, hA, h3, h4, hb, _, _, c1, _⟩ := (show RowQ 81 wr B A c l from HR0.out.fresh hB).at_ hq
      subst hA
      have Hs := Lib.hid (oldFrom_step hq)
      unfold maxLen at h4
      cases ho : old (rn l q) with
      | true =>
        have Hs2 : Hid (oldFrom l (l.length - q) = (q : Int)) := by unfold Hid; rw [Hs.out, ho, if_pos rfl]
        have h12 : (12 : Int) ≤ (rn l q).a := of_decide_eq_true ho
        clear ho Hs hB cs cS cU 
        generalize (rn l q).a = ra at *
        generalize oldFrom l (l.length - (q + 1)) = z at *
        go_wp2
        go_roundw
        case rel => exact ⟨q, by omega, by (by_cases e : q = 0; exact .inl ⟨e, by subst e; rfl⟩; exact .inr ⟨q - 1, by omega, by congr 1; omega⟩), by rw [Hs2.out], HB.out⟩
        case measure => simp [intOf]
      | false =>
        have Hs2 : Hid (oldFrom l (l.length - q) = oldFrom l (l.length - (q + 1))) := by unfold Hid; rw [Hs.out, ho, if_neg (by decide)]
        have h12 : decide ((12 : Int) ≤ (rn l q).a) = false := ho
        clear ho Hs hB cs cS cU 
        generalize (rn l q).a = ra at *
        obtain ⟨z, hz⟩ : ∃ z, z = oldFrom l (l.length - (q + 1)) := ⟨_, rfl⟩
        rw [← hz] at Hs2 ⊢
        clear hz
        go_wp2
        go_roundw
        case rel => exact ⟨q, by omega, by (by_cases e : q = 0; exact .inl ⟨e, by subst e; rfl⟩; exact .inr ⟨q - 1, by omega, by congr 1; omega⟩), by rw [Hs2.out], HB.out⟩
        case measure => simp [intOf]
end Go.Proofs.Ytpelocpjfmmceaa
