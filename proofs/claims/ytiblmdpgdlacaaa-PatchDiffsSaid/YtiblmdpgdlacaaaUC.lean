/- The document's own 'Diff'. -/
import Derived.Test.YtiblmdpgdlacaaaUB
import Derived.Laws.Concat
namespace Go.Proofs.Ytiblmdpgdlacaaa
open Go.RowKit

theorem segs_last {d : Nat → Bool} : ∀ k, 0 < k → d (k - 1) = true → ∃ L f, f < k ∧ segs d k = L ++ [(f, k)] := by
  intro k
  induction k with
  | zero => intro h; omega
  | succ k ih =>
    intro _ hd
    have hd' : d k = true := hd
    by_cases h : 0 < k ∧ d (k - 1) = true
    · obtain ⟨L, f, hf, e⟩ := ih h.1 h.2
      refine ⟨L, f, by omega, ?_⟩
      rw [segs_more hd' h.1 h.2, e]
      simp
    · have h2 : k = 0 ∨ d (k - 1) = false := by
        by_cases h0 : k = 0
        · exact .inl h0
        · refine .inr ?_
          cases h3 : d (k - 1) with
          | false => rfl
          | true => exact absurd ⟨by omega, h3⟩ h
      exact ⟨segs d k, k, by omega, segs_new hd' h2⟩
theorem strOf_append (x y : List Int) : strOfNums x ++ strOfNums y = strOfNums (x ++ y) := by
  have h : (strOfNums x ++ strOfNums y).data = (strOfNums (x ++ y)).data := by
    rw [ByteArray.data_append]
    simp [strOfNums]
  generalize strOfNums x ++ strOfNums y = u at h
  generalize strOfNums (x ++ y) = v at h
  cases u; cases v
  simp_all
theorem part_one (l : List Int) (k : Nat) (h : k < l.length) : part l k (k + 1) = [nth l k] := by rw [part_succ l k k (Nat.le_refl _) h, part_nil]; rfl
theorem cutP_grow (bl : Int) (b : List Int) (f k : Nat) (h : f ≤ k) (hk : k < b.length) : (⟨bl, f, (cutP bl b f k).s ++ strOfNums (part b k (k + 1))⟩ : Pt) = cutP bl b f (k + 1) := by
  show (⟨bl, f, strOfNums (part b f k) ++ strOfNums (part b k (k + 1))⟩ : Pt) = ⟨bl, f, strOfNums (part b f (k + 1))⟩
  rw [strOf_append, part_one b k hk, part_succ b f k h hk]
/-- the last row grows -/
theorem diffP_more {bl : Int} {b : List Int} {d : Nat → Bool} {k : Nat} (h : d k = true) (h1 : 0 < k) (h2 : d (k - 1) = true) : ∃ L f, f < k ∧ diffP bl b d k = L ++ [cutP bl b f k] ∧ diffP bl b d (k + 1) = L ++ [cutP bl b f (k + 1)] := by
  obtain ⟨L, f, hf, e⟩ := segs_last k h1 h2
  refine ⟨L.map (segP bl b), f, hf, ?_, ?_⟩
  · unfold diffP; rw [e, List.map_append]; rfl
  · unfold diffP; rw [segs_more h h1 h2, e]; simp [segP]
theorem diffP_new {bl : Int} {b : List Int} {d : Nat → Bool} {k : Nat} (h : d k = true) (h2 : k = 0 ∨ d (k - 1) = false) : diffP bl b d (k + 1) = diffP bl b d k ++ [cutP bl b k (k + 1)] := by
  unfold diffP; rw [segs_new h h2, List.map_append]; rfl
theorem ptsV_grow (L : List Pt) (p : Pt) (s : ByteArray) : (ptsV (L ++ [p])).set (L.length * 3 + 2) (.string s) = ptsV (L ++ [⟨p.b, p.o, s⟩]) := by
  have hl := length_ptsV L
  rw [ptsV_snoc, ptsV_snoc, List.set_append, if_neg (by omega), hl, show L.length * 3 + 2 - L.length * 3 = 2 by omega]
  rfl

theorem refdiff_bad (bl : Int) (A A2 : Option Addr) (n c m c2 : Nat) (w : World) (h : n ≠ 32 ∨ m ≠ 32 ∨ bl < 0 ∨ 96 ≤ bl) :
    Calls Try.prog 30 #[.int .i64 bl, .slice A n c, .slice A2 m c2] w fun e w' => e = .returned (.slice none 0 0) ∧ w = w' := by
  by_cases h1 : n = 32
  · by_cases h2 : m = 32
    · subst h1 h2
      by_cases hb : bl < 0
      · clear h
        go_enter Try.func30, Try.ntmps30
        go_wp2
        go_ret
        exact ⟨rfl, rfl⟩
      · have hb2 : (96 : Int) ≤ bl := by omega
        clear h
        go_enter Try.func30, Try.ntmps30
        go_wp2
        go_ret
        exact ⟨rfl, rfl⟩
    · have h0 : ((m : Int) == 32) = false := by rw [beq_eq_false_iff_ne]; omega
      have h3 : (m == 32) = false := by rw [beq_eq_false_iff_ne]; exact h2
      have h4 : ¬ (m : Int) = 32 := by omega
      subst h1
      clear h
      go_enter Try.func30, Try.ntmps30
      go_wp2
      go_ret
      exact ⟨rfl, rfl⟩
  · have h0 : ((n : Int) == 32) = false := by rw [beq_eq_false_iff_ne]; omega
    have h3 : (n == 32) = false := by rw [beq_eq_false_iff_ne]; exact h1
    have h4 : ¬ (n : Int) = 32 := by omega
    clear h
    go_enter Try.func30, Try.ntmps30
    go_wp2
    go_ret
    exact ⟨rfl, rfl⟩

set_option maxRecDepth 100000 in
set_option maxHeartbeats 4000000 in
theorem refdiff_yes (bl : Int) (A A2 : Option Addr) (c c2 : Nat) (a b : List Int) (w : World) (hb0 : 0 ≤ bl) (hb1 : bl < 96) (h1 : Bts w w.heap.size A a) (h2 : Bts w w.heap.size A2 b) (ha : a.length = 32) (hb : b.length = 32) (hc2 : 32 ≤ c2) :
    Calls Try.prog 30 #[.int .i64 bl, .slice A 32 c, .slice A2 32 c2] w fun e w' => ∃ v, e = .returned v ∧ OwnP w' w.heap.size v (diffP bl b (df a b) 32) ∧ Below w.heap.size w w' := by
  obtain ⟨i0, hi, hz0, hz1, hz2⟩ := info_parts info24'
  obtain ⟨ba, oa, rfl, hba, _⟩ := h1.at_ (show 0 < a.length by omega)
  obtain ⟨bb, ob, rfl, hbb, _⟩ := h2.at_ (show 0 < b.length by omega)
  have hca : ∀ W, Below w.heap.size w W → ∀ j, j < 32 → W.cell? ⟨ba, oa + j, none⟩ = some (.int .u8 (nth a j)) := fun W hW j hj => by
    obtain ⟨b', o', e, _, hc⟩ := (h1.below hW).at_ (show j < a.length by omega)
    injection e with e; injection e with e1 e2; subst e1; subst e2
    exact hc
  have hcb : ∀ W, Below w.heap.size w W → ∀ j, j < 32 → W.cell? ⟨bb, ob + j, none⟩ = some (.int .u8 (nth b j)) := fun W hW j hj => by
    obtain ⟨b', o', e, _, hc⟩ := (h2.below hW).at_ (show j < b.length by omega)
    injection e with e; injection e with e1 e2; subst e1; subst e2
    exact hc
  have HCA := Lib.hid hca
  have HCB := Lib.hid hcb
  have HT : Hid (∀ W, Below w.heap.size w W → ∀ k c', k < 32 → (convert 22 9 (.slice (some ⟨bb, ob + k, none⟩) 1 c')).run Try.prog W = .ok (.string (strOfNums (part b k (k + 1)))) W) := fun W hW k c' hk => by
    have := text_part (h2.below hW) k (k + 1) c' (by omega) (by omega) 22 Try.underlying22
    rwa [show k + 1 - k = 1 by omega] at this
  have CG : Hid (∀ f k : Nat, f ≤ k → k < 32 → (⟨bl, f, (cutP bl b f k).s ++ strOfNums (part b k (k + 1))⟩ : Pt) = cutP bl b f (k + 1)) := fun f k h h' => cutP_grow bl b f k h (by omega)
  obtain ⟨d, hd⟩ : ∃ d, d = df a b := ⟨_, rfl⟩
  have Hd : Hid (∀ i, d i = (nth a i != nth b i)) := fun i => by rw [hd]; rfl
  rw [← hd]
  obtain ⟨D, hD⟩ : ∃ D : Nat → List Pt, D = diffP bl b d := ⟨_, rfl⟩
  have D0 : Hid (D 0 = []) := by unfold Hid; rw [hD]; rfl
  have DM : Hid (∀ k, d k = true → 0 < k → d (k - 1) = true → ∃ L f, f < k ∧ D k = L ++ [cutP bl b f k] ∧ D (k + 1) = L ++ [cutP bl b f (k + 1)]) := fun k x y z => by rw [hD]; exact diffP_more x y z
  have DW : Hid (∀ k, d k = true → (k = 0 ∨ d (k - 1) = false) → D (k + 1) = D k ++ [cutP bl b k (k + 1)]) := fun k x y => by rw [hD]; exact diffP_new x y
  have DN : Hid (∀ k, d k = false → D (k + 1) = D k) := fun k h => by rw [hD]; exact diffP_no h
  have DL : Hid (∀ k, (D k).length ≤ k) := fun k => by rw [hD]; exact length_diffP _ _ _ _
  have e32 : diffP bl b d 32 = D 32 := by rw [hD]
  rw [e32]
  clear hca hcb h1 h2 ha hb hd hD e32
  go_enter Try.func30, Try.ntmps30
  go_wp2
  go_loopw [7, 8] (fun v i wr => ∃ k : Nat, k ≤ 32 ∧ i = .int .i64 k ∧ OwnP wr w.heap.size v (D k) ∧ Below w.heap.size w wr) (fun _ i _ => 32 - (intOf i).toNat)
  case atStart => exact ⟨0, by omega, rfl, by rw [D0.out]; exact World.ownsRow_nil _ _ _ _, Below.refl _ _⟩
  case round =>
    obtain ⟨k, hk, rfl, hown, hB⟩ := hrel
    rename World => wr
    have O := Lib.hid hown
    have HB := Lib.hid hB
    clear hown hB
    by_cases hlt : k < 32
    · have hlti : (k : Int) < 32 := by omega
      have hk0 : (0 : Int) ≤ (k : Int) := by omega
      have ca := HCA.out wr HB.out k hlt
      have cb := HCB.out wr HB.out k hlt
      have hdj := Hd.out k
      obtain ⟨x, hx⟩ : ∃ x, x = nth a k := ⟨_, rfl⟩
      obtain ⟨y, hy⟩ : ∃ y, y = nth b k := ⟨_, rfl⟩
      rw [← hx] at ca hdj
      rw [← hy] at cb hdj
      clear hx hy
      by_cases hxy : x = y
      · subst hxy
        have Hdj : Hid (d k = false) := by unfold Hid; rw [hdj]; simp
        clear hdj
        go_wp2_with fail
        go_quiet (fail)
        have ON := Lib.hid (show OwnP (wr.drewN nq) w.heap.size u7 (D k) from O.out)
        have HBn := Lib.hid (HB.out.trans ((drewN_below wr.heap.size wr nq).mono HB.out.size))
        go_wp2
        go_roundw
        case rel => exact ⟨k + 1, by omega, by go_num, by rw [DN.out k Hdj.out]; exact ON.out, HBn.out⟩
        case measure => simp [intOf]; omega
      · have hne : (x == y) = false := by rw [beq_eq_false_iff_ne]; exact hxy
        have hne2 : (x != y) = true := by simp [bne, hne]
        have Hdj : Hid (d k = true) := by unfold Hid; rw [hdj]; exact hne2
        clear hdj
        by_cases h0 : 0 < k
        · have h0i : (0 : Int) < (k : Int) := by omega
          have hk1 : IntKind.i64.wrap ((k : Int) - 1) = ((k - 1 : Nat) : Int) := by rw [IntWalk.i64_in _ (by omega)]; omega
          have hp0 : (0 : Int) ≤ ((k - 1 : Nat) : Int) := by omega
          have hp1 : ((k - 1 : Nat) : Int) < 32 := by omega
          have hd1 := Hd.out (k - 1)
          have hlk := DL.out k
          go_wp2_with fail
          go_quiet (fail)
          obtain ⟨wz, hwz⟩ : ∃ wz, wz = wr.drewN nq := ⟨_, rfl⟩
          have ON : Hid (OwnP wz w.heap.size u7 (D k)) := by rw [hwz]; exact O.out
          have HBn : Hid (Below w.heap.size w wz) := by rw [hwz]; exact HB.out.trans ((drewN_below wr.heap.size wr nq).mono HB.out.size)
          rw [← hwz]
          clear hwz ca cb
          have ca1 := HCA.out wz HBn.out (k - 1) (by omega)
          have cb1 := HCB.out wz HBn.out (k - 1) (by omega)
          obtain ⟨x1, hx1'⟩ : ∃ x, x = nth a (k - 1) := ⟨_, rfl⟩
          obtain ⟨y1, hy1'⟩ : ∃ y, y = nth b (k - 1) := ⟨_, rfl⟩
          rw [← hx1'] at ca1 hd1
          rw [← hy1'] at cb1 hd1
          obtain ⟨k1, hkk⟩ : ∃ k1, k1 = k - 1 := ⟨_, rfl⟩
          rw [← hkk] at hk1 hp0 hp1 hd1 ca1 cb1
          have Hkk := Lib.hid hkk
          clear hx1' hy1' hkk
          by_cases hxy1 : x1 = y1
          · have Hdk : Hid (d (k - 1) = false) := by rw [← Hkk.out]; unfold Hid; rw [hd1, hxy1]; simp
            have hne1 : (x1 == y1) = true := by simp [hxy1]
            have hne1' : (x1 != y1) = false := by simp [hxy1]
            clear hd1
            have DWk := Lib.hid (DW.out k Hdj.out (.inr Hdk.out))
            go_wp2_with fail
            go_quiet (fail)
            obtain ⟨wy, hwy⟩ : ∃ wy, wy = wz.drewN nq := ⟨_, rfl⟩
            have OY : Hid (OwnP wy w.heap.size u7 (D k)) := by rw [hwy]; exact ON.out
            have HBy : Hid (Below w.heap.size w wy) := by rw [hwy]; exact HBn.out.trans ((drewN_below wz.heap.size wz nq).mono HBn.out.size)
            rw [← hwy]
            clear hwy
            have hcv := fun c' => HT.out wy HBy.out k c' hlt
            have hx1 : ((k : Int) + 1).toNat = k + 1 := by omega
            have hkc : (k : Int) + 1 ≤ (c2 : Int) := by omega
            have hck : ¬ c2 = k := by omega
            obtain ⟨r, hr⟩ : ∃ r : Pt, r = cutP bl b k (k + 1) := ⟨_, rfl⟩
            have hrr : r.b = bl ∧ r.o = (k : Int) ∧ r.s = strOfNums (part b k (k + 1)) := by rw [hr]; exact ⟨rfl, rfl, rfl⟩
            have Hrr := Lib.hid hrr
            rw [← hr] at DWk
            rw [← hrr.2.2] at hcv
            clear hr hrr
            obtain ⟨rb, ro, rs⟩ := r
            obtain ⟨rfl, rfl, -⟩ := Hrr.out
            simp only at hcv
            go_wp2_with (at_builtin; refine wpList_append_own _ rfl _ _ 34 rfl w.heap.size 24 i0 (.agg #[.int .i64 0, .int .i64 0, .string ⟨#[]⟩]) 3 32 Try.underlying34 hi hz0 hz1 hz2 rfl (by decide) _ _ _ rfl (World.ownsRow.alloc OY.out _) ⟨wy.heap.size, 0, none⟩ 1 1 [.int .i64 rb, .int .i64 (k : Int), .string rs] rfl rfl (cells_new wy _ 24) (by simp [Value.oneCell']) (by unfold maxLen; omega) (by omega) (by have := HBy.out.size; simp; omega) ?_)
            intro v' w9 hown' hgrow _
            have hg9 : wy.grownBy w9 _ := (World.grownBy_alloc wy _ _).trans hgrow
            have HB9 := Lib.hid (HBy.out.grown hg9 HBy.out.size (fun i hi => (World.ownsRow.lt OY.out i hi).1))
            have O9 : Hid (OwnP w9 w.heap.size v' (D (k + 1))) := by
              unfold Hid OwnP
              rw [DWk.out, ptsV_snoc, List.length_append]
              exact hown'
            clear hown' hgrow hg9
            go_wp2
            go_roundw
            case rel => exact ⟨k + 1, by omega, by go_num, O9.out, HB9.out⟩
            case measure => simp [intOf]; omega
          · have hne1 : (x1 == y1) = false := by rw [beq_eq_false_iff_ne]; exact hxy1
            have hne1' : (x1 != y1) = true := by simp [bne, hne1]
            have Hdk : Hid (d k1 = true) := by unfold Hid; rw [hd1]; exact hne1'
            clear hd1
            go_wp2_with fail
            go_quiet (fail)
            obtain ⟨wy, hwy⟩ : ∃ wy, wy = wz.drewN nq := ⟨_, rfl⟩
            have OY : Hid (OwnP wy w.heap.size u7 (D k)) := by rw [hwy]; exact ON.out
            have HBy : Hid (Below w.heap.size w wy) := by rw [hwy]; exact HBn.out.trans ((drewN_below wz.heap.size wz nq).mono HBn.out.size)
            rw [← hwy]
            clear hwy
            have hcv := fun c' => HT.out wy HBy.out k c' hlt
            have hx1 : ((k : Int) + 1).toNat = k + 1 := by omega
            have hkc : (k : Int) + 1 ≤ (c2 : Int) := by omega
            have hck : ¬ c2 = k := by omega
            obtain ⟨L, f, hfk, e1, e2⟩ := DM.out k Hdj.out h0 (by rw [← Hkk.out]; exact Hdk.out)
            have E2 := Lib.hid e2
            have OL : OwnP wy w.heap.size u7 (L ++ [cutP bl b f k]) := by rw [← e1]; exact OY.out
            have hLl : L.length + 1 ≤ 32 := by have := DL.out k; rw [e1] at this; simp at this; omega
            have HCG := Lib.hid (CG.out f k (by omega) hlt)
            clear e1 e2 hlk
            unfold OwnP at OL
            have hL1 : (L ++ [cutP bl b f k]).length = L.length + 1 := by simp
            rw [hL1] at OL
            obtain ⟨g, cap, rfl, hg1, hg2⟩ := OL.form (by omega)
            have hcell : wy.cell? ⟨g, L.length * 3 + 2, none⟩ = some (.string (cutP bl b f k).s) := by
              rw [OL.cellAt _ (by omega)]
              have := (ptsV_at (L ++ [cutP bl b f k]) L.length (by simp)).2.2
              rw [this, pn_lt (by simp)]
              simp
            have hfro : wy.frozen? ⟨g, L.length * 3 + 2, none⟩ = false := OL.frozenAt _
            have hst := OL.stored (L.length * 3 + 2) (.string ((cutP bl b f k).s ++ strOfNums (part b k (k + 1))))
            have Hst := Lib.hid hst
            have OLh := Lib.hid OL
            obtain ⟨m, hm⟩ : ∃ m, m = L.length := ⟨_, rfl⟩
            rw [← hm] at hcell hfro hLl
            have hm1 : IntKind.i64.wrap (((m + 1 : Nat) : Int) - 1) = (m : Int) := by rw [IntWalk.i64_in _ (by omega)]; omega
            have hm0 : (0 : Int) ≤ (m : Int) := by omega
            have hm2 : (m : Int) < ((m + 1 : Nat) : Int) := by omega
            obtain ⟨ps, hps⟩ : ∃ ps, ps = (cutP bl b f k).s := ⟨_, rfl⟩
            obtain ⟨qs, hqs⟩ : ∃ qs, qs = strOfNums (part b k (k + 1)) := ⟨_, rfl⟩
            rw [← hps] at hcell
            rw [← hqs] at hcv
            have HH : Hid (L.length = m ∧ (cutP bl b f k).s = ps ∧ strOfNums (part b k (k + 1)) = qs) := ⟨hm.symm, hps.symm, hqs.symm⟩
            rw [HH.out.1] at Hst ⊢
            clear hst OL OLh hL1 hm hps hqs
            have hcv' : ∀ c', (convert 22 9 (.slice (some ⟨bb, ob + k, none⟩) 1 c')).run Try.prog wy.drew = .ok (.string qs) wy.drew := fun c' => by
              have := HT.out wy.drew HBy.out.drew k c' hlt
              rwa [HH.out.2.2] at this
            have hpq : ps.size ≤ 40 ∧ qs.size ≤ 40 := by
              rw [← HH.out.2.1, ← HH.out.2.2]
              have e1 : (cutP bl b f k).s = strOfNums (part b f k) := rfl
              rw [e1, strOfNums_size, strOfNums_size]
              simp only [part, List.length_drop, List.length_take]
              omega
            have hadd := fun w9 => run_string_add_sum (P := Try.prog) w9 ps qs (by omega)
            clear hpq
            go_wp2_with fail
            go_region
            all_goals go_wp2
            go_roundw
            case rel =>
              refine ⟨k + 1, by omega, by go_num, ?_, (HBy.out.setCell (p := ⟨g, m * 3 + 2, none⟩) hg1 _).drew⟩
              have hp := ptsV_grow L (cutP bl b f k) ((cutP bl b f k).s ++ strOfNums (part b k (k + 1)))
              have hp' : (ptsV (L ++ [cutP bl b f k])).set (L.length * 3 + 2) (.string ((cutP bl b f k).s ++ strOfNums (part b k (k + 1)))) = ptsV (L ++ [cutP bl b f (k + 1)]) := by
                rw [hp]
                exact congrArg (fun r => ptsV (L ++ [r])) HCG.out
              have h := Hst.out.1.drew
              rw [HH.out.1] at hp'
              rw [hp', HH.out.2.1, HH.out.2.2] at h
              unfold OwnP
              rw [E2.out, List.length_append, HH.out.1]
              exact h
            case measure => simp [intOf]; omega
        · have h0i : ¬ (0 : Int) < (k : Int) := by omega
          have h0d : decide ((0 : Int) < (k : Int)) = false := by simpa using h0i
          have DWk := Lib.hid (DW.out k Hdj.out (.inl (by omega)))
          have hlk := DL.out k
          go_wp2_with fail
          go_quiet (fail)
          obtain ⟨wz, hwz⟩ : ∃ wz, wz = wr.drewN nq := ⟨_, rfl⟩
          have ON : Hid (OwnP wz w.heap.size u7 (D k)) := by rw [hwz]; exact O.out
          have HBn : Hid (Below w.heap.size w wz) := by rw [hwz]; exact HB.out.trans ((drewN_below wr.heap.size wr nq).mono HB.out.size)
          rw [← hwz]
          clear hwz ca cb
          go_wp2_with fail
          go_quiet (fail)
          obtain ⟨wy, hwy⟩ : ∃ wy, wy = wz.drewN nq := ⟨_, rfl⟩
          have OY : Hid (OwnP wy w.heap.size u7 (D k)) := by rw [hwy]; exact ON.out
          have HBy : Hid (Below w.heap.size w wy) := by rw [hwy]; exact HBn.out.trans ((drewN_below wz.heap.size wz nq).mono HBn.out.size)
          rw [← hwy]
          clear hwy
          have hcv := fun c' => HT.out wy HBy.out k c' hlt
          have hx1 : ((k : Int) + 1).toNat = k + 1 := by omega
          have hkc : (k : Int) + 1 ≤ (c2 : Int) := by omega
          have hck : ¬ c2 = k := by omega
          obtain ⟨r, hr⟩ : ∃ r : Pt, r = cutP bl b k (k + 1) := ⟨_, rfl⟩
          have hrr : r.b = bl ∧ r.o = (k : Int) ∧ r.s = strOfNums (part b k (k + 1)) := by rw [hr]; exact ⟨rfl, rfl, rfl⟩
          have Hrr := Lib.hid hrr
          rw [← hr] at DWk
          rw [← hrr.2.2] at hcv
          clear hr hrr
          obtain ⟨rb, ro, rs⟩ := r
          obtain ⟨rfl, rfl, -⟩ := Hrr.out
          simp only at hcv
          go_wp2_with (at_builtin; refine wpList_append_own _ rfl _ _ 34 rfl w.heap.size 24 i0 (.agg #[.int .i64 0, .int .i64 0, .string ⟨#[]⟩]) 3 32 Try.underlying34 hi hz0 hz1 hz2 rfl (by decide) _ _ _ rfl (World.ownsRow.alloc OY.out _) ⟨wy.heap.size, 0, none⟩ 1 1 [.int .i64 rb, .int .i64 (k : Int), .string rs] rfl rfl (cells_new wy _ 24) (by simp [Value.oneCell']) (by unfold maxLen; omega) (by omega) (by have := HBy.out.size; simp; omega) ?_)
          intro v' w9 hown' hgrow _
          have hg9 : wy.grownBy w9 _ := (World.grownBy_alloc wy _ _).trans hgrow
          have HB9 := Lib.hid (HBy.out.grown hg9 HBy.out.size (fun i hi => (World.ownsRow.lt OY.out i hi).1))
          have O9 : Hid (OwnP w9 w.heap.size v' (D (k + 1))) := by
            unfold Hid OwnP
            rw [DWk.out, ptsV_snoc, List.length_append]
            exact hown'
          clear hown' hgrow hg9
          go_wp2
          go_roundw
          case rel => exact ⟨k + 1, by omega, by go_num, O9.out, HB9.out⟩
          case measure => simp [intOf]; omega
    · have hlti : ¬ (k : Int) < 32 := by omega
      obtain rfl : k = 32 := by omega
      go_wp2
      go_ret
      exact ⟨_, rfl, O.out, HB.out⟩
end Go.Proofs.Ytiblmdpgdlacaaa
