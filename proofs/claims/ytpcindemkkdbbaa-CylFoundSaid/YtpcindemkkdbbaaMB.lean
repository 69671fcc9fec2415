/- Contract of made: the walk. -/
import Derived.Test.YtpcindemkkdbbaaMA
namespace Go.Proofs.Ytpcindemkkdbbaa
set_option linter.unusedVariables false
set_option linter.unusedSimpArgs false
open Go.RowKit

set_option maxRecDepth 100000 in
set_option maxHeartbeats 4000000 in
theorem made_any (A1 : Option Addr) (c1 n1 : Nat) (l1 : List Int) (A2 : Option Addr) (c2 n2 : Nat) (l2 : List Int) (h1 : n1 = l1.length) (h2 : n2 = l2.length) (hn1 : n1 ≤ maxLen) (hn2 : n2 ≤ maxLen) (w : World)
    (hA : Bts w w.heap.size A1 l1) (hB : Bts w w.heap.size A2 l2) :
    Calls Try.prog 44 #[.slice A1 n1 c1, .slice A2 n2 c2] w (MadeSays w l1) := by
  obtain ⟨i0, hi, hz0, hz1, hz2⟩ := info_parts info24
  unfold maxLen at hn1 hn2
  have HC1 : Hid (∀ W, Below w.heap.size w W → ∀ k, k < n1 → ∃ b off x, A1 = some ⟨b, off, none⟩ ∧ b < W.heap.size ∧ nth l1 k = x ∧ 0 ≤ x ∧ x ≤ 255 ∧ W.cell? ⟨b, off + k, none⟩ = some (.int .u8 x)) := fun W hW k hk => by
    obtain ⟨b, off, e, hb, hc⟩ := hA.2 (by omega)
    have hr := hA.1 _ (nth_mem (k := k) (by omega))
    exact ⟨b, off, _, e, Nat.lt_of_lt_of_le hb hW.size, rfl, hr.1, hr.2, (hW.cell (p := ⟨b, off + k, none⟩) hb).trans (hc k (by omega))⟩
  have HC2 : Hid (∀ W, Below w.heap.size w W → ∀ k, k < n2 → ∃ b off x, A2 = some ⟨b, off, none⟩ ∧ b < W.heap.size ∧ 0 ≤ x ∧ x ≤ 255 ∧ ∀ W2, Below W.heap.size W W2 → W2.cell? ⟨b, off + k, none⟩ = some (.int .u8 x)) := fun W hW k hk => by
    obtain ⟨b, off, e, hb, hc⟩ := hB.2 (by omega)
    have hr := hB.1 _ (nth_mem (k := k) (by omega))
    exact ⟨b, off, _, e, Nat.lt_of_lt_of_le hb hW.size, hr.1, hr.2, fun W2 hW2 => ((hW.trans (hW2.mono hW.size)).cell (p := ⟨b, off + k, none⟩) hb).trans (hc k (by omega))⟩
  obtain ⟨M, hM⟩ : ∃ M, M = min n1 16 := ⟨_, rfl⟩
  have hM1 : M ≤ n1 := by omega
  have hM2 : M ≤ 16 := by omega
  have HM : Hid (M = min l1.length 16) := by unfold Hid; omega
  have HMx : Hid (M = n1 ∨ M = 16) := by unfold Hid; omega
  have HR : Hid (∀ x ∈ l1, 0 ≤ x ∧ x ≤ 255) := hA.1
  have HWh : Hid (1 ≤ M → Whole (emptyL l1 M)) := fun h => whole_emptyL h hM2 (by omega) hA.1
  have H1 := Lib.hid h1
  clear hA hB h1 h2 hM
  obtain ⟨Q, hQ⟩ : ∃ Q, Q = MadeSays w l1 := ⟨_, rfl⟩
  have HQ : Hid (∀ e w', MadeSays w l1 e w' → Q e w') := by unfold Hid; rw [hQ]; exact fun _ _ h => h
  rw [← hQ]
  clear hQ
  go_enter Try.func44, Try.ntmps44
  go_wp2_with fail
  go_loopw [5, 6] (fun v i wr => ∃ k : Nat, k ≤ M ∧ i = .int .i64 k ∧ ∃ R C, wr.ownsRow w.heap.size 24 7 v k (flat7 k (cellsC (emptyL l1 M) R C)) ∧ Below w.heap.size w wr) (fun _ i _ => M - (intOf i).toNat)
  case atStart => exact ⟨0, Nat.zero_le _, rfl, fun _ => none, fun _ => 0, World.ownsRow_nil _ _ _ _, Below.refl _ w⟩
  case round =>
    obtain ⟨k, hk, rfl, R, C, hown, hB⟩ := hrel
    rename World => wr
    have hk0 : (0 : Int) ≤ (k : Int) := by omega
    by_cases hlt : k < M
    · have hlti : (k : Int) < (n1 : Int) := by omega
      have hlt6 : (k : Int) < 16 := by omega
      obtain ⟨b, off, x, rfl, hbW, hxe, hx0, hx1, hck⟩ := HC1.out wr hB k (by omega)
      have Hxe := Lib.hid hxe
      have HN : Hid (∀ W, Calls Try.prog 20 #[.int .i64 k, .int .i64 (x % 64 + 1)] W fun e w' => ∃ A c A2 d, e = .returned (.tuple #[.agg #[.int .i64 k, .int .i64 (x % 64 + 1), .int .i64 (x % 64 + 1), .int .i64 16, .int .i64 0, .slice A 0 c, .slice A2 0 d], .int .i64 0]) ∧ Below W.heap.size W w') := fun W => new_whole (by omega) hx0 W
      clear hxe
      go_wp2_with fail
      refine (HN.out _).mono ?_
      rintro e w1 ⟨A, c1, A2, d, rfl, hB1⟩
      have hown1 := (Kept.fresh (S := fun _ => False) hB1).row hown (fun _ _ q => q)
      have hBw : Below w.heap.size w w1 := hB.trans (hB1.mono hB.size)
      have hz : w.heap.size ≤ w1.heap.size := hBw.size
      have Hrow : Hid (flat7 (k + 1) (cellsC (emptyL l1 M) (fun t => if t = 2 * k then A else if t = 2 * k + 1 then A2 else R t) (fun t => if t = 2 * k then c1 else if t = 2 * k + 1 then d else C t)) = flat7 k (cellsC (emptyL l1 M) R C) ++ [.int .i64 k, .int .i64 (x % 64 + 1), .int .i64 (x % 64 + 1), .int .i64 16, .int .i64 0, .slice A 0 c1, .slice A2 0 d]) := by
        unfold Hid
        rw [flat7_snoc]
        congr 1
        · refine flat7_congr fun j hj => ?_
          unfold cellsC
          dsimp only
          rw [if_neg (by omega), if_neg (by omega), if_neg (by omega), if_neg (by omega), if_neg (by omega), if_neg (by omega), if_neg (by omega), if_neg (by omega)]
        · unfold cellsC
          dsimp only
          rw [emptyL_at l1 hlt, if_pos rfl, if_pos rfl, if_neg (by omega), if_pos rfl, if_neg (by omega), if_pos rfl, Hxe.out]
          rfl
      have HBw := Lib.hid hBw
      clear hB1 hown hBw hB HN hck
      go_wp2_with (at_builtin; refine wpList_append_own _ rfl _ _ 39 rfl w.heap.size 24 i0 _ 7 88 Try.underlying39 hi hz0 hz1 hz2 rfl (by decide) _ _ _ rfl ((hown1.alloc _).alloc _) ⟨w1.heap.size + 1, 0, none⟩ 1 1 [.int .i64 k, .int .i64 (x % 64 + 1), .int .i64 (x % 64 + 1), .int .i64 16, .int .i64 0, .slice A 0 c1, .slice A2 0 d] rfl rfl (fun j u h => by have := seven_at (W := w1.alloc (.cells #[.int .i64 k, .int .i64 (x % 64 + 1), .int .i64 (x % 64 + 1), .int .i64 16, .int .i64 0, .slice A 0 c1, .slice A2 0 d] 24)) j u h; rw [World.size_alloc] at this; exact this) (by simp [Value.oneCell']) (by unfold maxLen; omega) (by omega) (by simp; omega) ?_)
      intro v' w2 hown' hgrow _
      have hk2 : Kept w1 w2 (fun b => w.heap.size ≤ b) := ((Kept.refl w1 _).trans (Kept.fresh (((Below.refl _ w1).alloc (Nat.le_refl _) _).alloc (by simp) _)) (fun b q => .inl q)).trans (Kept.grown hgrow (fun j e => .inl (hown1.lt j e).1)) (fun b q => .inl q)
      have Hown := Lib.hid hown'
      have HB2 := Lib.hid (HBw.out.trans (hk2.below (fun b q => q) (by omega)))
      clear hown' hgrow hk2 hown1
      go_wp2_with fail
      go_roundw
      case rel => exact ⟨k + 1, by omega, by go_num, _, _, by rw [Hrow.out]; exact Hown.out, HB2.out⟩
      case measure => simp [intOf]; omega
    · obtain rfl : k = M := by omega
      obtain ⟨A, c, rfl, hCy⟩ := cyls_of_bare hown (length_emptyL l1 k).symm (fun j hj => by rw [emptyL_at l1 hj]; exact ⟨rfl, rfl⟩)
      have HCy := Lib.hid hCy
      have HB := Lib.hid hB
      have HWO : Hid (WholeO (emptyL l1 k)) := by
        unfold Hid
        by_cases h0 : k = 0
        · exact .inl (by rw [h0]; rfl)
        · exact .inr (HWh.out (by omega))
      have HL0 : Hid ((emptyL l1 k).length = k) := length_emptyL l1 k
      clear hown hCy hB
      have Hkn : Hid (¬ ((k : Int) < (n1 : Int) ∧ (k : Int) < 16)) := by have := HMx.out; unfold Hid; omega
      obtain ⟨t1, ht1⟩ : ∃ t1, t1 = decide ((k : Int) < (n1 : Int)) := ⟨_, rfl⟩
      have hk6 : k ≤ 16 := hM2
      clear hM1 hM2 hlt hk
      have hor : ((k : Int) < (n1 : Int) ∧ ¬ (k : Int) < 16) ∨ ¬ (k : Int) < (n1 : Int) := by
        by_cases q : (k : Int) < (n1 : Int)
        · exact .inl ⟨q, fun q2 => Hkn.out ⟨q, q2⟩⟩
        · exact .inr q
      rcases hor with ⟨hlti, hlt6⟩ | hlti
      all_goals
        clear ht1
        go_wp2_with fail
        go_loopw [5, 9] (fun v i W => ∃ (j : Nat) (L : List Cy) (A : Option Addr) (c : Nat), i = .int .i64 j ∧ j ≤ 60 ∧ v = .slice A k c ∧ L.length = k ∧ WholeO L ∧ Cyls W W.heap.size A L ∧ Below w.heap.size w W) (fun _ i _ => 60 - (intOf i).toNat)
        case atStart => exact ⟨0, emptyL l1 k, A, c, rfl, by omega, by rw [HL0.out], HL0.out, HWO.out, HCy.out, HB.out⟩
        case round => 
          obtain ⟨j, L, A, c, rfl, hj6, rfl, hLk, hWL, hCL, hBL⟩ := hrel
          rename World => wr
          have HLk := Lib.hid hLk
          have HWL := Lib.hid hWL
          have HCL := Lib.hid hCL
          have HBL := Lib.hid hBL
          have hj0 : (0 : Int) ≤ (j : Int) := by omega
          have HEnd : Hid (∀ W, Below wr.heap.size wr W → Q (.returned (.slice A k c)) W) := fun W hW => HQ.out _ _ ⟨A, c, L, by rw [HLk.out], HWL.out, by rw [HLk.out]; exact HM.out, HCL.out.next hW, HBL.out.trans (hW.mono HBL.out.size)⟩
          clear hLk hWL hCL hBL
          by_cases h1 : (j : Int) < (n2 : Int)
          · by_cases h2 : (j : Int) < 60
            · by_cases h3 : (0 : Int) < (k : Int)
              · have hWL' : Whole L := HWL.out.resolve_left (fun e => by have := HLk.out; rw [e] at this; simp at this; omega)
                obtain ⟨nb, noff, x, rfl, hnb, hx0, hx1, hnc⟩ := HC2.out wr HBL.out j (by omega)
                have HNC := Lib.hid hnc
                have hnc0 := hnc wr (Below.refl _ _)
                have hge : 0 ≤ x % (k : Int) := Int.emod_nonneg _ (by omega)
                have hgl := Int.emod_lt_of_pos x h3
                obtain ⟨g, hg⟩ : ∃ g : Nat, x % (k : Int) = g := ⟨(x % (k : Int)).toNat, by rw [Int.toNat_of_nonneg hge]⟩
                have hgk : g < k := by omega
                have hgki : (g : Int) < (k : Int) := by omega
                have hg0 : (0 : Int) ≤ (g : Int) := by omega
                obtain ⟨gb, off, Ag, cg, A2g, c2g, rfl, hgb, hcy⟩ := HCL.out.at_ (k := g) (by rw [HLk.out]; exact hgk)
                have HG : Hid (∀ W2, Below wr.heap.size wr W2 → W2.cell? ⟨gb, off + g * 7 + 1, none⟩ = some (.int .i64 (cyN L g).bl)) := fun W2 h => (h.cell (p := ⟨gb, off + g * 7 + 1, none⟩) hgb).trans hcy.c1
                have hblb := (hWL'.ok g (by rw [HLk.out]; exact hgk)).bl
                have HT : Hid (∀ W, Below wr.heap.size wr W → Calls Try.prog 27 #[.slice (some ⟨gb, off, none⟩) k c, .agg #[.int .i64 g, .int .i64 ((IntKind.i64.wrap x).tmod (cyN L g).bl)]] W fun e w' => ∃ (L' : List Cy) (A' : Option Addr) (c' : Nat) (gg bb e' : Int), e = .returned (.tuple #[.slice A' L'.length c', .agg #[.int .i64 gg, .int .i64 bb], .int .i64 e']) ∧ (e' = 0 → WholeO L' ∧ L'.length = k) ∧ (∀ w2, Kept w' w2 (fun b => b < W.heap.size) → Cyls w2 w2.heap.size A' L') ∧ Below W.heap.size W w') := fun W hW => by
                  rw [IntWalk.i64_in x (by omega), rem_pos hx0 (by omega)]
                  refine (reftake_any _ c k L g (x % (cyN L g).bl) HLk.out.symm W (whole_small hWL') (HCL.out.next hW)).mono ?_
                  rintro e w' ⟨A', c', rfl, hF, hB⟩
                  refine ⟨_, A', c', _, _, _, rfl, fun he => ?_, hF, hB⟩
                  rcases takeL_whole hWL' (ng := g) (nb := x % (cyN L g).bl) (by rw [HLk.out]; exact hgk) (Int.emod_nonneg _ (by omega)) (Int.emod_lt_of_pos _ (by omega)) with ⟨q, _⟩ | ⟨g2, b2, q1, q2, q3, q4⟩
                  · rw [q] at he; cases he
                  · rw [q4]
                    exact ⟨.inr (hWL'.set q1 (right_use (hWL'.ok g2 q1) (by omega) q2 q3) (hWL'.ix g2 q1)), by show (L.set _ _).length = k; rw [List.length_set]; exact HLk.out⟩
                obtain ⟨bl, hbl⟩ : ∃ bl, bl = (cyN L g).bl := ⟨_, rfl⟩
                rw [← hbl] at HG HT hblb
                have hbl1 : 0 < bl := by omega
                have hbl2 : bl ≤ 64 := hblb.2
                clear hbl hcy hblb hWL' hnc hge hgl
                have hbl0 : ¬ bl = 0 := by omega
                have HS : Hid (∀ W, Below wr.heap.size wr W → W.cell? ⟨nb, noff + j, none⟩ = some (.int .u8 x) ∧ W.cell? ⟨gb, off + g * 7 + 1, none⟩ = some (.int .i64 bl)) := fun W h => ⟨HNC.out W h, HG.out W h⟩
                have HS0 := Lib.hid (HS.out wr (Below.refl _ _))
                have HSd := Lib.hid (HS.out wr.drew (Below.refl _ wr).drew)
                have HSa : Hid (∀ o, (wr.alloc o).cell? ⟨nb, noff + j, none⟩ = some (.int .u8 x) ∧ (wr.alloc o).cell? ⟨gb, off + g * 7 + 1, none⟩ = some (.int .i64 bl)) := fun o => HS.out _ ((Below.refl _ wr).alloc (Nat.le_refl _) _)
                have HSb : Hid (∀ o, ((wr.alloc o).drew).cell? ⟨nb, noff + j, none⟩ = some (.int .u8 x) ∧ ((wr.alloc o).drew).cell? ⟨gb, off + g * 7 + 1, none⟩ = some (.int .i64 bl)) := fun o => HS.out _ ((Below.refl _ wr).alloc (Nat.le_refl _) _).drew
                clear HNC HG
                go_upto_region 11 with fail
                rw [hg]
                go_cut [11, 12, 13] from 40 to 84 (fun s11 s12 s13 wx => ∃ (L' : List Cy) (A' : Option Addr) (c' p : Nat) (e' : Int), s11 = .slice A' L'.length c' ∧ s12 = .pointer (some ⟨p, 0, none⟩) ∧ s13 = .int .i64 e' ∧ (e' = 0 → WholeO L' ∧ L'.length = k) ∧ Cyls wx wx.heap.size A' L' ∧ Below wr.heap.size wr wx)
                case first =>
                  go_region_held3 (fun W => W.cell? ⟨nb, noff + j, none⟩ = some (.int .u8 x) ∧ W.cell? ⟨gb, off + g * 7 + 1, none⟩ = some (.int .i64 bl)) (first | exact HS0.out | (with_reducible exact HSd.out) | (with_reducible exact HSa.out _) | (with_reducible exact HSb.out _) | (with_reducible exact HS5.out) | (with_reducible exact HS5a.out _) | (with_reducible exact HS5s.out _ _) | go_keep)
                    (first | (go_at_call 27; (with_reducible refine (HT.out _ (Below.refl _ wr).drew).mono ?_); rintro e w5 ⟨L', A', c', gg, bb, e', rfl, hE, hF, hB5⟩; have hB5w : Below wr.heap.size wr w5 := (Below.refl _ wr).drew.trans hB5; have HE := Lib.hid hE; have HF := Lib.hid hF; have HS5 := Lib.hid (HS.out w5 hB5w); have HS5a : Hid (∀ o, (w5.alloc o).cell? ⟨nb, noff + j, none⟩ = some (.int .u8 x) ∧ (w5.alloc o).cell? ⟨gb, off + g * 7 + 1, none⟩ = some (.int .i64 bl)) := (fun o => HS.out _ (hB5w.alloc hB5w.size _)); have HS5s : Hid (∀ v0 v1, ((w5.setCell ⟨wr.heap.size, 0, none⟩ v0).setCell ⟨wr.heap.size, 1, none⟩ v1).cell? ⟨nb, noff + j, none⟩ = some (.int .u8 x) ∧ ((w5.setCell ⟨wr.heap.size, 0, none⟩ v0).setCell ⟨wr.heap.size, 1, none⟩ v1).cell? ⟨gb, off + g * 7 + 1, none⟩ = some (.int .i64 bl)) := (fun v0 v1 => HS.out _ (hB5w.trans ((((Kept.refl w5 (fun b => b = wr.heap.size)).set (.inl rfl)).set (.inl rfl)).below (fun b q => Nat.le_of_eq q.symm) hB5w.size))); have HB5 := Lib.hid hB5w; have hz5 : wr.heap.size ≤ w5.heap.size := hB5w.size; clear hE hF hB5w hB5) | (go_at_call 27; (with_reducible refine (HT.out _ ((Below.refl _ wr).alloc (Nat.le_refl _) _).drew).mono ?_); rintro e w5 ⟨L', A', c', gg, bb, e', rfl, hE, hF, hB5⟩; have hsz1 : ((wr.alloc (.cells #[.int .i64 0, .int .i64 0] 41)).drew).heap.size = wr.heap.size + 1 := (by show (wr.alloc _).heap.size = _; simp); have hB5w : Below wr.heap.size wr w5 := ((Below.refl _ wr).alloc (Nat.le_refl _) (.cells #[.int .i64 0, .int .i64 0] 41)).drew.trans (hB5.mono (by rw [hsz1]; omega)); have y1 : w5.heap[wr.heap.size]? = some (.cells #[.int .i64 0, .int .i64 0] 41) := (hB5.block wr.heap.size (by rw [hsz1]; omega)).trans (Go.heap_alloc_new wr _); have k0 := cellAt_of y1 0; have k1 := cellAt_of y1 1; simp only [List.getElem?_toArray, List.getElem?_cons_zero, List.getElem?_cons_succ] at k0 k1; have f0 := frozen_of_row w5 _ 0 _ 41 y1; have f1 := frozen_of_row w5 _ 1 _ 41 y1; have Y1 := Lib.hid y1; have ly1 := lt_heap y1; clear y1; have HE := Lib.hid hE; have HF := Lib.hid hF; have HS5 := Lib.hid (HS.out w5 hB5w); have HS5a : Hid (∀ o, (w5.alloc o).cell? ⟨nb, noff + j, none⟩ = some (.int .u8 x) ∧ (w5.alloc o).cell? ⟨gb, off + g * 7 + 1, none⟩ = some (.int .i64 bl)) := (fun o => HS.out _ (hB5w.alloc hB5w.size _)); have HS5s : Hid (∀ v0 v1, ((w5.setCell ⟨wr.heap.size, 0, none⟩ v0).setCell ⟨wr.heap.size, 1, none⟩ v1).cell? ⟨nb, noff + j, none⟩ = some (.int .u8 x) ∧ ((w5.setCell ⟨wr.heap.size, 0, none⟩ v0).setCell ⟨wr.heap.size, 1, none⟩ v1).cell? ⟨gb, off + g * 7 + 1, none⟩ = some (.int .i64 bl)) := (fun v0 v1 => HS.out _ (hB5w.trans ((((Kept.refl w5 (fun b => b = wr.heap.size)).set (.inl rfl)).set (.inl rfl)).below (fun b q => Nat.le_of_eq q.symm) hB5w.size))); have HB5 := Lib.hid hB5w; have hz5 : wr.heap.size ≤ w5.heap.size := hB5w.size; clear hE hF hB5w hB5))
                  · go_wp2_with fail
                    go_meet
                    exact ⟨L', A', c', _, e', rfl, rfl, rfl, HE.out, HF.out _ (Kept.fresh ((Below.refl _ w5).alloc (Nat.le_refl _) _)), HB5.out.alloc HB5.out.size _⟩
                  all_goals
                    go_wp2_with fail
                    go_meet
                    exact ⟨L', A', c', _, e', rfl, rfl, rfl, HE.out, HF.out _ ((((Kept.refl w5 (fun b => b = wr.heap.size)).set (.inl rfl)).set (.inl rfl)).more (fun b q => .inl (by have q' : b = wr.heap.size := q; show b < ((wr.alloc _).drew).heap.size; rw [hsz1]; omega))), HB5.out.trans ((((Kept.refl w5 (fun b => b = wr.heap.size)).set (.inl rfl)).set (.inl rfl)).below (fun b q => Nat.le_of_eq q.symm) HB5.out.size)⟩
                case rest =>
                  obtain ⟨L', A', c', p, e', rfl, rfl, rfl, hE, hC', hB'⟩ := hcut
                  have HE := Lib.hid hE
                  have HC' := Lib.hid hC'
                  have HBn := Lib.hid hB'
                  clear hE hC' hB'
                  by_cases he : e' = 0
                  · subst he
                    obtain ⟨q1, q2⟩ := HE.out rfl
                    have Q1 := Lib.hid q1
                    have Q2 := Lib.hid q2
                    clear q1 q2
                    go_wp2_with fail
                    go_roundw
                    case rel => exact ⟨j + 1, L', A', c', by go_num, by omega, by rw [Q2.out], Q2.out, Q1.out, HC'.out, HBL.out.trans (HBn.out.mono HBL.out.size)⟩
                    case measure => simp [intOf]; omega
                  · go_wp2_with fail
                    go_roundw
                    case rel => exact ⟨j + 1, L, _, c, by go_num, by omega, rfl, HLk.out, HWL.out, HCL.out.next HBn.out, HBL.out.trans (HBn.out.mono HBL.out.size)⟩
                    case measure => simp [intOf]; omega
              · go_wp2_with fail
                all_goals exact HEnd.out _ (Below.refl _ _)
            · go_wp2_with fail
              exact HEnd.out _ (Below.refl _ _)
          · go_wp2_with fail
            exact HEnd.out _ (Below.refl _ _)
end Go.Proofs.Ytpcindemkkdbbaa
