/- PatchMakes is true of every block and two bytes, and leaves its arguments as they are. Conditions: none. Here: the walk of the law's text. -/
import Derived.Test.YtiblmdpgdlacaaaVA
namespace Go.Proofs.Ytiblmdpgdlacaaa.patchMakes
open Go.RowKit

/-- what stands while nothing older turns -/
def Fm (w : World) (gx gy : Nat) (X Y : List Int) (A3 A4 : Option Addr) (D : List Pt) (W : World) : Prop :=
  Below w.heap.size w W ∧ Bts W W.heap.size (some ⟨gx, 0, none⟩) X ∧ Bts W W.heap.size (some ⟨gy, 0, none⟩) Y ∧ Bts W W.heap.size A4 Y ∧ Pats W W.heap.size A3 D
theorem Fm.next {w : World} {gx gy : Nat} {X Y : List Int} {A3 A4 : Option Addr} {D : List Pt} {W W' : World} (h : Fm w gx gy X Y A3 A4 D W) (hB : Below W.heap.size W W') : Fm w gx gy X Y A3 A4 D W' :=
  ⟨h.1.trans (hB.mono h.1.size), (h.2.1.below hB).more hB.size, (h.2.2.1.below hB).more hB.size, (h.2.2.2.1.below hB).more hB.size, (h.2.2.2.2.below hB).more hB.size⟩
theorem Fm.drew {w : World} {gx gy : Nat} {X Y : List Int} {A3 A4 : Option Addr} {D : List Pt} {W : World} (h : Fm w gx gy X Y A3 A4 D W) : Fm w gx gy X Y A3 A4 D W.drew := ⟨h.1.drew, h.2⟩

set_option maxRecDepth 100000 in
set_option linter.unusedSimpArgs false in
set_option maxHeartbeats 4000000 in
theorem walk (x : Int) (a : Option Addr) (len cap : Nat) (z : List Int) (a2 : Option Addr) (len2 cap2 : Nat) (z2 : List Int) (w : World) (hx : (Lit.int .u8 x).wf = true) (h0 : IsRow .u8 w a len cap z) (h1 : IsRow .u8 w a2 len2 cap2 z2) :
    Calls Try.prog 8 #[.int .u8 x, .slice a len cap, .slice a2 len2 cap2] w fun e w' => e = .returned (.bool true) ∧ Below w.heap.size w w' := by
  obtain ⟨g1, g2, g3, g4⟩ := h0.bts
  obtain ⟨k1, k2, k3, k4⟩ := h1.bts
  have hxb := bounds_u8 hx
  have F1 := Lib.hid (full_any a len cap (z.take len) w g3 g4.symm (by omega))
  have F2 := Lib.hid (fun W (h : Below w.heap.size w W) => full_any a2 len2 cap2 (z2.take len2) W ((k3.below h).more h.size) k4.symm (by omega))
  have L := Lib.hid live_any
  clear g1 g2 g3 g4 k1 k2 k3 k4 h0 h1 hx
  go_enter Try.func8, Try.ntmps8
  go_wp2_with fail
  refine F1.out.mono ?_
  rintro e w1 ⟨rfl, hB1, X, hX1, hX2, hX3⟩
  have HB1 := Lib.hid hB1
  have BX := Lib.hid (show Bts w1 w1.heap.size (some ⟨w.heap.size, 0, none⟩) X from BlkIs.bts hX1 hX3 hX1.lt)
  have HX := Lib.hid (show X.length = 32 ∧ AllB X from ⟨hX2, hX3⟩)
  clear hB1 hX1 hX2 hX3
  go_wp2_with fail
  refine (F2.out _ HB1.out).mono ?_
  rintro e w2 ⟨rfl, hB2, Y, hY1, hY2, hY3⟩
  have HB2 := Lib.hid (HB1.out.trans (hB2.mono HB1.out.size))
  have BXY := Lib.hid (show Bts w2 w2.heap.size (some ⟨w.heap.size, 0, none⟩) X ∧ Bts w2 w2.heap.size (some ⟨w1.heap.size, 0, none⟩) Y from ⟨(BX.out.below hB2).more hB2.size, BlkIs.bts hY1 hY3 hY1.lt⟩)
  have HY := Lib.hid (show Y.length = 32 ∧ AllB Y from ⟨hY2, hY3⟩)
  clear hB2 hY1 hY2 hY3 BX
  have hbl0 : 0 ≤ x % 96 := by omega
  have hbl1 : x % 96 < 96 := by omega
  have CD := diff_yes (x % 96) (some ⟨w.heap.size, 0, none⟩) (some ⟨w1.heap.size, 0, none⟩) 32 32 X Y w2 hbl0 hbl1 BXY.out.1 BXY.out.2 HX.out.1 HY.out.1 (by omega)
  have DA := Lib.hid (diff_makes hbl0 hbl1 HX.out.1 HY.out.1 HY.out.2)
  have DI := Lib.hid (diff_busy hbl0 hbl1 HX.out.1 HY.out.1 HX.out.2 HY.out.2)
  have DR := Lib.hid (diff_right X hbl0 hbl1 HY.out.1)
  have DB := Lib.hid (fun j => @diff_block (x % 96) Y (df X Y) 32 j)
  have DG := Lib.hid (fun j => @diff_gap (x % 96) Y (df X Y) j HY.out.1)
  have DN := Lib.hid (diff_none (bl := x % 96) HX.out.1 HY.out.1)
  have DL := Lib.hid (length_diffP (x % 96) Y (df X Y) 32)
  obtain ⟨D, hD⟩ : ∃ D, D = diffP (x % 96) Y (df X Y) 32 := ⟨_, rfl⟩
  rw [← hD] at CD DA DI DR DB DG DN DL
  have CDh := Lib.hid CD
  clear hD CD F1 F2 hbl0 hbl1
  go_wp2_with fail
  refine CDh.out.mono ?_
  rintro e w3 ⟨v3, rfl, ho3, hB3⟩
  obtain ⟨A3, c3, rfl, -, -, hp3⟩ := ho3.form
  have HB3 := Lib.hid (HB2.out.trans (hB3.mono HB2.out.size))
  have P3 := Lib.hid hp3
  have B3 := Lib.hid (show Bts w3 w3.heap.size (some ⟨w.heap.size, 0, none⟩) X ∧ Bts w3 w3.heap.size (some ⟨w1.heap.size, 0, none⟩) Y from ⟨(BXY.out.1.below hB3).more hB3.size, (BXY.out.2.below hB3).more hB3.size⟩)
  have hok : ∀ k, k < D.length → (pn D k).ok := fun k hk => ok_of (DR.out _ (by rw [pn_lt hk]; exact List.getElem_mem hk))
  have CA := all_any (some ⟨w.heap.size, 0, none⟩) A3 32 c3 X D w3 B3.out.1 HX.out.1 P3.out (by have := DL.out; omega) hok
  rw [DA.out] at CA
  have CAh := Lib.hid CA
  have Hok := Lib.hid hok
  clear ho3 hp3 hB3 CA BXY CDh hok
  go_wp2_with fail
  refine CAh.out.mono ?_
  rintro e w4 ⟨hB4, A4, c4, rfl, -, -, hb4, hl4⟩
  have HS4 := Lib.hid (show Fm w w.heap.size w1.heap.size X Y A3 A4 D w4 from ⟨HB3.out.trans (hB4.mono HB3.out.size), (B3.out.1.below hB4).more hB4.size, (B3.out.2.below hB4).more hB4.size, hb4, (P3.out.below hB4).more hB4.size⟩)
  clear hB4 hb4 hl4 B3 P3 HB3 HB2 CAh
  have HN : Hid (∀ W W', Fm w w.heap.size w1.heap.size X Y A3 A4 D W → Below W.heap.size W W' → Fm w w.heap.size w1.heap.size X Y A3 A4 D W') := fun W W' h hB => h.next hB
  go_wp2
  go_loopw [12] (fun i wr => ∃ k : Nat, k ≤ D.length ∧ i = .int .i64 k ∧ Fm w w.heap.size w1.heap.size X Y A3 A4 D wr) (fun i _ => D.length - (intOf i).toNat)
  case atStart => exact ⟨0, Nat.zero_le _, rfl, HS4.out⟩
  case round =>
    obtain ⟨k, hk, rfl, hst⟩ := hrel
    rename World => wr
    have hdl := DL.out
    by_cases hlt : k < D.length
    · have hxw : IntKind.i64.wrap x = x := IntWalk.i64_in _ (by omega)
      have htm : x.tmod 96 = x % 96 := Int.tmod_eq_emod_of_nonneg hxb.1
      have hxw2 : IntKind.i64.wrap (x % 96) = x % 96 := IntWalk.i64_in _ (by omega)
      have hlti : (k : Int) < (D.length : Int) := by omega
      have hk0 : (0 : Int) ≤ (k : Int) := by omega
      obtain ⟨b3, o3, rfl, _, hcs⟩ := hst.2.2.2.2 (by omega)
      have hPn : ∀ W, Fm w w.heap.size w1.heap.size X Y (some ⟨b3, o3, none⟩) A4 D W → ∀ j, j < D.length → W.cell? ⟨b3, o3 + j * 3, none⟩ = some (.int .i64 (pn D j).b) ∧ W.cell? ⟨b3, o3 + j * 3 + 1, none⟩ = some (.int .i64 (pn D j).o) ∧ W.cell? ⟨b3, o3 + j * 3 + 2, none⟩ = some (.string (pn D j).s) := fun W h j hj => by
        obtain ⟨b', o', e, _, hc⟩ := h.2.2.2.2 (by omega)
        injection e with e; injection e with e1 e2; subst e1; subst e2
        exact hc j hj
      have hid : idleA X (pn D k) = false := DI.out _ (by rw [pn_lt hlt]; exact List.getElem_mem hlt)
      have hrb := DB.out k hlt
      have hrr : (pn D k).right = true := DR.out _ (by rw [pn_lt hlt]; exact List.getElem_mem hlt)
      obtain ⟨_, _, ro0, ro1, _, _⟩ := Pt.right_out hrr
      have CI : Hid (∀ W, Fm w w.heap.size w1.heap.size X Y (some ⟨b3, o3, none⟩) A4 D W → Calls Try.prog 17 #[.slice (some ⟨w.heap.size, 0, none⟩) 32 32, (pn D k).v] W fun e w' => e = .returned (.bool false) ∧ Below W.heap.size W w') := fun W h => by
        have := idle_uni (A := some ⟨w.heap.size, 0, none⟩) (n := 32) (c := 32) (l := X) (p := pn D k) (w := W) h.2.1 HX.out.1.symm (by omega) (Hok.out k hlt)
        rwa [hid] at this
      have HPn := Lib.hid hPn
      have HS := Lib.hid hst.drew
      have HSt := Lib.hid hst
      by_cases hk1 : 0 < k
      · have hgap := DG.out (k - 1) (by omega)
        rw [show k - 1 + 1 = k by omega] at hgap
        have hqr : (pn D (k - 1)).right = true := DR.out _ (by rw [pn_lt (by omega)]; exact List.getElem_mem (by omega))
        obtain ⟨_, _, qo0, qo1, _, qs1⟩ := Pt.right_out hqr
        have hpc := fun W h => hPn W h k hlt
        have hqc := fun W h => hPn W h (k - 1) (by omega)
        obtain ⟨r, hr⟩ : ∃ r, r = pn D k := ⟨_, rfl⟩
        obtain ⟨q, hq⟩ : ∃ q, q = pn D (k - 1) := ⟨_, rfl⟩
        rw [← hr] at hrb hgap CI hpc ro0 ro1
        rw [← hq] at hgap hqc qo0 qo1 qs1
        obtain ⟨k1, hkk⟩ : ∃ k1, k1 = k - 1 := ⟨_, rfl⟩
        rw [← hkk] at hqc
        have hkw : IntKind.i64.wrap ((k : Int) - 1) = (k1 : Int) := by rw [IntWalk.i64_in _ (by omega)]; omega
        have hk10 : (0 : Int) ≤ (k1 : Int) := by omega
        have hk11 : (k1 : Int) < (D.length : Int) := by omega
        have h0k : (0 : Int) < (k : Int) := by omega
        clear hr hq hkk hcs hPn hid hrr hqr hst
        obtain ⟨rb, ro, rs⟩ := r
        obtain ⟨qb, qo, qs⟩ := q
        simp only at hrb hgap hpc hqc ro0 ro1 qo0 qo1 qs1
        obtain rfl : rb = x % 96 := hrb
        have hwr : IntKind.i64.wrap (qo + (qs.size : Int)) = qo + (qs.size : Int) := IntWalk.i64_in _ (by omega)
        have hle : ¬ ro ≤ qo + (qs.size : Int) := by omega
        have hled : decide (ro ≤ qo + (qs.size : Int)) = false := by simpa using hle
        have HC : Hid (∀ W, Fm w w.heap.size w1.heap.size X Y (some ⟨b3, o3, none⟩) A4 D W → W.cell? ⟨b3, o3 + k * 3, none⟩ = some (.int .i64 (x % 96)) ∧ W.cell? ⟨b3, o3 + k * 3 + 1, none⟩ = some (.int .i64 ro) ∧ W.cell? ⟨b3, o3 + k * 3 + 2, none⟩ = some (.string rs) ∧ W.cell? ⟨b3, o3 + k1 * 3 + 1, none⟩ = some (.int .i64 qo) ∧ W.cell? ⟨b3, o3 + k1 * 3 + 2, none⟩ = some (.string qs)) := fun W h => ⟨(hpc W h).1, (hpc W h).2.1, (hpc W h).2.2, (hqc W h).2.1, (hqc W h).2.2⟩
        have Z := Lib.hid (HC.out _ HS.out)
        unfold Pt.v at CI
        simp only at CI
        clear hpc hqc hgap
        go_wp2_with fail
        refine wp_region_held_drew (S := (fun W => W.cell? ⟨b3, o3 + k * 3, none⟩ = some (.int .i64 (x % 96)) ∧ W.cell? ⟨b3, o3 + k * 3 + 1, none⟩ = some (.int .i64 ro) ∧ W.cell? ⟨b3, o3 + k * 3 + 2, none⟩ = some (.string rs) ∧ W.cell? ⟨b3, o3 + k1 * 3 + 1, none⟩ = some (.int .i64 qo) ∧ W.cell? ⟨b3, o3 + k1 * 3 + 2, none⟩ = some (.string qs))) (by kernel_rfl) (Z.out) (fun hHeld => ?_)
        refine takeH (i := 0) (some 35) (v := ?_) rfl rfl (by kernel_rfl) (by kernel_rfl) (by kernel_rfl) (fun _ _ _ h => h) (by rfl) ?_ (by assumption) ?_
        rotate_left
        · (intro w hSw; (try dsimp only at hSw); go_simp; try with_reducible rfl)
        simp only [Act.put, List.setIfInBounds_toArray, List.set_cons_zero, List.set_cons_succ]
        refine takeH (i := 1) (some 36) (v := ?_) rfl rfl (by kernel_rfl) (by kernel_rfl) (by kernel_rfl) (fun _ _ _ h => h) (by rfl) ?_ (by assumption) ?_
        rotate_left
        · (intro w hSw; (try dsimp only at hSw); go_simp; try with_reducible rfl)
        simp only [Act.put, List.setIfInBounds_toArray, List.set_cons_zero, List.set_cons_succ]
        refine takeH (i := 2) (some 37) (v := ?_) rfl rfl (by kernel_rfl) (by kernel_rfl) (by kernel_rfl) (fun _ _ _ h => h) (by rfl) ?_ (by assumption) ?_
        rotate_left
        · (intro w hSw; (try dsimp only at hSw); go_simp; try with_reducible rfl)
        simp only [Act.put, List.setIfInBounds_toArray, List.set_cons_zero, List.set_cons_succ]
        refine takeH (i := 3) (some 38) (v := ?_) rfl rfl (by kernel_rfl) (by kernel_rfl) (by kernel_rfl) (fun _ _ _ h => h) (by rfl) ?_ (by assumption) ?_
        rotate_left
        · (intro w hSw; (try dsimp only at hSw); go_simp; try with_reducible rfl)
        simp only [Act.put, List.setIfInBounds_toArray, List.set_cons_zero, List.set_cons_succ]
        refine takeH (i := 4) (some 39) (v := ?_) rfl rfl (by kernel_rfl) (by kernel_rfl) (by kernel_rfl) (fun _ _ _ h => h) (by rfl) ?_ (by assumption) ?_
        rotate_left
        · (intro w hSw; (try dsimp only at hSw); go_simp; try with_reducible rfl)
        simp only [Act.put, List.setIfInBounds_toArray, List.set_cons_zero, List.set_cons_succ]
        refine wpAnyH_ready (rs := [5]) (by kernel_rfl) (by simp) ?_
        refine AllReadyH.cons rfl (fun K hK => ?_) AllReadyH.nil
        go_simp
        ((with_reducible refine (CI.out _ HS.out).mono ?_); rintro e w9 ⟨rfl, hB9⟩; replace HS := Lib.hid (HN.out _ _ HS.out hB9); replace Z := Lib.hid (HC.out _ HS.out))
        refine hK _ _ (Z.out) (fun hHeld => ?_)
        clear hK K
        try simp only [Act.put, List.setIfInBounds_toArray, List.set_cons_zero, List.set_cons_succ]
        refine takeH (i := 6) (some 41) (v := ?_) rfl rfl (by kernel_rfl) (by kernel_rfl) (by kernel_rfl) (fun _ _ _ h => h) (by rfl) ?_ (by assumption) ?_
        rotate_left
        · (intro w hSw; (try dsimp only at hSw); go_simp; try with_reducible rfl)
        simp only [Act.put, List.setIfInBounds_toArray, List.set_cons_zero, List.set_cons_succ]
        refine takeH (i := 7) (some 42) (v := ?_) rfl rfl (by kernel_rfl) (by kernel_rfl) (by kernel_rfl) (fun _ _ _ h => h) (by rfl) ?_ (by assumption) ?_
        rotate_left
        · (intro w hSw; (try dsimp only at hSw); go_simp; try with_reducible rfl)
        simp only [Act.put, List.setIfInBounds_toArray, List.set_cons_zero, List.set_cons_succ]
        refine takeH (i := 8) (some 43) (v := ?_) rfl rfl (by kernel_rfl) (by kernel_rfl) (by kernel_rfl) (fun _ _ _ h => h) (by rfl) ?_ (by assumption) ?_
        rotate_left
        · (intro w hSw; (try dsimp only at hSw); go_simp; try with_reducible rfl)
        simp only [Act.put, List.setIfInBounds_toArray, List.set_cons_zero, List.set_cons_succ]
        refine takeH (i := 9) (some 44) (v := ?_) rfl rfl (by kernel_rfl) (by kernel_rfl) (by kernel_rfl) (fun _ _ _ h => h) (by rfl) ?_ (by assumption) ?_
        rotate_left
        · (intro w hSw; (try dsimp only at hSw); go_simp; try with_reducible rfl)
        simp only [Act.put, List.setIfInBounds_toArray, List.set_cons_zero, List.set_cons_succ]
        refine takeH (i := 10) (some 45) (v := ?_) rfl rfl (by kernel_rfl) (by kernel_rfl) (by kernel_rfl) (fun _ _ _ h => h) (by rfl) ?_ (by assumption) ?_
        rotate_left
        · (intro w hSw; (try dsimp only at hSw); go_simp; try with_reducible rfl)
        simp only [Act.put, List.setIfInBounds_toArray, List.set_cons_zero, List.set_cons_succ]
        refine takeH (i := 11) (some 46) (v := ?_) rfl rfl (by kernel_rfl) (by kernel_rfl) (by kernel_rfl) (fun _ _ _ h => h) (by rfl) ?_ (by assumption) ?_
        rotate_left
        · (intro w hSw; (try dsimp only at hSw); go_simp; try with_reducible rfl)
        simp only [Act.put, List.setIfInBounds_toArray, List.set_cons_zero, List.set_cons_succ]
        refine takeH (i := 12) (some 47) (v := ?_) rfl rfl (by kernel_rfl) (by kernel_rfl) (by kernel_rfl) (fun _ _ _ h => h) (by rfl) ?_ (by assumption) ?_
        rotate_left
        · (intro w hSw; (try dsimp only at hSw); go_simp; try with_reducible rfl)
        simp only [Act.put, List.setIfInBounds_toArray, List.set_cons_zero, List.set_cons_succ]
        refine takeH (i := 13) (some 48) (v := ?_) rfl rfl (by kernel_rfl) (by kernel_rfl) (by kernel_rfl) (fun _ _ _ h => h) (by rfl) ?_ (by assumption) ?_
        rotate_left
        · (intro w hSw; (try dsimp only at hSw); go_simp; try with_reducible rfl)
        simp only [Act.put, List.setIfInBounds_toArray, List.set_cons_zero, List.set_cons_succ]
        refine takeH (i := 14) (some 49) (v := ?_) rfl rfl (by kernel_rfl) (by kernel_rfl) (by kernel_rfl) (fun _ _ _ h => h) (by rfl) ?_ (by assumption) ?_
        rotate_left
        · (intro w hSw; (try dsimp only at hSw); go_simp; try with_reducible rfl)
        simp only [Act.put, List.setIfInBounds_toArray, List.set_cons_zero, List.set_cons_succ]
        refine takeH (i := 15) (some 50) (v := ?_) rfl rfl (by kernel_rfl) (by kernel_rfl) (by kernel_rfl) (fun _ _ _ h => h) (by rfl) ?_ (by assumption) ?_
        rotate_left
        · (intro w hSw; (try dsimp only at hSw); go_simp; try with_reducible rfl)
        simp only [Act.put, List.setIfInBounds_toArray, List.set_cons_zero, List.set_cons_succ]
        refine takeH (i := 16) (some 51) (v := ?_) rfl rfl (by kernel_rfl) (by kernel_rfl) (by kernel_rfl) (fun _ _ _ h => h) (by rfl) ?_ (by assumption) ?_
        rotate_left
        · (intro w hSw; (try dsimp only at hSw); go_simp; try with_reducible rfl)
        simp only [Act.put, List.setIfInBounds_toArray, List.set_cons_zero, List.set_cons_succ]
        refine takeH (i := 17) (some 52) (v := ?_) rfl rfl (by kernel_rfl) (by kernel_rfl) (by kernel_rfl) (fun _ _ _ h => h) (by rfl) ?_ (by assumption) ?_
        rotate_left
        · (intro w hSw; (try dsimp only at hSw); go_simp; try with_reducible rfl)
        simp only [Act.put, List.setIfInBounds_toArray, List.set_cons_zero, List.set_cons_succ]
        refine takeH (i := 18) (some 53) (v := ?_) rfl rfl (by kernel_rfl) (by kernel_rfl) (by kernel_rfl) (fun _ _ _ h => h) (by rfl) ?_ (by assumption) ?_
        rotate_left
        · (intro w hSw; (try dsimp only at hSw); go_simp; try with_reducible rfl)
        simp only [Act.put, List.setIfInBounds_toArray, List.set_cons_zero, List.set_cons_succ]
        refine takeH (i := 19) (some 54) (v := ?_) rfl rfl (by kernel_rfl) (by kernel_rfl) (by kernel_rfl) (fun _ _ _ h => h) (by rfl) ?_ (by assumption) ?_
        rotate_left
        · (intro w hSw; (try dsimp only at hSw); go_simp; try with_reducible rfl)
        simp only [Act.put, List.setIfInBounds_toArray, List.set_cons_zero, List.set_cons_succ]
        refine takeH (i := 20) (some 55) (v := ?_) rfl rfl (by kernel_rfl) (by kernel_rfl) (by kernel_rfl) (fun _ _ _ h => h) (by rfl) ?_ (by assumption) ?_
        rotate_left
        · (intro w hSw; (try dsimp only at hSw); go_simp; try with_reducible rfl)
        simp only [Act.put, List.setIfInBounds_toArray, List.set_cons_zero, List.set_cons_succ]
        refine takeH (i := 21) (some 56) (v := ?_) rfl rfl (by kernel_rfl) (by kernel_rfl) (by kernel_rfl) (fun _ _ _ h => h) (by rfl) ?_ (by assumption) ?_
        rotate_left
        · (intro w hSw; (try dsimp only at hSw); go_simp; try with_reducible rfl)
        simp only [Act.put, List.setIfInBounds_toArray, List.set_cons_zero, List.set_cons_succ]
        refine takeH (i := 22) (some 57) (v := ?_) rfl rfl (by kernel_rfl) (by kernel_rfl) (by kernel_rfl) (fun _ _ _ h => h) (by rfl) ?_ (by assumption) ?_
        rotate_left
        · (intro w hSw; (try dsimp only at hSw); go_simp; try with_reducible rfl)
        simp only [Act.put, List.setIfInBounds_toArray, List.set_cons_zero, List.set_cons_succ]
        refine takeH (i := 23) (some 58) (v := ?_) rfl rfl (by kernel_rfl) (by kernel_rfl) (by kernel_rfl) (fun _ _ _ h => h) (by rfl) ?_ (by assumption) ?_
        rotate_left
        · (intro w hSw; (try dsimp only at hSw); go_simp; try with_reducible rfl)
        simp only [Act.put, List.setIfInBounds_toArray, List.set_cons_zero, List.set_cons_succ]
        refine takeH (i := 24) (some 59) (v := ?_) rfl rfl (by kernel_rfl) (by kernel_rfl) (by kernel_rfl) (fun _ _ _ h => h) (by rfl) ?_ (by assumption) ?_
        rotate_left
        · (intro w hSw; (try dsimp only at hSw); go_simp; try with_reducible rfl)
        simp only [Act.put, List.setIfInBounds_toArray, List.set_cons_zero, List.set_cons_succ]
        refine takeH (i := 25) (some 60) (v := ?_) rfl rfl (by kernel_rfl) (by kernel_rfl) (by kernel_rfl) (fun _ _ _ h => h) (by rfl) ?_ (by assumption) ?_
        rotate_left
        · (intro w hSw; (try dsimp only at hSw); go_simp; try with_reducible rfl)
        simp only [Act.put, List.setIfInBounds_toArray, List.set_cons_zero, List.set_cons_succ]
        refine takeH (i := 26) (some 61) (v := ?_) rfl rfl (by kernel_rfl) (by kernel_rfl) (by kernel_rfl) (fun _ _ _ h => h) (by rfl) ?_ (by assumption) ?_
        rotate_left
        · (intro w hSw; (try dsimp only at hSw); go_simp; try with_reducible rfl)
        simp only [Act.put, List.setIfInBounds_toArray, List.set_cons_zero, List.set_cons_succ]
        refine takeH (i := 27) (some 62) (v := ?_) rfl rfl (by kernel_rfl) (by kernel_rfl) (by kernel_rfl) (fun _ _ _ h => h) (by rfl) ?_ (by assumption) ?_
        rotate_left
        · (intro w hSw; (try dsimp only at hSw); go_simp; try with_reducible rfl)
        simp only [Act.put, List.setIfInBounds_toArray, List.set_cons_zero, List.set_cons_succ]
        refine takeH (i := 28) (some 63) (v := ?_) rfl rfl (by kernel_rfl) (by kernel_rfl) (by kernel_rfl) (fun _ _ _ h => h) (by rfl) ?_ (by assumption) ?_
        rotate_left
        · (intro w hSw; (try dsimp only at hSw); go_simp; try with_reducible rfl)
        simp only [Act.put, List.setIfInBounds_toArray, List.set_cons_zero, List.set_cons_succ]
        refine takeH (i := 29) (some 64) (v := ?_) rfl rfl (by kernel_rfl) (by kernel_rfl) (by kernel_rfl) (fun _ _ _ h => h) (by rfl) ?_ (by assumption) ?_
        rotate_left
        · (intro w hSw; (try dsimp only at hSw); go_simp; try with_reducible rfl)
        simp only [Act.put, List.setIfInBounds_toArray, List.set_cons_zero, List.set_cons_succ]
        refine takeH (i := 30) (some 65) (v := ?_) rfl rfl (by kernel_rfl) (by kernel_rfl) (by kernel_rfl) (fun _ _ _ h => h) (by rfl) ?_ (by assumption) ?_
        rotate_left
        · (intro w hSw; (try dsimp only at hSw); go_simp; try with_reducible rfl)
        simp only [Act.put, List.setIfInBounds_toArray, List.set_cons_zero, List.set_cons_succ]
        refine takeH (i := 31) (some 66) (v := ?_) rfl rfl (by kernel_rfl) (by kernel_rfl) (by kernel_rfl) (fun _ _ _ h => h) (by rfl) ?_ (by assumption) ?_
        rotate_left
        · (intro w hSw; (try dsimp only at hSw); go_simp; try with_reducible rfl)
        simp only [Act.put, List.setIfInBounds_toArray, List.set_cons_zero, List.set_cons_succ]
        refine takeH (i := 32) (some 67) (v := ?_) rfl rfl (by kernel_rfl) (by kernel_rfl) (by kernel_rfl) (fun _ _ _ h => h) (by rfl) ?_ (by assumption) ?_
        rotate_left
        · (intro w hSw; (try dsimp only at hSw); go_simp; try with_reducible rfl)
        simp only [Act.put, List.setIfInBounds_toArray, List.set_cons_zero, List.set_cons_succ]
        refine takeH (i := 33) (some 68) (v := ?_) rfl rfl (by kernel_rfl) (by kernel_rfl) (by kernel_rfl) (fun _ _ _ h => h) (by rfl) ?_ (by assumption) ?_
        rotate_left
        · (intro w hSw; (try dsimp only at hSw); go_simp; try with_reducible rfl)
        simp only [Act.put, List.setIfInBounds_toArray, List.set_cons_zero, List.set_cons_succ]
        refine takeH (i := 34) (some 69) (v := ?_) rfl rfl (by kernel_rfl) (by kernel_rfl) (by kernel_rfl) (fun _ _ _ h => h) (by rfl) ?_ (by assumption) ?_
        rotate_left
        · (intro w hSw; (try dsimp only at hSw); go_simp; try with_reducible rfl)
        simp only [Act.put, List.setIfInBounds_toArray, List.set_cons_zero, List.set_cons_succ]
        refine takeH (i := 35) (some 70) (v := ?_) rfl rfl (by kernel_rfl) (by kernel_rfl) (by kernel_rfl) (fun _ _ _ h => h) (by rfl) ?_ (by assumption) ?_
        rotate_left
        · (intro w hSw; (try dsimp only at hSw); go_simp; try with_reducible rfl)
        simp only [Act.put, List.setIfInBounds_toArray, List.set_cons_zero, List.set_cons_succ]
        refine takeH (i := 36) (some 71) (v := ?_) rfl rfl (by kernel_rfl) (by kernel_rfl) (by kernel_rfl) (fun _ _ _ h => h) (by rfl) ?_ (by assumption) ?_
        rotate_left
        · (intro w hSw; (try dsimp only at hSw); go_simp; try with_reducible rfl)
        simp only [Act.put, List.setIfInBounds_toArray, List.set_cons_zero, List.set_cons_succ]
        refine takeH (i := 37) (some 72) (v := ?_) rfl rfl (by kernel_rfl) (by kernel_rfl) (by kernel_rfl) (fun _ _ _ h => h) (by rfl) ?_ (by assumption) ?_
        rotate_left
        · (intro w hSw; (try dsimp only at hSw); go_simp; try with_reducible rfl)
        simp only [Act.put, List.setIfInBounds_toArray, List.set_cons_zero, List.set_cons_succ]
        refine takeH (i := 38) (some 73) (v := ?_) rfl rfl (by kernel_rfl) (by kernel_rfl) (by kernel_rfl) (fun _ _ _ h => h) (by rfl) ?_ (by assumption) ?_
        rotate_left
        · (intro w hSw; (try dsimp only at hSw); go_simp; try with_reducible rfl)
        simp only [Act.put, List.setIfInBounds_toArray, List.set_cons_zero, List.set_cons_succ]
        refine takeH (i := 39) (some 74) (v := ?_) rfl rfl (by kernel_rfl) (by kernel_rfl) (by kernel_rfl) (fun _ _ _ h => h) (by rfl) ?_ (by assumption) ?_
        rotate_left
        · (intro w hSw; (try dsimp only at hSw); go_simp; try with_reducible rfl)
        simp only [Act.put, List.setIfInBounds_toArray, List.set_cons_zero, List.set_cons_succ]
        refine takeH (i := 40) (some 75) (v := ?_) rfl rfl (by kernel_rfl) (by kernel_rfl) (by kernel_rfl) (fun _ _ _ h => h) (by rfl) ?_ (by assumption) ?_
        rotate_left
        · (intro w hSw; (try dsimp only at hSw); go_simp; try with_reducible rfl)
        simp only [Act.put, List.setIfInBounds_toArray, List.set_cons_zero, List.set_cons_succ]
        refine takeH (i := 41) (some 76) (v := ?_) rfl rfl (by kernel_rfl) (by kernel_rfl) (by kernel_rfl) (fun _ _ _ h => h) (by rfl) ?_ (by assumption) ?_
        rotate_left
        · (intro w hSw; (try dsimp only at hSw); go_simp; try with_reducible rfl)
        simp only [Act.put, List.setIfInBounds_toArray, List.set_cons_zero, List.set_cons_succ]
        refine takeH (i := 42) (some 77) (v := ?_) rfl rfl (by kernel_rfl) (by kernel_rfl) (by kernel_rfl) (fun _ _ _ h => h) (by rfl) ?_ (by assumption) ?_
        rotate_left
        · (intro w hSw; (try dsimp only at hSw); go_simp; try with_reducible rfl)
        simp only [Act.put, List.setIfInBounds_toArray, List.set_cons_zero, List.set_cons_succ]
        refine wpAnyH_done (by kernel_rfl) ?_ _
        go_wp2
        go_roundw
        case rel => exact ⟨k + 1, by omega, by go_num, HS.out⟩
        case measure => simp [intOf]; omega
      · have hpc := fun W h => hPn W h k hlt
        obtain ⟨r, hr⟩ : ∃ r, r = pn D k := ⟨_, rfl⟩
        rw [← hr] at hrb CI hpc ro0 ro1
        have h0k : ¬ (0 : Int) < (k : Int) := by omega
        have h0kd : decide ((0 : Int) < (k : Int)) = false := by simpa using h0k
        clear hr hcs hPn hid hrr hst
        obtain ⟨rb, ro, rs⟩ := r
        simp only at hrb hpc ro0 ro1
        obtain rfl : rb = x % 96 := hrb
        have HC : Hid (∀ W, Fm w w.heap.size w1.heap.size X Y (some ⟨b3, o3, none⟩) A4 D W → W.cell? ⟨b3, o3 + k * 3, none⟩ = some (.int .i64 (x % 96)) ∧ W.cell? ⟨b3, o3 + k * 3 + 1, none⟩ = some (.int .i64 ro) ∧ W.cell? ⟨b3, o3 + k * 3 + 2, none⟩ = some (.string rs)) := fun W h => ⟨(hpc W h).1, (hpc W h).2.1, (hpc W h).2.2⟩
        have Z := Lib.hid (HC.out _ HS.out)
        unfold Pt.v at CI
        simp only at CI
        clear hpc
        go_wp2_with fail
        refine wp_region_held_drew (S := (fun W => W.cell? ⟨b3, o3 + k * 3, none⟩ = some (.int .i64 (x % 96)) ∧ W.cell? ⟨b3, o3 + k * 3 + 1, none⟩ = some (.int .i64 ro) ∧ W.cell? ⟨b3, o3 + k * 3 + 2, none⟩ = some (.string rs))) (by kernel_rfl) (Z.out) (fun hHeld => ?_)
        refine takeH (i := 0) (some 35) (v := ?_) rfl rfl (by kernel_rfl) (by kernel_rfl) (by kernel_rfl) (fun _ _ _ h => h) (by rfl) ?_ (by assumption) ?_
        rotate_left
        · (intro w hSw; (try dsimp only at hSw); go_simp; try with_reducible rfl)
        simp only [Act.put, List.setIfInBounds_toArray, List.set_cons_zero, List.set_cons_succ]
        refine takeH (i := 1) (some 36) (v := ?_) rfl rfl (by kernel_rfl) (by kernel_rfl) (by kernel_rfl) (fun _ _ _ h => h) (by rfl) ?_ (by assumption) ?_
        rotate_left
        · (intro w hSw; (try dsimp only at hSw); go_simp; try with_reducible rfl)
        simp only [Act.put, List.setIfInBounds_toArray, List.set_cons_zero, List.set_cons_succ]
        refine takeH (i := 2) (some 37) (v := ?_) rfl rfl (by kernel_rfl) (by kernel_rfl) (by kernel_rfl) (fun _ _ _ h => h) (by rfl) ?_ (by assumption) ?_
        rotate_left
        · (intro w hSw; (try dsimp only at hSw); go_simp; try with_reducible rfl)
        simp only [Act.put, List.setIfInBounds_toArray, List.set_cons_zero, List.set_cons_succ]
        refine takeH (i := 3) (some 38) (v := ?_) rfl rfl (by kernel_rfl) (by kernel_rfl) (by kernel_rfl) (fun _ _ _ h => h) (by rfl) ?_ (by assumption) ?_
        rotate_left
        · (intro w hSw; (try dsimp only at hSw); go_simp; try with_reducible rfl)
        simp only [Act.put, List.setIfInBounds_toArray, List.set_cons_zero, List.set_cons_succ]
        refine takeH (i := 4) (some 39) (v := ?_) rfl rfl (by kernel_rfl) (by kernel_rfl) (by kernel_rfl) (fun _ _ _ h => h) (by rfl) ?_ (by assumption) ?_
        rotate_left
        · (intro w hSw; (try dsimp only at hSw); go_simp; try with_reducible rfl)
        simp only [Act.put, List.setIfInBounds_toArray, List.set_cons_zero, List.set_cons_succ]
        refine wpAnyH_ready (rs := [5]) (by kernel_rfl) (by simp) ?_
        refine AllReadyH.cons rfl (fun K hK => ?_) AllReadyH.nil
        go_simp
        ((with_reducible refine (CI.out _ HS.out).mono ?_); rintro e w9 ⟨rfl, hB9⟩; replace HS := Lib.hid (HN.out _ _ HS.out hB9); replace Z := Lib.hid (HC.out _ HS.out))
        refine hK _ _ (Z.out) (fun hHeld => ?_)
        clear hK K
        try simp only [Act.put, List.setIfInBounds_toArray, List.set_cons_zero, List.set_cons_succ]
        refine takeH (i := 6) (some 41) (v := ?_) rfl rfl (by kernel_rfl) (by kernel_rfl) (by kernel_rfl) (fun _ _ _ h => h) (by rfl) ?_ (by assumption) ?_
        rotate_left
        · (intro w hSw; (try dsimp only at hSw); go_simp; try with_reducible rfl)
        simp only [Act.put, List.setIfInBounds_toArray, List.set_cons_zero, List.set_cons_succ]
        refine takeH (i := 7) (some 42) (v := ?_) rfl rfl (by kernel_rfl) (by kernel_rfl) (by kernel_rfl) (fun _ _ _ h => h) (by rfl) ?_ (by assumption) ?_
        rotate_left
        · (intro w hSw; (try dsimp only at hSw); go_simp; try with_reducible rfl)
        simp only [Act.put, List.setIfInBounds_toArray, List.set_cons_zero, List.set_cons_succ]
        refine takeH (i := 8) (some 43) (v := ?_) rfl rfl (by kernel_rfl) (by kernel_rfl) (by kernel_rfl) (fun _ _ _ h => h) (by rfl) ?_ (by assumption) ?_
        rotate_left
        · (intro w hSw; (try dsimp only at hSw); go_simp; try with_reducible rfl)
        simp only [Act.put, List.setIfInBounds_toArray, List.set_cons_zero, List.set_cons_succ]
        refine takeH (i := 9) (some 44) (v := ?_) rfl rfl (by kernel_rfl) (by kernel_rfl) (by kernel_rfl) (fun _ _ _ h => h) (by rfl) ?_ (by assumption) ?_
        rotate_left
        · (intro w hSw; (try dsimp only at hSw); go_simp; try with_reducible rfl)
        simp only [Act.put, List.setIfInBounds_toArray, List.set_cons_zero, List.set_cons_succ]
        refine takeH (i := 10) (some 45) (v := ?_) rfl rfl (by kernel_rfl) (by kernel_rfl) (by kernel_rfl) (fun _ _ _ h => h) (by rfl) ?_ (by assumption) ?_
        rotate_left
        · (intro w hSw; (try dsimp only at hSw); go_simp; try with_reducible rfl)
        simp only [Act.put, List.setIfInBounds_toArray, List.set_cons_zero, List.set_cons_succ]
        refine takeH (i := 11) (some 46) (v := ?_) rfl rfl (by kernel_rfl) (by kernel_rfl) (by kernel_rfl) (fun _ _ _ h => h) (by rfl) ?_ (by assumption) ?_
        rotate_left
        · (intro w hSw; (try dsimp only at hSw); go_simp; try with_reducible rfl)
        simp only [Act.put, List.setIfInBounds_toArray, List.set_cons_zero, List.set_cons_succ]
        refine takeH (i := 12) (some 47) (v := ?_) rfl rfl (by kernel_rfl) (by kernel_rfl) (by kernel_rfl) (fun _ _ _ h => h) (by rfl) ?_ (by assumption) ?_
        rotate_left
        · (intro w hSw; (try dsimp only at hSw); go_simp; try with_reducible rfl)
        simp only [Act.put, List.setIfInBounds_toArray, List.set_cons_zero, List.set_cons_succ]
        refine takeH (i := 13) (some 48) (v := ?_) rfl rfl (by kernel_rfl) (by kernel_rfl) (by kernel_rfl) (fun _ _ _ h => h) (by rfl) ?_ (by assumption) ?_
        rotate_left
        · (intro w hSw; (try dsimp only at hSw); go_simp; try with_reducible rfl)
        simp only [Act.put, List.setIfInBounds_toArray, List.set_cons_zero, List.set_cons_succ]
        refine takeH (i := 14) (some 49) (v := ?_) rfl rfl (by kernel_rfl) (by kernel_rfl) (by kernel_rfl) (fun _ _ _ h => h) (by rfl) ?_ (by assumption) ?_
        rotate_left
        · (intro w hSw; (try dsimp only at hSw); go_simp; try with_reducible rfl)
        simp only [Act.put, List.setIfInBounds_toArray, List.set_cons_zero, List.set_cons_succ]
        refine takeH (i := 15) (some 50) (v := ?_) rfl rfl (by kernel_rfl) (by kernel_rfl) (by kernel_rfl) (fun _ _ _ h => h) (by rfl) ?_ (by assumption) ?_
        rotate_left
        · (intro w hSw; (try dsimp only at hSw); go_simp; try with_reducible rfl)
        simp only [Act.put, List.setIfInBounds_toArray, List.set_cons_zero, List.set_cons_succ]
        refine takeH (i := 16) (some 51) (v := ?_) rfl rfl (by kernel_rfl) (by kernel_rfl) (by kernel_rfl) (fun _ _ _ h => h) (by rfl) ?_ (by assumption) ?_
        rotate_left
        · (intro w hSw; (try dsimp only at hSw); go_simp; try with_reducible rfl)
        simp only [Act.put, List.setIfInBounds_toArray, List.set_cons_zero, List.set_cons_succ]
        refine takeH (i := 17) (some 52) (v := ?_) rfl rfl (by kernel_rfl) (by kernel_rfl) (by kernel_rfl) (fun _ _ _ h => h) (by rfl) ?_ (by assumption) ?_
        rotate_left
        · (intro w hSw; (try dsimp only at hSw); go_simp; try with_reducible rfl)
        simp only [Act.put, List.setIfInBounds_toArray, List.set_cons_zero, List.set_cons_succ]
        refine takeH (i := 18) (some 53) (v := ?_) rfl rfl (by kernel_rfl) (by kernel_rfl) (by kernel_rfl) (fun _ _ _ h => h) (by rfl) ?_ (by assumption) ?_
        rotate_left
        · (intro w hSw; (try dsimp only at hSw); go_simp; try with_reducible rfl)
        simp only [Act.put, List.setIfInBounds_toArray, List.set_cons_zero, List.set_cons_succ]
        refine takeH (i := 19) (some 54) (v := ?_) rfl rfl (by kernel_rfl) (by kernel_rfl) (by kernel_rfl) (fun _ _ _ h => h) (by rfl) ?_ (by assumption) ?_
        rotate_left
        · (intro w hSw; (try dsimp only at hSw); go_simp; try with_reducible rfl)
        simp only [Act.put, List.setIfInBounds_toArray, List.set_cons_zero, List.set_cons_succ]
        refine takeH (i := 20) (some 55) (v := ?_) rfl rfl (by kernel_rfl) (by kernel_rfl) (by kernel_rfl) (fun _ _ _ h => h) (by rfl) ?_ (by assumption) ?_
        rotate_left
        · (intro w hSw; (try dsimp only at hSw); go_simp; try with_reducible rfl)
        simp only [Act.put, List.setIfInBounds_toArray, List.set_cons_zero, List.set_cons_succ]
        refine skipH (i := 21) (some 56) rfl rfl (by kernel_rfl) (by kernel_rfl) (by kernel_rfl) (fun _ _ _ h => h) (by rfl) (by assumption) ?_
        simp only [Act.put, List.setIfInBounds_toArray, List.set_cons_zero, List.set_cons_succ]
        refine skipH (i := 22) (some 57) rfl rfl (by kernel_rfl) (by kernel_rfl) (by kernel_rfl) (fun _ _ _ h => h) (by rfl) (by assumption) ?_
        simp only [Act.put, List.setIfInBounds_toArray, List.set_cons_zero, List.set_cons_succ]
        refine skipH (i := 23) (some 58) rfl rfl (by kernel_rfl) (by kernel_rfl) (by kernel_rfl) (fun _ _ _ h => h) (by rfl) (by assumption) ?_
        simp only [Act.put, List.setIfInBounds_toArray, List.set_cons_zero, List.set_cons_succ]
        refine skipH (i := 24) (some 59) rfl rfl (by kernel_rfl) (by kernel_rfl) (by kernel_rfl) (fun _ _ _ h => h) (by rfl) (by assumption) ?_
        simp only [Act.put, List.setIfInBounds_toArray, List.set_cons_zero, List.set_cons_succ]
        refine skipH (i := 25) (some 60) rfl rfl (by kernel_rfl) (by kernel_rfl) (by kernel_rfl) (fun _ _ _ h => h) (by rfl) (by assumption) ?_
        simp only [Act.put, List.setIfInBounds_toArray, List.set_cons_zero, List.set_cons_succ]
        refine skipH (i := 26) (some 61) rfl rfl (by kernel_rfl) (by kernel_rfl) (by kernel_rfl) (fun _ _ _ h => h) (by rfl) (by assumption) ?_
        simp only [Act.put, List.setIfInBounds_toArray, List.set_cons_zero, List.set_cons_succ]
        refine skipH (i := 27) (some 62) rfl rfl (by kernel_rfl) (by kernel_rfl) (by kernel_rfl) (fun _ _ _ h => h) (by rfl) (by assumption) ?_
        simp only [Act.put, List.setIfInBounds_toArray, List.set_cons_zero, List.set_cons_succ]
        refine skipH (i := 28) (some 63) rfl rfl (by kernel_rfl) (by kernel_rfl) (by kernel_rfl) (fun _ _ _ h => h) (by rfl) (by assumption) ?_
        simp only [Act.put, List.setIfInBounds_toArray, List.set_cons_zero, List.set_cons_succ]
        refine skipH (i := 29) (some 64) rfl rfl (by kernel_rfl) (by kernel_rfl) (by kernel_rfl) (fun _ _ _ h => h) (by rfl) (by assumption) ?_
        simp only [Act.put, List.setIfInBounds_toArray, List.set_cons_zero, List.set_cons_succ]
        refine skipH (i := 30) (some 65) rfl rfl (by kernel_rfl) (by kernel_rfl) (by kernel_rfl) (fun _ _ _ h => h) (by rfl) (by assumption) ?_
        simp only [Act.put, List.setIfInBounds_toArray, List.set_cons_zero, List.set_cons_succ]
        refine skipH (i := 31) (some 66) rfl rfl (by kernel_rfl) (by kernel_rfl) (by kernel_rfl) (fun _ _ _ h => h) (by rfl) (by assumption) ?_
        simp only [Act.put, List.setIfInBounds_toArray, List.set_cons_zero, List.set_cons_succ]
        refine skipH (i := 32) (some 67) rfl rfl (by kernel_rfl) (by kernel_rfl) (by kernel_rfl) (fun _ _ _ h => h) (by rfl) (by assumption) ?_
        simp only [Act.put, List.setIfInBounds_toArray, List.set_cons_zero, List.set_cons_succ]
        refine skipH (i := 33) (some 68) rfl rfl (by kernel_rfl) (by kernel_rfl) (by kernel_rfl) (fun _ _ _ h => h) (by rfl) (by assumption) ?_
        simp only [Act.put, List.setIfInBounds_toArray, List.set_cons_zero, List.set_cons_succ]
        refine skipH (i := 34) (some 69) rfl rfl (by kernel_rfl) (by kernel_rfl) (by kernel_rfl) (fun _ _ _ h => h) (by rfl) (by assumption) ?_
        simp only [Act.put, List.setIfInBounds_toArray, List.set_cons_zero, List.set_cons_succ]
        refine skipH (i := 35) (some 70) rfl rfl (by kernel_rfl) (by kernel_rfl) (by kernel_rfl) (fun _ _ _ h => h) (by rfl) (by assumption) ?_
        simp only [Act.put, List.setIfInBounds_toArray, List.set_cons_zero, List.set_cons_succ]
        refine skipH (i := 36) (some 71) rfl rfl (by kernel_rfl) (by kernel_rfl) (by kernel_rfl) (fun _ _ _ h => h) (by rfl) (by assumption) ?_
        simp only [Act.put, List.setIfInBounds_toArray, List.set_cons_zero, List.set_cons_succ]
        refine skipH (i := 37) (some 72) rfl rfl (by kernel_rfl) (by kernel_rfl) (by kernel_rfl) (fun _ _ _ h => h) (by rfl) (by assumption) ?_
        simp only [Act.put, List.setIfInBounds_toArray, List.set_cons_zero, List.set_cons_succ]
        refine skipH (i := 38) (some 73) rfl rfl (by kernel_rfl) (by kernel_rfl) (by kernel_rfl) (fun _ _ _ h => h) (by rfl) (by assumption) ?_
        simp only [Act.put, List.setIfInBounds_toArray, List.set_cons_zero, List.set_cons_succ]
        refine skipH (i := 39) (some 74) rfl rfl (by kernel_rfl) (by kernel_rfl) (by kernel_rfl) (fun _ _ _ h => h) (by rfl) (by assumption) ?_
        simp only [Act.put, List.setIfInBounds_toArray, List.set_cons_zero, List.set_cons_succ]
        refine skipH (i := 40) (some 75) rfl rfl (by kernel_rfl) (by kernel_rfl) (by kernel_rfl) (fun _ _ _ h => h) (by rfl) (by assumption) ?_
        simp only [Act.put, List.setIfInBounds_toArray, List.set_cons_zero, List.set_cons_succ]
        refine takeH (i := 41) (some 76) (v := ?_) rfl rfl (by kernel_rfl) (by kernel_rfl) (by kernel_rfl) (fun _ _ _ h => h) (by rfl) ?_ (by assumption) ?_
        rotate_left
        · (intro w hSw; (try dsimp only at hSw); go_simp; try with_reducible rfl)
        simp only [Act.put, List.setIfInBounds_toArray, List.set_cons_zero, List.set_cons_succ]
        refine takeH (i := 42) (some 77) (v := ?_) rfl rfl (by kernel_rfl) (by kernel_rfl) (by kernel_rfl) (fun _ _ _ h => h) (by rfl) ?_ (by assumption) ?_
        rotate_left
        · (intro w hSw; (try dsimp only at hSw); go_simp; try with_reducible rfl)
        simp only [Act.put, List.setIfInBounds_toArray, List.set_cons_zero, List.set_cons_succ]
        refine wpAnyH_done (by kernel_rfl) ?_ _
        go_wp2
        go_roundw
        case rel => exact ⟨k + 1, by omega, by go_num, HS.out⟩
        case measure => simp [intOf]; omega
    · have hlti : ¬ (k : Int) < (D.length : Int) := by omega
      have HS := Lib.hid hst
      clear hst
      go_wp2_with fail
      refine (L.out _).mono ?_
      rintro e w9 ⟨rfl, hB9⟩
      have HS9 := Lib.hid (HS.out.next hB9)
      clear hB9
      have y1 := HS9.out.2.2.2.1.text c4 32 HY.out.1.symm
      have y2 := HS9.out.2.2.1.text 32 32 HY.out.1.symm
      have y3 := HS9.out.2.1.text 32 32 HX.out.1.symm
      have hi := strOf_inj HX.out.2 HY.out.2
      have hn := DN.out
      obtain ⟨n, hnn⟩ : ∃ n, n = D.length := ⟨_, rfl⟩
      rw [← hnn] at hn ⊢
      by_cases hXY : X = Y
      · have hn0 : n = 0 := hn.2 hXY
        subst hn0
        rw [hXY] at y3
        clear hn hi hnn hlti hk hdl
        go_wp2
        go_ret
        exact ⟨rfl, HS9.out.1⟩
      · have hn0 : ¬ n = 0 := fun e => hXY (hn.1 e)
        have hn1 : ((n : Int) == 0) = false := by rw [beq_eq_false_iff_ne]; omega
        have hn2 : ¬ (n : Int) = 0 := by omega
        have hne : ¬ strOfNums X = strOfNums Y := by rw [hi]; exact hXY
        have hbq : ((strOfNums X).toList == (strOfNums Y).toList) = false := by rw [toList_beq]; simpa using hne
        have hlq : ¬ (strOfNums X).toList = (strOfNums Y).toList := by rw [toList_iff]; exact hne
        clear hn hi hnn hlti hk hdl hne
        go_wp2
        go_ret
        exact ⟨rfl, HS9.out.1⟩
end Go.Proofs.Ytiblmdpgdlacaaa.patchMakes
