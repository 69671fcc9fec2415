/- DiskVersions is true of every deeds and choices, and leaves its arguments as they are. Here: the walk of the law's text. -/
import Derived.Test.YtieeibdhaoaeaaaLV
set_option linter.unusedVariables false
set_option linter.unusedSimpArgs false
namespace Go.Proofs.Ytieeibdhaoaeaaa.DiskVersions
open Go.RowKit
set_option maxRecDepth 100000 in
set_option maxHeartbeats 8000000 in
theorem walk (A : Option Addr) (len cap : Nat) (L : List Dd) (A' : Option Addr) (len' cap' : Nat) (L' : List Dd) (PA : Option Addr) (pl pc : Nat) (pick : List Int) (w : World) (hL : L.length = len ∧ DeedsAt w A L ∧ ∀ x ∈ L, DdIn w x) (hL' : L'.length = len' ∧ DeedsAt w A' L' ∧ ∀ x ∈ L', DdIn w x)
    (hP : pick.length = pl ∧ (∀ y ∈ pick, -9223372036854775808 ≤ y ∧ y ≤ 9223372036854775807) ∧ PickAt w (fun _ => False) PA pick) :
    Calls Try.prog 4 #[.slice A len cap, .slice A' len' cap', .slice PA pl pc] w fun e w' => e = .returned (.bool true) ∧ Below w.heap.size w w' := by
  obtain ⟨rfl, hA, hD⟩ := hL
  obtain ⟨rfl, hA', hD'⟩ := hL'
  obtain ⟨rfl, hpw, hpa⟩ := hP
  have PL : Hid (Calls Try.prog 12 #[.int .u8 5, .slice A L.length cap] w (Played w 6)) := play_any w 5 ⟨by decide, by decide⟩ A cap L hA hD
  have LV : Hid (∀ w1 d r, OwnB w w1 d r 6 60 → Calls Try.prog 13 #[] w1 fun e w' => e = .returned (.bool true) ∧ OwnB w w' d r 6 60) := fun w1 d r h => h.live
  have FL : Hid (∀ w1 d r, OwnB w w1 d r 6 60 → Calls Try.prog 15 #[.pointer (some ⟨d, 0, none⟩)] w1 fun e w' => e = .returned (.int .i64 0) ∧ Vz w w' d 60) := fun w1 d r h => h.flush (by decide)
  have HG : Hid (∀ wr i (hi : i < L'.length), Below w.heap.size w wr → ∃ b o, A' = some ⟨b, o, none⟩ ∧ b < w.heap.size ∧ wr.cell? ⟨b, o + i * 5 + 1, none⟩ = some (.int .i64 L'[i].i) ∧ wr.cell? ⟨b, o + i * 5 + 2, none⟩ = some (.int .u8 L'[i].c)) := fun wr i hi hB => by
    obtain ⟨b, o, h1, h2⟩ := hA'.get hi hB
    refine ⟨b, o, h1, ?_, h2 1 _ rfl, h2 2 _ rfl⟩
    rcases hA' with q | ⟨b', o', q1, q2, _⟩
    · rw [q] at hi; simp at hi
    · rw [h1] at q1; simp at q1; omega
  have SX : Hid (∀ W (q : Nat), Calls Try.prog 18 #[.int .u8 (q : Nat)] W fun e w' => e = .returned (secV (uniS q)) ∧ Below W.heap.size W w') := fun W q => sector_any q W
  have HC : Hid (∀ i (hi : i < L'.length), ∃ q : Nat, q < 256 ∧ L'[i].c = (q : Int)) := fun i hi => by
    have := (hD' _ (List.getElem_mem hi)).c0
    exact ⟨L'[i].c.toNat, by omega, by omega⟩
  have CR0 : Hid (∀ d bs c W, c < 200 → Vs w W d bs c noX (fun _ => True) → Calls Try.prog 19 #[.pointer (some ⟨d, 0, none⟩), .slice PA pick.length pc] W fun e w' => e = .returned (.int .i64 0) ∧ Vs w w' d bs c noX (fun S => ∀ j, j < 6 → (S j).v = [])) := fun d bs c W hc H => H.crash (by omega) pick hpw PA pc hpa
  obtain ⟨Z0, hZ⟩ : ∃ Z0, Z0 = (seenL.map Value.bool).toArray := ⟨_, rfl⟩
  have HI : Hid ((Try.prog.info? 34).map (·.zero) = some (some (.agg Z0))) := by rw [hZ]; exact info34
  have VZA : Hid (∀ W d, Vz w W d 60 → Vs w (W.alloc (.cells Z0 34)) d W.heap.size 60 (fun j _ => 0 ≤ j) (fun S => ∀ j, j < 6 → (S j).v = [])) := fun W d H => by rw [hZ]; exact H.alloc
  clear hA hD hA' hD' hpw hpa hZ
  go_enter Try.func4, Try.ntmps4
  go_wp2_with fail
  refine PL.out.mono ?_
  rintro e w1 ⟨d, r, rfl, h1⟩
  have H1 := Lib.hid h1
  clear h1
  go_wp2_with fail
  refine (LV.out _ _ _ H1.out).mono ?_
  rintro e w2 ⟨rfl, h2⟩
  have H2 := Lib.hid h2
  clear h2
  go_wp2_with fail
  refine (FL.out _ _ _ H2.out).mono ?_
  rintro e w3 ⟨rfl, h3⟩
  have H4 := Lib.hid (VZA.out _ _ h3)
  obtain ⟨bs, hbs⟩ : ∃ bs, bs = w3.heap.size := ⟨_, rfl⟩
  obtain ⟨w4, hw4⟩ : ∃ w4, w4 = w3.alloc (.cells Z0 34) := ⟨_, rfl⟩
  rw [← hbs, ← hw4] at H4
  have LS : Hid (∀ W k, k < 6 → Vs w W d bs 60 (fun j _ => k ≤ j) (fun S => ∀ j, j < 6 → (S j).v = []) → Calls Try.prog 16 #[.pointer (some ⟨d, 0, none⟩), .int .i64 (k : Nat)] W fun e w' => ∃ (q : Nat) (U : Array Value), e = .returned (.tuple #[.agg U, .int .i64 0]) ∧ U = (bytesV (uniS q)).toArray ∧ q < 256 ∧ Vs w w' d bs 60 (fun j _ => k ≤ j) (fun S => (∀ j, j < 6 → (S j).v = []) ∧ (S k).s = uniS q)) := fun W k hk H => by
    refine (H.last hk).mono ?_
    rintro e w' ⟨q, rfl, hq, h⟩
    exact ⟨q, _, rfl, rfl, hq, h⟩
  have MK : Hid (∀ W k (q : Nat), k < 6 → q < 256 → Vs w W d bs 60 (fun j _ => k ≤ j) (fun S => (∀ j, j < 6 → (S j).v = []) ∧ (S k).s = uniS q) → Vs w (W.setCell ⟨bs, k * 256 + q, none⟩ (.bool true)) d bs 60 (fun j _ => k + 1 ≤ j) (fun S => ∀ j, j < 6 → (S j).v = [])) := fun W k q hk hq H => by
    refine (H.mark hk hq).weaken (fun S hS j hj x hx hX => ?_) (fun S hS => hS.1)
    by_cases e : j = k
    · subst e
      rcases hx with rfl | hx
      · exact absurd ⟨rfl, hS.2⟩ hX.2
      · rw [hS.1 j hj] at hx; cases hx
    · have := hX.1
      omega
  have WNA : Hid (∀ c W z (q : Nat), ¬ (0 ≤ z ∧ z < 6) → Vs w W d bs c noX (fun _ => True) → Calls Try.prog 17 #[.pointer (some ⟨d, 0, none⟩), .int .i64 z, secV (uniS q)] W fun e w' => e = .returned (.int .i64 2) ∧ Vs w w' d bs (c + 1) noX (fun _ => True)) := fun c W z q hz H => H.write_out hz _
  have WBA : Hid (∀ c W (i q : Nat), i < 6 → Vs w W d bs c noX (fun S => (S i).b = true) → Calls Try.prog 17 #[.pointer (some ⟨d, 0, none⟩), .int .i64 (i : Nat), secV (uniS q)] W fun e w' => e = .returned (.int .i64 10) ∧ Vs w w' d bs (c + 1) noX (fun _ => True)) := fun c W i q hi H => H.write_bad hi _
  have WOA : Hid (∀ c W (i q : Nat), c < 200 → i < 6 → q < 256 → Vs w W d bs c noX (fun S => (S i).b = false) → Calls Try.prog 17 #[.pointer (some ⟨d, 0, none⟩), .int .i64 (i : Nat), secV (uniS q)] W fun e w' => e = .returned (.int .i64 0) ∧ Vs w w' d bs (c + 1) (fun j x => j = i ∧ x = uniS q) (fun _ => True)) := fun c W i q hc hi hq H => H.write_ok hi (by omega) hq
  have CRA := Lib.hid (fun c W hc H => CR0.out d bs c W hc H)
  have RDA : Hid (∀ c W k, c < 200 → k < 6 → Vs w W d bs c noX (fun S => ∀ j, j < 6 → (S j).v = []) → Calls Try.prog 20 #[.pointer (some ⟨d, 0, none⟩), .int .i64 (k : Nat)] W fun e w' => ∃ (q : Nat) (U : Array Value), e = .returned (.tuple #[.agg U, .int .i64 0]) ∧ U = (bytesV (uniS q)).toArray ∧ q < 256 ∧ Vs w w' d bs c noX (fun S => (∀ j, j < 6 → (S j).v = []) ∧ (S k).s = uniS q)) := fun c W k hc hk H => by
    refine (H.read hk (by omega)).mono ?_
    rintro e w' ⟨q, rfl, hq, h⟩
    exact ⟨q, _, rfl, rfl, hq, h⟩
  have V0A : Hid (∀ c W (q k : Nat), c < 200 → k < 6 → Vs w W d bs c noX (fun S => (∀ j, j < 6 → (S j).v = []) ∧ (S k).s = uniS q) → Calls Try.prog 21 #[.pointer (some ⟨d, 0, none⟩), .int .i64 (k : Nat)] W fun e w' => (e = .returned (.int .i64 0) ∧ Vs w w' d bs c noX (fun S => (∀ j, j < 6 → (S j).v = []) ∧ (S k).s = uniS q)) ∧ Below W.heap.size W w') := fun c W q k hc hk H => H.vers0 hk (by omega)
  have Hbs := Lib.hid hbs
  have Hw4 := Lib.hid hw4
  clear h3 VZA CR0 hbs hw4
  go_wp2_with (refine wpList_alloc_eq rfl 34 rfl Z0 HI.out ?_
               rw [← Hw4.out, ← Hbs.out])
  go_loopw [11] (fun i wr => ∃ k : Nat, k ≤ 6 ∧ i = .int .i64 k ∧ Vs w wr d bs 60 (fun j _ => k ≤ j) (fun S => ∀ j, j < 6 → (S j).v = [])) (fun i _ => 6 - (intOf i).toNat)
  case atStart => exact ⟨0, Nat.zero_le _, rfl, H4.out⟩
  case round =>
    obtain ⟨k1, hk1, rfl, hO⟩ := hrel
    rename World => u0
    have U0 := Lib.hid hO
    clear hO
    by_cases hlt1 : k1 < 6
    · have hlt1' : (k1 : Int) < 6 := by omega
      have hk10 : (0 : Int) ≤ (k1 : Int) := by omega
      have hwk1 : IntKind.i64.wrap ((k1 : Int) + 1) = (k1 : Int) + 1 := by simp [IntKind.wrap, IntKind.bits, IntKind.signed]; omega
      go_wp2_with fail
      refine (LS.out _ k1 hlt1 U0.out).mono ?_
      rintro e t1 ⟨q, U, rfl, hUe, hq, h⟩
      have U1 := Lib.hid h
      have hq0 : (0 : Int) ≤ (q : Int) := by omega
      have hq1 : (q : Int) < 256 := by omega
      have hsz : Hid ((Try.prog.info? 36).map (·.size) = some U.size) := by unfold Hid; rw [hUe, List.size_toArray, length_bytesV, uniS, List.length_replicate]; exact size36
      have h32 : Hid (32 = U.size) := by unfold Hid; rw [hUe, List.size_toArray, length_bytesV, uniS, List.length_replicate]
      have hone : Hid (U.all (·.oneCell') = true) := by unfold Hid; rw [hUe]; exact all_oneCell_toArray (bytesV_one _)
      have c0 : Hid (U[0]? = some (.int .u8 (q : Nat))) := by rw [hUe]; rfl
      clear h hUe
      go_wp2_with (refine wpList_store_row rfl 36 (.tmp 12) (.tmp 41) rfl t1.heap.size U rfl rfl 36 _ (heap_alloc_new t1 _) hsz.out h32.out hone.out ?_
                   generalize hW : World.setRow (t1.alloc (Obj.cells _ 36)) _ U = t2
                   have b2 : t2.heap[t1.heap.size]? = some (.cells U 36 (0, 0)) := by rw [← hW]; exact setRow_heap _ _ _ _ _ _ (heap_alloc_new t1 _)
                   have hB2 : Below t1.heap.size t1 t2 := by rw [← hW]; exact below_setRow (below_alloc1 t1 _) (Nat.le_refl _) _
                   have x2 : t2.drew.cell? ⟨t1.heap.size, 0, none⟩ = some (.int .u8 (q : Nat)) := (cell_of_row t2.drew t1.heap.size 0 U 36 (0, 0) b2).trans c0.out
                   have U2 := Lib.hid (Vs.next (Vs.next U1.out hB2) (Below.refl t2.heap.size t2).drew)
                   have U3 := Lib.hid (MK.out _ k1 q hlt1 hq U2.out)
                   have hne : t1.heap.size ≠ bs := fun e => by have := Vs.bs_lt U1.out; omega
                   have x3 : (t2.drew.setCell ⟨bs, k1 * 256 + q, none⟩ (.bool true)).cell? ⟨t1.heap.size, 0, none⟩ = some (.int .u8 (q : Nat)) := by
                     have hkk : Kept t2.drew (t2.drew.setCell ⟨bs, k1 * 256 + q, none⟩ (.bool true)) (fun b => b = bs) := Kept.grown (setCell_grown _ _ _) (fun b e => by cases e; exact .inl rfl)
                     rw [hkk.cell (a := ⟨t1.heap.size, 0, none⟩) (Array.getElem?_eq_some_iff.1 b2).1 hne]; exact x2
                   obtain ⟨⟨bo, hcl⟩, hfz⟩ := U2.out.slot hlt1 hq
                   clear hW hB2 b2 hne)
      refine wp_region_held_drew (S := (fun W => W.cell? ⟨t1.heap.size, 0, none⟩ = some (.int .u8 (q : Nat)))) (by kernel_rfl) (x2) (fun hHeld => ?_)
      refine takeH (i := 0) (some 43) (v := ?_) rfl rfl (by kernel_rfl) (by kernel_rfl) (by kernel_rfl) (fun _ _ _ h => h) (by rfl) ?_ (by assumption) ?_
      rotate_left
      · (intro w hSw; (try dsimp only at hSw); go_simp; try with_reducible rfl)
      simp only [Act.put, List.setIfInBounds_toArray, List.set_cons_zero, List.set_cons_succ]
      refine takeH (i := 1) (some 44) (v := ?_) rfl rfl (by kernel_rfl) (by kernel_rfl) (by kernel_rfl) (fun _ _ _ h => h) (by rfl) ?_ (by assumption) ?_
      rotate_left
      · (intro w hSw; (try dsimp only at hSw); go_simp; try with_reducible rfl)
      simp only [Act.put, List.setIfInBounds_toArray, List.set_cons_zero, List.set_cons_succ]
      refine takeH (i := 2) (some 45) (v := ?_) rfl rfl (by kernel_rfl) (by kernel_rfl) (by kernel_rfl) (fun _ _ _ h => h) (by rfl) ?_ (by assumption) ?_
      rotate_left
      · (intro w hSw; (try dsimp only at hSw); go_simp; try with_reducible rfl)
      simp only [Act.put, List.setIfInBounds_toArray, List.set_cons_zero, List.set_cons_succ]
      refine takeH (i := 3) (some 46) (v := ?_) rfl rfl (by kernel_rfl) (by kernel_rfl) (by kernel_rfl) (fun _ _ _ h => h) (by rfl) ?_ (by assumption) ?_
      rotate_left
      · (intro w hSw; (try dsimp only at hSw); go_simp; try with_reducible rfl)
      simp only [Act.put, List.setIfInBounds_toArray, List.set_cons_zero, List.set_cons_succ]
      refine takeH (i := 4) (some 47) (v := ?_) rfl rfl (by kernel_rfl) (by kernel_rfl) (by kernel_rfl) (fun _ _ _ h => h) (by rfl) ?_ (by assumption) ?_
      rotate_left
      · (intro w hSw; (try dsimp only at hSw); go_simp; try with_reducible rfl)
      simp only [Act.put, List.setIfInBounds_toArray, List.set_cons_zero, List.set_cons_succ]
      refine wpAnyH_ready (rs := [5]) (by kernel_rfl) (by simp) ?_
      refine AllReadyH.cons rfl (fun K hK => ?_) AllReadyH.nil
      go_simp

      refine hK _ _ (x3) (fun hHeld => ?_)
      clear hK K
      try simp only [Act.put, List.setIfInBounds_toArray, List.set_cons_zero, List.set_cons_succ]
      refine wpAnyH_done (by kernel_rfl) ?_ _
      go_wp2_with fail
      go_roundw
      case rel => exact ⟨k1 + 1, by omega, rfl, U3.out⟩
      case measure => simp [intOf]; omega
    · have hlt1' : ¬ (k1 : Int) < 6 := by omega
      obtain rfl : k1 = 6 := by omega
      have V6 : Hid (Vs w u0 d bs 60 noX (fun _ => True)) := Vs.weaken U0.out (fun _ _ j hj _ _ h => absurd h (by omega)) (fun _ _ => trivial)
      clear U0 LS MK
      go_wp2_with fail
      go_loopw [14] (fun i wr => ∃ k : Nat, k ≤ L'.length ∧ k ≤ 40 ∧ i = .int .i64 k ∧ Vs w wr d bs (60 + k) noX (fun _ => True)) (fun i _ => L'.length - (intOf i).toNat)
      case atStart => exact ⟨0, Nat.zero_le _, Nat.zero_le _, rfl, V6.out⟩
      case round =>
        obtain ⟨k, hk, hk6, rfl, hO⟩ := hrel
        rename World => wr
        obtain ⟨c2, hc2⟩ : ∃ c2, c2 = 60 + k := ⟨_, rfl⟩
        have hc200 : c2 < 200 := by omega
        rw [← hc2] at hO
        have HO := Lib.hid hO
        have CR := Lib.hid (fun W H => CRA.out c2 W hc200 H)
        have RD := Lib.hid (fun W k hk H => RDA.out c2 W k hc200 hk H)
        have V0 := Lib.hid (fun W q k hk H => V0A.out c2 W q k hc200 hk H)
        clear hO
        by_cases hlt : k < L'.length
        · have hlt' : (k : Int) < (L'.length : Int) := by omega
          have hk0 : (0 : Int) ≤ (k : Int) := by omega
          have hwk : IntKind.i64.wrap ((k : Int) + 1) = (k : Int) + 1 := by simp [IntKind.wrap, IntKind.bits, IntKind.signed]; omega
          by_cases h60 : k < 40
          · have h60' : (k : Int) < 40 := by omega
            have hc3 : c2 + 1 = 60 + (k + 1) := by omega
            obtain ⟨b, o, hAe, hb, _, _⟩ := HG.out wr k hlt HO.out.below
            obtain ⟨z, hz⟩ : ∃ z, z = L'[k].i := ⟨_, rfl⟩
            obtain ⟨q, hq, hqe⟩ := HC.out k hlt
            have HX : Hid (∀ W, Below w.heap.size w W → W.cell? ⟨b, o + k * 5 + 1, none⟩ = some (.int .i64 z) ∧ W.cell? ⟨b, o + k * 5 + 2, none⟩ = some (.int .u8 (q : Nat))) := fun W H => by
              obtain ⟨b', o', q1, q2, q3, q4⟩ := HG.out W k hlt H
              rw [hAe] at q1
              simp at q1
              obtain ⟨rfl, rfl⟩ := q1
              rw [hz, ← hqe]
              exact ⟨q3, q4⟩
            have hq0 : (0 : Int) ≤ (q : Int) := by omega
            have hq1 : (q : Int) < 256 := by omega
            subst hAe
            clear hz hqe CR RD V0
            by_cases hzr : 0 ≤ z ∧ z < 6
            · obtain ⟨zi, rfl⟩ : ∃ zi : Nat, z = (zi : Int) := ⟨z.toNat, by omega⟩
              have hz6 : zi < 6 := by omega
              have hz0 : (0 : Int) ≤ (zi : Int) := by omega
              have hz1 : (zi : Int) < 6 := by omega
              clear hzr
              rcases HO.out.cases zi with hcs | hcs
              · have HO := Lib.hid hcs
                have WR := Lib.hid (fun W H => WBA.out c2 W zi q hz6 H)
                clear hcs
                go_wp2_with fail
                refine wp_region_held_drew (S := (fun W => W.cell? ⟨b, o + k * 5 + 1, none⟩ = some (.int .i64 (zi : Nat)) ∧ W.cell? ⟨b, o + k * 5 + 2, none⟩ = some (.int .u8 (q : Nat)))) (by kernel_rfl) (HX.out _ (HO.out.below.trans (((Below.refl wr.heap.size wr).drew).mono HO.out.below.size))) (fun hHeld => ?_)
                refine takeH (i := 0) (some 58) (v := ?_) rfl rfl (by kernel_rfl) (by kernel_rfl) (by kernel_rfl) (fun _ _ _ h => h) (by rfl) ?_ (by assumption) ?_
                rotate_left
                · (intro w hSw; (try dsimp only at hSw); obtain ⟨hS1, hS2⟩ := hSw; go_simp; try with_reducible rfl)
                simp only [Act.put, List.setIfInBounds_toArray, List.set_cons_zero, List.set_cons_succ]
                refine takeH (i := 1) (some 59) (v := ?_) rfl rfl (by kernel_rfl) (by kernel_rfl) (by kernel_rfl) (fun _ _ _ h => h) (by rfl) ?_ (by assumption) ?_
                rotate_left
                · (intro w hSw; (try dsimp only at hSw); obtain ⟨hS1, hS2⟩ := hSw; go_simp; try with_reducible rfl)
                simp only [Act.put, List.setIfInBounds_toArray, List.set_cons_zero, List.set_cons_succ]
                refine takeH (i := 2) (some 60) (v := ?_) rfl rfl (by kernel_rfl) (by kernel_rfl) (by kernel_rfl) (fun _ _ _ h => h) (by rfl) ?_ (by assumption) ?_
                rotate_left
                · (intro w hSw; (try dsimp only at hSw); obtain ⟨hS1, hS2⟩ := hSw; go_simp; try with_reducible rfl)
                simp only [Act.put, List.setIfInBounds_toArray, List.set_cons_zero, List.set_cons_succ]
                refine takeH (i := 3) (some 61) (v := ?_) rfl rfl (by kernel_rfl) (by kernel_rfl) (by kernel_rfl) (fun _ _ _ h => h) (by rfl) ?_ (by assumption) ?_
                rotate_left
                · (intro w hSw; (try dsimp only at hSw); obtain ⟨hS1, hS2⟩ := hSw; go_simp; try with_reducible rfl)
                simp only [Act.put, List.setIfInBounds_toArray, List.set_cons_zero, List.set_cons_succ]
                refine takeH (i := 4) (some 62) (v := ?_) rfl rfl (by kernel_rfl) (by kernel_rfl) (by kernel_rfl) (fun _ _ _ h => h) (by rfl) ?_ (by assumption) ?_
                rotate_left
                · (intro w hSw; (try dsimp only at hSw); obtain ⟨hS1, hS2⟩ := hSw; go_simp; try with_reducible rfl)
                simp only [Act.put, List.setIfInBounds_toArray, List.set_cons_zero, List.set_cons_succ]
                refine takeH (i := 5) (some 63) (v := ?_) rfl rfl (by kernel_rfl) (by kernel_rfl) (by kernel_rfl) (fun _ _ _ h => h) (by rfl) ?_ (by assumption) ?_
                rotate_left
                · (intro w hSw; (try dsimp only at hSw); obtain ⟨hS1, hS2⟩ := hSw; go_simp; try with_reducible rfl)
                simp only [Act.put, List.setIfInBounds_toArray, List.set_cons_zero, List.set_cons_succ]
                refine takeH (i := 6) (some 64) (v := ?_) rfl rfl (by kernel_rfl) (by kernel_rfl) (by kernel_rfl) (fun _ _ _ h => h) (by rfl) ?_ (by assumption) ?_
                rotate_left
                · (intro w hSw; (try dsimp only at hSw); obtain ⟨hS1, hS2⟩ := hSw; go_simp; try with_reducible rfl)
                simp only [Act.put, List.setIfInBounds_toArray, List.set_cons_zero, List.set_cons_succ]
                refine takeH (i := 7) (some 65) (v := ?_) rfl rfl (by kernel_rfl) (by kernel_rfl) (by kernel_rfl) (fun _ _ _ h => h) (by rfl) ?_ (by assumption) ?_
                rotate_left
                · (intro w hSw; (try dsimp only at hSw); obtain ⟨hS1, hS2⟩ := hSw; go_simp; try with_reducible rfl)
                simp only [Act.put, List.setIfInBounds_toArray, List.set_cons_zero, List.set_cons_succ]
                refine takeH (i := 8) (some 66) (v := ?_) rfl rfl (by kernel_rfl) (by kernel_rfl) (by kernel_rfl) (fun _ _ _ h => h) (by rfl) ?_ (by assumption) ?_
                rotate_left
                · (intro w hSw; (try dsimp only at hSw); obtain ⟨hS1, hS2⟩ := hSw; go_simp; try with_reducible rfl)
                simp only [Act.put, List.setIfInBounds_toArray, List.set_cons_zero, List.set_cons_succ]
                refine takeH (i := 9) (some 67) (v := ?_) rfl rfl (by kernel_rfl) (by kernel_rfl) (by kernel_rfl) (fun _ _ _ h => h) (by rfl) ?_ (by assumption) ?_
                rotate_left
                · (intro w hSw; (try dsimp only at hSw); obtain ⟨hS1, hS2⟩ := hSw; go_simp; try with_reducible rfl)
                simp only [Act.put, List.setIfInBounds_toArray, List.set_cons_zero, List.set_cons_succ]
                refine takeH (i := 10) (some 68) (v := ?_) rfl rfl (by kernel_rfl) (by kernel_rfl) (by kernel_rfl) (fun _ _ _ h => h) (by rfl) ?_ (by assumption) ?_
                rotate_left
                · (intro w hSw; (try dsimp only at hSw); obtain ⟨hS1, hS2⟩ := hSw; go_simp; try with_reducible rfl)
                simp only [Act.put, List.setIfInBounds_toArray, List.set_cons_zero, List.set_cons_succ]
                refine wpAnyH_ready (rs := [11]) (by kernel_rfl) (by simp) ?_
                refine AllReadyH.cons rfl (fun K hK => ?_) AllReadyH.nil
                go_simp
                refine (SX.out _ q).mono ?_
                rintro e u1 ⟨rfl, hB⟩
                have B1 : Hid (Below wr.heap.size wr u1) := ((Below.refl wr.heap.size wr).drew).trans hB
                have U1 := Lib.hid (HO.out.next B1.out)
                have X1 := Lib.hid (HX.out _ U1.out.below)
                clear hB
                refine hK _ _ (X1.out) (fun hHeld => ?_)
                clear hK K
                try simp only [Act.put, List.setIfInBounds_toArray, List.set_cons_zero, List.set_cons_succ]
                refine wpAnyH_ready (rs := [12]) (by kernel_rfl) (by simp) ?_
                refine AllReadyH.cons rfl (fun K hK => ?_) AllReadyH.nil
                go_simp
                refine (WR.out _ U1.out).mono ?_
                rintro e u2 ⟨rfl, h⟩
                have U2 := Lib.hid h
                have X2 := Lib.hid (HX.out _ (Vs.below h))
                clear h
                refine hK _ _ (X2.out) (fun hHeld => ?_)
                clear hK K
                try simp only [Act.put, List.setIfInBounds_toArray, List.set_cons_zero, List.set_cons_succ]
                refine takeH (i := 13) (some 71) (v := ?_) rfl rfl (by kernel_rfl) (by kernel_rfl) (by kernel_rfl) (fun _ _ _ h => h) (by rfl) ?_ (by assumption) ?_
                rotate_left
                · (intro w hSw; (try dsimp only at hSw); obtain ⟨hS1, hS2⟩ := hSw; go_simp; try with_reducible rfl)
                simp only [Act.put, List.setIfInBounds_toArray, List.set_cons_zero, List.set_cons_succ]
                refine wpAnyH_done (by kernel_rfl) ?_ _
                go_wp2_with fail
                go_roundw
                case rel => exact ⟨k + 1, by omega, by omega, rfl, by rw [← hc3]; exact U2.out⟩
                case measure => simp [intOf]; omega
              · have HO := Lib.hid hcs
                have WR := Lib.hid (fun W H => WOA.out c2 W zi q hc200 hz6 hq H)
                clear hcs
                go_wp2_with fail
                refine wp_region_held_drew (S := (fun W => W.cell? ⟨b, o + k * 5 + 1, none⟩ = some (.int .i64 (zi : Nat)) ∧ W.cell? ⟨b, o + k * 5 + 2, none⟩ = some (.int .u8 (q : Nat)))) (by kernel_rfl) (HX.out _ (HO.out.below.trans (((Below.refl wr.heap.size wr).drew).mono HO.out.below.size))) (fun hHeld => ?_)
                refine takeH (i := 0) (some 58) (v := ?_) rfl rfl (by kernel_rfl) (by kernel_rfl) (by kernel_rfl) (fun _ _ _ h => h) (by rfl) ?_ (by assumption) ?_
                rotate_left
                · (intro w hSw; (try dsimp only at hSw); obtain ⟨hS1, hS2⟩ := hSw; go_simp; try with_reducible rfl)
                simp only [Act.put, List.setIfInBounds_toArray, List.set_cons_zero, List.set_cons_succ]
                refine takeH (i := 1) (some 59) (v := ?_) rfl rfl (by kernel_rfl) (by kernel_rfl) (by kernel_rfl) (fun _ _ _ h => h) (by rfl) ?_ (by assumption) ?_
                rotate_left
                · (intro w hSw; (try dsimp only at hSw); obtain ⟨hS1, hS2⟩ := hSw; go_simp; try with_reducible rfl)
                simp only [Act.put, List.setIfInBounds_toArray, List.set_cons_zero, List.set_cons_succ]
                refine takeH (i := 2) (some 60) (v := ?_) rfl rfl (by kernel_rfl) (by kernel_rfl) (by kernel_rfl) (fun _ _ _ h => h) (by rfl) ?_ (by assumption) ?_
                rotate_left
                · (intro w hSw; (try dsimp only at hSw); obtain ⟨hS1, hS2⟩ := hSw; go_simp; try with_reducible rfl)
                simp only [Act.put, List.setIfInBounds_toArray, List.set_cons_zero, List.set_cons_succ]
                refine takeH (i := 3) (some 61) (v := ?_) rfl rfl (by kernel_rfl) (by kernel_rfl) (by kernel_rfl) (fun _ _ _ h => h) (by rfl) ?_ (by assumption) ?_
                rotate_left
                · (intro w hSw; (try dsimp only at hSw); obtain ⟨hS1, hS2⟩ := hSw; go_simp; try with_reducible rfl)
                simp only [Act.put, List.setIfInBounds_toArray, List.set_cons_zero, List.set_cons_succ]
                refine takeH (i := 4) (some 62) (v := ?_) rfl rfl (by kernel_rfl) (by kernel_rfl) (by kernel_rfl) (fun _ _ _ h => h) (by rfl) ?_ (by assumption) ?_
                rotate_left
                · (intro w hSw; (try dsimp only at hSw); obtain ⟨hS1, hS2⟩ := hSw; go_simp; try with_reducible rfl)
                simp only [Act.put, List.setIfInBounds_toArray, List.set_cons_zero, List.set_cons_succ]
                refine takeH (i := 5) (some 63) (v := ?_) rfl rfl (by kernel_rfl) (by kernel_rfl) (by kernel_rfl) (fun _ _ _ h => h) (by rfl) ?_ (by assumption) ?_
                rotate_left
                · (intro w hSw; (try dsimp only at hSw); obtain ⟨hS1, hS2⟩ := hSw; go_simp; try with_reducible rfl)
                simp only [Act.put, List.setIfInBounds_toArray, List.set_cons_zero, List.set_cons_succ]
                refine takeH (i := 6) (some 64) (v := ?_) rfl rfl (by kernel_rfl) (by kernel_rfl) (by kernel_rfl) (fun _ _ _ h => h) (by rfl) ?_ (by assumption) ?_
                rotate_left
                · (intro w hSw; (try dsimp only at hSw); obtain ⟨hS1, hS2⟩ := hSw; go_simp; try with_reducible rfl)
                simp only [Act.put, List.setIfInBounds_toArray, List.set_cons_zero, List.set_cons_succ]
                refine takeH (i := 7) (some 65) (v := ?_) rfl rfl (by kernel_rfl) (by kernel_rfl) (by kernel_rfl) (fun _ _ _ h => h) (by rfl) ?_ (by assumption) ?_
                rotate_left
                · (intro w hSw; (try dsimp only at hSw); obtain ⟨hS1, hS2⟩ := hSw; go_simp; try with_reducible rfl)
                simp only [Act.put, List.setIfInBounds_toArray, List.set_cons_zero, List.set_cons_succ]
                refine takeH (i := 8) (some 66) (v := ?_) rfl rfl (by kernel_rfl) (by kernel_rfl) (by kernel_rfl) (fun _ _ _ h => h) (by rfl) ?_ (by assumption) ?_
                rotate_left
                · (intro w hSw; (try dsimp only at hSw); obtain ⟨hS1, hS2⟩ := hSw; go_simp; try with_reducible rfl)
                simp only [Act.put, List.setIfInBounds_toArray, List.set_cons_zero, List.set_cons_succ]
                refine takeH (i := 9) (some 67) (v := ?_) rfl rfl (by kernel_rfl) (by kernel_rfl) (by kernel_rfl) (fun _ _ _ h => h) (by rfl) ?_ (by assumption) ?_
                rotate_left
                · (intro w hSw; (try dsimp only at hSw); obtain ⟨hS1, hS2⟩ := hSw; go_simp; try with_reducible rfl)
                simp only [Act.put, List.setIfInBounds_toArray, List.set_cons_zero, List.set_cons_succ]
                refine takeH (i := 10) (some 68) (v := ?_) rfl rfl (by kernel_rfl) (by kernel_rfl) (by kernel_rfl) (fun _ _ _ h => h) (by rfl) ?_ (by assumption) ?_
                rotate_left
                · (intro w hSw; (try dsimp only at hSw); obtain ⟨hS1, hS2⟩ := hSw; go_simp; try with_reducible rfl)
                simp only [Act.put, List.setIfInBounds_toArray, List.set_cons_zero, List.set_cons_succ]
                refine wpAnyH_ready (rs := [11]) (by kernel_rfl) (by simp) ?_
                refine AllReadyH.cons rfl (fun K hK => ?_) AllReadyH.nil
                go_simp
                refine (SX.out _ q).mono ?_
                rintro e u1 ⟨rfl, hB⟩
                have B1 : Hid (Below wr.heap.size wr u1) := ((Below.refl wr.heap.size wr).drew).trans hB
                have U1 := Lib.hid (HO.out.next B1.out)
                have X1 := Lib.hid (HX.out _ U1.out.below)
                clear hB
                refine hK _ _ (X1.out) (fun hHeld => ?_)
                clear hK K
                try simp only [Act.put, List.setIfInBounds_toArray, List.set_cons_zero, List.set_cons_succ]
                refine wpAnyH_ready (rs := [12]) (by kernel_rfl) (by simp) ?_
                refine AllReadyH.cons rfl (fun K hK => ?_) AllReadyH.nil
                go_simp
                refine (WR.out _ U1.out).mono ?_
                rintro e u2 ⟨rfl, h⟩
                have U2 := Lib.hid h
                have X2 := Lib.hid (HX.out _ (Vs.below h))
                clear h
                refine hK _ _ (X2.out) (fun hHeld => ?_)
                clear hK K
                try simp only [Act.put, List.setIfInBounds_toArray, List.set_cons_zero, List.set_cons_succ]
                refine takeH (i := 13) (some 71) (v := ?_) rfl rfl (by kernel_rfl) (by kernel_rfl) (by kernel_rfl) (fun _ _ _ h => h) (by rfl) ?_ (by assumption) ?_
                rotate_left
                · (intro w hSw; (try dsimp only at hSw); obtain ⟨hS1, hS2⟩ := hSw; go_simp; try with_reducible rfl)
                simp only [Act.put, List.setIfInBounds_toArray, List.set_cons_zero, List.set_cons_succ]
                refine wpAnyH_done (by kernel_rfl) ?_ _
                go_wp2_with fail
                have U3 := Lib.hid (Vs.next U2.out ((Below.refl u2.heap.size u2).drew))
                have M3 := Lib.hid ((U3.out.mark hz6 hq).marked)
                obtain ⟨⟨bo, hcl⟩, hfz⟩ := U3.out.slot hz6 hq
                refine wp_region_held_drew (S := (fun W => W.cell? ⟨b, o + k * 5 + 1, none⟩ = some (.int .i64 (zi : Nat)) ∧ W.cell? ⟨b, o + k * 5 + 2, none⟩ = some (.int .u8 (q : Nat)))) (by kernel_rfl) (HX.out _ (U2.out.below.trans (((Below.refl u2.heap.size u2).drew).mono U2.out.below.size))) (fun hHeld => ?_)
                refine takeH (i := 0) (some 72) (v := ?_) rfl rfl (by kernel_rfl) (by kernel_rfl) (by kernel_rfl) (fun _ _ _ h => h) (by rfl) ?_ (by assumption) ?_
                rotate_left
                · (intro w hSw; (try dsimp only at hSw); obtain ⟨hS1, hS2⟩ := hSw; go_simp; try with_reducible rfl)
                simp only [Act.put, List.setIfInBounds_toArray, List.set_cons_zero, List.set_cons_succ]
                refine takeH (i := 1) (some 73) (v := ?_) rfl rfl (by kernel_rfl) (by kernel_rfl) (by kernel_rfl) (fun _ _ _ h => h) (by rfl) ?_ (by assumption) ?_
                rotate_left
                · (intro w hSw; (try dsimp only at hSw); obtain ⟨hS1, hS2⟩ := hSw; go_simp; try with_reducible rfl)
                simp only [Act.put, List.setIfInBounds_toArray, List.set_cons_zero, List.set_cons_succ]
                refine takeH (i := 2) (some 74) (v := ?_) rfl rfl (by kernel_rfl) (by kernel_rfl) (by kernel_rfl) (fun _ _ _ h => h) (by rfl) ?_ (by assumption) ?_
                rotate_left
                · (intro w hSw; (try dsimp only at hSw); obtain ⟨hS1, hS2⟩ := hSw; go_simp; try with_reducible rfl)
                simp only [Act.put, List.setIfInBounds_toArray, List.set_cons_zero, List.set_cons_succ]
                refine takeH (i := 3) (some 75) (v := ?_) rfl rfl (by kernel_rfl) (by kernel_rfl) (by kernel_rfl) (fun _ _ _ h => h) (by rfl) ?_ (by assumption) ?_
                rotate_left
                · (intro w hSw; (try dsimp only at hSw); obtain ⟨hS1, hS2⟩ := hSw; go_simp; try with_reducible rfl)
                simp only [Act.put, List.setIfInBounds_toArray, List.set_cons_zero, List.set_cons_succ]
                refine takeH (i := 4) (some 76) (v := ?_) rfl rfl (by kernel_rfl) (by kernel_rfl) (by kernel_rfl) (fun _ _ _ h => h) (by rfl) ?_ (by assumption) ?_
                rotate_left
                · (intro w hSw; (try dsimp only at hSw); obtain ⟨hS1, hS2⟩ := hSw; go_simp; try with_reducible rfl)
                simp only [Act.put, List.setIfInBounds_toArray, List.set_cons_zero, List.set_cons_succ]
                refine takeH (i := 5) (some 77) (v := ?_) rfl rfl (by kernel_rfl) (by kernel_rfl) (by kernel_rfl) (fun _ _ _ h => h) (by rfl) ?_ (by assumption) ?_
                rotate_left
                · (intro w hSw; (try dsimp only at hSw); obtain ⟨hS1, hS2⟩ := hSw; go_simp; try with_reducible rfl)
                simp only [Act.put, List.setIfInBounds_toArray, List.set_cons_zero, List.set_cons_succ]
                refine takeH (i := 6) (some 78) (v := ?_) rfl rfl (by kernel_rfl) (by kernel_rfl) (by kernel_rfl) (fun _ _ _ h => h) (by rfl) ?_ (by assumption) ?_
                rotate_left
                · (intro w hSw; (try dsimp only at hSw); obtain ⟨hS1, hS2⟩ := hSw; go_simp; try with_reducible rfl)
                simp only [Act.put, List.setIfInBounds_toArray, List.set_cons_zero, List.set_cons_succ]
                refine takeH (i := 7) (some 79) (v := ?_) rfl rfl (by kernel_rfl) (by kernel_rfl) (by kernel_rfl) (fun _ _ _ h => h) (by rfl) ?_ (by assumption) ?_
                rotate_left
                · (intro w hSw; (try dsimp only at hSw); obtain ⟨hS1, hS2⟩ := hSw; go_simp; try with_reducible rfl)
                simp only [Act.put, List.setIfInBounds_toArray, List.set_cons_zero, List.set_cons_succ]
                refine takeH (i := 8) (some 80) (v := ?_) rfl rfl (by kernel_rfl) (by kernel_rfl) (by kernel_rfl) (fun _ _ _ h => h) (by rfl) ?_ (by assumption) ?_
                rotate_left
                · (intro w hSw; (try dsimp only at hSw); obtain ⟨hS1, hS2⟩ := hSw; go_simp; try with_reducible rfl)
                simp only [Act.put, List.setIfInBounds_toArray, List.set_cons_zero, List.set_cons_succ]
                refine takeH (i := 9) (some 81) (v := ?_) rfl rfl (by kernel_rfl) (by kernel_rfl) (by kernel_rfl) (fun _ _ _ h => h) (by rfl) ?_ (by assumption) ?_
                rotate_left
                · (intro w hSw; (try dsimp only at hSw); obtain ⟨hS1, hS2⟩ := hSw; go_simp; try with_reducible rfl)
                simp only [Act.put, List.setIfInBounds_toArray, List.set_cons_zero, List.set_cons_succ]
                refine takeH (i := 10) (some 82) (v := ?_) rfl rfl (by kernel_rfl) (by kernel_rfl) (by kernel_rfl) (fun _ _ _ h => h) (by rfl) ?_ (by assumption) ?_
                rotate_left
                · (intro w hSw; (try dsimp only at hSw); obtain ⟨hS1, hS2⟩ := hSw; go_simp; try with_reducible rfl)
                simp only [Act.put, List.setIfInBounds_toArray, List.set_cons_zero, List.set_cons_succ]
                refine takeH (i := 11) (some 83) (v := ?_) rfl rfl (by kernel_rfl) (by kernel_rfl) (by kernel_rfl) (fun _ _ _ h => h) (by rfl) ?_ (by assumption) ?_
                rotate_left
                · (intro w hSw; (try dsimp only at hSw); obtain ⟨hS1, hS2⟩ := hSw; go_simp; try with_reducible rfl)
                simp only [Act.put, List.setIfInBounds_toArray, List.set_cons_zero, List.set_cons_succ]
                refine wpAnyH_ready (rs := [12]) (by kernel_rfl) (by simp) ?_
                refine AllReadyH.cons rfl (fun K hK => ?_) AllReadyH.nil
                go_simp

                refine hK _ _ (HX.out _ M3.out.below) (fun hHeld => ?_)
                clear hK K
                try simp only [Act.put, List.setIfInBounds_toArray, List.set_cons_zero, List.set_cons_succ]
                refine wpAnyH_done (by kernel_rfl) ?_ _
                go_wp2_with fail
                go_roundw
                case rel => exact ⟨k + 1, by omega, by omega, rfl, by rw [← hc3]; exact M3.out⟩
                case measure => simp [intOf]; omega
            · have WR := Lib.hid (fun W H => WNA.out c2 W z q hzr H)
              clear hzr
              go_wp2_with fail
              refine wp_region_held_drew (S := (fun W => W.cell? ⟨b, o + k * 5 + 1, none⟩ = some (.int .i64 z) ∧ W.cell? ⟨b, o + k * 5 + 2, none⟩ = some (.int .u8 (q : Nat)))) (by kernel_rfl) (HX.out _ (HO.out.below.trans (((Below.refl wr.heap.size wr).drew).mono HO.out.below.size))) (fun hHeld => ?_)
              refine takeH (i := 0) (some 58) (v := ?_) rfl rfl (by kernel_rfl) (by kernel_rfl) (by kernel_rfl) (fun _ _ _ h => h) (by rfl) ?_ (by assumption) ?_
              rotate_left
              · (intro w hSw; (try dsimp only at hSw); obtain ⟨hS1, hS2⟩ := hSw; go_simp; try with_reducible rfl)
              simp only [Act.put, List.setIfInBounds_toArray, List.set_cons_zero, List.set_cons_succ]
              refine takeH (i := 1) (some 59) (v := ?_) rfl rfl (by kernel_rfl) (by kernel_rfl) (by kernel_rfl) (fun _ _ _ h => h) (by rfl) ?_ (by assumption) ?_
              rotate_left
              · (intro w hSw; (try dsimp only at hSw); obtain ⟨hS1, hS2⟩ := hSw; go_simp; try with_reducible rfl)
              simp only [Act.put, List.setIfInBounds_toArray, List.set_cons_zero, List.set_cons_succ]
              refine takeH (i := 2) (some 60) (v := ?_) rfl rfl (by kernel_rfl) (by kernel_rfl) (by kernel_rfl) (fun _ _ _ h => h) (by rfl) ?_ (by assumption) ?_
              rotate_left
              · (intro w hSw; (try dsimp only at hSw); obtain ⟨hS1, hS2⟩ := hSw; go_simp; try with_reducible rfl)
              simp only [Act.put, List.setIfInBounds_toArray, List.set_cons_zero, List.set_cons_succ]
              refine takeH (i := 3) (some 61) (v := ?_) rfl rfl (by kernel_rfl) (by kernel_rfl) (by kernel_rfl) (fun _ _ _ h => h) (by rfl) ?_ (by assumption) ?_
              rotate_left
              · (intro w hSw; (try dsimp only at hSw); obtain ⟨hS1, hS2⟩ := hSw; go_simp; try with_reducible rfl)
              simp only [Act.put, List.setIfInBounds_toArray, List.set_cons_zero, List.set_cons_succ]
              refine takeH (i := 4) (some 62) (v := ?_) rfl rfl (by kernel_rfl) (by kernel_rfl) (by kernel_rfl) (fun _ _ _ h => h) (by rfl) ?_ (by assumption) ?_
              rotate_left
              · (intro w hSw; (try dsimp only at hSw); obtain ⟨hS1, hS2⟩ := hSw; go_simp; try with_reducible rfl)
              simp only [Act.put, List.setIfInBounds_toArray, List.set_cons_zero, List.set_cons_succ]
              refine takeH (i := 5) (some 63) (v := ?_) rfl rfl (by kernel_rfl) (by kernel_rfl) (by kernel_rfl) (fun _ _ _ h => h) (by rfl) ?_ (by assumption) ?_
              rotate_left
              · (intro w hSw; (try dsimp only at hSw); obtain ⟨hS1, hS2⟩ := hSw; go_simp; try with_reducible rfl)
              simp only [Act.put, List.setIfInBounds_toArray, List.set_cons_zero, List.set_cons_succ]
              refine takeH (i := 6) (some 64) (v := ?_) rfl rfl (by kernel_rfl) (by kernel_rfl) (by kernel_rfl) (fun _ _ _ h => h) (by rfl) ?_ (by assumption) ?_
              rotate_left
              · (intro w hSw; (try dsimp only at hSw); obtain ⟨hS1, hS2⟩ := hSw; go_simp; try with_reducible rfl)
              simp only [Act.put, List.setIfInBounds_toArray, List.set_cons_zero, List.set_cons_succ]
              refine takeH (i := 7) (some 65) (v := ?_) rfl rfl (by kernel_rfl) (by kernel_rfl) (by kernel_rfl) (fun _ _ _ h => h) (by rfl) ?_ (by assumption) ?_
              rotate_left
              · (intro w hSw; (try dsimp only at hSw); obtain ⟨hS1, hS2⟩ := hSw; go_simp; try with_reducible rfl)
              simp only [Act.put, List.setIfInBounds_toArray, List.set_cons_zero, List.set_cons_succ]
              refine takeH (i := 8) (some 66) (v := ?_) rfl rfl (by kernel_rfl) (by kernel_rfl) (by kernel_rfl) (fun _ _ _ h => h) (by rfl) ?_ (by assumption) ?_
              rotate_left
              · (intro w hSw; (try dsimp only at hSw); obtain ⟨hS1, hS2⟩ := hSw; go_simp; try with_reducible rfl)
              simp only [Act.put, List.setIfInBounds_toArray, List.set_cons_zero, List.set_cons_succ]
              refine takeH (i := 9) (some 67) (v := ?_) rfl rfl (by kernel_rfl) (by kernel_rfl) (by kernel_rfl) (fun _ _ _ h => h) (by rfl) ?_ (by assumption) ?_
              rotate_left
              · (intro w hSw; (try dsimp only at hSw); obtain ⟨hS1, hS2⟩ := hSw; go_simp; try with_reducible rfl)
              simp only [Act.put, List.setIfInBounds_toArray, List.set_cons_zero, List.set_cons_succ]
              refine takeH (i := 10) (some 68) (v := ?_) rfl rfl (by kernel_rfl) (by kernel_rfl) (by kernel_rfl) (fun _ _ _ h => h) (by rfl) ?_ (by assumption) ?_
              rotate_left
              · (intro w hSw; (try dsimp only at hSw); obtain ⟨hS1, hS2⟩ := hSw; go_simp; try with_reducible rfl)
              simp only [Act.put, List.setIfInBounds_toArray, List.set_cons_zero, List.set_cons_succ]
              refine wpAnyH_ready (rs := [11]) (by kernel_rfl) (by simp) ?_
              refine AllReadyH.cons rfl (fun K hK => ?_) AllReadyH.nil
              go_simp
              refine (SX.out _ q).mono ?_
              rintro e u1 ⟨rfl, hB⟩
              have B1 : Hid (Below wr.heap.size wr u1) := ((Below.refl wr.heap.size wr).drew).trans hB
              have U1 := Lib.hid (HO.out.next B1.out)
              have X1 := Lib.hid (HX.out _ U1.out.below)
              clear hB
              refine hK _ _ (X1.out) (fun hHeld => ?_)
              clear hK K
              try simp only [Act.put, List.setIfInBounds_toArray, List.set_cons_zero, List.set_cons_succ]
              refine wpAnyH_ready (rs := [12]) (by kernel_rfl) (by simp) ?_
              refine AllReadyH.cons rfl (fun K hK => ?_) AllReadyH.nil
              go_simp
              refine (WR.out _ U1.out).mono ?_
              rintro e u2 ⟨rfl, h⟩
              have U2 := Lib.hid h
              have X2 := Lib.hid (HX.out _ (Vs.below h))
              clear h
              refine hK _ _ (X2.out) (fun hHeld => ?_)
              clear hK K
              try simp only [Act.put, List.setIfInBounds_toArray, List.set_cons_zero, List.set_cons_succ]
              refine takeH (i := 13) (some 71) (v := ?_) rfl rfl (by kernel_rfl) (by kernel_rfl) (by kernel_rfl) (fun _ _ _ h => h) (by rfl) ?_ (by assumption) ?_
              rotate_left
              · (intro w hSw; (try dsimp only at hSw); obtain ⟨hS1, hS2⟩ := hSw; go_simp; try with_reducible rfl)
              simp only [Act.put, List.setIfInBounds_toArray, List.set_cons_zero, List.set_cons_succ]
              refine wpAnyH_done (by kernel_rfl) ?_ _
              go_wp2_with fail
              go_roundw
              case rel => exact ⟨k + 1, by omega, by omega, rfl, by rw [← hc3]; exact U2.out⟩
              case measure => simp [intOf]; omega
          · have h60' : ¬ (k : Int) < 40 := by omega
            go_wp2_with fail
            refine (CR.out _ HO.out).mono ?_
            rintro e v1 ⟨rfl, h⟩
            have V1 := Lib.hid h
            clear h
            go_wp2_with fail
            go_loopw [16] (fun i wr => ∃ k : Nat, k ≤ 6 ∧ i = .int .i64 k ∧ Vs w wr d bs c2 noX (fun S => ∀ j, j < 6 → (S j).v = [])) (fun i _ => 6 - (intOf i).toNat)
            case atStart => exact ⟨0, Nat.zero_le _, rfl, V1.out⟩
            case round =>
              obtain ⟨k2, hk2, rfl, hO⟩ := hrel
              rename World => u0
              have U0 := Lib.hid hO
              clear hO
              by_cases hlt2 : k2 < 6
              · have hlt2' : (k2 : Int) < 6 := by omega
                have hk20 : (0 : Int) ≤ (k2 : Int) := by omega
                have hwk2 : IntKind.i64.wrap ((k2 : Int) + 1) = (k2 : Int) + 1 := by simp [IntKind.wrap, IntKind.bits, IntKind.signed]; omega
                go_wp2_with fail
                refine (RD.out _ k2 hlt2 U0.out).mono ?_
                rintro e t1 ⟨q, U, rfl, hUe, hq, h⟩
                have U1 := Lib.hid h
                have hU := Lib.hid hUe
                have hq0 : (0 : Int) ≤ (q : Int) := by omega
                have hq1 : (q : Int) < 256 := by omega
                have hsz : Hid ((Try.prog.info? 36).map (·.size) = some U.size) := by unfold Hid; rw [hUe, List.size_toArray, length_bytesV, uniS, List.length_replicate]; exact size36
                have h32 : Hid (32 = U.size) := by unfold Hid; rw [hUe, List.size_toArray, length_bytesV, uniS, List.length_replicate]
                have hone : Hid (U.all (·.oneCell') = true) := by unfold Hid; rw [hUe]; exact all_oneCell_toArray (bytesV_one _)
                have NE : Hid (∀ (W : World) (o : Oper) (ev : Operand → Value), o.op = .binOp .neq 36 (.tmp 109) (.tmp 112) 36 → ev (.tmp 109) = .agg U → ev (.tmp 112) = .agg U → (execOp ev o).run Try.prog W = .ok (.value (.bool false)) W) := fun W o ev ho h1 h2 => by
                  rw [hUe] at h1 h2
                  have := exec_ne (w := W) 36 36 _ _ ho Try.underlying36 (uniS q) (uniS q) h1 h2 List.length_replicate List.length_replicate (by kernel_rfl)
                  rw [this]; simp
                have c0 : Hid (U[0]? = some (.int .u8 (q : Nat))) := by rw [hUe]; rfl
                clear h hUe
                go_wp2_with (refine wpList_store_row rfl 36 (.tmp 17) (.tmp 95) rfl t1.heap.size U rfl rfl 36 _ (heap_alloc_new t1 _) hsz.out h32.out hone.out ?_
                             generalize hW : World.setRow (t1.alloc (Obj.cells _ 36)) _ U = t2
                             have b2 : t2.heap[t1.heap.size]? = some (.cells U 36 (0, 0)) := by rw [← hW]; exact setRow_heap _ _ _ _ _ _ (heap_alloc_new t1 _)
                             have hB2 : Below t1.heap.size t1 t2 := by rw [← hW]; exact below_setRow (below_alloc1 t1 _) (Nat.le_refl _) _
                             have U2 := Lib.hid (Vs.next U1.out hB2)
                             have XS : Hid (∀ W, Below t2.heap.size t2 W → W.heap[t1.heap.size]? = some (.cells U 36 (0, 0)) ∧ W.cell? ⟨t1.heap.size, 0, none⟩ = some (.int .u8 (q : Nat)) ∧ W.cell? ⟨bs, k2 * 256 + q, none⟩ = some (.bool true)) := fun W hB => by
                               have b3 : W.heap[t1.heap.size]? = some (.cells U 36 (0, 0)) := (hB.block _ (Array.getElem?_eq_some_iff.1 b2).1).trans b2
                               exact ⟨b3, (cell_of_row _ t1.heap.size 0 U 36 (0, 0) b3).trans c0.out, Vs.seen (Vs.next U2.out hB) hlt2 hq (fun _ h => h.2)⟩
                             clear hW hB2 b2)
                refine wp_region_held_drew (S := (fun W => W.heap[t1.heap.size]? = some (.cells U 36 (0, 0)) ∧ W.cell? ⟨t1.heap.size, 0, none⟩ = some (.int .u8 (q : Nat)) ∧ W.cell? ⟨bs, k2 * 256 + q, none⟩ = some (.bool true))) (by kernel_rfl) (XS.out _ (Below.refl t2.heap.size t2).drew) (fun hHeld => ?_)
                refine takeH (i := 0) (some 97) (v := ?_) rfl rfl (by kernel_rfl) (by kernel_rfl) (by kernel_rfl) (fun _ _ _ h => h) (by rfl) ?_ (by assumption) ?_
                rotate_left
                · (intro w hSw; (try dsimp only at hSw); obtain ⟨hS1, hS2, hS3⟩ := hSw; go_simp; try with_reducible rfl)
                simp only [Act.put, List.setIfInBounds_toArray, List.set_cons_zero, List.set_cons_succ]
                refine takeH (i := 1) (some 98) (v := ?_) rfl rfl (by kernel_rfl) (by kernel_rfl) (by kernel_rfl) (fun _ _ _ h => h) (by rfl) ?_ (by assumption) ?_
                rotate_left
                · (intro w hSw; (try dsimp only at hSw); obtain ⟨hS1, hS2, hS3⟩ := hSw; go_simp; try with_reducible rfl)
                simp only [Act.put, List.setIfInBounds_toArray, List.set_cons_zero, List.set_cons_succ]
                refine takeH (i := 2) (some 99) (v := ?_) rfl rfl (by kernel_rfl) (by kernel_rfl) (by kernel_rfl) (fun _ _ _ h => h) (by rfl) ?_ (by assumption) ?_
                rotate_left
                · (intro w hSw; (try dsimp only at hSw); obtain ⟨hS1, hS2, hS3⟩ := hSw; go_simp; try with_reducible rfl)
                simp only [Act.put, List.setIfInBounds_toArray, List.set_cons_zero, List.set_cons_succ]
                refine takeH (i := 3) (some 100) (v := ?_) rfl rfl (by kernel_rfl) (by kernel_rfl) (by kernel_rfl) (fun _ _ _ h => h) (by rfl) ?_ (by assumption) ?_
                rotate_left
                · (intro w hSw; (try dsimp only at hSw); obtain ⟨hS1, hS2, hS3⟩ := hSw; go_simp; try with_reducible rfl)
                simp only [Act.put, List.setIfInBounds_toArray, List.set_cons_zero, List.set_cons_succ]
                refine takeH (i := 4) (some 101) (v := ?_) rfl rfl (by kernel_rfl) (by kernel_rfl) (by kernel_rfl) (fun _ _ _ h => h) (by rfl) ?_ (by assumption) ?_
                rotate_left
                · (intro w hSw; (try dsimp only at hSw); obtain ⟨hS1, hS2, hS3⟩ := hSw; go_simp; try with_reducible rfl)
                simp only [Act.put, List.setIfInBounds_toArray, List.set_cons_zero, List.set_cons_succ]
                refine takeH (i := 5) (some 102) (v := ?_) rfl rfl (by kernel_rfl) (by kernel_rfl) (by kernel_rfl) (fun _ _ _ h => h) (by rfl) ?_ (by assumption) ?_
                rotate_left
                · (intro w hSw; (try dsimp only at hSw); obtain ⟨hS1, hS2, hS3⟩ := hSw; go_simp; try with_reducible rfl)
                simp only [Act.put, List.setIfInBounds_toArray, List.set_cons_zero, List.set_cons_succ]
                refine takeH (i := 6) (some 103) (v := ?_) rfl rfl (by kernel_rfl) (by kernel_rfl) (by kernel_rfl) (fun _ _ _ h => h) (by rfl) ?_ (by assumption) ?_
                rotate_left
                · (intro w hSw; (try dsimp only at hSw); obtain ⟨hS1, hS2, hS3⟩ := hSw; go_simp; try with_reducible rfl)
                simp only [Act.put, List.setIfInBounds_toArray, List.set_cons_zero, List.set_cons_succ]
                refine takeH (i := 7) (some 104) (v := ?_) rfl rfl (by kernel_rfl) (by kernel_rfl) (by kernel_rfl) (fun _ _ _ h => h) (by rfl) ?_ (by assumption) ?_
                rotate_left
                · (intro w hSw; (try dsimp only at hSw); obtain ⟨hS1, hS2, hS3⟩ := hSw; go_simp; try with_reducible rfl)
                simp only [Act.put, List.setIfInBounds_toArray, List.set_cons_zero, List.set_cons_succ]
                refine takeH (i := 8) (some 105) (v := ?_) rfl rfl (by kernel_rfl) (by kernel_rfl) (by kernel_rfl) (fun _ _ _ h => h) (by rfl) ?_ (by assumption) ?_
                rotate_left
                · (intro w hSw; (try dsimp only at hSw); obtain ⟨hS1, hS2, hS3⟩ := hSw; go_simp; try with_reducible rfl)
                simp only [Act.put, List.setIfInBounds_toArray, List.set_cons_zero, List.set_cons_succ]
                refine takeH (i := 9) (some 106) (v := ?_) rfl rfl (by kernel_rfl) (by kernel_rfl) (by kernel_rfl) (fun _ _ _ h => h) (by rfl) ?_ (by assumption) ?_
                rotate_left
                · (intro w hSw; (try dsimp only at hSw); obtain ⟨hS1, hS2, hS3⟩ := hSw; go_simp; try with_reducible rfl)
                simp only [Act.put, List.setIfInBounds_toArray, List.set_cons_zero, List.set_cons_succ]
                refine takeH (i := 10) (some 107) (v := ?_) rfl rfl (by kernel_rfl) (by kernel_rfl) (by kernel_rfl) (fun _ _ _ h => h) (by rfl) ?_ (by assumption) ?_
                rotate_left
                · (intro w hSw; (try dsimp only at hSw); obtain ⟨hS1, hS2, hS3⟩ := hSw; go_simp; try with_reducible rfl)
                simp only [Act.put, List.setIfInBounds_toArray, List.set_cons_zero, List.set_cons_succ]
                refine takeH (i := 11) (some 108) (v := ?_) rfl rfl (by kernel_rfl) (by kernel_rfl) (by kernel_rfl) (fun _ _ _ h => h) (by rfl) ?_ (by assumption) ?_
                rotate_left
                · (intro w hSw; (try dsimp only at hSw); obtain ⟨hS1, hS2, hS3⟩ := hSw; go_simp; try with_reducible rfl)
                simp only [Act.put, List.setIfInBounds_toArray, List.set_cons_zero, List.set_cons_succ]
                refine takeH (i := 12) (some 109) (v := ?_) rfl rfl (by kernel_rfl) (by kernel_rfl) (by kernel_rfl) (fun _ _ _ h => h) (by rfl) ?_ (by assumption) ?_
                rotate_left
                · (intro w hSw; (try dsimp only at hSw); obtain ⟨hS1, hS2, hS3⟩ := hSw; (refine exec_row 36 (.tmp 17) ?_ _ ?_ 36 U (0, 0) _ hS1 Try.underlying36 rfl hsz.out) <;> rfl)
                simp only [Act.put, List.setIfInBounds_toArray, List.set_cons_zero, List.set_cons_succ]
                refine takeH (i := 13) (some 110) (v := ?_) rfl rfl (by kernel_rfl) (by kernel_rfl) (by kernel_rfl) (fun _ _ _ h => h) (by rfl) ?_ (by assumption) ?_
                rotate_left
                · (intro w hSw; (try dsimp only at hSw); obtain ⟨hS1, hS2, hS3⟩ := hSw; go_simp; try with_reducible rfl)
                simp only [Act.put, List.setIfInBounds_toArray, List.set_cons_zero, List.set_cons_succ]
                refine takeH (i := 14) (some 111) (v := ?_) rfl rfl (by kernel_rfl) (by kernel_rfl) (by kernel_rfl) (fun _ _ _ h => h) (by rfl) ?_ (by assumption) ?_
                rotate_left
                · (intro w hSw; (try dsimp only at hSw); obtain ⟨hS1, hS2, hS3⟩ := hSw; go_simp; try with_reducible rfl)
                simp only [Act.put, List.setIfInBounds_toArray, List.set_cons_zero, List.set_cons_succ]
                refine wpAnyH_ready (rs := [15]) (by kernel_rfl) (by simp) ?_
                refine AllReadyH.cons rfl (fun K hK => ?_) AllReadyH.nil
                go_simp
                refine (SX.out _ q).mono ?_
                rintro e t3 ⟨rfl, hB⟩
                have B3 : Hid (Below t2.heap.size t2 t3) := ((Below.refl t2.heap.size t2).drew).trans hB
                have U3 := Lib.hid (Vs.next U2.out B3.out)
                rw [show secV (uniS (q : Nat)) = .agg U from by rw [hU.out]; rfl]
                clear hB
                refine hK _ _ (XS.out _ B3.out) (fun hHeld => ?_)
                clear hK K
                try simp only [Act.put, List.setIfInBounds_toArray, List.set_cons_zero, List.set_cons_succ]
                refine takeH (i := 16) (some 113) (v := ?_) rfl rfl (by kernel_rfl) (by kernel_rfl) (by kernel_rfl) (fun _ _ _ h => h) (by rfl) ?_ (by assumption) ?_
                rotate_left
                · (intro w hSw; (try dsimp only at hSw); obtain ⟨hS1, hS2, hS3⟩ := hSw; (refine NE.out _ _ _ ?_ ?_ ?_) <;> rfl)
                simp only [Act.put, List.setIfInBounds_toArray, List.set_cons_zero, List.set_cons_succ]
                refine takeH (i := 17) (some 114) (v := ?_) rfl rfl (by kernel_rfl) (by kernel_rfl) (by kernel_rfl) (fun _ _ _ h => h) (by rfl) ?_ (by assumption) ?_
                rotate_left
                · (intro w hSw; (try dsimp only at hSw); obtain ⟨hS1, hS2, hS3⟩ := hSw; go_simp; try with_reducible rfl)
                simp only [Act.put, List.setIfInBounds_toArray, List.set_cons_zero, List.set_cons_succ]
                refine takeH (i := 18) (some 115) (v := ?_) rfl rfl (by kernel_rfl) (by kernel_rfl) (by kernel_rfl) (fun _ _ _ h => h) (by rfl) ?_ (by assumption) ?_
                rotate_left
                · (intro w hSw; (try dsimp only at hSw); obtain ⟨hS1, hS2, hS3⟩ := hSw; go_simp; try with_reducible rfl)
                simp only [Act.put, List.setIfInBounds_toArray, List.set_cons_zero, List.set_cons_succ]
                refine takeH (i := 19) (some 116) (v := ?_) rfl rfl (by kernel_rfl) (by kernel_rfl) (by kernel_rfl) (fun _ _ _ h => h) (by rfl) ?_ (by assumption) ?_
                rotate_left
                · (intro w hSw; (try dsimp only at hSw); obtain ⟨hS1, hS2, hS3⟩ := hSw; go_simp; try with_reducible rfl)
                simp only [Act.put, List.setIfInBounds_toArray, List.set_cons_zero, List.set_cons_succ]
                refine takeH (i := 20) (some 117) (v := ?_) rfl rfl (by kernel_rfl) (by kernel_rfl) (by kernel_rfl) (fun _ _ _ h => h) (by rfl) ?_ (by assumption) ?_
                rotate_left
                · (intro w hSw; (try dsimp only at hSw); obtain ⟨hS1, hS2, hS3⟩ := hSw; go_simp; try with_reducible rfl)
                simp only [Act.put, List.setIfInBounds_toArray, List.set_cons_zero, List.set_cons_succ]
                refine wpAnyH_ready (rs := [21]) (by kernel_rfl) (by simp) ?_
                refine AllReadyH.cons rfl (fun K hK => ?_) AllReadyH.nil
                go_simp
                refine (V0.out _ q k2 hlt2 U3.out).mono ?_
                rintro e t4 ⟨⟨rfl, h⟩, hB⟩
                have U4 := Lib.hid (Vs.weaken (Q := fun S => ∀ j, j < 6 → (S j).v = []) h (fun _ _ _ _ _ _ h => h) (fun _ h => h.1))
                have B4 := Lib.hid (B3.out.trans (hB.mono B3.out.size))
                clear hB h
                refine hK _ _ (XS.out _ B4.out) (fun hHeld => ?_)
                clear hK K
                try simp only [Act.put, List.setIfInBounds_toArray, List.set_cons_zero, List.set_cons_succ]
                refine takeH (i := 22) (some 119) (v := ?_) rfl rfl (by kernel_rfl) (by kernel_rfl) (by kernel_rfl) (fun _ _ _ h => h) (by rfl) ?_ (by assumption) ?_
                rotate_left
                · (intro w hSw; (try dsimp only at hSw); obtain ⟨hS1, hS2, hS3⟩ := hSw; go_simp; try with_reducible rfl)
                simp only [Act.put, List.setIfInBounds_toArray, List.set_cons_zero, List.set_cons_succ]
                refine takeH (i := 23) (some 120) (v := ?_) rfl rfl (by kernel_rfl) (by kernel_rfl) (by kernel_rfl) (fun _ _ _ h => h) (by rfl) ?_ (by assumption) ?_
                rotate_left
                · (intro w hSw; (try dsimp only at hSw); obtain ⟨hS1, hS2, hS3⟩ := hSw; go_simp; try with_reducible rfl)
                simp only [Act.put, List.setIfInBounds_toArray, List.set_cons_zero, List.set_cons_succ]
                refine wpAnyH_done (by kernel_rfl) ?_ _
                go_wp2_with fail
                go_roundw
                case rel => exact ⟨k2 + 1, by omega, rfl, U4.out⟩
                case measure => simp [intOf]; omega
              · have hlt2' : ¬ (k2 : Int) < 6 := by omega
                go_wp2
                go_ret
                exact ⟨rfl, U0.out.below⟩
        · have hlt' : ¬ (k : Int) < (L'.length : Int) := by omega
          go_wp2_with fail
          refine (CR.out _ HO.out).mono ?_
          rintro e v1 ⟨rfl, h⟩
          have V1 := Lib.hid h
          clear h
          go_wp2_with fail
          go_loopw [16] (fun i wr => ∃ k : Nat, k ≤ 6 ∧ i = .int .i64 k ∧ Vs w wr d bs c2 noX (fun S => ∀ j, j < 6 → (S j).v = [])) (fun i _ => 6 - (intOf i).toNat)
          case atStart => exact ⟨0, Nat.zero_le _, rfl, V1.out⟩
          case round =>
            obtain ⟨k2, hk2, rfl, hO⟩ := hrel
            rename World => u0
            have U0 := Lib.hid hO
            clear hO
            by_cases hlt2 : k2 < 6
            · have hlt2' : (k2 : Int) < 6 := by omega
              have hk20 : (0 : Int) ≤ (k2 : Int) := by omega
              have hwk2 : IntKind.i64.wrap ((k2 : Int) + 1) = (k2 : Int) + 1 := by simp [IntKind.wrap, IntKind.bits, IntKind.signed]; omega
              go_wp2_with fail
              refine (RD.out _ k2 hlt2 U0.out).mono ?_
              rintro e t1 ⟨q, U, rfl, hUe, hq, h⟩
              have U1 := Lib.hid h
              have hU := Lib.hid hUe
              have hq0 : (0 : Int) ≤ (q : Int) := by omega
              have hq1 : (q : Int) < 256 := by omega
              have hsz : Hid ((Try.prog.info? 36).map (·.size) = some U.size) := by unfold Hid; rw [hUe, List.size_toArray, length_bytesV, uniS, List.length_replicate]; exact size36
              have h32 : Hid (32 = U.size) := by unfold Hid; rw [hUe, List.size_toArray, length_bytesV, uniS, List.length_replicate]
              have hone : Hid (U.all (·.oneCell') = true) := by unfold Hid; rw [hUe]; exact all_oneCell_toArray (bytesV_one _)
              have NE : Hid (∀ (W : World) (o : Oper) (ev : Operand → Value), o.op = .binOp .neq 36 (.tmp 109) (.tmp 112) 36 → ev (.tmp 109) = .agg U → ev (.tmp 112) = .agg U → (execOp ev o).run Try.prog W = .ok (.value (.bool false)) W) := fun W o ev ho h1 h2 => by
                rw [hUe] at h1 h2
                have := exec_ne (w := W) 36 36 _ _ ho Try.underlying36 (uniS q) (uniS q) h1 h2 List.length_replicate List.length_replicate (by kernel_rfl)
                rw [this]; simp
              have c0 : Hid (U[0]? = some (.int .u8 (q : Nat))) := by rw [hUe]; rfl
              clear h hUe
              go_wp2_with (refine wpList_store_row rfl 36 (.tmp 17) (.tmp 95) rfl t1.heap.size U rfl rfl 36 _ (heap_alloc_new t1 _) hsz.out h32.out hone.out ?_
                           generalize hW : World.setRow (t1.alloc (Obj.cells _ 36)) _ U = t2
                           have b2 : t2.heap[t1.heap.size]? = some (.cells U 36 (0, 0)) := by rw [← hW]; exact setRow_heap _ _ _ _ _ _ (heap_alloc_new t1 _)
                           have hB2 : Below t1.heap.size t1 t2 := by rw [← hW]; exact below_setRow (below_alloc1 t1 _) (Nat.le_refl _) _
                           have U2 := Lib.hid (Vs.next U1.out hB2)
                           have XS : Hid (∀ W, Below t2.heap.size t2 W → W.heap[t1.heap.size]? = some (.cells U 36 (0, 0)) ∧ W.cell? ⟨t1.heap.size, 0, none⟩ = some (.int .u8 (q : Nat)) ∧ W.cell? ⟨bs, k2 * 256 + q, none⟩ = some (.bool true)) := fun W hB => by
                             have b3 : W.heap[t1.heap.size]? = some (.cells U 36 (0, 0)) := (hB.block _ (Array.getElem?_eq_some_iff.1 b2).1).trans b2
                             exact ⟨b3, (cell_of_row _ t1.heap.size 0 U 36 (0, 0) b3).trans c0.out, Vs.seen (Vs.next U2.out hB) hlt2 hq (fun _ h => h.2)⟩
                           clear hW hB2 b2)
              refine wp_region_held_drew (S := (fun W => W.heap[t1.heap.size]? = some (.cells U 36 (0, 0)) ∧ W.cell? ⟨t1.heap.size, 0, none⟩ = some (.int .u8 (q : Nat)) ∧ W.cell? ⟨bs, k2 * 256 + q, none⟩ = some (.bool true))) (by kernel_rfl) (XS.out _ (Below.refl t2.heap.size t2).drew) (fun hHeld => ?_)
              refine takeH (i := 0) (some 97) (v := ?_) rfl rfl (by kernel_rfl) (by kernel_rfl) (by kernel_rfl) (fun _ _ _ h => h) (by rfl) ?_ (by assumption) ?_
              rotate_left
              · (intro w hSw; (try dsimp only at hSw); obtain ⟨hS1, hS2, hS3⟩ := hSw; go_simp; try with_reducible rfl)
              simp only [Act.put, List.setIfInBounds_toArray, List.set_cons_zero, List.set_cons_succ]
              refine takeH (i := 1) (some 98) (v := ?_) rfl rfl (by kernel_rfl) (by kernel_rfl) (by kernel_rfl) (fun _ _ _ h => h) (by rfl) ?_ (by assumption) ?_
              rotate_left
              · (intro w hSw; (try dsimp only at hSw); obtain ⟨hS1, hS2, hS3⟩ := hSw; go_simp; try with_reducible rfl)
              simp only [Act.put, List.setIfInBounds_toArray, List.set_cons_zero, List.set_cons_succ]
              refine takeH (i := 2) (some 99) (v := ?_) rfl rfl (by kernel_rfl) (by kernel_rfl) (by kernel_rfl) (fun _ _ _ h => h) (by rfl) ?_ (by assumption) ?_
              rotate_left
              · (intro w hSw; (try dsimp only at hSw); obtain ⟨hS1, hS2, hS3⟩ := hSw; go_simp; try with_reducible rfl)
              simp only [Act.put, List.setIfInBounds_toArray, List.set_cons_zero, List.set_cons_succ]
              refine takeH (i := 3) (some 100) (v := ?_) rfl rfl (by kernel_rfl) (by kernel_rfl) (by kernel_rfl) (fun _ _ _ h => h) (by rfl) ?_ (by assumption) ?_
              rotate_left
              · (intro w hSw; (try dsimp only at hSw); obtain ⟨hS1, hS2, hS3⟩ := hSw; go_simp; try with_reducible rfl)
              simp only [Act.put, List.setIfInBounds_toArray, List.set_cons_zero, List.set_cons_succ]
              refine takeH (i := 4) (some 101) (v := ?_) rfl rfl (by kernel_rfl) (by kernel_rfl) (by kernel_rfl) (fun _ _ _ h => h) (by rfl) ?_ (by assumption) ?_
              rotate_left
              · (intro w hSw; (try dsimp only at hSw); obtain ⟨hS1, hS2, hS3⟩ := hSw; go_simp; try with_reducible rfl)
              simp only [Act.put, List.setIfInBounds_toArray, List.set_cons_zero, List.set_cons_succ]
              refine takeH (i := 5) (some 102) (v := ?_) rfl rfl (by kernel_rfl) (by kernel_rfl) (by kernel_rfl) (fun _ _ _ h => h) (by rfl) ?_ (by assumption) ?_
              rotate_left
              · (intro w hSw; (try dsimp only at hSw); obtain ⟨hS1, hS2, hS3⟩ := hSw; go_simp; try with_reducible rfl)
              simp only [Act.put, List.setIfInBounds_toArray, List.set_cons_zero, List.set_cons_succ]
              refine takeH (i := 6) (some 103) (v := ?_) rfl rfl (by kernel_rfl) (by kernel_rfl) (by kernel_rfl) (fun _ _ _ h => h) (by rfl) ?_ (by assumption) ?_
              rotate_left
              · (intro w hSw; (try dsimp only at hSw); obtain ⟨hS1, hS2, hS3⟩ := hSw; go_simp; try with_reducible rfl)
              simp only [Act.put, List.setIfInBounds_toArray, List.set_cons_zero, List.set_cons_succ]
              refine takeH (i := 7) (some 104) (v := ?_) rfl rfl (by kernel_rfl) (by kernel_rfl) (by kernel_rfl) (fun _ _ _ h => h) (by rfl) ?_ (by assumption) ?_
              rotate_left
              · (intro w hSw; (try dsimp only at hSw); obtain ⟨hS1, hS2, hS3⟩ := hSw; go_simp; try with_reducible rfl)
              simp only [Act.put, List.setIfInBounds_toArray, List.set_cons_zero, List.set_cons_succ]
              refine takeH (i := 8) (some 105) (v := ?_) rfl rfl (by kernel_rfl) (by kernel_rfl) (by kernel_rfl) (fun _ _ _ h => h) (by rfl) ?_ (by assumption) ?_
              rotate_left
              · (intro w hSw; (try dsimp only at hSw); obtain ⟨hS1, hS2, hS3⟩ := hSw; go_simp; try with_reducible rfl)
              simp only [Act.put, List.setIfInBounds_toArray, List.set_cons_zero, List.set_cons_succ]
              refine takeH (i := 9) (some 106) (v := ?_) rfl rfl (by kernel_rfl) (by kernel_rfl) (by kernel_rfl) (fun _ _ _ h => h) (by rfl) ?_ (by assumption) ?_
              rotate_left
              · (intro w hSw; (try dsimp only at hSw); obtain ⟨hS1, hS2, hS3⟩ := hSw; go_simp; try with_reducible rfl)
              simp only [Act.put, List.setIfInBounds_toArray, List.set_cons_zero, List.set_cons_succ]
              refine takeH (i := 10) (some 107) (v := ?_) rfl rfl (by kernel_rfl) (by kernel_rfl) (by kernel_rfl) (fun _ _ _ h => h) (by rfl) ?_ (by assumption) ?_
              rotate_left
              · (intro w hSw; (try dsimp only at hSw); obtain ⟨hS1, hS2, hS3⟩ := hSw; go_simp; try with_reducible rfl)
              simp only [Act.put, List.setIfInBounds_toArray, List.set_cons_zero, List.set_cons_succ]
              refine takeH (i := 11) (some 108) (v := ?_) rfl rfl (by kernel_rfl) (by kernel_rfl) (by kernel_rfl) (fun _ _ _ h => h) (by rfl) ?_ (by assumption) ?_
              rotate_left
              · (intro w hSw; (try dsimp only at hSw); obtain ⟨hS1, hS2, hS3⟩ := hSw; go_simp; try with_reducible rfl)
              simp only [Act.put, List.setIfInBounds_toArray, List.set_cons_zero, List.set_cons_succ]
              refine takeH (i := 12) (some 109) (v := ?_) rfl rfl (by kernel_rfl) (by kernel_rfl) (by kernel_rfl) (fun _ _ _ h => h) (by rfl) ?_ (by assumption) ?_
              rotate_left
              · (intro w hSw; (try dsimp only at hSw); obtain ⟨hS1, hS2, hS3⟩ := hSw; (refine exec_row 36 (.tmp 17) ?_ _ ?_ 36 U (0, 0) _ hS1 Try.underlying36 rfl hsz.out) <;> rfl)
              simp only [Act.put, List.setIfInBounds_toArray, List.set_cons_zero, List.set_cons_succ]
              refine takeH (i := 13) (some 110) (v := ?_) rfl rfl (by kernel_rfl) (by kernel_rfl) (by kernel_rfl) (fun _ _ _ h => h) (by rfl) ?_ (by assumption) ?_
              rotate_left
              · (intro w hSw; (try dsimp only at hSw); obtain ⟨hS1, hS2, hS3⟩ := hSw; go_simp; try with_reducible rfl)
              simp only [Act.put, List.setIfInBounds_toArray, List.set_cons_zero, List.set_cons_succ]
              refine takeH (i := 14) (some 111) (v := ?_) rfl rfl (by kernel_rfl) (by kernel_rfl) (by kernel_rfl) (fun _ _ _ h => h) (by rfl) ?_ (by assumption) ?_
              rotate_left
              · (intro w hSw; (try dsimp only at hSw); obtain ⟨hS1, hS2, hS3⟩ := hSw; go_simp; try with_reducible rfl)
              simp only [Act.put, List.setIfInBounds_toArray, List.set_cons_zero, List.set_cons_succ]
              refine wpAnyH_ready (rs := [15]) (by kernel_rfl) (by simp) ?_
              refine AllReadyH.cons rfl (fun K hK => ?_) AllReadyH.nil
              go_simp
              refine (SX.out _ q).mono ?_
              rintro e t3 ⟨rfl, hB⟩
              have B3 : Hid (Below t2.heap.size t2 t3) := ((Below.refl t2.heap.size t2).drew).trans hB
              have U3 := Lib.hid (Vs.next U2.out B3.out)
              rw [show secV (uniS (q : Nat)) = .agg U from by rw [hU.out]; rfl]
              clear hB
              refine hK _ _ (XS.out _ B3.out) (fun hHeld => ?_)
              clear hK K
              try simp only [Act.put, List.setIfInBounds_toArray, List.set_cons_zero, List.set_cons_succ]
              refine takeH (i := 16) (some 113) (v := ?_) rfl rfl (by kernel_rfl) (by kernel_rfl) (by kernel_rfl) (fun _ _ _ h => h) (by rfl) ?_ (by assumption) ?_
              rotate_left
              · (intro w hSw; (try dsimp only at hSw); obtain ⟨hS1, hS2, hS3⟩ := hSw; (refine NE.out _ _ _ ?_ ?_ ?_) <;> rfl)
              simp only [Act.put, List.setIfInBounds_toArray, List.set_cons_zero, List.set_cons_succ]
              refine takeH (i := 17) (some 114) (v := ?_) rfl rfl (by kernel_rfl) (by kernel_rfl) (by kernel_rfl) (fun _ _ _ h => h) (by rfl) ?_ (by assumption) ?_
              rotate_left
              · (intro w hSw; (try dsimp only at hSw); obtain ⟨hS1, hS2, hS3⟩ := hSw; go_simp; try with_reducible rfl)
              simp only [Act.put, List.setIfInBounds_toArray, List.set_cons_zero, List.set_cons_succ]
              refine takeH (i := 18) (some 115) (v := ?_) rfl rfl (by kernel_rfl) (by kernel_rfl) (by kernel_rfl) (fun _ _ _ h => h) (by rfl) ?_ (by assumption) ?_
              rotate_left
              · (intro w hSw; (try dsimp only at hSw); obtain ⟨hS1, hS2, hS3⟩ := hSw; go_simp; try with_reducible rfl)
              simp only [Act.put, List.setIfInBounds_toArray, List.set_cons_zero, List.set_cons_succ]
              refine takeH (i := 19) (some 116) (v := ?_) rfl rfl (by kernel_rfl) (by kernel_rfl) (by kernel_rfl) (fun _ _ _ h => h) (by rfl) ?_ (by assumption) ?_
              rotate_left
              · (intro w hSw; (try dsimp only at hSw); obtain ⟨hS1, hS2, hS3⟩ := hSw; go_simp; try with_reducible rfl)
              simp only [Act.put, List.setIfInBounds_toArray, List.set_cons_zero, List.set_cons_succ]
              refine takeH (i := 20) (some 117) (v := ?_) rfl rfl (by kernel_rfl) (by kernel_rfl) (by kernel_rfl) (fun _ _ _ h => h) (by rfl) ?_ (by assumption) ?_
              rotate_left
              · (intro w hSw; (try dsimp only at hSw); obtain ⟨hS1, hS2, hS3⟩ := hSw; go_simp; try with_reducible rfl)
              simp only [Act.put, List.setIfInBounds_toArray, List.set_cons_zero, List.set_cons_succ]
              refine wpAnyH_ready (rs := [21]) (by kernel_rfl) (by simp) ?_
              refine AllReadyH.cons rfl (fun K hK => ?_) AllReadyH.nil
              go_simp
              refine (V0.out _ q k2 hlt2 U3.out).mono ?_
              rintro e t4 ⟨⟨rfl, h⟩, hB⟩
              have U4 := Lib.hid (Vs.weaken (Q := fun S => ∀ j, j < 6 → (S j).v = []) h (fun _ _ _ _ _ _ h => h) (fun _ h => h.1))
              have B4 := Lib.hid (B3.out.trans (hB.mono B3.out.size))
              clear hB h
              refine hK _ _ (XS.out _ B4.out) (fun hHeld => ?_)
              clear hK K
              try simp only [Act.put, List.setIfInBounds_toArray, List.set_cons_zero, List.set_cons_succ]
              refine takeH (i := 22) (some 119) (v := ?_) rfl rfl (by kernel_rfl) (by kernel_rfl) (by kernel_rfl) (fun _ _ _ h => h) (by rfl) ?_ (by assumption) ?_
              rotate_left
              · (intro w hSw; (try dsimp only at hSw); obtain ⟨hS1, hS2, hS3⟩ := hSw; go_simp; try with_reducible rfl)
              simp only [Act.put, List.setIfInBounds_toArray, List.set_cons_zero, List.set_cons_succ]
              refine takeH (i := 23) (some 120) (v := ?_) rfl rfl (by kernel_rfl) (by kernel_rfl) (by kernel_rfl) (fun _ _ _ h => h) (by rfl) ?_ (by assumption) ?_
              rotate_left
              · (intro w hSw; (try dsimp only at hSw); obtain ⟨hS1, hS2, hS3⟩ := hSw; go_simp; try with_reducible rfl)
              simp only [Act.put, List.setIfInBounds_toArray, List.set_cons_zero, List.set_cons_succ]
              refine wpAnyH_done (by kernel_rfl) ?_ _
              go_wp2_with fail
              go_roundw
              case rel => exact ⟨k2 + 1, by omega, rfl, U4.out⟩
              case measure => simp [intOf]; omega
            · have hlt2' : ¬ (k2 : Int) < 6 := by omega
              go_wp2
              go_ret
              exact ⟨rfl, U0.out.below⟩
end Go.Proofs.Ytieeibdhaoaeaaa.DiskVersions
