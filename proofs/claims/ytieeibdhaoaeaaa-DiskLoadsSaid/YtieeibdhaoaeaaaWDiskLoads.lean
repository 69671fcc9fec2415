/- DiskLoads is true of every bytes and number, and leaves its arguments as they are. Here: the walk of the law's text. -/
import Derived.Test.YtieeibdhaoaeaaaLQ
set_option linter.unusedVariables false
set_option linter.unusedSimpArgs false
namespace Go.Proofs.Ytieeibdhaoaeaaa.DiskLoads
open Go.RowKit
set_option maxRecDepth 100000 in
set_option maxHeartbeats 8000000 in
theorem walk (A : Option Addr) (len cap : Nat) (l : List Int) (i : Int) (w : World) (hL : ByIn w A len cap l) (hiw : (Lit.int .i64 i).wf = true) :
    Calls Try.prog 7 #[.slice A len cap, .int .i64 i] w fun e w' => e = .returned (.bool true) ∧ Below w.heap.size w w' := by
  obtain ⟨hll, hcap, hmax, hby, hcell⟩ := hL
  have hi : i < 1 ∨ 96 < i ∨ (1 ≤ i ∧ i ≤ 96) := by omega
  obtain ⟨n, hnd⟩ : ∃ n, n = min len 100 := ⟨_, rfl⟩
  obtain ⟨zs, hzs⟩ : ∃ zs, zs = l.take 100 := ⟨_, rfl⟩
  have hzn : n = zs.length := by rw [hzs, List.length_take, hnd, hll]; omega
  have hza : ∀ z ∈ zs, 0 ≤ z ∧ z ≤ 255 := fun z hz => hby z (List.mem_of_mem_take (by rw [← hzs]; exact hz))
  have hn : (1 ≤ n ∧ n ≤ 96) ∨ (n < 1 ∨ 96 < n) := by omega
  have hn100 : n ≤ 100 := by omega
  have HC : Hid (∀ k, k < n → ∃ b o, A = some ⟨b, o, none⟩ ∧ ∀ W, Below w.heap.size w W → W.cell? ⟨b, o + k, none⟩ = some (.int .u8 (zs.getD k 0))) := fun k hk => by
    obtain ⟨b, o, q1, q2, q3⟩ := hcell (by omega)
    refine ⟨b, o, q1, fun W hB => ?_⟩
    rw [World.cell?_of_block (a := ⟨b, o + k, none⟩) (hB.block b q2), q3 k (by omega), hzs]
    rw [List.getD_eq_getElem?_getD, List.getD_eq_getElem?_getD, List.getElem?_take, if_pos (by omega)]
  have HU : Hid (∀ k, k < n → (uniS (zs.getD k 0)).length = 32) := fun k hk => List.length_replicate
  have HN : Hid (∀ k, k < n → bytesV (flatU (zs.take k)) ++ bytesV (uniS (zs.getD k 0)) = bytesV (flatU (zs.take (k + 1)))) := fun k hk => flat_next zs (by omega)
  have LD1 : Hid (∀ W v5 v6, (1 ≤ n ∧ n ≤ 96) → LdS w W zs v5 v6 n → Calls Try.prog 24 #[v5] W fun e w' => ∃ d, e = .returned (.pointer (some ⟨d, 0, none⟩)) ∧ HalfL w w' zs d n v6) := fun W v5 v6 h H => H.load1 hzn h.1 h.2 hza
  have LD2 : Hid (∀ W v6 d, (1 ≤ n ∧ n ≤ 96) → HalfL w W zs d n v6 → Calls Try.prog 25 #[v6] W fun e w' => ∃ r, e = .returned (.pointer (some ⟨r, 0, none⟩)) ∧ OwnL w w' d r n) := fun W v6 d h H => H.load2 hzn h.1 h.2 hza
  have BD1 : Hid (∀ W v5 v6, (n < 1 ∨ 96 < n) → (LdS w W zs v5 v6 n ∧ Below w.heap.size w W) → Calls Try.prog 24 #[v5] W fun e w' => e = .returned (.pointer none) ∧ W = w') := fun W v5 v6 h H => H.1.bad1 h
  have BD2 : Hid (∀ W v5 v6, (n < 1 ∨ 96 < n) → (LdS w W zs v5 v6 n ∧ Below w.heap.size w W) → Calls Try.prog 25 #[v6] W fun e w' => e = .returned (.pointer none) ∧ W = w') := fun W v5 v6 h H => H.1.bad2 h
  obtain ⟨i36, hi36, hz36, hs36, hy36⟩ := info_parts info36b
  obtain ⟨i53, hi53, hz53, hs53, hy53⟩ := info_parts info53
  by_cases hcut : 100 < len
  · have hcut' : (100 : Int) < (len : Int) := by omega
    have hcap' : 100 ≤ cap := by omega
    have hcap2 : (100 : Int) ≤ (cap : Int) := by omega
    obtain rfl : n = 100 := by omega
    have hout : (100 : Nat) < 1 ∨ 96 < 100 := .inr (by decide)
    obtain ⟨b0, o0, rfl, _⟩ := HC.out 0 (by decide)
    clear hcell hby hza hzn hzs hll hnd hn hn100 LD1 LD2 hmax
    go_enter Try.func7, Try.ntmps7
    go_wp2_with fail
    go_loopw [5, 6, 7] (fun v5 v6 i wr => ∃ (k : Nat) (A5 : Option Addr) (c5 : Nat) (A6 : Option Addr) (c6 : Nat), k ≤ 100 ∧ i = .int .i64 k ∧ v5 = .slice A5 k c5 ∧ v6 = .slice A6 k c6 ∧ wr.ownsRow w.heap.size 36 32 (.slice A5 k c5) k (bytesV (flatU (zs.take k))) ∧ wr.ownsRow w.heap.size 53 32 (.slice A6 k c6) k (bytesV (flatU (zs.take k))) ∧ Below w.heap.size w wr) (fun _ _ i _ => 100 - (intOf i).toNat)
    case atStart => exact ⟨0, none, 0, none, 0, Nat.zero_le _, rfl, rfl, rfl, World.ownsRow_nil _ _ _ _, World.ownsRow_nil _ _ _ _, Below.refl _ w⟩
    case round =>
      obtain ⟨k, A5, c5, A6, c6, hk, rfl, rfl, rfl, r5, r6, hBe⟩ := hrel
      rename World => wr
      have R50 := Lib.hid r5
      have R60 := Lib.hid r6
      have E0 := Lib.hid hBe
      by_cases hlt : k < 100
      · have hlt' : (k : Int) < 100 := by omega
        have hk0 : (0 : Int) ≤ (k : Int) := by omega
        have hwk : IntKind.i64.wrap ((k : Int) + 1) = (k : Int) + 1 := by simp [IntKind.wrap, IntKind.bits, IntKind.signed]; omega
        obtain ⟨b, o, hAe, hcl⟩ := HC.out k hlt
        obtain ⟨rfl, rfl⟩ : b0 = b ∧ o0 = o := by simpa using hAe
        clear hAe
        have hc0 := hcl wr hBe
        have HCl := Lib.hid hcl
        obtain ⟨z, hz⟩ : ∃ z, z = zs.getD k 0 := ⟨_, rfl⟩
        have hu := HU.out k hlt
        rw [← hz] at hc0 HCl hu
        have HXn0 := HN.out k hlt
        rw [← hz] at HXn0
        obtain ⟨X, hX⟩ : ∃ X, X = bytesV (flatU (zs.take k)) := ⟨_, rfl⟩
        obtain ⟨X', hX'⟩ : ∃ X, X = bytesV (flatU (zs.take (k + 1))) := ⟨_, rfl⟩
        obtain ⟨U, hUe⟩ : ∃ U, U = (bytesV (uniS z)).toArray := ⟨_, rfl⟩
        have HXn : Hid (X ++ U.toList = X') := by rw [hX, hX', hUe]; exact HXn0
        have FU : Hid (Instr.fill (fun i => some (i * 32, 32)) ((Array.range 32).map ((bytesV (List.replicate 32 0)).toArray[· % 32]!)) [(0, .agg U)] = some U) := by rw [hUe]; exact fill36 (uniS z) hu
        have HUl : Hid (U.toList.length = 1 * 32) := by unfold Hid; rw [hUe]; simp [length_bytesV, hu]
        have HU1 : Hid (∀ u ∈ U.toList, u.oneCell' = true) := by rw [hUe]; exact bytesV_one _
        have SX : Hid (∀ (W : World) (_ : Int), Calls Try.prog 18 #[.int .u8 z] W fun e w' => e = .returned (.agg U) ∧ Below W.heap.size W w') := fun W _ => by rw [hUe]; exact sector_any z W
        rw [← hX] at R50 R60
        have HX' := Lib.hid hX'
        clear hcl hz hu HXn0 hX hX' hUe r5 r6 hBe BD1 BD2 HC HU HN
        obtain ⟨u0, hu0⟩ : ∃ u, u = wr := ⟨_, rfl⟩
        rw [← hu0] at R50 R60 E0 hc0 ⊢
        clear hu0
        go_wp2_with fail
        refine (SX.out u0 z).mono ?_
        rintro e s1 ⟨rfl, hB⟩
        have M1 : Hid (s1.ownsRow w.heap.size 36 32 (.slice A5 k c5) k X) := row_fresh R50.out hB
        have O1 : Hid (s1.ownsRow w.heap.size 53 32 (.slice A6 k c6) k X) := row_fresh R60.out hB
        have E1 := Lib.hid (E0.out.trans (hB.mono E0.out.size))
        clear hB
        go_wp2_with (first
          | (refine wpList_sliceE rfl (.tmp 26) 51 36 Try.underlying51 rfl U rfl i36 hi36 hz36 hs36 FU.out ?_
             obtain ⟨sb, hsb⟩ : ∃ x, x = s1.heap.size := ⟨_, rfl⟩
             obtain ⟨t1, hX⟩ : ∃ x, x = s1.alloc (.cells U 36) := ⟨_, rfl⟩
             have hB : Below s1.heap.size s1 t1 := by rw [hX]; exact below_alloc1 s1 _
             have M1t : Hid (t1.ownsRow w.heap.size 36 32 (.slice A5 k c5) k X) := row_fresh M1.out hB
             have O1t : Hid (t1.ownsRow w.heap.size 53 32 (.slice A6 k c6) k X) := row_fresh O1.out hB
             have E1t := Lib.hid (E1.out.trans (hB.mono E1.out.size))
             have SS : Hid (∀ j u, U.toList[j]? = some u → t1.cell? ((⟨sb, 0, none⟩ : Addr).add j) = some u) := by rw [hX, hsb]; exact fun j u hu => cells_new s1 U.toList 36 j u hu
             rw [← hsb, ← hX]
             clear hX hsb hB)
          | (refine wpList_append_src rfl (.tmp 21) (.tmp 27) 51 rfl w.heap.size 36 i36 _ 32 32 Try.underlying51 hi36 hz36 hs36 hy36 (by decide) (by decide) (.slice A5 k c5) k X rfl M1t.out (some ⟨sb, 0, none⟩) 1 1 U.toList rfl HUl.out (fun ad e => by cases e; exact SS.out) (fun e => by cases e) HU1.out (by unfold maxLen; omega) (by omega) E1t.out.size (k + 1) rfl ?_
             intro B1 d1 u1 ho hg hor
             have R51 : Hid (u1.ownsRow w.heap.size 36 32 (.slice B1 (k + 1) d1) (k + 1) X') := by rw [← HXn.out]; exact ho
             have R61 : Hid (u1.ownsRow w.heap.size 53 32 (.slice A6 k c6) k X) := row_grown O1t.out hg (rows_apart M1t.out O1t.out)
             have E1 := Lib.hid (E1t.out.grown hg E1t.out.size (fun j e => (M1t.out.lt j e).1))
             have hc1 := HCl.out u1 E1.out
             clear ho hg hor))
        refine (SX.out u1 z).mono ?_
        rintro e s2 ⟨rfl, hB⟩
        have M2 : Hid (s2.ownsRow w.heap.size 53 32 (.slice A6 k c6) k X) := row_fresh R61.out hB
        have O2 : Hid (s2.ownsRow w.heap.size 36 32 (.slice B1 (k + 1) d1) (k + 1) X') := row_fresh R51.out hB
        have E2 := Lib.hid (E1.out.trans (hB.mono E1.out.size))
        clear hB
        go_wp2_with (first
          | (refine wpList_sliceE rfl (.tmp 34) 52 53 Try.underlying52 rfl U rfl i53 hi53 hz53 hs53 FU.out ?_
             obtain ⟨sb, hsb⟩ : ∃ x, x = s2.heap.size := ⟨_, rfl⟩
             obtain ⟨t2, hX⟩ : ∃ x, x = s2.alloc (.cells U 53) := ⟨_, rfl⟩
             have hB : Below s2.heap.size s2 t2 := by rw [hX]; exact below_alloc1 s2 _
             have M2t : Hid (t2.ownsRow w.heap.size 53 32 (.slice A6 k c6) k X) := row_fresh M2.out hB
             have O2t : Hid (t2.ownsRow w.heap.size 36 32 (.slice B1 (k + 1) d1) (k + 1) X') := row_fresh O2.out hB
             have E2t := Lib.hid (E2.out.trans (hB.mono E2.out.size))
             have SS : Hid (∀ j u, U.toList[j]? = some u → t2.cell? ((⟨sb, 0, none⟩ : Addr).add j) = some u) := by rw [hX, hsb]; exact fun j u hu => cells_new s2 U.toList 53 j u hu
             rw [← hsb, ← hX]
             clear hX hsb hB)
          | (refine wpList_append_src rfl (.tmp 29) (.tmp 35) 52 rfl w.heap.size 53 i53 _ 32 32 Try.underlying52 hi53 hz53 hs53 hy53 (by decide) (by decide) (.slice A6 k c6) k X rfl M2t.out (some ⟨sb, 0, none⟩) 1 1 U.toList rfl HUl.out (fun ad e => by cases e; exact SS.out) (fun e => by cases e) HU1.out (by unfold maxLen; omega) (by omega) E2t.out.size (k + 1) rfl ?_
             intro B2 d2 u2 ho hg hor
             have R62 : Hid (u2.ownsRow w.heap.size 53 32 (.slice B2 (k + 1) d2) (k + 1) X') := by rw [← HXn.out]; exact ho
             have R52 : Hid (u2.ownsRow w.heap.size 36 32 (.slice B1 (k + 1) d1) (k + 1) X') := row_grown O2t.out hg ((fun q e e2 => rows_apart O2t.out M2t.out q e2 e))
             have E2 := Lib.hid (E2t.out.grown hg E2t.out.size (fun j e => (M2t.out.lt j e).1))
             have hc2 := HCl.out u2 E2.out
             clear ho hg hor))
        go_roundw
        case rel => exact ⟨k + 1, B1, d1, B2, d2, by omega, rfl, rfl, rfl, by rw [← HX'.out]; exact R52.out, by rw [← HX'.out]; exact R62.out, E2.out⟩
        case measure => simp [intOf]; omega
      · obtain rfl : k = 100 := by omega
        have hnn : ¬ (((100 : Nat) : Int) < 100) := by omega
        have HR : Hid (LdS w wr zs (.slice A5 100 c5) (.slice A6 100 c6) 100 ∧ Below w.heap.size w wr) := ⟨⟨A5, c5, A6, c6, rfl, rfl, r5, r6, hBe⟩, hBe⟩
        clear r5 r6 hBe R50 R60 E0 HC HU HN

        go_wp2_with fail
        refine (BD1.out _ _ _ hout HR.out).mono ?_
        rintro e w' ⟨rfl, rfl⟩
        go_wp2_with fail
        refine (BD2.out _ _ _ hout HR.out).mono ?_
        rintro e w' ⟨rfl, rfl⟩
        have EB : Hid (Below w.heap.size w wr) := HR.out.2
        clear HR
        go_wp2_with fail
        refine (live_any wr).mono ?_
        rintro e w6 ⟨rfl, hB⟩
        have E6 := Lib.hid (EB.out.trans (hB.mono EB.out.size))
        clear hB
        rcases hi with hi | hi | hi
        · have hi1 : i < 1 := hi
          have NB := Lib.hid (new_bad i w6 (.inl hi))
          go_wp2_with fail
          refine NB.out.mono ?_
          rintro e w' ⟨rfl, rfl⟩
          go_wp2
          go_ret
          exact ⟨rfl, E6.out⟩
        · have hi1 : ¬ i < 1 := by omega
          have hi2 : 96 < i := hi
          have NB := Lib.hid (new_bad i w6 (.inr hi))
          go_wp2_with fail
          refine NB.out.mono ?_
          rintro e w' ⟨rfl, rfl⟩
          go_wp2
          go_ret
          exact ⟨rfl, E6.out⟩
        · have hi1 : ¬ i < 1 := by omega
          have hi2 : ¬ 96 < i := by omega
          have NG := Lib.hid (cnew_any hi.1 hi.2 w6)
          go_wp2_with fail
          refine NG.out.mono ?_
          rintro e w' ⟨p, rfl, hB⟩
          have Z := Lib.hid (E6.out.trans (hB.mono E6.out.size))
          clear hB
          go_wp2
          go_ret
          refine ⟨?_, Z.out⟩
          show Ending.returned (Value.bool (!decide (i < 1) && !decide (96 < i))) = _
          rw [decide_eq_false (by omega : ¬ i < 1), decide_eq_false (by omega : ¬ 96 < i)]
          rfl
  · have hcut' : ¬ (100 : Int) < (len : Int) := by omega
    obtain rfl : n = len := by omega
    clear hcell hby hza hzn hzs hll hnd hmax hcap
    go_enter Try.func7, Try.ntmps7
    go_wp2_with fail
    go_loopw [5, 6, 7] (fun v5 v6 i wr => ∃ (k : Nat) (A5 : Option Addr) (c5 : Nat) (A6 : Option Addr) (c6 : Nat), k ≤ n ∧ i = .int .i64 k ∧ v5 = .slice A5 k c5 ∧ v6 = .slice A6 k c6 ∧ wr.ownsRow w.heap.size 36 32 (.slice A5 k c5) k (bytesV (flatU (zs.take k))) ∧ wr.ownsRow w.heap.size 53 32 (.slice A6 k c6) k (bytesV (flatU (zs.take k))) ∧ Below w.heap.size w wr) (fun _ _ i _ => n - (intOf i).toNat)
    case atStart => exact ⟨0, none, 0, none, 0, Nat.zero_le _, rfl, rfl, rfl, World.ownsRow_nil _ _ _ _, World.ownsRow_nil _ _ _ _, Below.refl _ w⟩
    case round =>
      obtain ⟨k, A5, c5, A6, c6, hk, rfl, rfl, rfl, r5, r6, hBe⟩ := hrel
      rename World => wr
      have R50 := Lib.hid r5
      have R60 := Lib.hid r6
      have E0 := Lib.hid hBe
      by_cases hlt : k < n
      · have hlt' : (k : Int) < (n : Int) := by omega
        have hk0 : (0 : Int) ≤ (k : Int) := by omega
        have hwk : IntKind.i64.wrap ((k : Int) + 1) = (k : Int) + 1 := by simp [IntKind.wrap, IntKind.bits, IntKind.signed]; omega
        obtain ⟨b, o, rfl, hcl⟩ := HC.out k hlt
        have hc0 := hcl wr hBe
        have HCl := Lib.hid hcl
        obtain ⟨z, hz⟩ : ∃ z, z = zs.getD k 0 := ⟨_, rfl⟩
        have hu := HU.out k hlt
        rw [← hz] at hc0 HCl hu
        have HXn0 := HN.out k hlt
        rw [← hz] at HXn0
        obtain ⟨X, hX⟩ : ∃ X, X = bytesV (flatU (zs.take k)) := ⟨_, rfl⟩
        obtain ⟨X', hX'⟩ : ∃ X, X = bytesV (flatU (zs.take (k + 1))) := ⟨_, rfl⟩
        obtain ⟨U, hUe⟩ : ∃ U, U = (bytesV (uniS z)).toArray := ⟨_, rfl⟩
        have HXn : Hid (X ++ U.toList = X') := by rw [hX, hX', hUe]; exact HXn0
        have FU : Hid (Instr.fill (fun i => some (i * 32, 32)) ((Array.range 32).map ((bytesV (List.replicate 32 0)).toArray[· % 32]!)) [(0, .agg U)] = some U) := by rw [hUe]; exact fill36 (uniS z) hu
        have HUl : Hid (U.toList.length = 1 * 32) := by unfold Hid; rw [hUe]; simp [length_bytesV, hu]
        have HU1 : Hid (∀ u ∈ U.toList, u.oneCell' = true) := by rw [hUe]; exact bytesV_one _
        have SX : Hid (∀ (W : World) (_ : Int), Calls Try.prog 18 #[.int .u8 z] W fun e w' => e = .returned (.agg U) ∧ Below W.heap.size W w') := fun W _ => by rw [hUe]; exact sector_any z W
        rw [← hX] at R50 R60
        have HX' := Lib.hid hX'
        clear hcl hz hu HXn0 hX hX' hUe r5 r6 hBe BD1 BD2 LD1 LD2 HC HU HN
        obtain ⟨u0, hu0⟩ : ∃ u, u = wr := ⟨_, rfl⟩
        rw [← hu0] at R50 R60 E0 hc0 ⊢
        clear hu0
        go_wp2_with fail
        refine (SX.out u0 z).mono ?_
        rintro e s1 ⟨rfl, hB⟩
        have M1 : Hid (s1.ownsRow w.heap.size 36 32 (.slice A5 k c5) k X) := row_fresh R50.out hB
        have O1 : Hid (s1.ownsRow w.heap.size 53 32 (.slice A6 k c6) k X) := row_fresh R60.out hB
        have E1 := Lib.hid (E0.out.trans (hB.mono E0.out.size))
        clear hB
        go_wp2_with (first
          | (refine wpList_sliceE rfl (.tmp 26) 51 36 Try.underlying51 rfl U rfl i36 hi36 hz36 hs36 FU.out ?_
             obtain ⟨sb, hsb⟩ : ∃ x, x = s1.heap.size := ⟨_, rfl⟩
             obtain ⟨t1, hX⟩ : ∃ x, x = s1.alloc (.cells U 36) := ⟨_, rfl⟩
             have hB : Below s1.heap.size s1 t1 := by rw [hX]; exact below_alloc1 s1 _
             have M1t : Hid (t1.ownsRow w.heap.size 36 32 (.slice A5 k c5) k X) := row_fresh M1.out hB
             have O1t : Hid (t1.ownsRow w.heap.size 53 32 (.slice A6 k c6) k X) := row_fresh O1.out hB
             have E1t := Lib.hid (E1.out.trans (hB.mono E1.out.size))
             have SS : Hid (∀ j u, U.toList[j]? = some u → t1.cell? ((⟨sb, 0, none⟩ : Addr).add j) = some u) := by rw [hX, hsb]; exact fun j u hu => cells_new s1 U.toList 36 j u hu
             rw [← hsb, ← hX]
             clear hX hsb hB)
          | (refine wpList_append_src rfl (.tmp 21) (.tmp 27) 51 rfl w.heap.size 36 i36 _ 32 32 Try.underlying51 hi36 hz36 hs36 hy36 (by decide) (by decide) (.slice A5 k c5) k X rfl M1t.out (some ⟨sb, 0, none⟩) 1 1 U.toList rfl HUl.out (fun ad e => by cases e; exact SS.out) (fun e => by cases e) HU1.out (by unfold maxLen; omega) (by omega) E1t.out.size (k + 1) rfl ?_
             intro B1 d1 u1 ho hg hor
             have R51 : Hid (u1.ownsRow w.heap.size 36 32 (.slice B1 (k + 1) d1) (k + 1) X') := by rw [← HXn.out]; exact ho
             have R61 : Hid (u1.ownsRow w.heap.size 53 32 (.slice A6 k c6) k X) := row_grown O1t.out hg (rows_apart M1t.out O1t.out)
             have E1 := Lib.hid (E1t.out.grown hg E1t.out.size (fun j e => (M1t.out.lt j e).1))
             have hc1 := HCl.out u1 E1.out
             clear ho hg hor))
        refine (SX.out u1 z).mono ?_
        rintro e s2 ⟨rfl, hB⟩
        have M2 : Hid (s2.ownsRow w.heap.size 53 32 (.slice A6 k c6) k X) := row_fresh R61.out hB
        have O2 : Hid (s2.ownsRow w.heap.size 36 32 (.slice B1 (k + 1) d1) (k + 1) X') := row_fresh R51.out hB
        have E2 := Lib.hid (E1.out.trans (hB.mono E1.out.size))
        clear hB
        go_wp2_with (first
          | (refine wpList_sliceE rfl (.tmp 34) 52 53 Try.underlying52 rfl U rfl i53 hi53 hz53 hs53 FU.out ?_
             obtain ⟨sb, hsb⟩ : ∃ x, x = s2.heap.size := ⟨_, rfl⟩
             obtain ⟨t2, hX⟩ : ∃ x, x = s2.alloc (.cells U 53) := ⟨_, rfl⟩
             have hB : Below s2.heap.size s2 t2 := by rw [hX]; exact below_alloc1 s2 _
             have M2t : Hid (t2.ownsRow w.heap.size 53 32 (.slice A6 k c6) k X) := row_fresh M2.out hB
             have O2t : Hid (t2.ownsRow w.heap.size 36 32 (.slice B1 (k + 1) d1) (k + 1) X') := row_fresh O2.out hB
             have E2t := Lib.hid (E2.out.trans (hB.mono E2.out.size))
             have SS : Hid (∀ j u, U.toList[j]? = some u → t2.cell? ((⟨sb, 0, none⟩ : Addr).add j) = some u) := by rw [hX, hsb]; exact fun j u hu => cells_new s2 U.toList 53 j u hu
             rw [← hsb, ← hX]
             clear hX hsb hB)
          | (refine wpList_append_src rfl (.tmp 29) (.tmp 35) 52 rfl w.heap.size 53 i53 _ 32 32 Try.underlying52 hi53 hz53 hs53 hy53 (by decide) (by decide) (.slice A6 k c6) k X rfl M2t.out (some ⟨sb, 0, none⟩) 1 1 U.toList rfl HUl.out (fun ad e => by cases e; exact SS.out) (fun e => by cases e) HU1.out (by unfold maxLen; omega) (by omega) E2t.out.size (k + 1) rfl ?_
             intro B2 d2 u2 ho hg hor
             have R62 : Hid (u2.ownsRow w.heap.size 53 32 (.slice B2 (k + 1) d2) (k + 1) X') := by rw [← HXn.out]; exact ho
             have R52 : Hid (u2.ownsRow w.heap.size 36 32 (.slice B1 (k + 1) d1) (k + 1) X') := row_grown O2t.out hg ((fun q e e2 => rows_apart O2t.out M2t.out q e2 e))
             have E2 := Lib.hid (E2t.out.grown hg E2t.out.size (fun j e => (M2t.out.lt j e).1))
             have hc2 := HCl.out u2 E2.out
             clear ho hg hor))
        go_roundw
        case rel => exact ⟨k + 1, B1, d1, B2, d2, by omega, rfl, rfl, rfl, by rw [← HX'.out]; exact R52.out, by rw [← HX'.out]; exact R62.out, E2.out⟩
        case measure => simp [intOf]; omega
      · obtain rfl : k = n := by omega
        have hnn : ¬ ((k : Int) < (k : Int)) := by omega
        have HR : Hid (LdS w wr zs (.slice A5 k c5) (.slice A6 k c6) k ∧ Below w.heap.size w wr) := ⟨⟨A5, c5, A6, c6, rfl, rfl, r5, r6, hBe⟩, hBe⟩
        clear r5 r6 hBe R50 R60 E0 HC HU HN
        rcases hn with hin | hout
        · clear BD1 BD2
          go_wp2_with fail
          refine (LD1.out _ _ _ hin HR.out.1).mono ?_
          rintro e w3 ⟨d, rfl, h⟩
          have H3 := Lib.hid h
          clear h
          go_wp2_with fail
          refine (LD2.out _ _ _ hin H3.out).mono ?_
          rintro e w4 ⟨r, rfl, h⟩
          have H4 := Lib.hid h
          clear h HR
          go_wp2_with fail
          refine (H4.out.live).mono ?_
          rintro e w5 ⟨rfl, h⟩
          have H5 := Lib.hid h
          clear h
          go_wp2_with fail
          refine (H5.out.same).mono ?_
          rintro e w6 ⟨rfl, h⟩
          have E6 := Lib.hid h
          clear h
          rcases hi with hi | hi | hi
          · have hi1 : i < 1 := hi
            have NB := Lib.hid (new_bad i w6 (.inl hi))
            go_wp2_with fail
            refine NB.out.mono ?_
            rintro e w' ⟨rfl, rfl⟩
            go_wp2
            go_ret
            exact ⟨rfl, E6.out⟩
          · have hi1 : ¬ i < 1 := by omega
            have hi2 : 96 < i := hi
            have NB := Lib.hid (new_bad i w6 (.inr hi))
            go_wp2_with fail
            refine NB.out.mono ?_
            rintro e w' ⟨rfl, rfl⟩
            go_wp2
            go_ret
            exact ⟨rfl, E6.out⟩
          · have hi1 : ¬ i < 1 := by omega
            have hi2 : ¬ 96 < i := by omega
            have NG := Lib.hid (cnew_any hi.1 hi.2 w6)
            go_wp2_with fail
            refine NG.out.mono ?_
            rintro e w' ⟨p, rfl, hB⟩
            have Z := Lib.hid (E6.out.trans (hB.mono E6.out.size))
            clear hB
            go_wp2
            go_ret
            refine ⟨?_, Z.out⟩
            show Ending.returned (Value.bool (!decide (i < 1) && !decide (96 < i))) = _
            rw [decide_eq_false (by omega : ¬ i < 1), decide_eq_false (by omega : ¬ 96 < i)]
            rfl
        · clear LD1 LD2
          go_wp2_with fail
          refine (BD1.out _ _ _ hout HR.out).mono ?_
          rintro e w' ⟨rfl, rfl⟩
          go_wp2_with fail
          refine (BD2.out _ _ _ hout HR.out).mono ?_
          rintro e w' ⟨rfl, rfl⟩
          have EB : Hid (Below w.heap.size w wr) := HR.out.2
          clear HR
          go_wp2_with fail
          refine (live_any wr).mono ?_
          rintro e w6 ⟨rfl, hB⟩
          have E6 := Lib.hid (EB.out.trans (hB.mono EB.out.size))
          clear hB
          rcases hi with hi | hi | hi
          · have hi1 : i < 1 := hi
            have NB := Lib.hid (new_bad i w6 (.inl hi))
            go_wp2_with fail
            refine NB.out.mono ?_
            rintro e w' ⟨rfl, rfl⟩
            go_wp2
            go_ret
            exact ⟨rfl, E6.out⟩
          · have hi1 : ¬ i < 1 := by omega
            have hi2 : 96 < i := hi
            have NB := Lib.hid (new_bad i w6 (.inr hi))
            go_wp2_with fail
            refine NB.out.mono ?_
            rintro e w' ⟨rfl, rfl⟩
            go_wp2
            go_ret
            exact ⟨rfl, E6.out⟩
          · have hi1 : ¬ i < 1 := by omega
            have hi2 : ¬ 96 < i := by omega
            have NG := Lib.hid (cnew_any hi.1 hi.2 w6)
            go_wp2_with fail
            refine NG.out.mono ?_
            rintro e w' ⟨p, rfl, hB⟩
            have Z := Lib.hid (E6.out.trans (hB.mono E6.out.size))
            clear hB
            go_wp2
            go_ret
            refine ⟨?_, Z.out⟩
            show Ending.returned (Value.bool (!decide (i < 1) && !decide (96 < i))) = _
            rw [decide_eq_false (by omega : ¬ i < 1), decide_eq_false (by omega : ¬ 96 < i)]
            rfl
end Go.Proofs.Ytieeibdhaoaeaaa.DiskLoads
