/- The document's Decode. -/
import Derived.Test.YtpcindemkkdbbaaNB
import Derived.Lib.Bytes
set_option linter.unusedVariables false
set_option linter.unusedSimpArgs false
namespace Go.Proofs.Ytpcindemkkdbbaa
open Go.RowKit
theorem strOf_inj {a b : List Int} (ha : ∀ x ∈ a, 0 ≤ x ∧ x ≤ 255) (hb : ∀ x ∈ b, 0 ≤ x ∧ x ≤ 255) (h : strOfNums a = strOfNums b) : a = b := by
  have h2 := congrArg (fun s : ByteArray => s.data.toList) h
  simp only [strOfNums_data] at h2
  have key : ∀ l : List Int, (∀ x ∈ l, 0 ≤ x ∧ x ≤ 255) → (l.map fun n => UInt8.ofNat n.toNat).map (fun u => ((u.toNat : Nat) : Int)) = l := fun l hl => by
    rw [List.map_map]
    conv => rhs; rw [← List.map_id l]
    refine List.map_congr_left fun x hx => ?_
    have := hl x hx
    have e : (UInt8.ofNat x.toNat).toNat = x.toNat := by
      rw [UInt8.toNat_ofNat']; omega
    simp only [Function.comp_apply, e, id_eq]
    omega
  rw [← key a ha, ← key b hb, h2]
theorem text_row' {w : World} {g c : Nat} {t : TypeId} {l : List Int} {n : Nat} (h : w.heap[g]? = some (.cells (Bs.bytesV l).toArray t (0, 0))) (hn : l.length = n) : (convert 25 9 (.slice (some ⟨g, 0, none⟩) n c)).run Try.prog w = .ok (.string (strOfNums l)) w := by
  subst hn
  refine run_convert_bytes_arg w 25 5 Try.underlying25 Try.underlying5 g 0 l.length c l rfl (fun i hi => ?_) 9 Try.underlying9
  rw [Nat.zero_add]; exact row_cell h hi
theorem drop_nth {l : List Int} {o n q : Nat} (h : o + n ≤ l.length) (hq : q < n) : nth ((l.drop o).take n) q = nth l (o + q) := by
  rw [nth_lt (by rw [List.length_take, List.length_drop]; omega), nth_lt (by omega), List.getElem_take, List.getElem_drop]
theorem usS_bits {l : List Int} (h : l.length = 32) : usS l = bitsTo ((l.drop 6).take 8) 64 := by
  unfold usS
  rw [← bitsTo_ones, show ((l.drop 6).take 8).length = 8 by rw [List.length_take, List.length_drop]; omega]
theorem isS_bits {l : List Int} (h : l.length = 32) : isS l = bitsTo ((l.drop 14).take 2) 16 := by
  unfold isS
  rw [← bitsTo_ones, show ((l.drop 14).take 2).length = 2 by rw [List.length_take, List.length_drop]; omega]
/-- the i-th bit behind the byte o -/
theorem bit_part {l : List Int} (hl : ∀ x ∈ l, 0 ≤ x ∧ x ≤ 255) {o n i : Nat} (h : o + n ≤ l.length) (hi : i / 8 < n) : (bits .and .u8 (nth l (o + i / 8) / 2 ^ (i % 8)) 1 == 1) = Bs.bitN ((l.drop o).take n) i := by
  unfold Bs.bitN
  rw [show Bs.nth ((l.drop o).take n) (i / 8) = nth ((l.drop o).take n) (i / 8) from rfl, drop_nth h hi]
  have := hl _ (nth_mem (l := l) (k := o + i / 8) (by omega))
  exact bit_byte this.1 this.2 _ (by omega)
set_option maxRecDepth 100000 in
set_option maxHeartbeats 4000000 in
theorem refdecode_no (A : Option Addr) (c n : Nat) (w : World) (h : n ≠ 32) : Calls Try.prog 16 #[.slice A n c] w fun e w' => e = .returned (.tuple #[zeroC, .int .i64 3]) ∧ Below w.heap.size w w' := by
  have hb : ((n : Int) != 32) = true := by simp; omega
  go_enter Try.func16, Try.ntmps16
  go_wp2
  obtain ⟨r0, r1, r2, r3, r4, r5, r6⟩ := seven (Go.heap_alloc_new w (.cells #[.int .i64 0, .int .i64 0, .int .i64 0, .int .i64 0, .int .i64 0, .slice none 0 0, .slice none 0 0] 24))
  exact bodyPost_ret (v := .tuple #[zeroC, .int .i64 3]) (by simp [results, Try.results16, go_sem, r0, r1, r2, r3, r4, r5, r6, zeroC]) rfl ⟨rfl, (Below.refl _ _).alloc (Nat.le_refl _) _⟩
set_option maxRecDepth 100000 in
set_option maxHeartbeats 4000000 in
theorem refdecode_32 (b off c : Nat) (l : List Int) (w : World) (hn : l.length = 32) (hall : ∀ x ∈ l, 0 ≤ x ∧ x ≤ 255) (hlt : b < w.heap.size) (hc : ∀ j, j < 32 → w.cell? ⟨b, off + j, none⟩ = some (.int .u8 (nth l j))) : Calls Try.prog 16 #[.slice (some ⟨b, off, none⟩) 32 c] w (DecSays w l) := by
  have Hc : Hid (∀ W, Below w.heap.size w W → ∀ j, j < 32 → W.cell? ⟨b, off + j, none⟩ = some (.int .u8 (nth l j))) := fun W hW j hj => (hW.cell (p := ⟨b, off + j, none⟩) hlt).trans (hc j hj)
  clear hc
  have e1 : wrap64 (nth l 1) = nth l 1 := IntWalk.wrap64_in _ (by have := hall _ (nth_mem (l := l) (k := 1) (by omega)); constructor <;> omega)
  have e2 : wrap64 (nth l 2) = nth l 2 := IntWalk.wrap64_in _ (by have := hall _ (nth_mem (l := l) (k := 2) (by omega)); constructor <;> omega)
  have e3 : wrap64 (nth l 3) = nth l 3 := IntWalk.wrap64_in _ (by have := hall _ (nth_mem (l := l) (k := 3) (by omega)); constructor <;> omega)
  have e4 : wrap64 (nth l 4) = nth l 4 := IntWalk.wrap64_in _ (by have := hall _ (nth_mem (l := l) (k := 4) (by omega)); constructor <;> omega)
  have e5 : wrap64 (nth l 5) = nth l 5 := IntWalk.wrap64_in _ (by have := hall _ (nth_mem (l := l) (k := 5) (by omega)); constructor <;> omega)
  have HAll := Lib.hid hall
  have Hn := Lib.hid hn
  have Hu : Hid (usS l = bitsTo ((l.drop 6).take 8) 64) := usS_bits hn
  have Hi : Hid (isS l = bitsTo ((l.drop 14).take 2) 16) := isS_bits hn
  obtain ⟨j0, hj0, hz0j, hz1j, hz2j⟩ := info_parts info3
  clear hall hn
  go_enter Try.func16, Try.ntmps16
  go_upto_region 3 with fail
  generalize hW0 : World.alloc w _ = W0
  have hz0 : W0.heap[w.heap.size]? = some (.cells #[.int .i64 0, .int .i64 0, .int .i64 0, .int .i64 0, .int .i64 0, .slice none 0 0, .slice none 0 0] 24 (0, 0)) := by subst hW0; exact Go.heap_alloc_new w _
  have hB0 : Below w.heap.size w W0 := by subst hW0; exact (Below.refl _ _).alloc (Nat.le_refl _) _
  have hs0 : W0.heap.size = w.heap.size + 1 := by subst hW0; simp
  have c1 := Hc.out _ hB0 1 (by omega)
  have c2 := Hc.out _ hB0 2 (by omega)
  have c3 := Hc.out _ hB0 3 (by omega)
  have c4 := Hc.out _ hB0 4 (by omega)
  have c5 := Hc.out _ hB0 5 (by omega)
  have HSx : Hid (saidC l = ⟨nth l 1, nth l 2, nth l 3, nth l 4, nth l 5, usS l, isS l⟩) := rfl
  generalize nth l 1 = v1 at *
  generalize nth l 2 = v2 at *
  generalize nth l 3 = v3 at *
  generalize nth l 4 = v4 at *
  generalize nth l 5 = v5 at *
  have Hz0 := Lib.hid hz0
  have HB0 := Lib.hid hB0
  have Hs0 := Lib.hid hs0
  have hbl : b < W0.heap.size := Nat.lt_of_lt_of_le hlt hB0.size
  clear hz0 hB0 hW0 hs0
  go_cut [4] from 13 to 33 (fun s4 wx => s4 = .pointer (some ⟨W0.heap.size, 0, none⟩) ∧ Hid (wx.heap[W0.heap.size]? = some (.cells #[.int .i64 v1, .int .i64 v2, .int .i64 v3, .int .i64 v4, .int .i64 v5, .slice none 0 0, .slice none 0 0] 24 (0, 0))) ∧ Hid (Below W0.heap.size W0 wx))
  case first =>
    go_region
    rw [e1, e2, e3, e4, e5]
    go_wp2_with fail
    go_meet
    exact ⟨rfl, Go.heap_alloc_new W0 _, ((Below.refl _ W0).alloc (Nat.le_refl _) _).drew⟩
  case rest =>
    obtain ⟨rfl, HX, HBx⟩ := hcut
    clear e1 e2 e3 e4 e5 c1 c2 c3 c4 c5
    have HB0c : Hid (∀ W, Below W0.heap.size W0 W → Below w.heap.size w W) := fun W hW => HB0.out.trans (hW.mono HB0.out.size)
    have HR0 : Hid (RowI wc (W0.heap.size + 1) none 0 []) := World.ownsRow_nil _ _ _ _
    generalize hg : W0.heap.size = g at *
    have Hg := Lib.hid hg
    clear hg
    go_wp2
    go_loopw [5] (fun i wr => ∃ (k : Nat) (A1 : Option Addr) (c1 : Nat), k ≤ 64 ∧ i = .int .i64 k ∧ Hid (wr.heap[g]? = some (.cells #[.int .i64 v1, .int .i64 v2, .int .i64 v3, .int .i64 v4, .int .i64 v5, .slice A1 (bitsTo ((l.drop 6).take 8) k).length c1, .slice none 0 0] 24 (0, 0))) ∧ Hid (RowI wr (g + 1) A1 c1 (bitsTo ((l.drop 6).take 8) k)) ∧ Hid (Below g W0 wr)) (fun i _ => 64 - (intOf i).toNat)
    case atStart => exact ⟨0, none, 0, Nat.zero_le _, rfl, HX.out, HR0.out, HBx.out⟩
    case round =>
      obtain ⟨k, A1, c1, hk, rfl, HXk, HRk, HBk⟩ := hrel
      rename World => wr
      have hk0 : (0 : Int) ≤ (k : Int) := by omega
      by_cases hlt : k < 64
      · have hki : (k : Int) < 64 := by omega
        have hcb := Hc.out _ (HB0c.out _ HBk.out) (6 + k / 8) (by omega)
        have hb := bit_part HAll.out (o := 6) (n := 8) (i := k) (by have := Hn.out; omega) (by omega)
        have hstep := bitsTo_succ ((l.drop 6).take 8) k
        have hdv : IntKind.i64.wrap ((k : Int) / 8) = (k : Int) / 8 := IntWalk.i64_in _ (by omega)
        have hd6 : IntKind.i64.wrap (6 + (k : Int) / 8) = 6 + (k : Int) / 8 := IntWalk.i64_in _ (by omega)
        have hdm : IntKind.i64.wrap ((k : Int) % 8) = (k : Int) % 8 := IntWalk.i64_in _ (by omega)
        have hix : (6 + (k : Int) / 8).toNat = 6 + k / 8 := by omega
        have him : ((k : Int) % 8).toNat = k % 8 := by omega
        have hm0 : (0 : Int) ≤ (k : Int) % 8 := by omega
        have hi0 : (0 : Int) ≤ 6 + (k : Int) / 8 := by omega
        have hi32 : 6 + (k : Int) / 8 < 32 := by omega
        generalize nth l (6 + k / 8) = y at *
        cases hbit : Bs.bitN ((l.drop 6).take 8) k with
        | false =>
          rw [hbit] at hb hstep
          have HL : Hid (bitsTo ((l.drop 6).take 8) (k + 1) = bitsTo ((l.drop 6).take 8) k) := by unfold Hid; rw [hstep]; simp
          clear hstep hbit
          go_wp2
          go_roundw
          case rel => exact ⟨k + 1, A1, c1, by omega, by go_num, by rw [HL.out]; exact HXk.out, by rw [HL.out]; exact HRk.out, HBk.out⟩
          case measure => simp [intOf]; omega
        | true =>
          rw [hbit] at hb hstep
          have HL : Hid (bitsTo ((l.drop 6).take 8) (k + 1) = bitsTo ((l.drop 6).take 8) k ++ [((k : Nat) : Int)]) := by unfold Hid; rw [hstep]; simp
          have hln := length_bitsTo ((l.drop 6).take 8) k
          clear hstep hbit
          obtain ⟨r0, r1, r2, r3, r4, r5, r6⟩ := seven HXk.out
          have hgl := lt_heap HXk.out
          have HRo : Hid (wr.ownsRow (g + 1) 3 1 (.slice A1 (bitsTo ((l.drop 6).take 8) k).length c1) (bitsTo ((l.drop 6).take 8) k).length (intsV (bitsTo ((l.drop 6).take 8) k))) := HRk.out
          generalize hL : bitsTo ((l.drop 6).take 8) k = L at *
          have Hlen := Lib.hid hln
          generalize hnl : L.length = nl at *
          have Hnl := Lib.hid hnl
          clear hL hnl
          go_wp2_with (at_builtin; refine wpList_append_own _ rfl _ _ 22 rfl (g + 1) 3 j0 (.int .i64 0) 1 8 Try.underlying22 hj0 hz0j hz1j hz2j rfl (by decide) _ _ _ rfl (HRo.out.alloc _) ⟨wr.heap.size, 0, none⟩ 1 1 [.int .i64 (k : Int)] rfl rfl (cell_one_new _ _ _) (by simp [Value.oneCell']) (by unfold maxLen; omega) (by omega) (by simp; omega) ?_)
          intro v' w1 hown' hgrow _
          rw [show intsV L ++ [Value.int .i64 (k : Int)] = intsV (L ++ [(k : Int)]) by simp [intsV]] at hown'
          obtain ⟨hn', A', c', rfl, hR'⟩ := own_ints hown'
          have hk1 := Kept.grown (S := fun b => g + 1 ≤ b) hgrow (fun j e => .inl (HRo.out.lt j e).1)
          have hx1 := (hk1.block g (by simp; omega) (by simp)).trans ((heap_alloc_old wr (.cells #[.int .i64 (k : Int)] 3) hgl).trans HXk.out)
          obtain ⟨s0, s1, s2, s3, s4, s5, s6⟩ := seven hx1
          have sf := frozen_of_row w1 _ 5 _ 24 hx1
          have hgl1 := lt_heap hx1
          have HX1 := Lib.hid (set_heap (o := 5) hx1 (.slice A' (L ++ [(k : Int)]).length c'))
          have HR1 : Hid (RowI (w1.setCell ⟨g, 5, none⟩ (.slice A' (L ++ [(k : Int)]).length c')) (g + 1) A' c' (L ++ [(k : Int)])) := hR'.keep ((Kept.refl w1 (fun b => b = g)).set (.inl rfl)) (fun b q r => by have := (hR'.lt q).1; omega)
          have HB1 : Hid (Below g W0 (w1.setCell ⟨g, 5, none⟩ (.slice A' (L ++ [(k : Int)]).length c'))) := (HBk.out.trans (((Below.refl g wr).alloc (by omega) _).trans (hk1.below (fun b q => by omega) (by simp; omega)))).setCell (p := ⟨g, 5, none⟩) (Nat.le_refl _) _
          rw [show (#[Value.int .i64 v1, Value.int .i64 v2, Value.int .i64 v3, Value.int .i64 v4, Value.int .i64 v5, .slice A1 nl c1, .slice none 0 0] : Array Value).setIfInBounds 5 (.slice A' (L ++ [(k : Int)]).length c') = #[Value.int .i64 v1, Value.int .i64 v2, Value.int .i64 v3, Value.int .i64 v4, Value.int .i64 v5, .slice A' (L ++ [(k : Int)]).length c', .slice none 0 0] from rfl] at HX1
          have hlen1 : (L ++ [(k : Int)]).length = nl + 1 := by rw [List.length_append, Hnl.out]; rfl
          clear hown' hR' hn' hlen1 hx1 r0 r1 r2 r3 r4 r5 r6 hcb hb HRo
          generalize hLL : L ++ [(k : Int)] = LL at *
          have HLL := Lib.hid (HL.out.trans rfl)
          clear hLL
          generalize hnn : LL.length = nn at *
          have Hnn := Lib.hid hnn
          clear hnn
          go_wp2_with fail
          go_roundw
          case rel => exact ⟨k + 1, A', c', by omega, by go_num, by rw [HLL.out, Hnn.out]; exact HX1.out, by rw [HLL.out]; exact HR1.out, HB1.out⟩
          case measure => simp [intOf]; omega
      · obtain rfl : k = 64 := by omega
        simp only [show ((64 : Nat) : Int) = 64 from rfl]
        have hki : ¬ (64 : Int) < 64 := by omega
        have HRu : Hid (RowI wr (g + 1) A1 c1 (usS l)) := by unfold Hid; rw [Hu.out]; exact HRk.out
        have HX2 := HXk
        rw [← Hu.out] at HX2
        have HBu := HBk
        clear HXk HRk HBk hki hk0
        obtain ⟨nu, hnu⟩ : ∃ nu, nu = (usS l).length := ⟨_, rfl⟩
        have Hnu := Lib.hid hnu
        rw [← hnu] at HX2
        clear hnu
        go_wp2
        go_loopw [6] (fun i ws => ∃ (k : Nat) (A2 : Option Addr) (c2 : Nat), k ≤ 16 ∧ i = .int .i64 k ∧ Hid (ws.heap[g]? = some (.cells #[.int .i64 v1, .int .i64 v2, .int .i64 v3, .int .i64 v4, .int .i64 v5, .slice A1 nu c1, .slice A2 (bitsTo ((l.drop 14).take 2) k).length c2] 24 (0, 0))) ∧ Hid (RowI ws (g + 1) A2 c2 (bitsTo ((l.drop 14).take 2) k)) ∧ Hid (Below g W0 ws) ∧ Hid (RowI ws (g + 1) A1 c1 (usS l)) ∧ Hid (∀ b, own A1 = some b → own A2 ≠ some b)) (fun i _ => 16 - (intOf i).toNat)
        case atStart => exact ⟨0, none, 0, Nat.zero_le _, rfl, HX2.out, World.ownsRow_nil _ _ _ _, HBu.out, HRu.out, (fun b _ q => by cases q)⟩
        case round =>
          obtain ⟨k, A2, c2, hk, rfl, HXk, HRk, HBk, HRu, Hap⟩ := hrel
          rename World => wr
          have hk0 : (0 : Int) ≤ (k : Int) := by omega
          by_cases hlt : k < 16
          · have hki : (k : Int) < 16 := by omega
            have hcb := Hc.out _ (HB0c.out _ HBk.out) (14 + k / 8) (by omega)
            have hb := bit_part HAll.out (o := 14) (n := 2) (i := k) (by have := Hn.out; omega) (by omega)
            have hstep := bitsTo_succ ((l.drop 14).take 2) k
            have hdv : IntKind.i64.wrap ((k : Int) / 8) = (k : Int) / 8 := IntWalk.i64_in _ (by omega)
            have hd6 : IntKind.i64.wrap (14 + (k : Int) / 8) = 14 + (k : Int) / 8 := IntWalk.i64_in _ (by omega)
            have hdm : IntKind.i64.wrap ((k : Int) % 8) = (k : Int) % 8 := IntWalk.i64_in _ (by omega)
            have hix : (14 + (k : Int) / 8).toNat = 14 + k / 8 := by omega
            have him : ((k : Int) % 8).toNat = k % 8 := by omega
            have hm0 : (0 : Int) ≤ (k : Int) % 8 := by omega
            have hi0 : (0 : Int) ≤ 14 + (k : Int) / 8 := by omega
            have hi32 : 14 + (k : Int) / 8 < 32 := by omega
            generalize nth l (14 + k / 8) = y at *
            cases hbit : Bs.bitN ((l.drop 14).take 2) k with
            | false =>
              rw [hbit] at hb hstep
              have HL : Hid (bitsTo ((l.drop 14).take 2) (k + 1) = bitsTo ((l.drop 14).take 2) k) := by unfold Hid; rw [hstep]; simp
              clear hstep hbit
              go_wp2
              go_roundw
              case rel => exact ⟨k + 1, A2, c2, by omega, by go_num, by rw [HL.out]; exact HXk.out, by rw [HL.out]; exact HRk.out, HBk.out, HRu.out, Hap.out⟩
              case measure => simp [intOf]; omega
            | true =>
              rw [hbit] at hb hstep
              have HL : Hid (bitsTo ((l.drop 14).take 2) (k + 1) = bitsTo ((l.drop 14).take 2) k ++ [((k : Nat) : Int)]) := by unfold Hid; rw [hstep]; simp
              have hln := length_bitsTo ((l.drop 14).take 2) k
              clear hstep hbit
              obtain ⟨r0, r1, r2, r3, r4, r5, r6⟩ := seven HXk.out
              have hgl := lt_heap HXk.out
              have HRo : Hid (wr.ownsRow (g + 1) 3 1 (.slice A2 (bitsTo ((l.drop 14).take 2) k).length c2) (bitsTo ((l.drop 14).take 2) k).length (intsV (bitsTo ((l.drop 14).take 2) k))) := HRk.out
              generalize hL : bitsTo ((l.drop 14).take 2) k = L at *
              have Hlen := Lib.hid hln
              generalize hnl : L.length = nl at *
              have Hnl := Lib.hid hnl
              clear hL hnl
              go_wp2_with (at_builtin; refine wpList_append_own_at _ rfl _ _ 22 rfl (g + 1) 3 j0 (.int .i64 0) 1 8 Try.underlying22 hj0 hz0j hz1j hz2j rfl (by decide) _ _ _ rfl (HRo.out.alloc _) ⟨wr.heap.size, 0, none⟩ 1 1 [.int .i64 (k : Int)] rfl rfl (cell_one_new _ _ _) (by simp [Value.oneCell']) (by unfold maxLen; omega) (by omega) (by simp; omega) ?_)
              intro v' w1 hown' hgrow _ hat
              rw [show intsV L ++ [Value.int .i64 (k : Int)] = intsV (L ++ [(k : Int)]) by simp [intsV]] at hown'
              obtain ⟨hn', A', c', rfl, hR'⟩ := own_ints hown'
              have hk1 := Kept.grown (S := fun b => g + 1 ≤ b) hgrow (fun j e => .inl (HRo.out.lt j e).1)
              have hx1 := (hk1.block g (by simp; omega) (by simp)).trans ((heap_alloc_old wr (.cells #[.int .i64 (k : Int)] 3) hgl).trans HXk.out)
              obtain ⟨s0, s1, s2, s3, s4, s5, s6⟩ := seven hx1
              have sf := frozen_of_row w1 _ 6 _ 24 hx1
              have hgl1 := lt_heap hx1
              have HX1 := Lib.hid (set_heap (o := 6) hx1 (.slice A' (L ++ [(k : Int)]).length c'))
              have HR1 : Hid (RowI (w1.setCell ⟨g, 6, none⟩ (.slice A' (L ++ [(k : Int)]).length c')) (g + 1) A' c' (L ++ [(k : Int)])) := hR'.keep ((Kept.refl w1 (fun b => b = g)).set (.inl rfl)) (fun b q r => by have := (hR'.lt q).1; omega)
              have HB1 : Hid (Below g W0 (w1.setCell ⟨g, 6, none⟩ (.slice A' (L ++ [(k : Int)]).length c'))) := (HBk.out.trans (((Below.refl g wr).alloc (by omega) _).trans (hk1.below (fun b q => by omega) (by simp; omega)))).setCell (p := ⟨g, 6, none⟩) (Nat.le_refl _) _
              have HRu1 : Hid (RowI (w1.setCell ⟨g, 6, none⟩ (.slice A' (L ++ [(k : Int)]).length c')) (g + 1) A1 c1 (usS l)) := ((HRu.out.next ((Below.refl _ _).alloc (Nat.le_refl _) _)).keep (Kept.grown (S := fun b => own A2 = some b) hgrow (fun j e => .inl (by rw [← own_eq A2 nl c2]; exact e))) (fun b q r => Hap.out b q r)).keep ((Kept.refl w1 (fun b => b = g)).set (.inl rfl)) (fun b q r => by have := (HRu.out.lt q).1; omega)
              have Hap1 : Hid (∀ b, own A1 = some b → own A' ≠ some b) := (fun b q r => by
              rcases hat with h | h
              · rw [own_eq, own_eq] at h; rw [h] at r; exact Hap.out b q r
              · rw [own_eq, r] at h; have h2 := (HRu.out.lt q).2; have h3 := Option.some.inj h; omega)
              rw [show (#[Value.int .i64 v1, Value.int .i64 v2, Value.int .i64 v3, Value.int .i64 v4, Value.int .i64 v5, Value.slice A1 nu c1, .slice A2 nl c2] : Array Value).setIfInBounds 6 (.slice A' (L ++ [(k : Int)]).length c') = #[Value.int .i64 v1, Value.int .i64 v2, Value.int .i64 v3, Value.int .i64 v4, Value.int .i64 v5, Value.slice A1 nu c1, .slice A' (L ++ [(k : Int)]).length c'] from rfl] at HX1
              have hlen1 : (L ++ [(k : Int)]).length = nl + 1 := by rw [List.length_append, Hnl.out]; rfl
              clear hat hown' hR' hn' hlen1 hx1 r0 r1 r2 r3 r4 r5 r6 hcb hb HRo
              generalize hLL : L ++ [(k : Int)] = LL at *
              have HLL := Lib.hid (HL.out.trans rfl)
              clear hLL
              generalize hnn : LL.length = nn at *
              have Hnn := Lib.hid hnn
              clear hnn
              go_wp2_with fail
              go_roundw
              case rel => exact ⟨k + 1, A', c', by omega, by go_num, by rw [HLL.out, Hnn.out]; exact HX1.out, by rw [HLL.out]; exact HR1.out, HB1.out, HRu1.out, Hap1.out⟩
              case measure => simp [intOf]; omega
          · obtain rfl : k = 16 := by omega
            simp only [show ((16 : Nat) : Int) = 16 from rfl]
            have hki : ¬ (16 : Int) < 16 := by omega
            have HRi : Hid (RowI wr (g + 1) A2 c2 (isS l)) := by unfold Hid; rw [Hi.out]; exact HRk.out
            have HX3 := HXk
            rw [← Hi.out] at HX3
            obtain ⟨ni, hni⟩ : ∃ ni, ni = (isS l).length := ⟨_, rfl⟩
            have Hni := Lib.hid hni
            rw [← hni] at HX3
            clear hni HXk HRk hki hk0 HX2 HBu
            have hsm := said_small l
            rw [show (saidC l).us = usS l from rfl, show (saidC l).is = isS l from rfl] at hsm
            have HEn := Lib.hid (refencode_any (saidC l) A1 c1 A2 c2 wr hsm.1 hsm.2 HRu.out.ints HRi.out.ints)
            have hev : (saidC l).v A1 c1 A2 c2 = .agg #[.int .i64 v1, .int .i64 v2, .int .i64 v3, .int .i64 v4, .int .i64 v5, .slice A1 nu c1, .slice A2 ni c2] := by rw [Hnu.out, Hni.out, HSx.out]; rfl
            rw [hev] at HEn
            have Hok : Hid (okD l = (rightC (saidC l) && decide (bytesL (saidC l) = l))) := by unfold Hid okD; rw [Hn.out]; rfl
            have Hinj : Hid (rightC (saidC l) = true → decide (bytesL (saidC l) = l) = false → strOfNums (bytesL (saidC l)) ≠ strOfNums l) := fun hr hd q => by
              have := strOf_inj (fun z hz => ?_) HAll.out q
              · exact of_decide_eq_false hd this
              · have hy := (rightC_iff _).1 hr
                unfold bytesL at hz
                rcases List.mem_append.1 hz with h | h
                · exact allB_front hy z h
                · rw [List.mem_singleton] at h
                  rw [h]; exact sumTo_in _ _
            have HWb := Lib.hid (HB0c.out _ HBk.out)
            have HQt : Hid (okD l = true → ∀ w', RowI w' w.heap.size A1 c1 (usS l) → RowI w' w.heap.size A2 c2 (isS l) → Below w.heap.size w w' → DecSays w l (.returned (.tuple #[.agg #[.int .i64 v1, .int .i64 v2, .int .i64 v3, .int .i64 v4, .int .i64 v5, .slice A1 nu c1, .slice A2 ni c2], .int .i64 0])) w') := fun h w' h1 h2 hB => .inl ⟨h, A1, c1, A2, c2, by rw [hev], h1, h2, fun b q r => Hap.out b q r, hB⟩
            obtain ⟨s0, s1, s2, s3, s4, s5, s6⟩ := seven HX3.out
            clear hsm hev
            go_wp2_with fail
            refine HEn.out.mono ?_
            rintro e w3 hs
            clear HEn
            have hrun : ∀ (W : World) (a b c d e f g : Value), W.heap[w.heap.size]? = some (.cells #[a, b, c, d, e, f, g] 24 (0, 0)) → W.frozen? ⟨w.heap.size, 0, none⟩ = false ∧ W.frozen? ⟨w.heap.size, 1, none⟩ = false ∧ W.frozen? ⟨w.heap.size, 2, none⟩ = false ∧ W.frozen? ⟨w.heap.size, 3, none⟩ = false ∧ W.frozen? ⟨w.heap.size, 4, none⟩ = false ∧ W.frozen? ⟨w.heap.size, 5, none⟩ = false ∧ W.frozen? ⟨w.heap.size, 6, none⟩ = false := fun W a b c d e f g h =>
              ⟨frozen_of_row W _ 0 _ 24 h, frozen_of_row W _ 1 _ 24 h, frozen_of_row W _ 2 _ 24 h, frozen_of_row W _ 3 _ 24 h, frozen_of_row W _ 4 _ 24 h, frozen_of_row W _ 5 _ 24 h, frozen_of_row W _ 6 _ 24 h⟩
            have Hfz := Lib.hid hrun
            have Hset : Hid (∀ (W : World) (v0 v1 v2 v3 v4 v5 v6 : Value), Kept W (((((((W.setCell ⟨w.heap.size, 0, none⟩ v0).setCell ⟨w.heap.size, 1, none⟩ v1).setCell ⟨w.heap.size, 2, none⟩ v2).setCell ⟨w.heap.size, 3, none⟩ v3).setCell ⟨w.heap.size, 4, none⟩ v4).setCell ⟨w.heap.size, 5, none⟩ v5).setCell ⟨w.heap.size, 6, none⟩ v6) (fun k => k = w.heap.size)) := fun W v0 v1 v2 v3 v4 v5 v6 =>
              (((((((Kept.refl W (fun k => k = w.heap.size)).set (.inl rfl)).set (.inl rfl)).set (.inl rfl)).set (.inl rfl)).set (.inl rfl)).set (.inl rfl)).set (.inl rfl)
            clear hrun s0 s1 s2 s3 s4 s5 s6
            have hg1 : w.heap.size + 1 = g := Hs0.out.symm
            have Hbx : Hid (∀ W, Below wr.heap.size wr W → W.heap[w.heap.size]? = some (.cells #[.int .i64 0, .int .i64 0, .int .i64 0, .int .i64 0, .int .i64 0, .slice none 0 0, .slice none 0 0] 24 (0, 0)) ∧ W.heap[g]? = some (.cells #[.int .i64 v1, .int .i64 v2, .int .i64 v3, .int .i64 v4, .int .i64 v5, .slice A1 nu c1, .slice A2 ni c2] 24 (0, 0))) := fun W hW => by
              have h1 := (HBk.out.block w.heap.size (by omega)).trans Hz0.out
              exact ⟨(hW.block _ (lt_heap h1)).trans h1, (hW.block _ (lt_heap HX3.out)).trans HX3.out⟩
            have HRu1 : Hid (RowI wr w.heap.size A1 c1 (usS l)) := HRu.out.more (by omega)
            have HRi1 : Hid (RowI wr w.heap.size A2 c2 (isS l)) := HRi.out.more (by omega)
            have Hlo1 : Hid (∀ b, own A1 = some b → b ≠ w.heap.size) := fun b q r => by have := (HRu.out.lt q).1; omega
            have Hlo2 : Hid (∀ b, own A2 = some b → b ≠ w.heap.size) := fun b q r => by have := (HRi.out.lt q).1; omega
            have hwz : w.heap.size ≤ wr.heap.size := HWb.out.size
            clear HRu HRi HX3 hg1 HBk
            rcases hs with ⟨hr, g2, rfl, hg2, hrow, hB3⟩ | ⟨hr, rfl, hB3⟩
            · have ht2 := text_row' (c := 32) hrow (length_bytesL (saidC l))
              have htb : (convert 25 9 (.slice (some ⟨b, off, none⟩) 32 c)).run Try.prog w3 = .ok (.string (strOfNums l)) w3 := by
                have e := Hn.out
                rw [← e]
                exact run_convert_bytes_arg w3 25 5 Try.underlying25 Try.underlying5 b off l.length c l rfl (fun i hi => Hc.out _ (HWb.out.trans (hB3.mono hwz)) i (by omega)) 9 Try.underlying9
              obtain ⟨hz3, hx3⟩ := Hbx.out _ hB3
              obtain ⟨z0, z1, z2, z3, z4, z5, z6⟩ := seven hz3
              obtain ⟨x0, x1, x2, x3, x4, x5, x6⟩ := seven hx3
              obtain ⟨f0, f1, f2, f3, f4, f5, f6⟩ := Hfz.out _ _ _ _ _ _ _ _ hz3
              have Hbw3 : Hid (Below w.heap.size w w3) := HWb.out.trans (hB3.mono hwz)
              have HU3 := Lib.hid (HRu1.out.next hB3)
              have HI3 := Lib.hid (HRi1.out.next hB3)
              have hz3s : w.heap.size < w3.heap.size := lt_heap hz3
              have hs3 : g < w3.heap.size := lt_heap hx3
              have Hbel : Hid (∀ (v0 v1 v2 v3 v4 v5 v6 : Value), Below w.heap.size w (((((((w3.setCell ⟨w.heap.size, 0, none⟩ v0).setCell ⟨w.heap.size, 1, none⟩ v1).setCell ⟨w.heap.size, 2, none⟩ v2).setCell ⟨w.heap.size, 3, none⟩ v3).setCell ⟨w.heap.size, 4, none⟩ v4).setCell ⟨w.heap.size, 5, none⟩ v5).setCell ⟨w.heap.size, 6, none⟩ v6)) := fun v0 v1 v2 v3 v4 v5 v6 => Hbw3.out.trans ((Hset.out w3 v0 v1 v2 v3 v4 v5 v6).below (fun b q => Nat.le_of_eq q.symm) Hbw3.out.size)
              cases hd : decide (bytesL (saidC l) = l) with
              | true =>
                have hok : okD l = true := by rw [Hok.out, hr, hd]; rfl
                have hse : strOfNums (bytesL (saidC l)) = strOfNums l := by rw [of_decide_eq_true hd]
                rw [hse] at ht2
                generalize strOfNums l = sl at *
                replace HQt := Lib.hid (HQt.out hok)
                clear hd hok hse Hok Hinj hr hrow hz3 hx3
                go_wp2_with fail
                have hK := Hset.out w3 (.int .i64 v1) (.int .i64 v2) (.int .i64 v3) (.int .i64 v4) (.int .i64 v5) (.slice A1 nu c1) (.slice A2 ni c2)
                refine bodyPost_ret (v := .tuple #[.agg #[.int .i64 v1, .int .i64 v2, .int .i64 v3, .int .i64 v4, .int .i64 v5, .slice A1 nu c1, .slice A2 ni c2], .int .i64 0]) (by simp [results, Try.results16, go_sem, z0, z1, z2, z3, z4, z5, z6]) rfl (HQt.out _ (HU3.out.keep hK (fun b q r => Hlo1.out b q r)) (HI3.out.keep hK (fun b q r => Hlo2.out b q r)) ?_)
                exact Hbel.out _ _ _ _ _ _ _
              | false =>
                have hok : okD l = false := by rw [Hok.out, hr, hd]; rfl
                have hne := Hinj.out hr hd
                have hst : ((strOfNums (bytesL (saidC l))).toList == (strOfNums l).toList) = false := by
                  refine Bool.eq_false_iff.2 fun q => hne ?_
                  have q' := eq_of_beq q
                  rw [Lib.toList_data, Lib.toList_data] at q'
                  exact ByteArray.ext (Array.toList_inj.1 q')
                generalize strOfNums l = sl at *
                generalize strOfNums (bytesL (saidC l)) = sb at *
                have Hokf := Lib.hid hok
                clear hd hok Hok Hinj hr hrow hz3 hx3 HQt hne
                go_wp2_with fail
                refine bodyPost_ret (v := .tuple #[zeroC, .int .i64 3]) (by simp [results, Try.results16, go_sem, z0, z1, z2, z3, z4, z5, z6, zeroC]) rfl (.inr ⟨Hokf.out, rfl, ?_⟩)
                exact Hbel.out _ _ _ _ _ _ _
            · obtain ⟨hz3, hx3⟩ := Hbx.out _ hB3
              have hok : okD l = false := by rw [Hok.out, hr]; rfl
              obtain ⟨z0, z1, z2, z3, z4, z5, z6⟩ := seven hz3
              obtain ⟨f0, f1, f2, f3, f4, f5, f6⟩ := Hfz.out _ _ _ _ _ _ _ _ hz3
              have Hbw3 : Hid (Below w.heap.size w w3) := HWb.out.trans (hB3.mono hwz)
              have hz3s : w.heap.size < w3.heap.size := lt_heap hz3
              have Hbel : Hid (∀ (v0 v1 v2 v3 v4 v5 v6 : Value), Below w.heap.size w (((((((w3.setCell ⟨w.heap.size, 0, none⟩ v0).setCell ⟨w.heap.size, 1, none⟩ v1).setCell ⟨w.heap.size, 2, none⟩ v2).setCell ⟨w.heap.size, 3, none⟩ v3).setCell ⟨w.heap.size, 4, none⟩ v4).setCell ⟨w.heap.size, 5, none⟩ v5).setCell ⟨w.heap.size, 6, none⟩ v6)) := fun v0 v1 v2 v3 v4 v5 v6 => Hbw3.out.trans ((Hset.out w3 v0 v1 v2 v3 v4 v5 v6).below (fun b q => Nat.le_of_eq q.symm) Hbw3.out.size)
              have Hokf := Lib.hid hok
              clear hok Hok Hinj hr hz3 hx3 HQt
              go_wp2_with fail
              refine bodyPost_ret (v := .tuple #[zeroC, .int .i64 3]) (by simp [results, Try.results16, go_sem, z0, z1, z2, z3, z4, z5, z6, zeroC]) rfl (.inr ⟨Hokf.out, rfl, ?_⟩)
              exact Hbel.out _ _ _ _ _ _ _
theorem refdecode_any (A : Option Addr) (c n : Nat) (l : List Int) (w : World) (hn : n = l.length) (hL : Bts w w.heap.size A l) : Calls Try.prog 16 #[.slice A n c] w (DecSays w l) := by
  by_cases h32 : n = 32
  · subst h32
    obtain ⟨b, off, rfl, hlt, hc⟩ := hL.2 (by omega)
    exact refdecode_32 b off c l w hn.symm hL.1 hlt (fun j hj => hc j (by omega))
  · refine (refdecode_no A c n w h32).mono fun e w' h => .inr ⟨?_, h⟩
    unfold okD
    rw [decide_eq_false (by omega)]; rfl
end Go.Proofs.Ytpcindemkkdbbaa
