/- TopChain. Here: the walk of the law's text. -/
import Derived.Test.YtegacggkdjgdiaaEX
import Derived.WalkKit
import Derived.OpenShut
set_option linter.unusedVariables false
set_option linter.unusedSimpArgs false
namespace Go.Proofs.Ytegacggkdjgdiaa.TopChain
open Go.RowKit
theorem pick_of {w W : World} {A : Option Addr} {n c : Nat} {l : List Int} (h : NumsIn w A n c l) (hB : Below w.heap.size w W) : PickAt W (fun b => W.heap.size ≤ b) A l := by
  obtain ⟨_, _, _, _, hi⟩ := h
  by_cases hn : 0 < l.length
  · obtain ⟨b, off, e, hb, _, hc⟩ := hi hn
    refine .inr ⟨b, off, e, Nat.lt_of_lt_of_le hb hB.size, fun q => by have := hB.size; omega, fun j u hj => ?_⟩
    rw [List.getElem?_map] at hj
    obtain ⟨z, hz, rfl⟩ := Option.map_eq_some_iff.1 hj
    obtain ⟨hjl, rfl⟩ := List.getElem?_eq_some_iff.1 hz
    exact (hB.cell (p := ⟨b, off + j, none⟩) hb).trans (hc j hjl)
  · exact .inl (List.eq_nil_of_length_eq_zero (by omega))
theorem one_item (W : World) (g : Nat) (F : Nat → Prop) (x : It) (A : Option Addr) (c : Nat) (hg : W.heap[g]? = some (.cells #[.int .i64 x.p.b, .int .i64 x.p.o, .string x.p.s, .slice A x.d.length c] 34 (0, 0))) (hF : ¬ F g) (hd : IntsF W F A x.d) : ItemsF W F (some ⟨g, 0, none⟩) [x] := fun _ => by
  refine ⟨g, 0, fun _ => A, fun _ => c, rfl, (Array.getElem?_eq_some_iff.1 hg).1, hF, fun j hj => ?_⟩
  have hj1 : j < 1 := hj
  obtain rfl : j = 0 := by omega
  exact ⟨cell_of_row W g 0 _ 34 (0, 0) hg, cell_of_row W g 1 _ 34 (0, 0) hg, cell_of_row W g 2 _ 34 (0, 0) hg, cell_of_row W g 3 _ 34 (0, 0) hg, hd⟩
theorem dep_small (m : Nat) (hm : m < 8) : SmallI [⟨px m, dep m⟩] := by
  intro x hx
  rw [List.mem_singleton] at hx
  subst hx
  refine ⟨Pt.ok_of_right (Pt.right_in ⟨by simp [px], by simp [px]; omega, by simp [px], by simp [px], show 1 ≤ (ByteArray.mk #[120]).size by decide, show (((ByteArray.mk #[120]).size : Nat) : Int) ≤ 32 - 0 by decide⟩), ?_, fun y hy => ?_⟩
  · unfold dep; split <;> simp
  · unfold dep at hy
    split at hy
    · cases hy
    · rw [List.mem_singleton] at hy; subst hy; unfold I64; omega
set_option maxRecDepth 100000 in
set_option maxHeartbeats 4000000 in
theorem walk (a0 : Option Addr) (len0 cap0 : Nat) (z0 : List Int) (a1 : Option Addr) (len1 cap1 : Nat) (z1 : List Int) (w : World) (h0 : BytesIn w a0 len0 cap0 z0) (h1 : NumsIn w a1 len1 cap1 z1) :
    Calls Try.prog 7 #[.slice a0 len0 cap0, .slice a1 len1 cap1] w fun e w' => e = .returned (.bool true) ∧ Below w.heap.size w w' := by
  obtain ⟨hl0, hc0, hm0, ha0, hr0⟩ := h0
  have H1 := Lib.hid h1
  obtain ⟨hl1, _, _, hw1, _⟩ := h1
  have HL1 := Lib.hid hl1
  have HW1 := Lib.hid hw1
  have HR0 := Lib.hid hr0
  have HA0 := Lib.hid ha0
  have HL0 := Lib.hid hl0
  have HD := Lib.hid (cnew (m := 8) (by decide) (by decide) w)
  unfold maxLen at hm0
  clear hl0 ha0 hr0 hl1 hw1
  go_enter Try.func7, Try.ntmps7
  go_wp2_with (first
    | (go_at_call 9; refine HD.out.mono ?_; rintro e x1 ⟨rfl, ⟨F0, hd1, hf1⟩, hb1⟩; have HD1 := Lib.hid hd1; have HB1 := Lib.hid hb1; have HN := Lib.hid (enew hd1 (by decide)); clear hd1 hf1 hb1)
    | (go_at_call 8; refine HN.out.mono ?_; rintro e x2 ⟨ge, F, rfl, he2, hf2, hb2⟩; have he2' : Eng x2 ge 8 (chS 0 false) 0 0 [] F := (by rw [← chS_zero]; exact he2); have HE2 := Lib.hid he2'; have HF2 : Hid (∀ b, F b → w.heap.size ≤ b) := (fun b q => Nat.le_trans HB1.out.size (hf2 b q)); have HB2 := Lib.hid (HB1.out.trans (hb2.mono HB1.out.size)); clear he2 he2' hf2 hb2))
  go_loopw [6] (fun q wr => ∃ (m : Nat) (AC : Nat → Option Addr × Nat) (F' : Nat → Prop), m ≤ 8 ∧ q = .int .i64 m ∧ Hid (Eng wr ge 8 (chS 0 false) 0 m (chn AC 0 m false) F') ∧ Hid (∀ b, F' b → w.heap.size ≤ b) ∧ Hid (Below w.heap.size w wr)) (fun q _ => 8 - (intOf q).toNat)
  case atStart => exact ⟨0, fun _ => (none, 0), F, Nat.zero_le _, rfl, HE2.out, HF2.out, HB2.out⟩
  case round =>
    obtain ⟨m, AC, F', hm, rfl, hE, hF, hB⟩ := hrel
    rename World => wr
    by_cases hlt : m < 8
    · have hlti : (m : Int) < 8 := by omega
      have HFlt : Hid (∀ b, F' b → b < wr.heap.size) := hE.out.lt
      have HE2 := hE
      by_cases hm1 : m = 0
      · subst hm1
        have HBa : Hid (Below wr.heap.size wr ((wr.alloc (.cells #[.int .i64 0, .int .i64 0, .string ⟨#[120]⟩, .slice none 0 0] 34)).alloc (.cells #[.int .i64 0, .int .i64 0, .string ⟨#[120]⟩, .slice none 0 0] 34))) := ((Below.refl _ _).alloc (Nat.le_refl _) _).alloc (by simp) _
        have HIt : Hid (ItemsF ((wr.alloc (.cells #[.int .i64 0, .int .i64 0, .string ⟨#[120]⟩, .slice none 0 0] 34)).alloc (.cells #[.int .i64 0, .int .i64 0, .string ⟨#[120]⟩, .slice none 0 0] 34)) F' (some ⟨wr.heap.size + 1, 0, none⟩) [⟨px 0, dep 0⟩]) := one_item _ _ _ ⟨px 0, dep 0⟩ none 0 (heap_alloc2_new wr _ _) (fun q => by have := HFlt.out _ q; omega) (fun h => by simp [dep] at h)
        go_wp2_with (go_at_call 10; refine (eadd (HE2.out.fresh HBa.out) (some ⟨wr.heap.size + 1, 0, none⟩) 1 [⟨px 0, dep 0⟩] HIt.out (dep_small 0 (by omega)) (by omega) (by omega) (by rw [length_chn]; exact chn_refuses (by omega))).mono ?_; rintro e x3 ⟨rfl, F3, ⟨l3, ha3, he3⟩, hk3, hf3⟩; obtain ⟨y3, rfl, hy3⟩ := added_one ha3; obtain ⟨AC3, hc3⟩ := chn_add AC (by omega) hy3; rw [hc3] at he3; have HE3 : Hid (Eng x3 ge 8 (chS 0 false) 0 ((0 + 1 : Nat) : Int) (chn AC3 0 (0 + 1) false) F3) := (by have e : ((0 + 1 : Nat) : Int) = ((0 : Nat) : Int) + (([⟨px 0, dep 0⟩] : List It).length : Int) := (by simp); unfold Hid; rw [e]; exact he3); have HR3 := Lib.hid (run_of (hB.out.trans (HBa.out.mono hB.out.size)) hF.out hk3 hf3); clear ha3 he3 hk3 hf3 hy3 hc3)
        go_roundw
        case rel => exact ⟨1, AC3, F3, by omega, by go_num, HE3.out, HR3.out.2, HR3.out.1⟩
        case measure => simp [intOf]

      · have hmp : (0 : Int) < (m : Int) := by omega
        have hdep : dep m = [(m : Int) - 1] := by unfold dep; rw [if_neg hm1]
        clear hm1
        have hn0 : ((wr.alloc (.cells #[.int .i64 m, .int .i64 0, .string ⟨#[120]⟩, .slice (some ⟨wr.heap.size + 1, 0, none⟩) 1 1] 34)).alloc (.cells #[.int .i64 ((m : Int) - 1)] 3)).heap[wr.heap.size + 1]? = some (.cells #[.int .i64 ((m : Int) - 1)] 3 (0, 0)) := heap_alloc2_new wr _ _
        have hn1 : (((wr.alloc (.cells #[.int .i64 m, .int .i64 0, .string ⟨#[120]⟩, .slice (some ⟨wr.heap.size + 1, 0, none⟩) 1 1] 34)).alloc (.cells #[.int .i64 ((m : Int) - 1)] 3)).alloc (.cells #[.int .i64 m, .int .i64 0, .string ⟨#[120]⟩, .slice (some ⟨wr.heap.size + 1, 0, none⟩) 1 1] 34)).heap[wr.heap.size + 1]? = some (.cells #[.int .i64 ((m : Int) - 1)] 3 (0, 0)) := by
          rw [(below_alloc1 ((wr.alloc (.cells #[.int .i64 m, .int .i64 0, .string ⟨#[120]⟩, .slice (some ⟨wr.heap.size + 1, 0, none⟩) 1 1] 34)).alloc (.cells #[.int .i64 ((m : Int) - 1)] 3)) _).block _ (by simp)]; exact hn0
        have hn2 : (((wr.alloc (.cells #[.int .i64 m, .int .i64 0, .string ⟨#[120]⟩, .slice (some ⟨wr.heap.size + 1, 0, none⟩) 1 1] 34)).alloc (.cells #[.int .i64 ((m : Int) - 1)] 3)).alloc (.cells #[.int .i64 m, .int .i64 0, .string ⟨#[120]⟩, .slice (some ⟨wr.heap.size + 1, 0, none⟩) 1 1] 34)).heap[wr.heap.size + 1 + 1]? = some (.cells #[.int .i64 m, .int .i64 0, .string ⟨#[120]⟩, .slice (some ⟨wr.heap.size + 1, 0, none⟩) 1 1] 34 (0, 0)) := by
          have := heap_alloc_new ((wr.alloc (.cells #[.int .i64 m, .int .i64 0, .string ⟨#[120]⟩, .slice (some ⟨wr.heap.size + 1, 0, none⟩) 1 1] 34)).alloc (.cells #[.int .i64 ((m : Int) - 1)] 3)) (.cells #[.int .i64 m, .int .i64 0, .string ⟨#[120]⟩, .slice (some ⟨wr.heap.size + 1, 0, none⟩) 1 1] 34)
          simpa using this
        have HBa : Hid (Below wr.heap.size wr (((wr.alloc (.cells #[.int .i64 m, .int .i64 0, .string ⟨#[120]⟩, .slice (some ⟨wr.heap.size + 1, 0, none⟩) 1 1] 34)).alloc (.cells #[.int .i64 ((m : Int) - 1)] 3)).alloc (.cells #[.int .i64 m, .int .i64 0, .string ⟨#[120]⟩, .slice (some ⟨wr.heap.size + 1, 0, none⟩) 1 1] 34))) := (((Below.refl _ _).alloc (Nat.le_refl _) _).alloc (by simp) _).alloc (by simp; omega) _
        have HIt : Hid (ItemsF (((wr.alloc (.cells #[.int .i64 m, .int .i64 0, .string ⟨#[120]⟩, .slice (some ⟨wr.heap.size + 1, 0, none⟩) 1 1] 34)).alloc (.cells #[.int .i64 ((m : Int) - 1)] 3)).alloc (.cells #[.int .i64 m, .int .i64 0, .string ⟨#[120]⟩, .slice (some ⟨wr.heap.size + 1, 0, none⟩) 1 1] 34)) F' (some ⟨wr.heap.size + 1 + 1, 0, none⟩) [⟨px m, dep m⟩]) := by
          refine one_item _ _ _ ⟨px m, dep m⟩ (some ⟨wr.heap.size + 1, 0, none⟩) 1 ?_ (fun q => by have := HFlt.out _ q; omega) ?_
          · dsimp only
            rw [hdep]
            exact hn2
          · dsimp only
            rw [hdep]
            exact fun _ => ⟨wr.heap.size + 1, 0, rfl, (Array.getElem?_eq_some_iff.1 hn1).1, fun q => by have := HFlt.out _ q; omega, fun j hj => by
              have hj1 : j < 1 := hj
              obtain rfl : j = 0 := by omega
              exact cell_of_row _ _ 0 _ 3 (0, 0) hn1⟩
        clear hn0 hn1 hn2 hdep
        go_wp2_with (go_at_call 10; refine (eadd (HE2.out.fresh HBa.out) (some ⟨wr.heap.size + 1 + 1, 0, none⟩) 1 [⟨px m, dep m⟩] HIt.out (dep_small m (by omega)) (by omega) (by omega) (by rw [length_chn]; exact chn_refuses (by omega))).mono ?_; rintro e x3 ⟨rfl, F3, ⟨l3, ha3, he3⟩, hk3, hf3⟩; obtain ⟨y3, rfl, hy3⟩ := added_one ha3; obtain ⟨AC3, hc3⟩ := chn_add AC (by omega) hy3; rw [hc3] at he3; have HE3 : Hid (Eng x3 ge 8 (chS 0 false) 0 ((m + 1 : Nat) : Int) (chn AC3 0 (m + 1) false) F3) := (by have e : ((m + 1 : Nat) : Int) = (m : Int) + (([⟨px m, dep m⟩] : List It).length : Int) := (by simp); unfold Hid; rw [e]; exact he3); have HR3 := Lib.hid (run_of (hB.out.trans (HBa.out.mono hB.out.size)) hF.out hk3 hf3); clear ha3 he3 hk3 hf3 hy3 hc3)
        go_roundw
        case rel => exact ⟨m + 1, AC3, F3, by omega, by go_num, HE3.out, HR3.out.2, HR3.out.1⟩
        case measure => simp [intOf]; omega

    · obtain rfl : m = 8 := by omega
      have hlti : ¬ (8 : Int) < 8 := by omega
      go_wp2
      go_loopw [10] (fun q wr => ∃ (j cc d : Nat) (f : Bool) (AC : Nat → Option Addr × Nat) (F' : Nat → Prop), j ≤ len0 ∧ j ≤ 60 ∧ cc ≤ j ∧ d ≤ 8 ∧ (d = 8 → f = false) ∧ q = .int .i64 j ∧ Hid (Eng wr ge 8 (chS d f) cc 8 (chn AC d 8 f) F') ∧ Hid (∀ b, F' b → w.heap.size ≤ b) ∧ Hid (Below w.heap.size w wr)) (fun q _ => len0 - (intOf q).toNat)
      case atStart => exact ⟨0, 0, 0, false, AC, F', Nat.zero_le _, Nat.zero_le _, Nat.le_refl _, by omega, fun _ => rfl, rfl, hE.out, hF.out, hB.out⟩
      case round =>
        obtain ⟨j, cc, d, f, AC2, F2, hj, hj60, hcc, hd, hdf, rfl, hE, hF, hB⟩ := hrel
        rename World => wr
        by_cases hlt : j < len0 ∧ j < 60
        · obtain ⟨hlt, hlt60⟩ := hlt
          have hlti : (j : Int) < (len0 : Int) := by omega
          have hlti60 : (j : Int) < 60 := by omega
          have hj0 : (0 : Int) ≤ (j : Int) := by omega
          have hjz : j < z0.length := by rw [HL0.out]; exact hlt
          obtain ⟨zb, zo, rfl, hzb, hzc⟩ := HR0.out (by omega)
          have hc := (hB.out.cell (p := ⟨zb, zo + j, none⟩) hzb).trans (hzc j hjz)
          have hz8 := HA0.out _ (List.getElem_mem hjz)
          obtain ⟨z, hz⟩ : ∃ z, z = z0[j] := ⟨_, rfl⟩
          rw [← hz] at hc hz8
          obtain ⟨i, hi⟩ : ∃ i : Nat, i = z.toNat % 8 := ⟨_, rfl⟩
          have hi8 : i < 8 := by omega
          have hzi : z % 8 = (i : Int) := by omega
          have hzbw : zb < wr.heap.size := Nat.lt_of_lt_of_le hzb hB.out.size
          have HW := Lib.hid (ewrite_any hE.out hi8 (by omega))
          obtain ⟨t1, t2⟩ := chn_write AC2 hd f hi8
          rw [t1, t2] at HW
          generalize wrN (chS d f) (chn AC2 d 8 f) i = r1 at HW
          generalize wrE (chS d f) (chn AC2 d 8 f) i = r2 at HW
          obtain ⟨g, hg⟩ : ∃ g, g = (f || decide (i = d)) := ⟨_, rfl⟩
          rw [← hg] at HW
          have hg8 : d = 8 → g = false := fun e => by rw [hg, hdf e]; simp; omega
          have Hzc : Hid (∀ W, Below w.heap.size w W → W.cell? ⟨zb, zo + j, none⟩ = some (.int .u8 z)) := fun W hW => by rw [hz]; exact (hW.cell (p := ⟨zb, zo + j, none⟩) hzb).trans (hzc j hjz)
          clear hi hz hg t1 t2 hzc hdf
          by_cases h4 : z % 4 = 0
          · go_wp2_with (first
              | (go_at_call 12; refine HW.out.mono ?_; rintro e x4 ⟨rfl, F4, he4, hk4, hf4⟩; have HE4 := Lib.hid he4; have HR4 := Lib.hid (run_of hB.out hF.out hk4 hf4); have hc4 := Hzc.out _ HR4.out.1; have hzb4 : zb < x4.heap.size := Nat.lt_of_lt_of_le hzb HR4.out.1.size; clear he4 hk4 hf4)
              | (go_at_call 13; refine (eflush HE4.out (by omega)).mono ?_; rintro e x5 ⟨rfl, F5, he5, hk5, hf5⟩; rw [chS_flush, chn_left AC2 hd] at he5; have HE5 := Lib.hid he5; have HR5 := Lib.hid (run_of HR4.out.1 HR4.out.2 hk5 hf5); clear he5 hk5 hf5))
            refine ⟨⟨j + 1, cc + 1, if g = true then d + 1 else d, false, AC2, F5, by omega, by omega, by omega, ?_, fun _ => rfl, by go_num, HE5.out, HR5.out.2, HR5.out.1⟩, by simp [intOf]; omega⟩
            clear HE4 HE5 HR4 HR5 HW Hzc
            by_cases e : d = 8
            · have := hg8 e; subst this; simpa using hd
            · cases g
              · simpa using hd
              · simp; omega
          · go_wp2_with (go_at_call 12; refine HW.out.mono ?_; rintro e x4 ⟨rfl, F4, he4, hk4, hf4⟩; have HE4 := Lib.hid he4; have HR4 := Lib.hid (run_of hB.out hF.out hk4 hf4); have hc4 := Hzc.out _ HR4.out.1; have hzb4 : zb < x4.heap.size := Nat.lt_of_lt_of_le hzb HR4.out.1.size; clear he4 hk4 hf4)
            refine ⟨⟨j + 1, cc + 1, d, g, AC2, F4, by omega, by omega, by omega, hd, hg8, by go_num, HE4.out, HR4.out.2, HR4.out.1⟩, by simp [intOf]; omega⟩
        · have hcc1 : cc < 100000 := by omega
          have hcc2 : cc ≤ 70000 := by omega
          obtain ⟨t, ht⟩ := chn_crash d f z1
          have HT := Lib.hid ht
          have HCr := Lib.hid (ecrash hE.out hcc1 z1 HW1.out a1 cap1 (pick_of H1.out hB.out))
          rw [HL1.out] at HCr
          clear ht
          by_cases hlt0 : j < len0
          all_goals (
            have hq0 : (0 : Int) ≤ (j : Int) := by omega
            first
              | (have hq1 : (j : Int) < (len0 : Int) := by omega)
              | (have hq1 : ¬ (j : Int) < (len0 : Int) := by omega)
            have hq2 : (j : Int) < (len0 : Int) → ¬ (j : Int) < 60 := by omega
            first
              | (have hq3 : ¬ (j : Int) < 60 := hq2 hq1)
              | skip
            go_wp2_with (go_at_call 16; refine HCr.out.mono ?_; rintro e x6 ⟨gd, F6, rfl, hcd, hF6, hb6⟩; have HC6 := Lib.hid hcd; have HB6 := Lib.hid hb6; clear hcd hF6 hb6)
            go_loopw [12, 13] (fun p q wr => ∃ i : Nat, i ≤ 8 ∧ p = .bool (decide (t < i)) ∧ q = .int .i64 i ∧ Hid (Below x6.heap.size x6 wr)) (fun _ q _ => 8 - (intOf q).toNat)
            case atStart => exact ⟨0, Nat.zero_le _, by simp, rfl, Below.refl _ _⟩
            case round =>
              obtain ⟨i, hi, rfl, rfl, hB7⟩ := hrel
              rename World => w7
              by_cases hi8 : i < 8
              · have hlti : (i : Int) < 8 := by omega
                have hL0 := clast (HC6.out.fresh hB7.out) hi8
                rw [HT.out i] at hL0
                obtain ⟨sv, hsv⟩ : ∃ sv, sv = (if i < t then xS else noSec) := ⟨_, rfl⟩
                rw [← hsv] at hL0
                obtain ⟨v, hv, hv1⟩ : ∃ v : Int, (bytesV sv).toArray[0]? = some (.int .u8 v) ∧ v = (if i < t then 120 else 0) := by
                  rw [hsv]
                  by_cases e : i < t
                  · rw [if_pos e, if_pos e]; exact ⟨120, rfl, rfl⟩
                  · rw [if_neg e, if_neg e]; exact ⟨0, rfl, rfl⟩
                have hsl : sv.length = 32 := by rw [hsv]; split <;> rfl
                have hsz2 : Hid ((Try.prog.info? 65).map (·.size) = some (bytesV sv).toArray.size) := by unfold Hid; rw [List.size_toArray, length_bytesV, hsl]; exact size36
                have hone : Hid ((bytesV sv).toArray.all (·.oneCell') = true) := all_oneCell_toArray (bytesV_one _)
                have hold : Hid (32 = (bytesV sv).toArray.size) := by unfold Hid; rw [List.size_toArray, length_bytesV, hsl]
                have HL7 := Lib.hid hL0
                unfold secV at HL7
                obtain ⟨R0, hR0⟩ : ∃ R0, R0 = (bytesV sv).toArray := ⟨_, rfl⟩
                rw [← hR0] at HL7 hsz2 hone hold hv
                clear hL0 hsv hsl hR0
                by_cases hti : i < t
                · have hv2 : v = 120 := by rw [hv1, if_pos hti]
                  clear hv1
                  subst hv2
                  have hd1 : decide (t < i) = false := by simp; omega
                  have hd2 : decide (t < i + 1) = false := by simp; omega
                  rw [hd1]
                  go_wp2_with (first
                    | (go_at_call 30; refine HL7.out.mono ?_; rintro e w8 ⟨rfl, hb8⟩; have HB8 := Lib.hid hb8; clear hb8)
                    | (refine wpList_store_row rfl 65 (.tmp 14) (.tmp 79) rfl w8.heap.size R0 rfl rfl 65 _ (heap_alloc_new w8 _) hsz2.out hold.out hone.out ?_; generalize hW : World.setRow (w8.alloc (Obj.cells _ 65)) _ R0 = w9; have HB9 : Hid (Below x6.heap.size x6 w9) := (by rw [← hW]; exact (hB7.out.trans (HB8.out.mono hB7.out.size)).trans ((below_setRow (below_alloc1 w8 _) (Nat.le_refl _) _).mono (hB7.out.trans (HB8.out.mono hB7.out.size)).size)); have hr9 : w9.cell? ⟨w8.heap.size, 0, none⟩ = some (.int .u8 120) := (by rw [← hW, cell_setRow_same _ _ 0 _ _ _ _ (heap_alloc_new w8 _)]; exact hv); have hl9 : w8.heap.size < w9.heap.size := (by rw [← hW]; simp); clear hW))
                  go_roundw
                  case rel => exact ⟨i + 1, by omega, by rw [hd2], by go_num, HB9.out⟩
                  case measure => simp [intOf]; omega
                · have hv2 : v = 0 := by rw [hv1, if_neg hti]
                  clear hv1
                  subst hv2
                  have hd2 : decide (t < i + 1) = true := by simp; omega
                  by_cases hd : t < i
                  all_goals (
                    first
                      | (have hd1 : decide (t < i) = true := by simp; omega)
                      | (have hd1 : decide (t < i) = false := by simp; omega)
                    rw [hd1]
                    go_wp2_with (first
                      | (go_at_call 30; refine HL7.out.mono ?_; rintro e w8 ⟨rfl, hb8⟩; have HB8 := Lib.hid hb8; clear hb8)
                      | (refine wpList_store_row rfl 65 (.tmp 14) (.tmp 79) rfl w8.heap.size R0 rfl rfl 65 _ (heap_alloc_new w8 _) hsz2.out hold.out hone.out ?_; generalize hW : World.setRow (w8.alloc (Obj.cells _ 65)) _ R0 = w9; have HB9 : Hid (Below x6.heap.size x6 w9) := (by rw [← hW]; exact (hB7.out.trans (HB8.out.mono hB7.out.size)).trans ((below_setRow (below_alloc1 w8 _) (Nat.le_refl _) _).mono (hB7.out.trans (HB8.out.mono hB7.out.size)).size)); have hr9 : w9.cell? ⟨w8.heap.size, 0, none⟩ = some (.int .u8 0) := (by rw [← hW, cell_setRow_same _ _ 0 _ _ _ _ (heap_alloc_new w8 _)]; exact hv); have hl9 : w8.heap.size < w9.heap.size := (by rw [← hW]; simp); clear hW))
                    go_roundw
                    case rel => exact ⟨i + 1, by omega, by rw [hd2], by go_num, HB9.out⟩
                    case measure => simp [intOf]; omega)
              · obtain rfl : i = 8 := by omega
                have hlti : ¬ (8 : Int) < 8 := by omega
                have HB7 := Lib.hid (hB.out.trans ((HB6.out.trans (hB7.out.mono HB6.out.size)).mono hB.out.size))
                have HE7 := Lib.hid (hE.out.fresh (HB6.out.trans (hB7.out.mono HB6.out.size)))
                have HS := Lib.hid (esync HE7.out hcc2)
                go_wp2_with (first
                  | (go_at_call 26; refine HS.out.mono ?_; rintro e x8 ⟨S8, l8, r8, rfl, hs8, F8, ⟨c8, hc8, he8⟩, hk8, hf8⟩; obtain ⟨rfl, rfl⟩ := chn_synced AC2 _ d rfl (by assumption) f S8 l8 r8 hs8; have HW8 := Lib.hid (ewaiting he8); have HR8 := Lib.hid (run_of HB7.out (fun b q => hF.out b q) hk8 hf8); clear hs8 he8 hk8 hf8)
                  | (go_at_call 17; refine HW8.out.mono ?_; rintro e x9 ⟨A9, c9, rfl, ho9, hb9⟩; have HB9 := Lib.hid (HR8.out.1.trans (hb9.mono HR8.out.1.size)); clear ho9 hb9))
                go_ret
                exact ⟨rfl, HB9.out⟩)
end Go.Proofs.Ytegacggkdjgdiaa.TopChain
