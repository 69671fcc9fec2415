/- Whatever track, beginning and blocks come in, ArmScan returns true, and they read afterwards as before. No condition. Here: the walk of the law's text. -/
import Derived.Test.YtpelocpjfmmceaaSG
import Derived.Test.YtpelocpjfmmceaaST
set_option linter.unusedVariables false
set_option linter.unusedSimpArgs false
namespace Go.Proofs.Ytpelocpjfmmceaa
open Go.RowKit
set_option maxRecDepth 100000 in
set_option maxHeartbeats 8000000 in
theorem ArmScan.walk (per from_ : Int) (a2 : Option Addr) (len2 cap2 : Nat) (ms : List Int) (W : World) (hp : (Lit.int .u8 per).wf = true) (hn : (Lit.int .u8 from_).wf = true) (hm : IsWords W a2 len2 cap2 ms) :
    Calls Try.prog 8 #[.int .u8 per, .int .u8 from_, .slice a2 len2 cap2] W fun e W' => e = .returned (.bool true) ∧ Below W.heap.size W W' := by
  obtain ⟨p0, p1⟩ := bounds_u8 hp
  obtain ⟨n0, n1⟩ := bounds_u8 hn
  obtain ⟨e1, e2, e3, e4⟩ := hm
  subst e1
  unfold maxLen at e3
  have HM := Lib.hid e4
  obtain ⟨i0, hi0, hz0, hz1, hz2⟩ := info_parts infoI
  clear hp hn e4
  go_enter Try.func8, Try.ntmps8
  go_wp2
  go_loopw [7, 8] (fun s i wr => ∃ (k : Nat) (bl : List Int) (A' : Option Addr) (c' : Nat), k ≤ ms.length ∧ k ≤ 11 ∧ i = .int .i64 k ∧ s = .slice A' bl.length c' ∧ Hid (RowI wr W.heap.size A' c' bl) ∧ Hid (bl.length ≤ k ∧ bl.Nodup ∧ ∀ y ∈ bl, 0 ≤ y ∧ y < 400) ∧ Hid (Below W.heap.size W wr)) (fun _ i _ => 12 - (intOf i).toNat)
  case atStart => exact ⟨0, [], none, 0, Nat.zero_le _, by omega, rfl, rfl, World.ownsRow_nil _ _ _ _, ⟨Nat.le_refl _, List.nodup_nil, fun y h => (by cases h)⟩, Below.refl _ _⟩
  case round =>
    obtain ⟨k, bl, A', c', hk, hkc, rfl, rfl, hrow, hbl, hB⟩ := hrel
    rename World => wr
    have hk0 : (0 : Int) ≤ (k : Int) := by omega
    obtain ⟨hbk, hbn, hbr⟩ := hbl.out
    by_cases hgo : k < ms.length ∧ k < 11
    · obtain ⟨hlt, hcp⟩ := hgo
      have hki : (k : Int) < (ms.length : Int) := by omega
      have hkc2 : (k : Int) < 11 := by omega
      obtain ⟨q0, q1⟩ := HM.out.1 _ (inn_mem hlt)
      obtain ⟨bb, off, rfl, hbb, hcc⟩ := HM.out.2 (by omega)
      have hck := (hB.out.cell (p := ⟨bb, off + k, none⟩) hbb).trans (hcc k hlt)
      generalize inn ms k = v at *
      obtain ⟨v2, hv⟩ : ∃ v2 : Int, v % 400 = v2 := ⟨_, rfl⟩
      have r0 : 0 ≤ v % 400 := by omega
      have r1 : v % 400 < 400 := by omega
      have hv2 : 0 ≤ v2 ∧ v2 < 400 := by omega
      have Hv := Lib.hid hv
      have HI : Hid (Ints wr wr.heap.size A' bl) := hrow.out.ints
      have hcw := own_cap hrow.out
      unfold maxLen at hcw
      have HNo : Hid (v2 ∉ bl → (bl ++ [v2]).Nodup ∧ ∀ y ∈ bl ++ [v2], 0 ≤ y ∧ y < 400) := fun h => by
        refine ⟨List.nodup_append.2 ⟨hbn, by simp, fun a ha b hb e => h (by rw [List.mem_singleton] at hb; rw [← hb, ← e]; exact ha)⟩, fun y hy => ?_⟩
        rcases List.mem_append.1 hy with h | h
        · exact hbr y h
        · rw [List.mem_singleton] at h; rw [h]; exact hv2
      clear hv hcc hbn hbr
      go_wp2
      rw [Hv.out]
      go_loopw [10, 11] (fun t i w7 => ∃ q : Nat, q ≤ bl.length ∧ i = .int .i64 q ∧ t = .bool (decide (v2 ∈ bl.take q)) ∧ Below wr.heap.size wr w7) (fun _ i _ => bl.length - (intOf i).toNat)
      case atStart => exact ⟨0, Nat.zero_le _, rfl, by simp, Below.refl _ _⟩
      case round =>
        obtain ⟨q, hq, rfl, rfl, hB7⟩ := hrel
        rename World => w7
        have HB7 := Lib.hid hB7
        have hq0 : (0 : Int) ≤ (q : Int) := by omega
        by_cases hql : q < bl.length
        · have hqi : (q : Int) < (bl.length : Int) := by omega
          obtain ⟨b1, o1, hA1, l1, c1⟩ := HI.out.at_ hql
          subst hA1
          have d1 := (hB7.cell (p := ⟨b1, o1 + q, none⟩) l1).trans c1
          have Hst : Hid (decide (v2 ∈ bl.take (q + 1)) = (decide (v2 ∈ bl.take q) || decide (inn bl q = v2))) := by
            unfold Hid
            rw [take_inn hql, ← Bool.decide_or]
            congr 1
            rw [List.mem_append, List.mem_singleton]
            exact propext ⟨fun h => h.imp id Eq.symm, fun h => h.imp id Eq.symm⟩
          generalize inn bl q = z at *
          generalize decide (v2 ∈ bl.take q) = di at *
          cases di with
          | true =>
            have Hs2 : Hid (decide (v2 ∈ bl.take (q + 1)) = true) := by unfold Hid; rw [Hst.out]; rfl
            clear hB7 c1 Hst
            go_wp2
            go_roundw
            case rel => exact ⟨q + 1, by omega, by go_num, by rw [Hs2.out], HB7.out⟩
            case measure => simp [intOf]; omega
          | false =>
            by_cases hzy : z = v2
            · have hbz : (z == v2) = true := by simpa using hzy
              have Hs2 : Hid (decide (v2 ∈ bl.take (q + 1)) = true) := by unfold Hid; rw [Hst.out, decide_eq_true hzy]; rfl
              clear hB7 c1 Hst hzy
              go_wp2
              go_roundw
              case rel => exact ⟨q + 1, by omega, by go_num, by rw [Hs2.out], HB7.out⟩
              case measure => simp [intOf]; omega
            · have hbz : (z == v2) = false := by simpa using hzy
              have Hs2 : Hid (decide (v2 ∈ bl.take (q + 1)) = false) := by unfold Hid; rw [Hst.out, decide_eq_false hzy]; rfl
              clear hB7 c1 Hst hzy
              go_wp2
              go_roundw
              case rel => exact ⟨q + 1, by omega, by go_num, by rw [Hs2.out], HB7.out⟩
              case measure => simp [intOf]; omega
        · obtain rfl : q = bl.length := by omega
          have hqi : ¬ (bl.length : Int) < (bl.length : Int) := by omega
          rw [List.take_length]
          have HRow : Hid ((w7.alloc (.cells #[.int .i64 v2] 3)).ownsRow W.heap.size 3 1 (.slice A' bl.length c') bl.length (intsV bl)) := (hrow.out.fresh hB7).alloc _
          have HNew : Hid (∀ ad, some (⟨w7.heap.size, 0, none⟩ : Addr) = some ad → ∀ j u, [Value.int .i64 v2][j]? = some u → (w7.alloc (.cells #[.int .i64 v2] 3)).cell? (ad.add j) = some u) := fun ad e j u hu => by
            cases e
            exact World.news_of_block (heap_alloc_new w7 (.cells #[.int .i64 v2] 3)) j u hu
          have HAft : Hid (∀ A8 c8 w8, w8.ownsRow W.heap.size 3 1 (.slice A8 (bl.length + 1) c8) (bl.length + 1) (intsV bl ++ [.int .i64 v2]) → (w7.alloc (.cells #[.int .i64 v2] 3)).grownBy w8 (Value.slice A' bl.length c').ownBlock → RowI w8 W.heap.size A8 c8 (bl ++ [v2]) ∧ Below W.heap.size W w8) := fun A8 c8 w8 h8 hg => by
            have hb7 : Below W.heap.size W w7 := hB.out.trans (hB7.mono hB.out.size)
            refine ⟨by unfold RowI; rw [List.length_append, intsV_append]; exact h8, (hb7.alloc hb7.size _).grown hg (by simp; have := hb7.size; omega) (fun j e => (hrow.out.lt j (by rw [← own_eq A' bl.length c']; exact e)).1)⟩
          have HBw : Hid (Below W.heap.size W w7) := hB.out.trans (hB7.mono hB.out.size)
          have HRw : Hid (RowI w7 W.heap.size A' c' bl) := hrow.out.fresh hB7
          have hwz : W.heap.size ≤ w7.heap.size := HBw.out.size
          have hbl10 : bl.length ≤ 20 := by omega
          by_cases hin : v2 ∈ bl
          · have hdi : decide (v2 ∈ bl) = true := decide_eq_true hin
            rw [hdi]
            clear hdi hB7 hrow
            go_wp2
            go_roundw
            case rel => exact ⟨k + 1, bl, A', c', by omega, by omega, by go_num, rfl, HRw.out, ⟨by omega, hbl.out.2⟩, HBw.out⟩
            case measure => simp [intOf]; omega
          · have hdi : decide (v2 ∈ bl) = false := decide_eq_false hin
            have HNo2 := Lib.hid (HNo.out hin)
            rw [hdi]
            clear hdi hB7 hrow hin HNo
            go_wp2_with (at_builtin; refine wpList_append_src rfl (.tmp 51) (.tmp 53) 31 rfl W.heap.size 3 i0 (.int .i64 0) 1 8 Try.underlying31 hi0 hz0 hz1 hz2 rfl (by decide) (.slice A' bl.length c') bl.length (intsV bl) rfl HRow.out (some ⟨w7.heap.size, 0, none⟩) 1 1 [.int .i64 v2] rfl rfl HNew.out (by intro h; cases h) (by intro u hu; simp at hu; subst hu; rfl) (by unfold maxLen; omega) (by omega) (by simp; omega) (bl.length + 1) rfl ?_; intro A8 c8 w8 ho8 hg8 hor8; obtain ⟨a1, a2⟩ := HAft.out A8 c8 w8 ho8 hg8; have G1 := Lib.hid a1; have G2 := Lib.hid a2; clear ho8 hg8 hor8 a1 a2)
            go_roundw
            case rel => exact ⟨k + 1, bl ++ [v2], A8, c8, by omega, by omega, by go_num, by rw [List.length_append]; rfl, G1.out, ⟨by rw [List.length_append]; simp; omega, HNo2.out⟩, G2.out⟩
            case measure => simp [intOf]; omega
    · have hx : (¬ (k : Int) < (ms.length : Int)) ∨ ((k : Int) < (ms.length : Int) ∧ ¬ (k : Int) < 11) := by omega
      have hb10 : bl.length ≤ 11 := by omega
      have HI : Hid (∀ w, Below wr.heap.size wr w → Ints w w.heap.size A' bl) := fun w h => hrow.out.ints.next h
      have HBl : Hid (bl.Nodup ∧ ∀ y ∈ bl, 0 ≤ y ∧ y < 400) := ⟨hbn, hbr⟩
      have HBw := Lib.hid hB.out
      clear hrow hbl hbn hbr hgo hB
      have hm0 : 0 ≤ per % 64 := by omega
      have hm1 : per % 64 < 64 := by omega
      obtain ⟨y, hOy, hby, hyl, hyp, hyn, hys, hyu, hall⟩ := all_of 3 (by decide) (per % 64 + 1) from_ (by unfold newOk; simp; omega) n0 (by omega) bl HBl.out.1 (fun b hb => by have := HBl.out.2 b hb; omega) (by omega)
      have hfew := scan_few hOy hyp hyu (by omega) bl.length (by omega)
      have HA := Lib.hid (hall A' c' wr (HI.out wr (Below.refl _ _)))
      obtain ⟨f, hf⟩ : ∃ f : Nat → Int, f = fun j => (stA y j).choose.1 := ⟨_, rfl⟩
      have HG : Hid (∀ j, j < bl.length → inn (goL y bl.length) j = f j) := fun j hj => by rw [hf]; exact inn_goL y bl.length j hj
      have HT : Hid (turnK f from_ bl.length ≤ 1) := by
        unfold Hid
        rw [← hf, hys, show ((from_.toNat : Nat) : Int) = from_ by omega] at hfew
        exact hfew
      have HLen := Lib.hid (length_goL y bl.length)
      have hM0 : (0 : Int) ≤ ((stA y bl.length).m : Int) := by omega
      have HTk := Lib.hid (turnK_le f from_)
      generalize ((stA y bl.length).m : Int) = M at *
      generalize goL y bl.length = G at *
      obtain ⟨N, hN⟩ : ∃ N, N = bl.length := ⟨_, rfl⟩
      rw [← hN] at HG HT HLen HA hb10 ⊢
      have hbs : (N : Int) ≤ 11 := by omega
      clear hall hfew hf hyl hyn hys hyu hyp hby hOy HBl HI hN
      rcases hx with hx | ⟨hx1, hx2⟩
      all_goals
        go_wp2_with (go_at_call 14; refine HA.out.mono ?_; rintro e w2 ⟨A2, c2, rfl, hr2, hb2⟩; have HR2 := Lib.hid hr2.ints; have hc2 := own_cap hr2; have HB2 := Lib.hid (HBw.out.trans (hb2.mono HBw.out.size)); clear hb2 hr2)
        unfold maxLen at hc2
        rw [HLen.out] at hc2
        go_loopw [15, 16] (fun t i w7 => ∃ q : Nat, 1 ≤ q ∧ (q ≤ N ∨ q = 1) ∧ i = .int .i64 q ∧ t = .int .i64 (turnK f from_ q) ∧ Below w2.heap.size w2 w7) (fun _ i _ => 13 - (intOf i).toNat)
        case atStart => exact ⟨1, Nat.le_refl _, .inr rfl, rfl, by rw [turnK_one], Below.refl _ _⟩
        case round =>
          obtain ⟨q, hq1, hqN, rfl, rfl, hB7⟩ := hrel
          rename World => w7
          have HB7 := Lib.hid hB7
          by_cases hqn : q < N
          · have hqi : (q : Int) < (N : Int) := by omega
            have hq0 : (0 : Int) ≤ (q : Int) := by omega
            have hq1' : (0 : Int) ≤ (q : Int) - 1 := by omega
            have hq1'' : (q : Int) - 1 < (N : Int) := by omega
            obtain ⟨b1, o1, rfl, l1, c0⟩ := HR2.out.at_ (show 0 < G.length by rw [HLen.out]; omega)
            have HCs : Hid (∀ j, j < N → w7.cell? ⟨b1, o1 + j, none⟩ = some (.int .i64 (f j))) := fun j hj => by
              obtain ⟨b2, o2, e2, l2, cj⟩ := HR2.out.at_ (show j < G.length by rw [HLen.out]; exact hj)
              cases e2
              rw [HG.out j hj] at cj
              exact (hB7.cell (p := ⟨b1, o1 + j, none⟩) l1).trans cj
            have d0 := HCs.out q hqn
            have d1 := HCs.out (q - 1) (by omega)
            have dd : ((q : Int) - 1).toNat = q - 1 := by omega
            obtain ⟨ht0, ht1⟩ := HTk.out q
            clear c0 hB7
            by_cases hq : q = 1
            · have hqe : ((q : Int) == 1) = true := by simp; omega
              have hqg : ¬ (1 : Int) < (q : Int) := by omega
              have hqd : decide ((1 : Int) < (q : Int)) = false := decide_eq_false hqg
              have d00 : w7.cell? ⟨b1, o1, none⟩ = some (.int .i64 (f (q - 1))) := by have := HCs.out 0 (by omega); rw [hq]; exact this
              have hf0 : f 0 = f (q - 1) := by rw [hq]
              by_cases hup : f (q - 1) < f q
              · have Hst : Hid (turnK f from_ (q + 1) = turnK f from_ q) := turnK_same (fun h => by rcases h with ⟨_, h, _⟩ | ⟨h, _⟩; exact h hup; omega)
                have hu2 : decide (f (q - 1) < f q) = true := decide_eq_true hup
                generalize turnK f from_ q = tq at *
                generalize f q = z0 at *
                generalize f (q - 1) = z1 at *
                clear hf0 hqN hq
                go_wp2
                go_quiet (fail)
                go_wp2
                go_quiet (fail)
                go_wp2
                go_roundw
                case rel => exact ⟨q + 1, by omega, .inl (by omega), by go_num, by rw [Hst.out], bdn HB7.out _⟩
                case measure => simp [intOf]; omega
              · have hu2 : decide (f (q - 1) < f q) = false := decide_eq_false hup
                by_cases hge : from_ ≤ f (q - 1)
                · have Hst : Hid (turnK f from_ (q + 1) = turnK f from_ q + 1) := turnK_up (.inl ⟨hq, hup, by rw [hf0]; exact hge⟩)
                  generalize turnK f from_ q = tq at *
                  generalize f q = z0 at *
                  generalize f (q - 1) = z1 at *
                  clear hf0 hqN hq
                  go_wp2
                  go_quiet (fail)
                  go_wp2
                  go_quiet (fail)
                  go_wp2
                  go_roundw
                  case rel => exact ⟨q + 1, by omega, .inl (by omega), by go_num, by rw [Hst.out], bdn HB7.out _⟩
                  case measure => simp [intOf]; omega
                · have hge2 : decide (from_ ≤ f (q - 1)) = false := decide_eq_false hge
                  have Hst : Hid (turnK f from_ (q + 1) = turnK f from_ q) := turnK_same (fun h => by rcases h with ⟨_, _, h⟩ | ⟨h, _⟩; exact hge (by rw [← hf0]; exact h); omega)
                  generalize turnK f from_ q = tq at *
                  generalize f q = z0 at *
                  generalize f (q - 1) = z1 at *
                  clear hf0 hqN hq
                  go_wp2
                  go_quiet (fail)
                  go_wp2
                  go_quiet (fail)
                  go_wp2
                  go_roundw
                  case rel => exact ⟨q + 1, by omega, .inl (by omega), by go_num, by rw [Hst.out], bdn HB7.out _⟩
                  case measure => simp [intOf]; omega
            · have hqe : ((q : Int) == 1) = false := by simp; omega
              have hqg : (1 : Int) < (q : Int) := by omega
              have hq2' : (0 : Int) ≤ (q : Int) - 2 := by omega
              have hq2'' : (q : Int) - 2 < (N : Int) := by omega
              have dd2 : ((q : Int) - 2).toNat = q - 2 := by omega
              have d2 := HCs.out (q - 2) (by omega)
              have hne : q ≠ 1 := hq
              by_cases hup : f (q - 1) < f q
              · have hu2 : decide (f (q - 1) < f q) = true := decide_eq_true hup
                by_cases hup2 : f (q - 2) < f (q - 1)
                · have hu3 : decide (f (q - 2) < f (q - 1)) = true := decide_eq_true hup2
                  have Hst : Hid (turnK f from_ (q + 1) = turnK f from_ q) := turnK_same (fun h => by rcases h with ⟨h, _⟩ | ⟨_, h⟩; exact hq h; rw [hu2, hu3] at h; exact h rfl)
                  generalize turnK f from_ q = tq at *
                  generalize f q = z0 at *
                  generalize f (q - 1) = z1 at *
                  generalize f (q - 2) = z2 at *
                  clear hqN
                  go_wp2
                  go_quiet (fail)
                  go_wp2
                  go_quiet (fail)
                  go_wp2
                  go_roundw
                  case rel => exact ⟨q + 1, by omega, .inl (by omega), by go_num, by rw [Hst.out], bdn HB7.out _⟩
                  case measure => simp [intOf]; omega
                · have hu3 : decide (f (q - 2) < f (q - 1)) = false := decide_eq_false hup2
                  have Hst : Hid (turnK f from_ (q + 1) = turnK f from_ q + 1) := turnK_up (.inr ⟨by omega, by rw [hu2, hu3]; decide⟩)
                  generalize turnK f from_ q = tq at *
                  generalize f q = z0 at *
                  generalize f (q - 1) = z1 at *
                  generalize f (q - 2) = z2 at *
                  clear hqN
                  go_wp2
                  go_quiet (fail)
                  go_wp2
                  go_quiet (fail)
                  go_wp2
                  go_roundw
                  case rel => exact ⟨q + 1, by omega, .inl (by omega), by go_num, by rw [Hst.out], bdn HB7.out _⟩
                  case measure => simp [intOf]; omega
              · have hu2 : decide (f (q - 1) < f q) = false := decide_eq_false hup
                by_cases hup2 : f (q - 2) < f (q - 1)
                · have hu3 : decide (f (q - 2) < f (q - 1)) = true := decide_eq_true hup2
                  have Hst : Hid (turnK f from_ (q + 1) = turnK f from_ q + 1) := turnK_up (.inr ⟨by omega, by rw [hu2, hu3]; decide⟩)
                  generalize turnK f from_ q = tq at *
                  generalize f q = z0 at *
                  generalize f (q - 1) = z1 at *
                  generalize f (q - 2) = z2 at *
                  clear hqN
                  go_wp2
                  go_quiet (fail)
                  go_wp2
                  go_quiet (fail)
                  go_wp2
                  go_roundw
                  case rel => exact ⟨q + 1, by omega, .inl (by omega), by go_num, by rw [Hst.out], bdn HB7.out _⟩
                  case measure => simp [intOf]; omega
                · have hu3 : decide (f (q - 2) < f (q - 1)) = false := decide_eq_false hup2
                  have Hst : Hid (turnK f from_ (q + 1) = turnK f from_ q) := turnK_same (fun h => by rcases h with ⟨h, _⟩ | ⟨_, h⟩; exact hq h; rw [hu2, hu3] at h; exact h rfl)
                  generalize turnK f from_ q = tq at *
                  generalize f q = z0 at *
                  generalize f (q - 1) = z1 at *
                  generalize f (q - 2) = z2 at *
                  clear hqN
                  go_wp2
                  go_quiet (fail)
                  go_wp2
                  go_quiet (fail)
                  go_wp2
                  go_roundw
                  case rel => exact ⟨q + 1, by omega, .inl (by omega), by go_num, by rw [Hst.out], bdn HB7.out _⟩
                  case measure => simp [intOf]; omega
          · have hqi : ¬ (q : Int) < (N : Int) := by omega
            have hle : turnK f from_ q ≤ 1 := by
              rcases hqN with h | h
              · obtain rfl : q = N := by omega
                exact HT.out
              · rw [h, turnK_one]; omega
            generalize turnK f from_ q = tq at *
            clear hB7 hqN
            go_wp2_with (go_at_call 12; refine (live_any _).mono ?_; rintro e w8 ⟨rfl, hb8⟩; have HB8 := Lib.hid (HB7.out.trans (hb8.mono HB7.out.size)); clear hb8)
            go_ret
            exact ⟨by simp [hle, hM0], HB2.out.trans (HB8.out.mono HB2.out.size)⟩
end Go.Proofs.Ytpelocpjfmmceaa
