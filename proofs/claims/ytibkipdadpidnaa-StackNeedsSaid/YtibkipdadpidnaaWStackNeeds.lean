/- Whatever bytes, deeds and numbers come in, StackNeeds returns true, and they read afterwards as before. No condition. Here: the walk of the law's text. -/
import Derived.Test.YtibkipdadpidnaaSL
set_option linter.unusedVariables false
set_option linter.unusedSimpArgs false
namespace Go.Proofs.Ytibkipdadpidnaa
open Go.RowKit
def wantA (l : List On) (m : List Int) (k : Nat) : Int := if (m.take k).all (isOn l) = true then 0 else 2
def wantB (l : List On) (m : List Int) (k : Nat) : Int := if (m.take k).all (needsIn l m) = true then 0 else 12
def wantC (m nl : List Int) (j : Nat) (v : Int) : Int := if v = 0 ∧ (nl.take j).all (fun y => decide (y ∈ m)) = true then 0 else 12
theorem wantA_on {l : List On} {m : List Int} {k : Nat} (hk : k < m.length) (h : isOn l (inn m k) = true) : wantA l m (k + 1) = wantA l m k := by
  unfold wantA; rw [take_inn hk, List.all_append]; simp [h]
theorem wantA_off {l : List On} {m : List Int} {k : Nat} (hk : k < m.length) (h : isOn l (inn m k) = false) : wantA l m (k + 1) = 2 := by
  unfold wantA; rw [take_inn hk, List.all_append]; simp [h]
theorem wantB_is (l : List On) (m : List Int) (k : Nat) : wantB l m k = 0 ∨ wantB l m k = 12 := by unfold wantB; split <;> simp
theorem wantC_is (m nl : List Int) (j : Nat) (v : Int) : wantC m nl j v = 0 ∨ wantC m nl j v = 12 := by unfold wantC; split <;> simp
theorem wantC_zero {m nl : List Int} {v : Int} (h : v = 0 ∨ v = 12) : wantC m nl 0 v = v := by
  unfold wantC
  rcases h with rfl | rfl <;> simp
theorem wantC_in {m nl : List Int} {v : Int} {j : Nat} (hj : j < nl.length) (h : decide (inn nl j ∈ m) = true) : wantC m nl (j + 1) v = wantC m nl j v := by
  unfold wantC; rw [take_inn hj, List.all_append]
  simp only [List.all_cons, List.all_nil, Bool.and_true, h]
theorem wantC_out {m nl : List Int} {v : Int} {j : Nat} (hj : j < nl.length) (h : decide (inn nl j ∈ m) = false) : wantC m nl (j + 1) v = 12 := by
  unfold wantC; rw [take_inn hj, List.all_append]
  simp only [List.all_cons, List.all_nil, Bool.and_true, h, Bool.and_false]
  rw [if_neg (by simp)]
theorem wantC_end {l : List On} {m : List Int} {k : Nat} (hk : k < m.length) : wantC m (needsL l (inn m k)) (needsL l (inn m k)).length (wantB l m k) = wantB l m (k + 1) := by
  unfold wantC wantB
  rw [List.take_length, take_inn hk, List.all_append]
  have e : [inn m k].all (needsIn l m) = (needsL l (inn m k)).all (fun y => decide (y ∈ m)) := by simp [needsIn]
  rw [e]
  cases (List.take k m).all (needsIn l m) <;> cases (needsL l (inn m k)).all (fun y => decide (y ∈ m)) <;> simp
theorem want_two {l : List On} {m : List Int} (h : wantA l m m.length = 2) : mayE l m = 2 := by
  unfold wantA at h
  rw [List.take_length] at h
  unfold mayE
  split at h
  · cases h
  · rename_i q; rw [if_neg q]
theorem want_end {l : List On} {m : List Int} (h : wantA l m m.length ≠ 2) : wantA l m m.length = 0 ∧ mayE l m = wantB l m m.length := by
  unfold wantA at h ⊢
  rw [List.take_length] at h ⊢
  unfold mayE wantB
  rw [List.take_length]
  split at h
  · rename_i q; rw [if_pos q, if_pos q]; exact ⟨rfl, rfl⟩
  · exact absurd rfl h
set_option maxRecDepth 100000 in
set_option maxHeartbeats 4000000 in
theorem StackNeeds.walk (a1 : Option Addr) (len1 cap1 : Nat) (bs : List Int) (a2 : Option Addr) (len2 cap2 : Nat) (ds : List Dd) (a3 : Option Addr) (len3 cap3 : Nat) (l : List Int) (W : World) (hb : IsBytes W a1 len1 cap1 bs) (hd : IsDeeds W a2 len2 cap2 ds) (hl : IsInts W a3 len3 cap3 l) :
    Calls Try.prog 8 #[.slice a1 len1 cap1, .slice a2 len2 cap2, .slice a3 len3 cap3] W fun e W' => e = .returned (.bool true) ∧ Below W.heap.size W W' := by
  obtain ⟨rfl, b2, b3, b4⟩ := hb
  obtain ⟨rfl, d2, d3, d4⟩ := hd
  obtain ⟨rfl, l2, l3, l4, l5⟩ := hl
  have HP := Lib.hid (play_any a1 cap1 bs a2 cap2 ds W b4 d2 d3 d4)
  have HFw := Lib.hid (fun V => few_any a3 l cap3 V l2 l3)
  have hml : (fewI l).length ≤ 40 := fewI_len l
  have hll : (fewI l).length ≤ l.length := by unfold fewI; rw [List.length_take]; omega
  have HI : Hid (∀ V, Below W.heap.size W V → Ints V V.heap.size a3 (fewI l)) := fun V h => ((l4.take 40).below h).more h.size
  have Hmw : Hid (∀ x ∈ fewI l, WfI x) := fun x hx => l5 x (fewI_mem hx)
  clear b2 b3 b4 d2 d3 d4 l2 l3 l4 l5
  generalize fewI l = m at *
  generalize l.length = ll at *
  go_enter Try.func8, Try.ntmps8
  go_wp2_with fail
  refine HP.out.mono ?_
  rintro e w1 ⟨g, r, s, rfl, hT, hO, hB⟩
  have HQ : Hid (∀ V, Below W.heap.size W V → Two W.heap.size V g r s s → Calls Try.prog 14 #[.pointer (some ⟨g, 0, none⟩), .slice a3 m.length cap3] V (GivesR V (rollF s m) (mayE s.l m))) := fun V h t => q_roll t hO (by omega) a3 cap3 _ (by omega) Hmw.out (HI.out V h)
  have HG : Hid (∀ V n, Two W.heap.size V g r s s → Calls Try.prog 26 #[.pointer (some ⟨g, 0, none⟩), .int .i64 n] V fun e w' => e = .returned (.tuple #[(patP s.l n).v, .bool (isOn s.l n)]) ∧ Below V.heap.size V w') := fun V n t => q_get t hO n
  have HNd : Hid (∀ V n, Two W.heap.size V g r s s → Calls Try.prog 25 #[.pointer (some ⟨g, 0, none⟩), .int .i64 n] V (GivesI V (needsL s.l n))) := fun V n t => q_needs t hO (by omega) n
  have HN : Hid (∀ V V', Two W.heap.size V g r s s ∧ Below W.heap.size W V → Below V.heap.size V V' → Two W.heap.size V' g r s s ∧ Below W.heap.size W V') := fun V V' h k => ⟨h.1.fresh k, h.2.trans (k.mono h.2.size)⟩
  have hnl : ∀ n, (needsL s.l n).length ≤ 900 := fun n => by
    have := hO.len
    have h2 : (needsL s.l n).length ≤ s.l.length := by
      unfold needsL
      split
      · rw [length_nums]; exact List.length_filter_le _ _
      · exact Nat.zero_le _
    omega
  have HNl := Lib.hid hnl
  have H1 := Lib.hid (And.intro hT hB)
  clear hT hO hB hnl HP
  go_wp2_with (go_at_call 12; refine (live_any _).mono ?_; rintro e w2 ⟨rfl, hb2⟩; have H2 := Lib.hid (HN.out _ _ H1.out hb2); clear hb2)
  clear H1
  go_loopw [10, 11] (fun v i wr => ∃ k : Nat, k ≤ m.length ∧ i = .int .i64 k ∧ v = .int .i64 (wantA s.l m k) ∧ Hid (Two W.heap.size wr g r s s ∧ Below W.heap.size W wr)) (fun _ i _ => m.length - (intOf i).toNat)
  case atStart => exact ⟨0, Nat.zero_le _, rfl, rfl, H2.out⟩
  case round =>
    obtain ⟨k, hk, rfl, rfl, hH⟩ := hrel
    rename World => wr
    have hk0 : (0 : Int) ≤ (k : Int) := by omega
    by_cases hlt : k < m.length
    · have hki : (k : Int) < (m.length : Int) := by omega
      have hkl : (k : Int) < (ll : Int) := by omega
      obtain ⟨b1, o1, rfl, l1, c1⟩ := (HI.out wr hH.out.2).at_ hlt
      have HGk := Lib.hid (HG.out wr (inn m k) hH.out.1)
      have HX : Hid (∀ (V : World) (x : Obj), Below wr.heap.size wr V → Two W.heap.size (V.alloc x) g r s s ∧ Below W.heap.size W (V.alloc x)) := fun V x h => HN.out _ _ (HN.out _ _ hH.out h) (Pat.below_alloc1 V x)
      cases hon : isOn s.l (inn m k) with
      | true =>
        have HV : Hid (wantA s.l m (k + 1) = wantA s.l m k) := wantA_on hlt hon
        rw [hon] at HGk
        clear hon
        generalize wantA s.l m k = v at *
        generalize patP s.l (inn m k) = pp at *
        obtain ⟨pb, po, ps⟩ := pp
        unfold Pat.Pt.v at HGk
        generalize inn m k = x at *
        go_wp2_with (first
          | (go_at_call 15; (with_reducible refine (HFw.out _).mono ?_); rintro e w4 ⟨rfl, rfl⟩)
          | (go_at_call 26; (with_reducible refine HGk.out.mono ?_); rintro e w5 ⟨rfl, hb5⟩; have H5 := Lib.hid (HX.out w5 (.cells #[.int .i64 pb, .int .i64 po, .string ps] 38) hb5); clear hb5))
        go_roundw
        case rel => exact ⟨k + 1, by omega, by go_num, by rw [HV.out], H5.out⟩
        case measure => simp [intOf]; omega
      | false =>
        have HV : Hid (wantA s.l m (k + 1) = 2) := wantA_off hlt hon
        rw [hon] at HGk
        clear hon
        generalize wantA s.l m k = v at *
        generalize patP s.l (inn m k) = pp at *
        obtain ⟨pb, po, ps⟩ := pp
        unfold Pat.Pt.v at HGk
        generalize inn m k = x at *
        go_wp2_with (first
          | (go_at_call 15; (with_reducible refine (HFw.out _).mono ?_); rintro e w4 ⟨rfl, rfl⟩)
          | (go_at_call 26; (with_reducible refine HGk.out.mono ?_); rintro e w5 ⟨rfl, hb5⟩; have H5 := Lib.hid (HX.out w5 (.cells #[.int .i64 pb, .int .i64 po, .string ps] 38) hb5); clear hb5))
        go_roundw
        case rel => exact ⟨k + 1, by omega, by go_num, by rw [HV.out], H5.out⟩
        case measure => simp [intOf]; omega
    · obtain rfl : k = m.length := by omega
      have hki : ¬ (m.length : Int) < (m.length : Int) := by omega
      by_cases hw : wantA s.l m m.length = 2
      · have HM := Lib.hid (want_two hw)
        rw [HM.out] at HQ
        rw [hw]
        clear hw HG HNd
        go_wp2_with (go_at_call 15; (with_reducible refine (HFw.out _).mono ?_); rintro e w4 ⟨rfl, rfl⟩)
        go_loopw [10, 14] (fun v i wr' => v = .int .i64 2 ∧ i = .int .i64 0 ∧ wr' = wr) (fun _ _ _ => 0)
        case atStart => exact ⟨rfl, rfl, rfl⟩
        case round =>
          obtain ⟨rfl, rfl, rfl⟩ := hrel
          rcases Nat.eq_zero_or_pos m.length with hz | hz
          · have hzi : ¬ (0 : Int) < (m.length : Int) := by omega
            clear hz
            go_wp2_with (first
              | (go_at_call 15; (with_reducible refine (HFw.out _).mono ?_); rintro e w4 ⟨rfl, rfl⟩)
              | (go_at_call 14; (with_reducible refine (HQ.out _ hH.out.2 hH.out.1).mono ?_); rintro e w3 ⟨A3, n3, c3, rfl, rfl, t3, hb3⟩; have H3 := Lib.hid (HN.out _ _ hH.out hb3); clear hb3 t3))
            go_ret
            exact ⟨by simp, H3.out.2⟩
          · have hzi : (0 : Int) < (m.length : Int) := by omega
            clear hz
            go_wp2_with (first
              | (go_at_call 15; (with_reducible refine (HFw.out _).mono ?_); rintro e w4 ⟨rfl, rfl⟩)
              | (go_at_call 14; (with_reducible refine (HQ.out _ hH.out.2 hH.out.1).mono ?_); rintro e w3 ⟨A3, n3, c3, rfl, rfl, t3, hb3⟩; have H3 := Lib.hid (HN.out _ _ hH.out hb3); clear hb3 t3))
            go_ret
            exact ⟨by simp, H3.out.2⟩
      · obtain ⟨hw0, hwE⟩ := want_end hw
        have HM := Lib.hid hwE
        rw [hw0]
        clear hw hw0 hwE HG
        go_wp2_with (go_at_call 15; (with_reducible refine (HFw.out _).mono ?_); rintro e w4 ⟨rfl, rfl⟩)
        go_loopw [10, 14] (fun v i wr' => ∃ k : Nat, k ≤ m.length ∧ i = .int .i64 k ∧ v = .int .i64 (wantB s.l m k) ∧ Hid (Two W.heap.size wr' g r s s ∧ Below W.heap.size W wr')) (fun _ i _ => m.length - (intOf i).toNat)
        case atStart => exact ⟨0, Nat.zero_le _, rfl, rfl, hH.out⟩
        case round =>
          obtain ⟨k, hk, rfl, rfl, hH2⟩ := hrel
          rename World => wq
          have hk0 : (0 : Int) ≤ (k : Int) := by omega
          by_cases hlt : k < m.length
          · have hki : (k : Int) < (m.length : Int) := by omega
            have hkl : (k : Int) < (ll : Int) := by omega
            obtain ⟨b1, o1, rfl, l1, c1⟩ := (HI.out wq hH2.out.2).at_ hlt
            have HNk := Lib.hid (HNd.out wq (inn m k) hH2.out.1)
            have HL := Lib.hid (HNl.out (inn m k))
            have hb2 : (wantB s.l m k != 2) = true := by rcases wantB_is s.l m k with e | e <;> rw [e] <;> decide
            have HC0 : Hid (wantC m (needsL s.l (inn m k)) 0 (wantB s.l m k) = wantB s.l m k) := wantC_zero (wantB_is _ _ _)
            have HCe : Hid (wantC m (needsL s.l (inn m k)) (needsL s.l (inn m k)).length (wantB s.l m k) = wantB s.l m (k + 1)) := wantC_end hlt
            generalize wantB s.l m k = v at *
            generalize needsL s.l (inn m k) = nl at *
            generalize inn m k = x at *
            go_wp2_with (first
              | (go_at_call 15; (with_reducible refine (HFw.out _).mono ?_); rintro e w4 ⟨rfl, rfl⟩)
              | (go_at_call 25; (with_reducible refine HNk.out.mono ?_); rintro e w5 ⟨A5, c5, rfl, r5, hb5⟩; have H5 := Lib.hid (HN.out _ _ hH2.out hb5); have R5 := Lib.hid r5.ints; clear r5 hb5))
            go_loopw [10, 16] (fun v' j wr' => ∃ q : Nat, q ≤ nl.length ∧ j = .int .i64 q ∧ v' = .int .i64 (wantC m nl q v) ∧ Hid (Two W.heap.size wr' g r s s ∧ Below W.heap.size W wr') ∧ Hid (Ints wr' wr'.heap.size A5 nl)) (fun _ j _ => nl.length - (intOf j).toNat)
            case atStart => exact ⟨0, Nat.zero_le _, rfl, by rw [HC0.out], H5.out, R5.out⟩
            case round =>
              obtain ⟨q, hq, rfl, rfl, hH6, hR6⟩ := hrel
              rename World => wz
              have hq0 : (0 : Int) ≤ (q : Int) := by omega
              have hnl := HL.out
              by_cases hqt : q < nl.length
              · have hqi : (q : Int) < (nl.length : Int) := by omega
                obtain ⟨b6, o6, rfl, l6, c6⟩ := hR6.out.at_ hqt
                have HHs : Hid (∀ V, Below wz.heap.size wz V → Calls Try.prog 27 #[.slice (some ⟨b1, o1, none⟩) m.length cap3, .int .i64 (inn nl q)] V fun e w' => e = .returned (.bool (decide (inn nl q ∈ m))) ∧ V = w') := fun V h => lhas_any _ _ m _ V (by omega) (HI.out V (HN.out _ _ hH6.out h).2)
                have X0 : Hid (wz.drew.cell? ⟨b6, o6 + q, none⟩ = some (.int .i64 (inn nl q))) := c6
                have X1 : Hid (wz.cell? ⟨b6, o6 + q, none⟩ = some (.int .i64 (inn nl q))) := c6
                have BD : Hid (Below wz.heap.size wz wz.drew) := (Below.refl _ _).drew
                have H7 := Lib.hid (HN.out _ _ hH6.out BD.out)
                have R7 := Lib.hid (hR6.out.next BD.out)
                have hnot : ∀ (x : Bool) (w : World), (Op.unary .not (.bool x)).run Try.prog w = .ok (.bool (!x)) w := fun _ _ => rfl
                cases hin : decide (inn nl q ∈ m) with
                | true =>
                  have HV : Hid (wantC m nl (q + 1) v = wantC m nl q v) := wantC_in hqt hin
                  rw [hin] at HHs
                  clear hin c6
                  generalize wantC m nl q v = v' at *
                  generalize inn nl q = y at *
                  go_wp2_with fail
                  go_region_held3 (fun V => V.cell? ⟨b6, o6 + q, none⟩ = some (.int .i64 y)) (first | exact X0.out | exact X1.out)
                    (first
                      | (go_at_call 15; (with_reducible refine (HFw.out _).mono ?_); rintro e w4 ⟨rfl, rfl⟩)
                      | (go_at_call 27; (with_reducible refine (HHs.out _ BD.out).mono ?_); rintro e w4 ⟨rfl, rfl⟩)
                      | fail)
                  go_wp2
                  go_roundw
                  case rel => exact ⟨q + 1, by omega, by go_num, by rw [HV.out], H7.out, R7.out⟩
                  case measure => simp [intOf]; omega
                | false =>
                  have HV : Hid (wantC m nl (q + 1) v = 12) := wantC_out hqt hin
                  rw [hin] at HHs
                  clear hin c6
                  generalize wantC m nl q v = v' at *
                  generalize inn nl q = y at *
                  go_wp2_with fail
                  go_region_held3 (fun V => V.cell? ⟨b6, o6 + q, none⟩ = some (.int .i64 y)) (first | exact X0.out | exact X1.out)
                    (first
                      | (go_at_call 15; (with_reducible refine (HFw.out _).mono ?_); rintro e w4 ⟨rfl, rfl⟩)
                      | (go_at_call 27; (with_reducible refine (HHs.out _ BD.out).mono ?_); rintro e w4 ⟨rfl, rfl⟩)
                      | fail)
                  go_wp2
                  go_roundw
                  case rel => exact ⟨q + 1, by omega, by go_num, by rw [HV.out], H7.out, R7.out⟩
                  case measure => simp [intOf]; omega
              · obtain rfl : q = nl.length := by omega
                have hqi : ¬ (nl.length : Int) < (nl.length : Int) := by omega
                rw [HCe.out]
                obtain ⟨v9, hv9⟩ : ∃ v9, v9 = wantB s.l m (k + 1) := ⟨_, rfl⟩
                rw [← hv9]
                have Hv9 := Lib.hid hv9
                clear hv9
                go_wp2
                go_roundw
                case rel => exact ⟨k + 1, by omega, by go_num, by rw [Hv9.out], hH6.out⟩
                case measure => simp [intOf]; omega
          · obtain rfl : k = m.length := by omega
            have hki : ¬ (m.length : Int) < (m.length : Int) := by omega
            rw [← HM.out]
            clear HNd
            generalize mayE s.l m = ee at *
            go_wp2_with (first
              | (go_at_call 15; (with_reducible refine (HFw.out _).mono ?_); rintro e w4 ⟨rfl, rfl⟩)
              | (go_at_call 14; (with_reducible refine (HQ.out _ hH2.out.2 hH2.out.1).mono ?_); rintro e w3 ⟨A3, n3, c3, rfl, rfl, t3, hb3⟩; have H3 := Lib.hid (HN.out _ _ hH2.out hb3); clear hb3 t3))
            go_ret
            exact ⟨by simp, H3.out.2⟩
end Go.Proofs.Ytibkipdadpidnaa
