/- GraphSame holds whatever comes in. Here: the walk of the law's text. -/
import Derived.Test.YtmekffcpbjmffaaYI
import Derived.Deep.QuietTactic
import Derived.BigQuiet
namespace Go.Proofs.Ytmekffcpbjmffaa
open Go.RowKit

set_option maxRecDepth 100000 in
set_option maxHeartbeats 4000000 in
theorem GraphSame.walk (a0 : Option Addr) (len0 cap0 : Nat) (R : List (List Int)) (A : Nat → Option Addr) (C : Nat → Nat) (a b : Int) (W : World) (h0 : IsMat W a0 len0 cap0 R A C) (_ : (Lit.int .i64 a).wf = true) (_ : (Lit.int .i64 b).wf = true) :
    Calls Try.prog 9 #[.slice a0 len0 cap0, .int .i64 a, .int .i64 b] W fun e W' => e = .returned (.bool true) ∧ Below W.heap.size W W' := by
  obtain ⟨hf1, hf2⟩ := few_bound R
  obtain ⟨F, hF⟩ : ∃ F, F = fewR R := ⟨_, rfl⟩
  have HF0 := few_any a0 len0 cap0 R A C _ h0
  unfold FewSays at HF0
  rw [← hF] at HF0 hf1 hf2
  have HF1 := Lib.hid HF0
  have Hf2 := Lib.hid hf2
  clear hF HF0 hf2 h0
  go_enter Try.func9, Try.ntmps9
  go_wp2_with fail
  refine HF1.out.mono ?_
  rintro e w1 ⟨Ad, cd, rfl, hM1, hB1⟩
  have HB : Hid (Below W.heap.size W w1) := hB1
  have Hm : Hid (Mat w1 w1.heap.size Ad F) := hM1
  clear hM1 hB1
  cases hok : okB F with
  | false =>
    have Hok := Lib.hid hok
    clear hok
    go_wp2_with (first
      | (go_at_call 31; refine (thin_no Ad cd _ F rfl Hok.out _ hf1 Hf2.out Hm.out).mono ?_; rintro e w5 ⟨rfl, hB5⟩; replace Hm := Lib.hid (Mat.next Hm.out hB5); replace HB := Lib.hid (HB.out.trans (hB5.mono HB.out.size)); clear hB5)
      | (go_at_call 16; refine (right_no Ad cd _ F rfl Hok.out _ hf1 Hf2.out Hm.out).mono ?_; rintro e w' ⟨rfl, rfl⟩)
      | (go_at_call 15; refine (live_any _).mono ?_; rintro e w5 ⟨rfl, hB5⟩; replace Hm := Lib.hid (Mat.next Hm.out hB5); replace HB := Lib.hid (HB.out.trans (hB5.mono HB.out.size)); clear hB5))
    go_ret
    exact ⟨rfl, HB.out⟩
  | true =>
    obtain ⟨D, hD, hOk⟩ := okB_out hok
    subst hD
    have Hok := Lib.hid hOk
    have hDl : (rowsI D).length = D.length := length_rowsI D
    obtain ⟨n, hn⟩ : ∃ n, n = (rowsI D).length := ⟨_, rfl⟩
    have hnD : n = D.length := by rw [hn, hDl]
    have HnD := Lib.hid hnD
    have Hto := Lib.hid (thin_ok hOk.right)
    have Htn : Hid (D.length = (thinL D).length) := (length_thinL D).symm
    have Htt := Lib.hid (thin_thin hOk.right)
    have Hbe := Lib.hid (befB_thin hOk.right a b)
    have Hde := Lib.hid (depthI_thin hOk.right a)
    have Htl : Hid (D.length = (rowsI (thinL D)).length) := by unfold Hid; rw [length_rowsI, length_thinL]
    have Htb : Hid ((rowsI (thinL D)).length ≤ 1000) := by unfold Hid; rw [length_rowsI, length_thinL]; have := hOk.right.1; omega
    have Htr : Hid (∀ k, k < (rowsI (thinL D)).length → (rowI (rowsI (thinL D)) k).length ≤ 1000) := fun k hk => by
      rw [length_rowsI, length_thinL] at hk
      rw [rowI_rowsI, length_natsI, rowN_thinL hk]
      have := thinRow_len (D := D) k
      omega
    have hni : (n : Int) = (D.length : Int) := by omega
    have Hni := Lib.hid hni
    have hD256 := Hok.out.right.1
    rw [← hn]
    clear hok hOk hDl hn hf1 hnD hni
    go_wp2_with (first
      | (go_at_call 31; refine (thin_any Ad cd n D HnD.out Hok.out _ Hm.out).mono ?_; rintro e w5 ⟨⟨At, ct, rfl, hMt⟩, hB5⟩; have Ht := Lib.hid hMt; clear hMt; replace Hm := Lib.hid (Mat.next Hm.out hB5); replace HB := Lib.hid (HB.out.trans (hB5.mono HB.out.size)); clear hB5)
      | (go_at_call 16; refine (right_yes Ad cd n D HnD.out Hok.out _ Hm.out).mono ?_; rintro e w' ⟨rfl, rfl⟩))
    go_loopw [9] (fun i wr => ∃ k : Nat, k ≤ D.length ∧ i = .int .i64 k ∧ Below w5.heap.size w5 wr) (fun i _ => D.length - (intOf i).toNat)
    case atStart => exact ⟨0, Nat.zero_le _, rfl, Below.refl _ _⟩
    case round =>
      obtain ⟨k, hk, rfl, hB⟩ := hrel
      rename World => wr
      by_cases hlt : k < D.length
      · have hlti : (k : Int) < (D.length : Int) := by omega
        have hk0 : (0 : Int) ≤ (k : Int) := by omega
        have hkn : (k : Int) < (n : Int) := by rw [Hni.out]; exact hlti
        obtain ⟨b1, o1, A1k, c1k, rfl, hb1, hc1w, hI1⟩ := Hm.out.at_ (k := k) (by rw [length_rowsI]; exact hlt)
        obtain ⟨b2, o2, A2k, c2k, rfl, hb2, hc2w, hI2⟩ := Ht.out.at_ (k := k) (by rw [length_rowsI, length_thinL]; exact hlt)
        rw [rowI_rowsI, length_natsI] at hc1w hc2w
        rw [rowI_rowsI] at hI1 hI2
        rw [rowN_thinL hlt] at hc2w hI2
        have hrl := Hok.out.len k
        have htl := thinRow_len (D := D) k
        have hup := thinRow_up D k
        have hsub : ∀ x ∈ thinRow D k, x ∈ rowN D k := fun x hx => ((mem_thinRow Hok.out.right).1 hx).1
        obtain ⟨row, hrow⟩ : ∃ row, row = rowN D k := ⟨_, rfl⟩
        obtain ⟨tr, htr⟩ : ∃ tr, tr = thinRow D k := ⟨_, rfl⟩
        rw [← hrow] at hc1w hI1 hrl hsub
        rw [← htr] at hc2w hI2 htl hup hsub
        have Hc1 : Hid (∀ W', Below w5.heap.size w5 W' → W'.cell? ⟨b1, o1 + k, none⟩ = some (.slice A1k row.length c1k)) := fun W' hb' => (Below.cell hb' (p := ⟨b1, o1 + k, none⟩) hb1).trans hc1w
        have Hc2 : Hid (∀ W', Below w5.heap.size w5 W' → W'.cell? ⟨b2, o2 + k, none⟩ = some (.slice A2k tr.length c2k)) := fun W' hb' => (Below.cell hb' (p := ⟨b2, o2 + k, none⟩) hb2).trans hc2w
        have HI1 : Hid (∀ W', Below w5.heap.size w5 W' → Ints W' W'.heap.size A1k (natsI row)) := fun W' hb' => Ints.next hI1 hb'
        have HI2 := Lib.hid hI2
        have Hup := Lib.hid hup
        have Hsub := Lib.hid hsub
        have HBr := Lib.hid hB
        clear hc1w hc2w hI1 hI2 hrow htr hb1 hb2 hB hup hsub
        go_wp2_with fail
        go_loopw [10] (fun i w2 => ∃ j : Nat, j ≤ tr.length ∧ i = .int .i64 j ∧ Below w5.heap.size w5 w2) (fun i _ => tr.length - (intOf i).toNat)
        case atStart => exact ⟨0, Nat.zero_le _, rfl, HBr.out⟩
        case round =>
          obtain ⟨j, hj, rfl, hB2⟩ := hrel
          rename World => w2
          have hd1 := Hc1.out w2 hB2
          have hd2 := Hc2.out w2 hB2
          by_cases hltj : j < tr.length
          · have hltji : (j : Int) < (tr.length : Int) := by omega
            have hj0 : (0 : Int) ≤ (j : Int) := by omega
            have hI2 := HI2.out
            obtain ⟨x2, y2, rfl, hx2, he2⟩ := hI2.at_ (k := j) (by rw [length_natsI]; exact hltj)
            rw [nth_nats tr j hltj] at he2
            have hf2 := (Below.cell hB2 (p := ⟨x2, y2 + j, none⟩) hx2).trans he2
            have hmem := Hsub.out (el tr j) (by rw [el_lt hltj]; exact List.getElem_mem _)
            have hx : ∀ w3, Quiet w2 w3 → Calls Try.prog 34 #[.slice A1k row.length c1k, .int .i64 (el tr j : Nat)] w3 fun e w' => e = .returned (.bool true) ∧ w' = w3 := fun w3 hq3 => by
              have h := has_any A1k c1k row.length (natsI row) ((el tr j : Nat) : Int) w3 _ (length_natsI _).symm (by rw [length_natsI]; omega) (HI1.out w3 (hB2.trans hq3.belowR))
              rw [show decide (((el tr j : Nat) : Int) ∈ natsI row) = true from decide_eq_true (mem_natsI.2 hmem)] at h
              exact h.mono fun _ _ ⟨e1, e2⟩ => ⟨e1, e2.symm⟩
            obtain ⟨d, hd⟩ : ∃ d, d = el tr j := ⟨_, rfl⟩
            rw [← hd] at hf2 hx
            have Hx := Lib.hid hx
            have Hd := Lib.hid hd
            clear hx he2 hmem hd
            by_cases hj1 : 0 < j
            · obtain ⟨j0, hj0e⟩ : ∃ j0, j = j0 + 1 := ⟨j - 1, by omega⟩
              have hltj' : j0 < tr.length := by omega
              obtain ⟨x3, y3, e3, hx3, he3⟩ := hI2.at_ (k := j0) (by rw [length_natsI]; exact hltj')
              cases e3
              rw [nth_nats tr j0 hltj'] at he3
              have hf3 := (Below.cell hB2 (p := ⟨x2, y2 + j0, none⟩) hx3).trans he3
              have hlu := Hup.out j0 (by omega)
              rw [← hj0e, ← Hd.out] at hlu
              obtain ⟨d0, hd0⟩ : ∃ d0, d0 = el tr j0 := ⟨_, rfl⟩
              rw [← hd0] at hf3 hlu
              have hpd : decide ((0 : Int) < (j : Int)) = true := decide_eq_true (by omega)
              have hwr : IntKind.i64.wrap ((j : Int) - 1) = (j0 : Int) := by rw [IntKind.wrap_i64]; omega
              have hj00 : (0 : Int) ≤ (j0 : Int) := by omega
              have hj0i : (j0 : Int) < (tr.length : Int) := by omega
              have hlt0 : (d0 : Int) < (d : Int) := by omega
              have hld : decide ((d : Int) ≤ (d0 : Int)) = false := decide_eq_false (by omega)
              have HB2 := Lib.hid hB2
              clear hd0 he3 hB2 hI2 hlu hj0e
              go_wp2_with fail
              go_quiet ((go_at_call 34; exact Calls.quiet_of_same (Hx.out _ ⟨_, rfl⟩)))
              go_wp2
              go_roundw
              case rel => exact ⟨j + 1, by omega, by go_num, HB2.out.trans (Quiet.belowR ⟨_, rfl⟩)⟩
              case measure => simp [intOf]; omega
            · have hpd : decide ((0 : Int) < (j : Int)) = false := decide_eq_false (by omega)
              have HB2 := Lib.hid hB2
              clear hB2 hI2
              go_wp2_with fail
              go_quiet ((go_at_call 34; exact Calls.quiet_of_same (Hx.out _ ⟨_, rfl⟩)))
              go_wp2
              go_roundw
              case rel => exact ⟨j + 1, by omega, by go_num, HB2.out.trans (Quiet.belowR ⟨_, rfl⟩)⟩
              case measure => simp [intOf]; omega
          · obtain rfl : j = tr.length := by omega
            have HB2 := Lib.hid hB2
            clear hB2
            go_wp2_with fail
            go_roundw
            case rel => exact ⟨k + 1, by omega, by go_num, HB2.out⟩
            case measure => simp [intOf]; omega
      · obtain rfl : k = D.length := by omega
        replace Hm := Lib.hid (Mat.next Hm.out hB)
        replace Ht := Lib.hid (Mat.next Ht.out hB)
        replace HB := Lib.hid (HB.out.trans (hB.mono HB.out.size))
        have hln : (D.length : Int) = (n : Int) := Hni.out.symm
        clear hB
        go_wp2_with (first
      | (go_at_call 15; refine (live_any _).mono ?_; rintro e w5 ⟨rfl, hB5⟩; replace Ht := Lib.hid (Mat.next Ht.out hB5); replace Hm := Lib.hid (Mat.next Hm.out hB5); replace HB := Lib.hid (HB.out.trans (hB5.mono HB.out.size)); clear hB5)
      | (go_at_call 16; refine (right_yes At ct D.length (thinL D) Htn.out Hto.out _ Ht.out).mono ?_; rintro e w' ⟨rfl, rfl⟩)
      | (go_at_call 25; have hx := before_yes At ct D.length (thinL D) Htn.out Hto.out a b _ Ht.out; rw [Hbe.out] at hx; ((with_reducible refine hx.mono ?_); clear hx; rintro e w5 ⟨rfl, hB5⟩; replace Ht := Lib.hid (Mat.next Ht.out hB5); replace Hm := Lib.hid (Mat.next Hm.out hB5); replace HB := Lib.hid (HB.out.trans (hB5.mono HB.out.size)); clear hB5))
      | (go_at_call 25; have hx := before_yes Ad cd n D HnD.out Hok.out a b _ Hm.out; ((with_reducible refine hx.mono ?_); clear hx; rintro e w5 ⟨rfl, hB5⟩; replace Ht := Lib.hid (Mat.next Ht.out hB5); replace Hm := Lib.hid (Mat.next Hm.out hB5); replace HB := Lib.hid (HB.out.trans (hB5.mono HB.out.size)); clear hB5))
      | (go_at_call 29; have hx := depth_yes At ct D.length (thinL D) Htn.out Hto.out a _ Ht.out; rw [Hde.out] at hx; ((with_reducible refine hx.mono ?_); clear hx; rintro e w5 ⟨rfl, hB5⟩; replace Ht := Lib.hid (Mat.next Ht.out hB5); replace Hm := Lib.hid (Mat.next Hm.out hB5); replace HB := Lib.hid (HB.out.trans (hB5.mono HB.out.size)); clear hB5))
      | (go_at_call 29; have hx := depth_yes Ad cd n D HnD.out Hok.out a _ Hm.out; ((with_reducible refine hx.mono ?_); clear hx; rintro e w5 ⟨rfl, hB5⟩; replace Ht := Lib.hid (Mat.next Ht.out hB5); replace Hm := Lib.hid (Mat.next Hm.out hB5); replace HB := Lib.hid (HB.out.trans (hB5.mono HB.out.size)); clear hB5))
      | (go_at_call 31; have hx := thin_any At ct D.length (thinL D) Htn.out Hto.out _ Ht.out; unfold ThinSays at hx; rw [Htt.out, ← Htn.out] at hx; refine hx.mono ?_; clear hx; rintro e w5 ⟨⟨Au, cu, rfl, hMu⟩, hB5⟩; have Hu := Lib.hid hMu; clear hMu; replace Ht := Lib.hid (Mat.next Ht.out hB5); replace Hm := Lib.hid (Mat.next Hm.out hB5); replace HB := Lib.hid (HB.out.trans (hB5.mono HB.out.size)); clear hB5)
      | (go_at_call 32; ((with_reducible refine (same_rows Au At cu ct _ _ (rowsI (thinL D)) _ Htl.out Htl.out Hu.out Ht.out Htb.out Htr.out).mono ?_); rintro e w5 ⟨rfl, hB5⟩; replace Hm := Lib.hid (Mat.next Hm.out hB5); replace HB := Lib.hid (HB.out.trans (hB5.mono HB.out.size)); clear hB5)))
        go_ret
        exact ⟨rfl, HB.out⟩
end Go.Proofs.Ytmekffcpbjmffaa
