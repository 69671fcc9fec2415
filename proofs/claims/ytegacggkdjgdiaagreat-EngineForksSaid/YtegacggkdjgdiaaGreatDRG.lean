/- Crash of the document's disk. -/
import Derived.Test.YtegacggkdjgdiaaGreatH5
set_option linter.unusedVariables false
set_option linter.unusedSimpArgs false
namespace Go.Proofs.YtegacggkdjgdiaaGreat
open Go.RowKit

def crR (n : Nat) (S : Nat → Bk) (pick : List Int) (i : Nat) : Nat → Bk := fun j => if j < i then crashed n S pick j else S j
theorem crR_zero (n : Nat) (S : Nat → Bk) (pick : List Int) : crR n S pick 0 = S := by funext j; simp [crR]
theorem crR_now (n : Nat) (S : Nat → Bk) (pick : List Int) (i : Nat) : crR n S pick i i = S i := by simp [crR]
theorem crR_next (n : Nat) (S : Nat → Bk) (pick : List Int) (i : Nat) : crR n S pick (i + 1) = upd (crR n S pick i) i (crashed n S pick i) := by
  funext j
  by_cases e : j = i
  · subst e; rw [upd_same]; simp [crR]
  · rw [upd_other _ _ e]
    unfold crR
    by_cases h : j < i
    · rw [if_pos h, if_pos (by omega)]
    · rw [if_neg h, if_neg (by omega)]
theorem waits_next (S : Nat → Bk) (i : Nat) : waits (i + 1) S = if (S i).v = [] then waits i S else waits i S ++ [i] := by
  unfold waits
  rw [List.range_succ, List.filter_append]
  cases h : (S i).v with
  | nil => simp [h]
  | cons a b => simp [h]
theorem waits_idx {n i : Nat} (hi : i < n) (S : Nat → Bk) (hv : (S i).v ≠ []) : (waits n S).idxOf i = (waits i S).length := by
  obtain ⟨rest, e, _⟩ := range_split hi
  have h1 : waits n S = waits i S ++ i :: (rest.filter fun j => !(S j).v.isEmpty) := by
    unfold waits
    rw [e, List.filter_append, List.filter_cons]
    have : (!(S i).v.isEmpty) = true := by cases h : (S i).v with | nil => exact absurd h hv | cons a b => rfl
    rw [if_pos this]
  have hk : (waits i S).length < (waits n S).length := by rw [h1, List.length_append, List.length_cons]; omega
  have e2 : (waits n S)[(waits i S).length] = i := by
    have h3 : (waits n S)[(waits i S).length]? = some i := by rw [h1, List.getElem?_append_right (Nat.le_refl _)]; simp
    rw [List.getElem?_eq_getElem hk] at h3
    exact Option.some.inj h3
  have h4 := idx_at (waits_nodup n S) hk
  rw [e2] at h4
  exact h4
theorem crashed_none {n : Nat} {S : Nat → Bk} {pick : List Int} {i : Nat} (hv : (S i).v = []) : crashed n S pick i = S i := by
  unfold crashed Bk.left
  have : ∀ o : Option Int, o.bind (pickAt (S i).v) = none := by
    intro o
    rw [hv]
    cases o with
    | none => rfl
    | some p => simp [pickAt]
  rw [this]
  cases hS : S i with
  | mk s v b => rw [hS] at hv; simp at hv; subst hv; rfl
set_option maxRecDepth 100000 in
set_option linter.unusedSimpArgs false in
set_option maxHeartbeats 2000000 in
theorem rcrash {w : World} {g n c : Nat} {S : Nat → Bk} {F : Nat → Prop} (h : Ref w g n S c F) (hc : c < 100000) (pick : List Int) (hpw : ∀ x ∈ pick, -9223372036854775808 ≤ x ∧ x ≤ 9223372036854775807) (P : Option Addr) (pc : Nat) (hP : PickAt w F P pick) :
    Calls Tryz.prog 73 #[.pointer (some ⟨g, 0, none⟩), .slice P pick.length pc] w fun e w' => e = .returned (.int .i64 0) ∧ Went w w' F (Ref w' g n (crashed n S pick) c) := by
  obtain ⟨gb, cp, A, C, h, rfl⟩ := h
  have HS0 : Hid (RfS w w g n c gb cp (crR n S pick 0) A) := ⟨A, C, by rw [crR_zero]; exact h, fun _ x => x, Kept.refl _ _⟩
  have hn96 := h.n96
  have hgbl := Lib.hid h.blt
  have HP := Lib.hid hP
  have Hpw := Lib.hid hpw
  clear h hP hpw
  go_enter Tryz.func73, Tryz.ntmps73
  go_wp2_with fail
  go_loopw [5, 6] (fun kk ii wr => ∃ i : Nat, i ≤ n ∧ ii = .int .i64 i ∧ kk = .int .i64 (waits i S).length ∧ RfS w wr g n c gb cp (crR n S pick i) A) (fun _ ii _ => n - (intOf ii).toNat)
  case atStart => exact ⟨0, Nat.zero_le _, rfl, rfl, HS0.out⟩
  case round =>
    obtain ⟨i, hi, rfl, rfl, hR⟩ := hrel
    rename World => wr
    have HR := Lib.hid hR
    obtain ⟨A', C', hA, hsub, hKp⟩ := hR
    have hc0 := hA.c0
    by_cases hlt : i < n
    · have hlt' : (i : Int) < (n : Int) := by omega
      have hi0 : (0 : Int) ≤ (i : Int) := by omega
      have hwi : IntKind.i64.wrap ((i : Int) + 1) = (i : Int) + 1 := by simp [IntKind.wrap, IntKind.bits, IntKind.signed]; omega
      have hnow := crR_now n S pick i
      have hcv := hA.cv hlt
      rw [hnow] at hcv
      have Hnext := Lib.hid (crR_next n S pick i)
      have Hwn := Lib.hid (waits_next S i)
      by_cases hv : (S i).v = []
      · have hvl : (S i).v.length = 0 := by rw [hv]; rfl
        rw [hvl] at hcv
        have Hv := Lib.hid hv
        have Hn2 : Hid (RfS w wr g n c gb cp (crR n S pick (i + 1)) A) := by
          have e : crR n S pick (i + 1) = crR n S pick i := by rw [Hnext.out, crashed_none hv]; rw [← hnow, upd_self]
          rw [e]; exact HR.out
        clear hA hsub hKp hnow hvl hv
        go_wp2
        go_roundw
        case rel => exact ⟨i + 1, by omega, rfl, by rw [Hwn.out, if_pos Hv.out], Hn2.out⟩
        case measure => simp [intOf]; omega
      · have Hv := Lib.hid hv
        obtain ⟨k, hk⟩ : ∃ k, k = (waits i S).length := ⟨_, rfl⟩
        have hkn : k ≤ 96 := by
          rw [hk]
          have : (waits i S).length ≤ i := by unfold waits; exact Nat.le_trans (List.length_filter_le _ _) (by simp)
          omega
        have hidx := waits_idx hlt S hv
        rw [← hk] at hidx ⊢
        have Hk := Lib.hid hk
        have hk0 : (0 : Int) ≤ (k : Int) := by omega
        have hwk : IntKind.i64.wrap ((k : Int) + 1) = (k : Int) + 1 := by simp [IntKind.wrap, IntKind.bits, IntKind.signed]; omega
        obtain ⟨m, hm⟩ : ∃ m, m = (S i).v.length := ⟨_, rfl⟩
        have hm0 : 0 < m := by rw [hm]; exact List.length_pos_iff.2 hv
        have hmne : ¬ (m : Int) = 0 := by omega
        have hmc : m ≤ c := by have := hA.few i hlt; rw [hnow] at this; omega
        rw [← hm] at hcv
        have hcr : crashed n S pick i = ⟨((pick[k]?).bind (pickAt (S i).v)).getD (S i).s, [], (S i).b⟩ := by unfold crashed Bk.left; rw [hidx]
        have HA := Lib.hid hA
        have Hsub := Lib.hid hsub
        have HK := Lib.hid hKp
        have Hnow := Lib.hid hnow
        -- the end of a round, whatever was stored
        have CLO : Hid (∀ w6 s, s = ((pick[k]?).bind (pickAt (S i).v)).getD (S i).s → RefAt w6 g n (upd (crR n S pick i) i ⟨s, (crR n S pick i i).v, (crR n S pick i i).b⟩) c gb cp A' C' → Kept w w6 (footR g gb n A) →
            w6.cell? ⟨g, 0, none⟩ = some (.slice (some ⟨gb, 0, none⟩) n cp) ∧ w6.cell? ⟨gb, i * 34 + 32, none⟩ = some (.slice (A' i) m (C' i)) ∧ w6.frozen? ⟨gb, i * 34 + 32, none⟩ = false ∧
            RfS w (w6.setCell ⟨gb, i * 34 + 32, none⟩ (.slice none 0 0)) g n c gb cp (crR n S pick (i + 1)) A) := by
          intro w6 s hs h6 hK6
          have hv6 := h6.cv hlt
          rw [upd_same] at hv6
          simp only [Hnow.out, ← hm] at hv6
          refine ⟨h6.c0, hv6, h6.frz _, ?_⟩
          have := RfS.round hlt h6 Hsub.out hK6
          rw [Hnext.out, hcr, ← hs]
          have hb : (crR n S pick i i).b = (S i).b := by rw [Hnow.out]
          rw [hb] at this
          exact this
        have SAME : Hid (((pick[k]?).bind (pickAt (S i).v)).getD (S i).s = (S i).s → wr.cell? ⟨g, 0, none⟩ = some (.slice (some ⟨gb, 0, none⟩) n cp) ∧ wr.cell? ⟨gb, i * 34 + 32, none⟩ = some (.slice (A' i) m (C' i)) ∧ wr.frozen? ⟨gb, i * 34 + 32, none⟩ = false ∧
            RfS w (wr.setCell ⟨gb, i * 34 + 32, none⟩ (.slice none 0 0)) g n c gb cp (crR n S pick (i + 1)) A) := fun e => by
          refine CLO.out wr (S i).s e.symm ?_ HK.out
          have : upd (crR n S pick i) i ⟨(S i).s, (crR n S pick i i).v, (crR n S pick i i).b⟩ = crR n S pick i := by
            rw [Hnow.out]
            have := upd_self (crR n S pick i) i
            rw [Hnow.out] at this
            exact this
          rw [this]; exact HA.out
        have hlenw : (waits (i + 1) S).length = k + 1 := by rw [Hwn.out, if_neg hv, List.length_append, ← hk]; rfl
        have Hlenw := Lib.hid hlenw
        by_cases hkp : k < pick.length
        · obtain ⟨p, hp⟩ : ∃ p, p = pick[k] := ⟨_, rfl⟩
          have hpk : pick[k]? = some p := by rw [hp]; exact List.getElem?_eq_getElem hkp
          have hpb := Hpw.out p (by rw [hp]; exact List.getElem_mem hkp)
          have hkp' : (k : Int) < (pick.length : Int) := by omega
          obtain ⟨pb, po, hPe, hpbl, hpF, hpR⟩ : ∃ b o, P = some ⟨b, o, none⟩ ∧ b < w.heap.size ∧ ¬ footR g gb n A b ∧ w.rangeAt b o (pick.map encZ) := by
            rcases HP.out with e | e
            · rw [e] at hkp; simp at hkp
            · exact e
          have hpc : wr.cell? ⟨pb, po + k, none⟩ = some (.int .i64 p) := by
            rw [hKp.cell (a := ⟨pb, po + k, none⟩) hpbl hpF]
            exact hpR k _ (by rw [List.getElem?_map, hpk]; rfl)
          subst hPe
          by_cases hp1 : 1 ≤ p
          · by_cases hpm : p ≤ (m : Int)
            · obtain ⟨q, hq⟩ : ∃ q, q = (p - 1).toNat := ⟨_, rfl⟩
              have hqm : q < m := by omega
              have hwq : IntKind.i64.wrap (p - 1) = (q : Int) := by simp [IntKind.wrap, IntKind.bits, IntKind.signed]; omega
              have hq0 : (0 : Int) ≤ (q : Int) := by omega
              have hq1 : (q : Int) < (m : Int) := by omega
              have hqv : q < (S i).v.length := by omega
              obtain ⟨x, hxe⟩ : ∃ x, x = (S i).v[q] := ⟨_, rfl⟩
              have hxm : x ∈ (S i).v := by rw [hxe]; exact List.getElem_mem hqv
              have hxo : OkS x := by have := (hA.ok i hlt).2; rw [hnow] at this; exact this x hxm
              have hbind : ((pick[k]?).bind (pickAt (S i).v)).getD (S i).s = x := by
                rw [hpk]
                show (pickAt (S i).v p).getD (S i).s = x
                unfold pickAt
                rw [if_pos hp1, ← hq, List.getElem?_eq_getElem hqv, hxe]; rfl
              obtain ⟨vb, hAv, hvbl, hvr⟩ := hA.version hlt (k := q) (by rw [hnow]; exact hqv)
              have hvr' : wr.rangeAt vb (q * 32) (bytesV x) := by
                have e : (crR n S pick i i).v[q]'(by rw [hnow]; exact hqv) = x := by simp only [hnow]; exact hxe.symm
                rw [e] at hvr; exact hvr
              rw [hAv] at hcv
              obtain ⟨cv, hcve⟩ : ∃ x, x = C' i := ⟨_, rfl⟩
              rw [← hcve] at hcv
              obtain ⟨cur, hcur⟩ := hA.typed
              have hvg : vb ≠ gb := hA.vb hlt (by rw [hAv]; rfl)
              have hpg : pb ≠ gb := by intro e; exact hpF (.inr (.inl e))
              have hszX : Hid ((Tryz.prog.info? 69).map (·.size) = some (bytesV x).length) := by unfold Hid; rw [length_bytesV, hxo.1]; exact size53
              have HX1 := Lib.hid (bytesV_one x)
              have Hfit : Hid (i * 34 + (bytesV x).length ≤ cur.size) := by
                have h1 := hA.row
                rcases h1.2 with ⟨q, _⟩ | ⟨x', cap, cur', q', _, hx', h2, _, h3, _⟩
                · cases q
                · obtain ⟨q', _, _⟩ := Value.slice.inj q'
                  cases q'
                  rw [hcur] at hx'
                  simp at hx'
                  subst hx'
                  unfold Hid
                  rw [length_bytesV, hxo.1, h3]
                  omega
              have HC9 : Hid (wr.drew.heap[gb]? = some (.cells cur 119 (0, 0))) := hcur
              have HS9 : Hid (wr.drew.cell? ⟨g, 0, none⟩ = some (.slice (some ⟨gb, 0, none⟩) n cp) ∧ wr.drew.cell? ⟨gb, i * 34 + 32, none⟩ = some (.slice (some ⟨vb, 0, none⟩) m cv) ∧ wr.drew.cell? ⟨pb, po + k, none⟩ = some (.int .i64 p) ∧ wr.drew.rangeAt vb (q * 32) (bytesV x)) := ⟨hc0, hcv, hpc, hvr'⟩
              have h10 : RefAt (wr.drew.setRow gb (splice cur.toList (i * 34) (bytesV x)).toArray) g n (upd (crR n S pick i) i ⟨x, (crR n S pick i i).v, (crR n S pick i i).b⟩) c gb cp A' C' :=
                (hA.fresh ((Below.refl _ wr).drew)).sec_ hlt hxo hcur rfl
              have k10' : Kept wr (wr.drew.setRow gb (splice cur.toList (i * 34) (bytesV x)).toArray) (fun b => b = gb) := (Kept.refl wr (fun b => b = gb)).drew.trans (Kept.grown (S := fun b => b = gb) (row := some gb) ⟨rfl, rfl, rfl, by simp [World.setRow], fun a _ hne => setRow_other wr.drew _ a _ (by intro e; subst e; exact hne rfl)⟩ (fun b e => by cases e; exact .inl rfl)) (fun _ h => .inl h)
              have k10 : Kept w (wr.drew.setRow gb (splice cur.toList (i * 34) (bytesV x)).toArray) (footR g gb n A) := hKp.trans (k10'.more (S' := footR g gb n A) (fun b e => .inl (.inr (.inl e)))) (fun _ h => .inl h)
              have hcl := CLO.out _ x hbind.symm h10 k10
              have HCL := Lib.hid hcl
              have HS10 : Hid ((wr.drew.setRow gb (splice cur.toList (i * 34) (bytesV x)).toArray).cell? ⟨g, 0, none⟩ = some (.slice (some ⟨gb, 0, none⟩) n cp) ∧ (wr.drew.setRow gb (splice cur.toList (i * 34) (bytesV x)).toArray).cell? ⟨gb, i * 34 + 32, none⟩ = some (.slice (some ⟨vb, 0, none⟩) m cv) ∧
                  (wr.drew.setRow gb (splice cur.toList (i * 34) (bytesV x)).toArray).cell? ⟨pb, po + k, none⟩ = some (.int .i64 p) ∧ (wr.drew.setRow gb (splice cur.toList (i * 34) (bytesV x)).toArray).rangeAt vb (q * 32) (bytesV x)) := by
                refine ⟨hcl.1, ?_, ?_, fun j u hj => ?_⟩
                · rw [hcl.2.1, hAv, hcve]
                · rw [k10'.cell (a := ⟨pb, po + k, none⟩) (Nat.lt_of_lt_of_le hpbl hKp.size) hpg]; exact hpc
                · rw [k10'.cell (a := ⟨vb, q * 32 + j, none⟩) hvbl hvg]; exact hvr' j u hj
              obtain ⟨X1, hX1⟩ : ∃ X1, X1 = bytesV x := ⟨_, rfl⟩
              rw [← hX1] at hszX HX1 Hfit HS9 HS10 HCL
              clear h10 k10' k10 hcl hxo hxm hxe hbind hvr hvr' hAv hcur hX1 hA hsub hKp hnow hidx hcr hm hk hpk hpR hv hlenw hcve hvbl hvg hpg hqv hpF hpbl hp hq CLO SAME
              go_wp2_with fail
              refine wp_region_held_drew (S := (fun W => W.cell? ⟨g, 0, none⟩ = some (.slice (some ⟨gb, 0, none⟩) n cp) ∧ W.cell? ⟨gb, i * 34 + 32, none⟩ = some (.slice (some ⟨vb, 0, none⟩) m cv) ∧ W.cell? ⟨pb, po + k, none⟩ = some (.int .i64 p) ∧ W.rangeAt vb (q * 32) X1)) (by kernel_rfl) (HS9.out) (fun hHeld => ?_)
              refine takeH (i := 0) (some 49) (v := ?_) rfl rfl (by kernel_rfl) (by kernel_rfl) (by kernel_rfl) (fun _ _ _ h => h) (by rfl) ?_ (by assumption) ?_
              rotate_left
              · (intro w hSw; (try dsimp only at hSw); obtain ⟨hS1, hS2, hS3, hS4⟩ := hSw; clear hS4; go_simp; try with_reducible rfl)
              simp only [Act.put, List.setIfInBounds_toArray, List.set_cons_zero, List.set_cons_succ]
              refine takeH (i := 1) (some 50) (v := ?_) rfl rfl (by kernel_rfl) (by kernel_rfl) (by kernel_rfl) (fun _ _ _ h => h) (by rfl) ?_ (by assumption) ?_
              rotate_left
              · (intro w hSw; (try dsimp only at hSw); obtain ⟨hS1, hS2, hS3, hS4⟩ := hSw; clear hS4; go_simp; try with_reducible rfl)
              simp only [Act.put, List.setIfInBounds_toArray, List.set_cons_zero, List.set_cons_succ]
              refine takeH (i := 2) (some 51) (v := ?_) rfl rfl (by kernel_rfl) (by kernel_rfl) (by kernel_rfl) (fun _ _ _ h => h) (by rfl) ?_ (by assumption) ?_
              rotate_left
              · (intro w hSw; (try dsimp only at hSw); obtain ⟨hS1, hS2, hS3, hS4⟩ := hSw; clear hS4; go_simp; try with_reducible rfl)
              simp only [Act.put, List.setIfInBounds_toArray, List.set_cons_zero, List.set_cons_succ]
              refine takeH (i := 3) (some 52) (v := ?_) rfl rfl (by kernel_rfl) (by kernel_rfl) (by kernel_rfl) (fun _ _ _ h => h) (by rfl) ?_ (by assumption) ?_
              rotate_left
              · (intro w hSw; (try dsimp only at hSw); obtain ⟨hS1, hS2, hS3, hS4⟩ := hSw; clear hS4; go_simp; try with_reducible rfl)
              simp only [Act.put, List.setIfInBounds_toArray, List.set_cons_zero, List.set_cons_succ]
              refine takeH (i := 4) (some 53) (v := ?_) rfl rfl (by kernel_rfl) (by kernel_rfl) (by kernel_rfl) (fun _ _ _ h => h) (by rfl) ?_ (by assumption) ?_
              rotate_left
              · (intro w hSw; (try dsimp only at hSw); obtain ⟨hS1, hS2, hS3, hS4⟩ := hSw; clear hS4; go_simp; try with_reducible rfl)
              simp only [Act.put, List.setIfInBounds_toArray, List.set_cons_zero, List.set_cons_succ]
              refine takeH (i := 5) (some 54) (v := ?_) rfl rfl (by kernel_rfl) (by kernel_rfl) (by kernel_rfl) (fun _ _ _ h => h) (by rfl) ?_ (by assumption) ?_
              rotate_left
              · (intro w hSw; (try dsimp only at hSw); obtain ⟨hS1, hS2, hS3, hS4⟩ := hSw; clear hS4; go_simp; try with_reducible rfl)
              simp only [Act.put, List.setIfInBounds_toArray, List.set_cons_zero, List.set_cons_succ]
              refine takeH (i := 6) (some 55) (v := ?_) rfl rfl (by kernel_rfl) (by kernel_rfl) (by kernel_rfl) (fun _ _ _ h => h) (by rfl) ?_ (by assumption) ?_
              rotate_left
              · (intro w hSw; (try dsimp only at hSw); obtain ⟨hS1, hS2, hS3, hS4⟩ := hSw; clear hS4; go_simp; try with_reducible rfl)
              simp only [Act.put, List.setIfInBounds_toArray, List.set_cons_zero, List.set_cons_succ]
              refine takeH (i := 7) (some 56) (v := ?_) rfl rfl (by kernel_rfl) (by kernel_rfl) (by kernel_rfl) (fun _ _ _ h => h) (by rfl) ?_ (by assumption) ?_
              rotate_left
              · (intro w hSw; (try dsimp only at hSw); obtain ⟨hS1, hS2, hS3, hS4⟩ := hSw; clear hS4; go_simp; try with_reducible rfl)
              simp only [Act.put, List.setIfInBounds_toArray, List.set_cons_zero, List.set_cons_succ]
              refine takeH (i := 8) (some 57) (v := ?_) rfl rfl (by kernel_rfl) (by kernel_rfl) (by kernel_rfl) (fun _ _ _ h => h) (by rfl) ?_ (by assumption) ?_
              rotate_left
              · (intro w hSw; (try dsimp only at hSw); obtain ⟨hS1, hS2, hS3, hS4⟩ := hSw; clear hS4; go_simp; try with_reducible rfl)
              simp only [Act.put, List.setIfInBounds_toArray, List.set_cons_zero, List.set_cons_succ]
              refine takeH (i := 9) (some 58) (v := ?_) rfl rfl (by kernel_rfl) (by kernel_rfl) (by kernel_rfl) (fun _ _ _ h => h) (by rfl) ?_ (by assumption) ?_
              rotate_left
              · (intro w hSw; (try dsimp only at hSw); obtain ⟨hS1, hS2, hS3, hS4⟩ := hSw; clear hS4; go_simp; try with_reducible rfl)
              simp only [Act.put, List.setIfInBounds_toArray, List.set_cons_zero, List.set_cons_succ]
              refine takeH (i := 10) (some 59) (v := ?_) rfl rfl (by kernel_rfl) (by kernel_rfl) (by kernel_rfl) (fun _ _ _ h => h) (by rfl) ?_ (by assumption) ?_
              rotate_left
              · (intro w hSw; (try dsimp only at hSw); obtain ⟨hS1, hS2, hS3, hS4⟩ := hSw; clear hS4; go_simp; try with_reducible rfl)
              simp only [Act.put, List.setIfInBounds_toArray, List.set_cons_zero, List.set_cons_succ]
              refine takeH (i := 11) (some 60) (v := ?_) rfl rfl (by kernel_rfl) (by kernel_rfl) (by kernel_rfl) (fun _ _ _ h => h) (by rfl) ?_ (by assumption) ?_
              rotate_left
              · (intro w hSw; (try dsimp only at hSw); obtain ⟨hS1, hS2, hS3, hS4⟩ := hSw; clear hS4; go_simp; try with_reducible rfl)
              simp only [Act.put, List.setIfInBounds_toArray, List.set_cons_zero, List.set_cons_succ]
              refine takeH (i := 12) (some 61) (v := ?_) rfl rfl (by kernel_rfl) (by kernel_rfl) (by kernel_rfl) (fun _ _ _ h => h) (by rfl) ?_ (by assumption) ?_
              rotate_left
              · (intro w hSw; (try dsimp only at hSw); obtain ⟨hS1, hS2, hS3, hS4⟩ := hSw; clear hS4; go_simp; try with_reducible rfl)
              simp only [Act.put, List.setIfInBounds_toArray, List.set_cons_zero, List.set_cons_succ]
              refine takeH (i := 13) (some 62) (v := ?_) rfl rfl (by kernel_rfl) (by kernel_rfl) (by kernel_rfl) (fun _ _ _ h => h) (by rfl) ?_ (by assumption) ?_
              rotate_left
              · (intro w hSw; (try dsimp only at hSw); obtain ⟨hS1, hS2, hS3, hS4⟩ := hSw; clear hS4; go_simp; try with_reducible rfl)
              simp only [Act.put, List.setIfInBounds_toArray, List.set_cons_zero, List.set_cons_succ]
              refine takeH (i := 14) (some 63) (v := ?_) rfl rfl (by kernel_rfl) (by kernel_rfl) (by kernel_rfl) (fun _ _ _ h => h) (by rfl) ?_ (by assumption) ?_
              rotate_left
              · (intro w hSw; (try dsimp only at hSw); obtain ⟨hS1, hS2, hS3, hS4⟩ := hSw; clear hS4; go_simp; try with_reducible rfl)
              simp only [Act.put, List.setIfInBounds_toArray, List.set_cons_zero, List.set_cons_succ]
              refine takeH (i := 15) (some 64) (v := ?_) rfl rfl (by kernel_rfl) (by kernel_rfl) (by kernel_rfl) (fun _ _ _ h => h) (by rfl) ?_ (by assumption) ?_
              rotate_left
              · (intro w hSw; (try dsimp only at hSw); obtain ⟨hS1, hS2, hS3, hS4⟩ := hSw; clear hS4; go_simp; try with_reducible rfl)
              simp only [Act.put, List.setIfInBounds_toArray, List.set_cons_zero, List.set_cons_succ]
              refine takeH (i := 16) (some 65) (v := ?_) rfl rfl (by kernel_rfl) (by kernel_rfl) (by kernel_rfl) (fun _ _ _ h => h) (by rfl) ?_ (by assumption) ?_
              rotate_left
              · (intro w hSw; (try dsimp only at hSw); obtain ⟨hS1, hS2, hS3, hS4⟩ := hSw; clear hS4; go_simp; try with_reducible rfl)
              simp only [Act.put, List.setIfInBounds_toArray, List.set_cons_zero, List.set_cons_succ]
              refine takeH (i := 17) (some 66) (v := ?_) rfl rfl (by kernel_rfl) (by kernel_rfl) (by kernel_rfl) (fun _ _ _ h => h) (by rfl) ?_ (by assumption) ?_
              rotate_left
              · (intro w hSw; (try dsimp only at hSw); obtain ⟨hS1, hS2, hS3, hS4⟩ := hSw; clear hS4; go_simp; try with_reducible rfl)
              simp only [Act.put, List.setIfInBounds_toArray, List.set_cons_zero, List.set_cons_succ]
              refine takeH (i := 18) (some 67) (v := ?_) rfl rfl (by kernel_rfl) (by kernel_rfl) (by kernel_rfl) (fun _ _ _ h => h) (by rfl) ?_ (by assumption) ?_
              rotate_left
              · (intro w hSw; (try dsimp only at hSw); obtain ⟨hS1, hS2, hS3, hS4⟩ := hSw; clear hS4; go_simp; try with_reducible rfl)
              simp only [Act.put, List.setIfInBounds_toArray, List.set_cons_zero, List.set_cons_succ]
              refine takeH (i := 19) (some 68) (v := ?_) rfl rfl (by kernel_rfl) (by kernel_rfl) (by kernel_rfl) (fun _ _ _ h => h) (by rfl) ?_ (by assumption) ?_
              rotate_left
              · (intro w hSw; (refine exec_mid 69 (.tmp 67) ?_ vb (q * 32) ?_ X1 _ hSw.2.2.2 Tryz.underlying69 rfl hszX.out) <;> rfl)
              simp only [Act.put, List.setIfInBounds_toArray, List.set_cons_zero, List.set_cons_succ]
              refine takeH (i := 20) (some 69) (v := ?_) rfl rfl (by kernel_rfl) (by kernel_rfl) (by kernel_rfl) (fun _ _ _ h => h) (by rfl) ?_ (by assumption) ?_
              rotate_left
              · (intro w hSw; (try dsimp only at hSw); obtain ⟨hS1, hS2, hS3, hS4⟩ := hSw; clear hS4; go_simp; try with_reducible rfl)
              simp only [Act.put, List.setIfInBounds_toArray, List.set_cons_zero, List.set_cons_succ]
              refine takeH (i := 21) (some 70) (v := ?_) rfl rfl (by kernel_rfl) (by kernel_rfl) (by kernel_rfl) (fun _ _ _ h => h) (by rfl) ?_ (by assumption) ?_
              rotate_left
              · (intro w hSw; (try dsimp only at hSw); obtain ⟨hS1, hS2, hS3, hS4⟩ := hSw; clear hS4; go_simp; try with_reducible rfl)
              simp only [Act.put, List.setIfInBounds_toArray, List.set_cons_zero, List.set_cons_succ]
              refine wpAnyH_ready (rs := [22]) (by kernel_rfl) (by simp) ?_
              refine AllReadyH.cons rfl (fun K hK => ?_) AllReadyH.nil
              refine step_of rfl (wp_store_wide 69 (.tmp 70) (.tmp 68) rfl gb (i * 34) X1 rfl rfl cur 119 HC9.out Hfit.out hszX.out HX1.out _ rfl ?_)
              refine hK _ _ HS10.out (fun hHeld => ?_)
              clear hK K
              try simp only [Act.put, List.setIfInBounds_toArray, List.set_cons_zero, List.set_cons_succ]
              refine wpAnyH_done (by kernel_rfl) ?_ _
              generalize hW6 : World.setRow wr.drew gb _ = w6 at HCL ⊢
              obtain ⟨c6, v6, f6, hR6⟩ := HCL.out
              have HR6 := Lib.hid hR6
              clear hR6 hW6 HCL
              go_wp2
              go_roundw
              case rel => exact ⟨i + 1, by omega, rfl, by rw [Hlenw.out]; simp, HR6.out⟩
              case measure => simp [intOf]; omega
            · have hbind : ((pick[k]?).bind (pickAt (S i).v)).getD (S i).s = (S i).s := by
                rw [hpk]
                show (pickAt (S i).v p).getD (S i).s = (S i).s
                rw [pick_high (by rw [← hm]; omega)]; rfl
              obtain ⟨c6, v6, f6, hR6⟩ := SAME.out hbind
              have HR6 := Lib.hid hR6
              clear hR6 hA hsub hKp hnow hidx hcr hm hk hpk hpR hv hlenw hbind hpF hpbl hp CLO SAME
              go_wp2
              go_roundw
              case rel => exact ⟨i + 1, by omega, rfl, by rw [Hlenw.out]; simp, HR6.out⟩
              case measure => simp [intOf]; omega
          · have hbind : ((pick[k]?).bind (pickAt (S i).v)).getD (S i).s = (S i).s := by
              rw [hpk]
              show (pickAt (S i).v p).getD (S i).s = (S i).s
              rw [pick_low (by omega)]; rfl
            obtain ⟨c6, v6, f6, hR6⟩ := SAME.out hbind
            have HR6 := Lib.hid hR6
            clear hR6 hA hsub hKp hnow hidx hcr hm hk hpk hpR hv hlenw hbind hpF hpbl hp CLO SAME
            go_wp2
            go_roundw
            case rel => exact ⟨i + 1, by omega, rfl, by rw [Hlenw.out]; simp, HR6.out⟩
            case measure => simp [intOf]; omega
        · have hkp' : ¬ (k : Int) < (pick.length : Int) := by omega
          have hbind : ((pick[k]?).bind (pickAt (S i).v)).getD (S i).s = (S i).s := by
            rw [List.getElem?_eq_none (by omega)]; rfl
          obtain ⟨c6, v6, f6, hR6⟩ := SAME.out hbind
          have HR6 := Lib.hid hR6
          clear hR6 hA hsub hKp hnow hidx hcr hm hk hv hlenw hbind CLO SAME
          go_wp2
          go_roundw
          case rel => exact ⟨i + 1, by omega, rfl, by rw [Hlenw.out]; simp, HR6.out⟩
          case measure => simp [intOf]; omega
    · obtain rfl : i = n := by omega
      have hnn : ¬ ((i : Int) < (i : Int)) := by omega
      clear hA hsub hKp
      go_wp2
      go_ret
      obtain ⟨A', C', hA, hsub, hKp⟩ := HR.out
      exact ⟨rfl, _, ⟨gb, cp, A', C', hA.congr (fun j hj => by simp [crR, hj]), rfl⟩, hKp, fun b hb => .inl (hsub b hb)⟩
end Go.Proofs.YtegacggkdjgdiaaGreat
