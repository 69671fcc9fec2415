/- The document's groups: Ahead. -/
import Derived.Test.YtdndchoghhllmaaH
set_option linter.unusedVariables false
set_option linter.unusedSimpArgs false
namespace Go.Proofs.Ytdndchoghhllmaa
open Go.RowKit
theorem withL_step {o : List Int} {a : List Int} {j : Nat} (h : j < a.length) : withL o (a.take (j + 1)) = withI (withL o (a.take j)) (inn a j) := by
  unfold withL
  rw [take_inn h, List.foldl_append]; rfl
def foldA (l : List Gp) (r o : List Int) : List Int := o.foldl (fun r n => withL r (ofN l n).a) r
theorem foldA_step {l : List Gp} {r o : List Int} {j : Nat} (h : j < o.length) : foldA l r (o.take (j + 1)) = withL (foldA l r (o.take j)) (ofN l (inn o j)).a := by
  unfold foldA
  rw [take_inn h, List.foldl_append]; rfl
/-- rising numbers of groups that are there -/
def GoodO (l : List Gp) (o : List Int) : Prop := Rises o ∧ ∀ y ∈ o, y ∈ nos l
theorem GoodO.len {l : List Gp} {o : List Int} (h : GoodO l o) : o.length ≤ l.length := by
  have := sub_len (rises_nodup h.1) h.2
  rwa [length_nos] at this
theorem GoodO.nil (l : List Gp) : GoodO l [] := ⟨List.Pairwise.nil, fun y h => by cases h⟩
theorem GoodO.with {l : List Gp} {o : List Int} (h : GoodO l o) {y : Int} (hy : y ∈ nos l) : GoodO l (withI o y) :=
  ⟨with_rises h.1 y, fun z hz => by rcases mem_with.1 hz with q | q; rw [q]; exact hy; exact h.2 z q⟩
theorem GoodO.withL {l : List Gp} {o : List Int} (h : GoodO l o) {a : List Int} (ha : ∀ y ∈ a, y ∈ nos l) : GoodO l (withL o a) :=
  ⟨withL_rises h.1, fun z hz => by rcases mem_withL.1 hz with q | q; exact h.2 z q; exact ha z q⟩
theorem GoodO.fold {l : List Gp} {r o : List Int} (h : GoodO l r) (hin : ∀ n, ∀ y ∈ (ofN l n).a, y ∈ nos l) : GoodO l (foldA l r o) :=
  ⟨fold_rises h.1, fun z hz => by rcases mem_fold.1 hz with q | ⟨m, _, q⟩; exact h.2 z q; exact hin m z q⟩
theorem GoodO.rounds {l : List Gp} {o : List Int} (h : GoodO l o) (hin : ∀ n, ∀ y ∈ (ofN l n).a, y ∈ nos l) (k : Nat) : GoodO l (rounds l o k) := by
  induction k with
  | zero => exact h
  | succ k ih => exact ih.fold hin
theorem aheadR_out {l : List Gp} {n : Int} (h : n ∉ nos l) : aheadR l n = [] := by
  unfold aheadR
  have hz : withL [] (ofN l n).a = [] := by rw [ofN_out h]; rfl
  rw [hz]
  have : ∀ k, rounds l [] k = [] := by
    intro k
    induction k with
    | zero => rfl
    | succ k ih => show roundL l (rounds l _ k) = []; rw [ih]; rfl
  exact this _
section
variable (B r : Nat) (A : Option Addr) (c : Nat) (L : List Gr) (k n : Int) (w : World)
set_option maxRecDepth 100000 in
set_option maxHeartbeats 4000000 in
theorem rahead_any (hC : RefAt B w r A c L k) (hl : L.length ≤ 1000) (hnd : (nos (gs L)).Nodup) (hin : ∀ n, ∀ y ∈ (ofN (gs L) n).a, y ∈ nos (gs L)) (hal : ∀ q ∈ L, q.g.a.length ≤ 1000) :
    Calls Try.prog 36 #[.pointer (some ⟨r, 0, none⟩), .int .i64 n] w fun e w' => ∃ A' c', e = .returned (.slice A' (aheadR (gs L) n).length c') ∧ Ints w' w'.heap.size A' (aheadR (gs L) n) ∧ Below w.heap.size w w' := by
  have HA := Lib.hid (rat_any B r A c L k n w hC hl)
  by_cases hn : n ∈ nos (gs L)
  · obtain ⟨i, hi, e1, e2, _⟩ := idxG_in hnd hn
    rw [e1] at HA
    have HC := Lib.hid hC
    have HW : Hid (∀ (w1 : World) (A1 : Option Addr) (c1 : Nat) (o : List Int) (y : Int), GoodO (gs L) o → Ints w1 w1.heap.size A1 o → Calls Try.prog 56 #[.slice A1 o.length c1, .int .i64 y] w1 fun e w' => ∃ A' c', e = .returned (.slice A' (withI o y).length c') ∧ Ints w' w'.heap.size A' (withI o y) ∧ Below w1.heap.size w1 w') := fun w1 A1 c1 o y h1 h2 =>
      (rwith_any A1 c1 o y w1 (by have := h1.len; rw [length_gs] at this; omega) h1.1 h2).mono fun e w' ⟨A', c', q1, q2, q3⟩ => ⟨A', c', q1, q2.ints, q3⟩
    have HAt : Hid (∀ y : Int, y ∈ nos (gs L) → ∃ q, q < L.length ∧ (grn L q).g.a = (ofN (gs L) y).a ∧ ∀ w1 : World, Below w.heap.size w w1 → Calls Try.prog 55 #[.pointer (some ⟨r, 0, none⟩), .int .i64 y] w1 fun e w' => e = .returned (.int .i64 (q : Int)) ∧ w' = w1) := fun y hy => by
      obtain ⟨q, hq, f1, f2, _⟩ := idxG_in hnd hy
      refine ⟨q, hq, by rw [f2], fun w1 hb => ?_⟩
      have := rat_any B r A c L k y w1 (HC.out.fresh hb) hl
      rw [f1] at this
      exact this.mono fun e w' ⟨a1, a2⟩ => ⟨a1, a2.symm⟩
    have HIn := Lib.hid hin
    have HAl := Lib.hid hal
    have hi0 : (0 : Int) ≤ (i : Int) := by omega
    have hii : (i : Int) < (L.length : Int) := by omega
    have hng : ¬ (i : Int) < 0 := by omega
    obtain ⟨a0, ha0⟩ : ∃ a0, a0 = (grn L i).g.a := ⟨_, rfl⟩
    have HA0 : Hid (a0 = (ofN (gs L) n).a) := by unfold Hid; rw [ha0, e2]
    have HA0in : Hid (∀ y ∈ a0, y ∈ nos (gs L)) := fun y hy => by rw [HA0.out] at hy; exact hin n y hy
    have HFin : Hid (rounds (gs L) (withL [] a0) L.length = aheadR (gs L) n) := by unfold Hid aheadR; rw [HA0.out, length_gs]
    have HAe := Lib.hid ha0
    clear hC hnd hin hal hn e1 e2 ha0
    go_enter Try.func36, Try.ntmps36
    go_wp2_with (refine HA.out.mono ?_; rintro e w' ⟨rfl, rfl⟩)
    go_loopw [6, 7] (fun s x wr => ∃ (j : Nat) (A' : Option Addr) (c' : Nat), j ≤ a0.length ∧ x = .int .i64 j ∧ s = .slice A' (withL [] (a0.take j)).length c' ∧ Hid (Ints wr wr.heap.size A' (withL [] (a0.take j))) ∧ Hid (Below w.heap.size w wr)) (fun _ x _ => a0.length - (intOf x).toNat)
    case atStart => exact ⟨0, none, 0, Nat.zero_le _, rfl, rfl, Ints.nil, Below.refl _ _⟩
    case round =>
      obtain ⟨j, A', c', hj, rfl, rfl, hI, hB⟩ := hrel
      rename World => wr
      have hj0 : (0 : Int) ≤ (j : Int) := by omega
      have hC1 := HC.out.fresh hB.out
      obtain ⟨c0, _⟩ := hC1.hcells
      have hr := hC1.glt
      obtain ⟨b, hA, h1, h2, hb, _, _, _, d3, _⟩ := hC1.at_ hi
      unfold maxLen at h2
      have hrowa := (hC1.nums _ (grn_mem hi)).2
      have HIa : Hid (Ints wr wr.heap.size (grn L i).aa (grn L i).g.a) := hrowa.ints
      have hca := own_cap hrowa
      unfold maxLen at hca
      have hlena := HAl.out _ (grn_mem hi)
      rw [← HAe.out] at HIa hca d3 hlena
      subst hA
      generalize (grn L i).aa = pA at *
      generalize (grn L i).ac = pC at *
      have hG : GoodO (gs L) (withL [] (a0.take j)) := (GoodO.nil _).withL (fun y hy => HA0in.out y (List.mem_of_mem_take hy))
      by_cases hlt : j < a0.length
      · have hji : (j : Int) < (a0.length : Int) := by omega
        obtain ⟨b2, o2, rfl, _, d4⟩ := HIa.out.at_ hlt
        have Hs := Lib.hid (withL_step (o := []) hlt)
        have HW1 := Lib.hid (HW.out wr A' c' _ (inn a0 j) hG hI.out)
        generalize inn a0 j = y at *
        generalize withL [] (a0.take j) = o at *
        clear hC1 hrowa hG
        go_wp2_with (refine HW1.out.mono ?_; rintro e w5 ⟨A5, c5, rfl, hi5, hb5⟩; have HI5 := Lib.hid hi5; have HB5 := Lib.hid (hB.out.trans (hb5.mono hB.out.size)); clear hi5 hb5)
        go_roundw
        case rel => exact ⟨j + 1, A5, c5, by omega, by go_num, by rw [Hs.out], by rw [Hs.out]; exact HI5.out, HB5.out⟩
        case measure => simp [intOf]; omega
      · obtain rfl : j = a0.length := by omega
        have hji : ¬ (a0.length : Int) < (a0.length : Int) := by omega
        rw [List.take_length] at hI hG ⊢
        have HG0 := Lib.hid hG
        obtain ⟨o0, ho0⟩ : ∃ o0, o0 = withL [] a0 := ⟨_, rfl⟩
        rw [← ho0] at hI HG0 HFin ⊢
        clear hC1 hrowa hG ho0
        go_wp2
        go_loopw [6, 8] (fun s x w6 => ∃ (q : Nat) (A' : Option Addr) (c' : Nat), q ≤ L.length ∧ x = .int .i64 q ∧ s = .slice A' (rounds (gs L) o0 q).length c' ∧ Hid (Ints w6 w6.heap.size A' (rounds (gs L) o0 q)) ∧ Hid (Below w.heap.size w w6)) (fun _ x _ => L.length - (intOf x).toNat)
        case atStart => exact ⟨0, A', c', Nat.zero_le _, rfl, rfl, hI.out, hB.out⟩
        case round =>
          obtain ⟨q, A6, c6, hq, rfl, rfl, hI6, hB6⟩ := hrel
          rename World => w6
          have hq0 : (0 : Int) ≤ (q : Int) := by omega
          have hC6 := HC.out.fresh hB6.out
          obtain ⟨c06, _⟩ := hC6.hcells
          have hr6 := hC6.glt
          by_cases hql : q < L.length
          · have hqi : (q : Int) < (L.length : Int) := by omega
            have hG6 : GoodO (gs L) (rounds (gs L) o0 q) := HG0.out.rounds HIn.out q
            have HG6 := Lib.hid hG6
            have hl6 := hG6.len
            rw [length_gs] at hl6
            have Hr : Hid (foldA (gs L) (rounds (gs L) o0 q) (rounds (gs L) o0 q) = rounds (gs L) o0 (q + 1)) := rfl
            generalize rounds (gs L) o0 q = ol at *
            have hOl := hI6
            clear hC6 hG6
            go_wp2
            go_loopw [6, 10] (fun s x w7 => ∃ (m : Nat) (A' : Option Addr) (c' : Nat), m ≤ ol.length ∧ x = .int .i64 m ∧ s = .slice A' (foldA (gs L) ol (ol.take m)).length c' ∧ Hid (Ints w7 w7.heap.size A' (foldA (gs L) ol (ol.take m))) ∧ Hid (Below w6.heap.size w6 w7)) (fun _ x _ => ol.length - (intOf x).toNat)
            case atStart => exact ⟨0, A6, c6, Nat.zero_le _, rfl, rfl, hI6.out, Below.refl _ _⟩
            case round =>
              obtain ⟨m, A7, c7, hm, rfl, rfl, hI7, hB7⟩ := hrel
              rename World => w7
              have hm0 : (0 : Int) ≤ (m : Int) := by omega
              have hB7W := hB6.out.trans (hB7.out.mono hB6.out.size)
              have HB7W := Lib.hid hB7W
              by_cases hml : m < ol.length
              · have hmi : (m : Int) < (ol.length : Int) := by omega
                obtain ⟨b3, o3, hA3, l3, d5'⟩ := hOl.out.at_ hml
                subst hA3
                have d5 := (hB7.out.cell (p := ⟨b3, o3 + m, none⟩) l3).trans d5'
                have hyin := HG6.out.2 _ (inn_mem hml)
                obtain ⟨p, hp, hpa, hcall⟩ := HAt.out (inn ol m) hyin
                have HCall := Lib.hid hcall
                have hC7 := HC.out.fresh hB7W
                obtain ⟨c07, _⟩ := hC7.hcells
                have hr7 := hC7.glt
                obtain ⟨b4, hb4, _, _, _, _, _, _, d6, _⟩ := hC7.at_ hp
                have hb4' : b4 = b := by cases hb4; rfl
                subst hb4'
                have hrow4 := (hC7.nums _ (grn_mem hp)).2
                have HI4 : Hid (Ints w7 w7.heap.size (grn L p).aa (grn L p).g.a) := hrow4.ints
                have hc4 := own_cap hrow4
                unfold maxLen at hc4
                have hl4 := HAl.out _ (grn_mem hp)
                have hp0 : (0 : Int) ≤ (p : Int) := by omega
                have hpi : (p : Int) < (L.length : Int) := by omega
                have Hs := Lib.hid (foldA_step (l := gs L) (r := ol) hml)
                rw [← hpa] at Hs
                have HGf : Hid (GoodO (gs L) (foldA (gs L) ol (ol.take m))) := HG6.out.fold HIn.out
                have HAin : Hid (∀ y ∈ (grn L p).g.a, y ∈ nos (gs L)) := fun y hy => by rw [hpa] at hy; exact HIn.out _ y hy
                generalize inn ol m = y at *
                generalize foldA (gs L) ol (ol.take m) = of_ at *
                generalize (grn L p).g.a = ap at *
                generalize (grn L p).aa = pA4 at *
                generalize (grn L p).ac = pC4 at *
                clear hC7 hrow4 hcall hpa hyin d5' hb4 hB7W
                go_wp2
                go_quiet ((go_at_call 55; exact Calls.quiet_of_same (HCall.out _ (bdn HB7W.out _))))
                go_wp2
                go_loopw [6, 12] (fun s x w8 => ∃ (t : Nat) (A' : Option Addr) (c' : Nat), t ≤ ap.length ∧ x = .int .i64 t ∧ s = .slice A' (withL of_ (ap.take t)).length c' ∧ Hid (Ints w8 w8.heap.size A' (withL of_ (ap.take t))) ∧ Hid (Below w7.heap.size w7 w8)) (fun _ x _ => ap.length - (intOf x).toNat)
                case atStart => exact ⟨0, A7, c7, Nat.zero_le _, rfl, rfl, hI7.out.next (bdn (Below.refl _ _) _), bdn (Below.refl _ _) _⟩
                case round =>
                  obtain ⟨t, A8, c8, ht, rfl, rfl, hI8, hB8⟩ := hrel
                  rename World => w8
                  have ht0 : (0 : Int) ≤ (t : Int) := by omega
                  by_cases htl : t < ap.length
                  · have hti : (t : Int) < (ap.length : Int) := by omega
                    obtain ⟨b5, o5, rfl, l5, d7'⟩ := HI4.out.at_ htl
                    have d7 := (hB8.out.cell (p := ⟨b5, o5 + t, none⟩) l5).trans d7'
                    have hs5 := withL_step (o := of_) htl
                    have Hs5 := Lib.hid hs5
                    have HW5 := Lib.hid (HW.out w8 A8 c8 _ (inn ap t) (HGf.out.withL (fun y hy => HAin.out y (List.mem_of_mem_take hy))) hI8.out)
                    generalize inn ap t = z at *
                    generalize withL of_ (ap.take t) = o5_ at *
                    clear d7' hs5
                    go_wp2_with (refine HW5.out.mono ?_; rintro e w9 ⟨A9, c9, rfl, hi9, hb9⟩; have HI9 := Lib.hid hi9; have HB9 := Lib.hid (hB8.out.trans (hb9.mono hB8.out.size)); clear hi9 hb9)
                    go_roundw
                    case rel => exact ⟨t + 1, A9, c9, by omega, by go_num, by rw [Hs5.out], by rw [Hs5.out]; exact HI9.out, HB9.out⟩
                    case measure => simp [intOf]; omega
                  · obtain rfl : t = ap.length := by omega
                    have hti : ¬ (ap.length : Int) < (ap.length : Int) := by omega
                    rw [List.take_length] at hI8 ⊢
                    rw [← Hs.out] at hI8 ⊢
                    go_wp2
                    go_roundw
                    case rel => exact ⟨m + 1, A8, c8, by omega, by go_num, rfl, hI8.out, hB7.out.trans (hB8.out.mono hB7.out.size)⟩
                    case measure => simp [intOf]; omega
              · obtain rfl : m = ol.length := by omega
                have hmi : ¬ (ol.length : Int) < (ol.length : Int) := by omega
                rw [List.take_length] at hI7 ⊢
                rw [Hr.out] at hI7 ⊢
                go_wp2
                go_roundw
                case rel => exact ⟨q + 1, A7, c7, by omega, by go_num, rfl, hI7.out, HB7W.out⟩
                case measure => simp [intOf]; omega
          · obtain rfl : q = L.length := by omega
            have hqi : ¬ (L.length : Int) < (L.length : Int) := by omega
            rw [HFin.out] at hI6 ⊢
            clear hC6
            go_wp2
            go_ret
            exact ⟨A6, ⟨c6, rfl⟩, hI6.out, hB6.out⟩
  · have e1 := idxG_out hn
    rw [aheadR_out hn]
    rw [e1] at HA
    clear hC hn hnd e1 hin hal
    go_enter Try.func36, Try.ntmps36
    go_wp2_with (refine HA.out.mono ?_; rintro e w' ⟨rfl, rfl⟩)
    go_ret
    exact ⟨none, 0, rfl, Ints.nil, Below.refl _ _⟩
end
end Go.Proofs.Ytdndchoghhllmaa
