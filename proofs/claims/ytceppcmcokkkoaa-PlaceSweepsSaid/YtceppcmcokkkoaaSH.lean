/- Contract of the document's own Sweep. -/
import Derived.Test.YtceppcmcokkkoaaSG
namespace Go.Proofs.Ytceppcmcokkkoaa
open Go.RowKit

/-- the first x but the one at k -/
def skip (l : List Nat) (k : Nat) : Nat → List Nat
  | 0 => []
  | x + 1 => skip l k x ++ (if x = k then [] else [el l x])
theorem skip_eq (l : List Nat) (k : Nat) (x : Nat) (hx : x ≤ l.length) : skip l k x = (l.take x).eraseIdx k := by
  induction x with
  | zero => simp [skip]
  | succ x ih =>
    have h := ih (by omega)
    have hl : (l.take x).length = x := by rw [List.length_take]; omega
    show skip l k x ++ (if x = k then [] else [el l x]) = _
    rw [take_el l x (by omega), h]
    by_cases e : x = k
    · subst e
      rw [if_pos rfl, List.append_nil, List.eraseIdx_of_length_le (by omega), List.eraseIdx_append_of_length_le (by omega), hl]
      simp
    · rw [if_neg e]
      by_cases h2 : k < x
      · rw [List.eraseIdx_append_of_lt_length (by omega)]
      · rw [List.eraseIdx_of_length_le (by omega), List.eraseIdx_of_length_le (by simp; omega)]
theorem skip_all (l : List Nat) (k : Nat) : skip l k l.length = l.eraseIdx k := by
  rw [skip_eq l k l.length (Nat.le_refl _), List.take_length]
theorem skip_len (l : List Nat) (k x : Nat) : (skip l k x).length ≤ x := by
  induction x with
  | zero => simp [skip]
  | succ x ih =>
    show (skip l k x ++ (if x = k then [] else [el l x])).length ≤ _
    rw [List.length_append]
    split
    · simp; omega
    · simp; omega
theorem skip_no (l : List Nat) (k x : Nat) (h : x = k) : skip l k (x + 1) = skip l k x := by
  show skip l k x ++ (if x = k then [] else [el l x]) = _
  rw [if_pos h, List.append_nil]
theorem skip_yes (l : List Nat) (k x : Nat) (h : x ≠ k) : skip l k (x + 1) = skip l k x ++ [el l x] := by
  show skip l k x ++ (if x = k then [] else [el l x]) = _
  rw [if_neg h]

/-- a slice's length -/
def lenV (v : Value) : Nat := match v with | .slice _ k _ => k | _ => 0
theorem lenV_slice (a : Option Addr) (k c : Nat) : lenV (.slice a k c) = k := rfl
theorem own_ints_at {w : World} {B : Nat} {v : Value} {n : Nat} {l : List Int} (h : w.ownsRow B 3 1 v n (intsV l)) : ∃ A c, v = .slice A l.length c ∧ Ints w w.heap.size A l ∧ ∀ g o, A = some ⟨g, o, none⟩ → B ≤ g := by
  obtain ⟨A, c, rfl, _, _, hI⟩ := own_ints h
  exact ⟨A, c, rfl, hI, fun g o e => (h.lt g (by rw [e]; rfl)).1⟩

/-- what stands at the head of each round of the document's own Sweep -/
structure RsSt (w wr : World) (n : Nat) (total : List Nat) (A : Option Addr) (vo : Value) (s : Nat) (lf dn : List Nat) : Prop where
  s_lt : s < 1024
  len : dn.length + lf.length = total.length
  lt : ∀ x ∈ lf, x < 1024
  rest : Ints wr wr.heap.size A (natsI lf)
  out : wr.ownsRow w.heap.size 3 1 vo dn.length (natsV dn)
  apart : ∀ g o, A = some ⟨g, o, none⟩ → vo.ownBlock ≠ some g
  below : Below w.heap.size w wr
  sum : dn ++ swR n lf.length s lf = total

set_option maxRecDepth 100000 in
set_option maxHeartbeats 4000000 in
theorem refsweep_yes (A : Option Addr) (c m i n : Nat) (q : List Nat) (w : World) (hm : m = q.length) (hl : q.length ≤ 1000) (hi : i < 1024) (h1n : 1 ≤ n) (hn : n ≤ 64) (hq : ∀ x ∈ q, x < 1024) (hI : Ints w w.heap.size A (natsI q)) :
    Calls Try.prog 25 #[.int .i64 (i : Int), .slice A m c, .int .i64 (n : Int)] w (SweepSays w n i q) := by
  subst hm
  have hfit := fits_any A c (i : Int) (natsI q) (n : Int) w (by rw [length_natsI]; exact hl) hI
  rw [lies_fit (lies_of hi h1n hn hq), length_natsI] at hfit
  obtain ⟨i0, hi0, hz0, hz1, hz2⟩ := info_parts info3
  have Hfit := Lib.hid hfit
  have Hi0 := Lib.hid hi0
  have Hq := Lib.hid hq
  have HI := Lib.hid hI
  obtain ⟨total, htot⟩ : ∃ t, t = swR n q.length i q := ⟨_, rfl⟩
  have htl : total.length = q.length := by rw [htot, length_swR]
  have Htot := Lib.hid htot
  have Htl := Lib.hid htl
  have htl1 : total.length ≤ 1000 := by omega
  clear hfit hi0 hq hI htot htl
  go_enter Try.func25, Try.ntmps25
  go_wp2_with fail
  refine Hfit.out.mono ?_
  rintro e w1 ⟨rfl, hB1⟩
  go_wp2
  have Hst0 : Hid (RsSt w w1 n total A (.slice none 0 0) i q []) := ⟨hi, by rw [Htl.out]; simp, Hq.out, (HI.out.below hB1).more hB1.size, World.ownsRow_nil _ _ _ _, fun g o _ => by simp [Value.ownBlock], hB1, by rw [Htot.out]; rfl⟩
  go_loopw [8, 9, 10] (fun vo r a wr => ∃ (A : Option Addr) (c s : Nat) (lf dn : List Nat), r = .slice A lf.length c ∧ a = .int .i64 s ∧ RsSt w wr n total A vo s lf dn) (fun _ r _ _ => lenV r)
  case atStart => exact ⟨A, c, i, q, [], rfl, rfl, Hst0.out⟩
  case round =>
    obtain ⟨A2, c2, s, lf, dn, rfl, rfl, st⟩ := hrel
    rename World => wr
    have hlen := st.len
    by_cases hlp : 0 < lf.length
    · have hne : lf ≠ [] := List.length_pos_iff.1 hlp
      have hlm : lf.length ≤ 1000 := by omega
      have hB := st.below
      have hs := st.s_lt
      have hltq := st.lt
      have hrest := st.rest
      have hout := st.out
      have hap := st.apart
      have hsum := st.sum
      have hnx := refnext_yes A2 c2 s n (natsI lf) wr (by rw [length_natsI]; exact hlm) (by rw [length_natsI]; exact hlp) hrest (lies_of hs h1n hn hltq)
      rw [length_natsI, farFrom_idx] at hnx
      have hk := idx_lt n s hne
      have hv1 := hltq _ (val_mem n s hne)
      have hvv : val n s lf = el lf (idx n s lf) := rfl
      have hsw : swR n lf.length s lf = val n s lf :: swR n (lf.length - 1) (val n s lf) (lf.eraseIdx (idx n s lf)) := by
        obtain ⟨f, hf⟩ : ∃ f, lf.length = f + 1 := ⟨lf.length - 1, by omega⟩
        rw [hf]
        rfl
      obtain ⟨k, hke⟩ : ∃ k, k = idx n s lf := ⟨_, rfl⟩
      obtain ⟨v, hve⟩ : ∃ v, v = val n s lf := ⟨_, rfl⟩
      rw [← hke] at hk hvv hnx hsw
      rw [← hve] at hvv hv1 hsw
      have hlen2 : (lf.eraseIdx k).length = lf.length - 1 := List.length_eraseIdx_of_lt hk
      have Hsum : Hid ((dn ++ [v]) ++ swR n (lf.eraseIdx k).length v (lf.eraseIdx k) = total) := by
        unfold Hid
        rw [hlen2, List.append_assoc]
        show dn ++ (v :: swR n (lf.length - 1) v (lf.eraseIdx k)) = total
        rw [← hsw]
        exact hsum
      obtain ⟨b, off, rfl, hb, hck⟩ := hrest.at_ (k := k) (by rw [length_natsI]; exact hk)
      rw [nth_nats lf k hk, ← hvv] at hck
      have Hnx := Lib.hid hnx
      have Hrest := Lib.hid hrest
      have Hap := Lib.hid hap
      have Hout := Lib.hid hout
      have Hck := Lib.hid hck
      have Hltq := Lib.hid hltq
      have Hlen := Lib.hid hlen
      have Hlen2 := Lib.hid hlen2
      have hki : (k : Int) < (lf.length : Int) := by omega
      have hk0 : (0 : Int) ≤ (k : Int) := by omega
      have hlpi : (0 : Int) < (lf.length : Int) := by omega
      have hdnl : dn.length ≤ 1000 := by omega
      clear hnx hrest hap hck hltq hlen hlen2 hvv hsw hke hve hsum st hne hout
      go_wp2_with fail
      refine Hnx.out.mono ?_
      rintro e w2 ⟨rfl, hB2⟩
      have hc2 := (hB2.cell (p := ⟨b, off + k, none⟩) hb).trans Hck.out
      have hout2 := own_below Hout.out hB2 (fun j e => (Hout.out.lt j e).2)
      have hs2 := hB2.size
      have hsB := hB.size
      go_wp2_with (at_builtin; refine wpList_append_own _ rfl _ _ 22 rfl w.heap.size 3 i0 (.int .i64 0) 1 8 Try.underlying22 Hi0.out hz0 hz1 hz2 rfl (by decide) _ _ _ rfl (hout2.alloc _) ⟨w2.heap.size, 0, none⟩ 1 1 [.int .i64 (v : Int)] rfl rfl (cell_one_new _ _ _) (by simp [Value.oneCell']) (by unfold maxLen; omega) (by omega) (by simp; omega) ?_)
      intro v' w3 hown' hgrow _
      have hg3 : w2.grownBy w3 u8.ownBlock := ⟨hgrow.os, hgrow.tape, hgrow.output, by have := hgrow.size; simp at this; omega, fun j hj hne => (hgrow.block j (by simp; omega) hne).trans (heap_alloc_old _ _ hj)⟩
      have hown3 : w3.ownsRow w.heap.size 3 1 v' (dn ++ [v]).length (natsV (dn ++ [v])) := by
        have e : (dn ++ [v]).length = dn.length + 1 := by simp
        rw [e]
        simpa [natsV] using hown'
      have hB02 := hB.trans (hB2.mono hsB)
      have hB3 : Below w.heap.size w w3 := hB02.grown hg3 (by omega) (fun j e => (Hout.out.lt j e).1)
      have hs3 := hg3.size
      have hapb := Hap.out b off rfl
      have hr3 : ∀ j, j < lf.length → w3.cell? ⟨b, off + j, none⟩ = some (.int .i64 (el lf j : Nat)) := by
        intro j hj
        obtain ⟨b3, o3, e3, hb3, hc3⟩ := Hrest.out.at_ (k := j) (by rw [length_natsI]; exact hj)
        injection e3 with e3; injection e3 with e4 e5; subst e4; subst e5
        rw [nth_nats lf j hj] at hc3
        exact hg3.cell ((hB2.cell hb3).trans hc3) (fun e => hapb e.symm)
      have Hr3 := Lib.hid hr3
      have Hown3 := Lib.hid hown3
      clear hown' hgrow hg3 hown3 hout2 hc2 hr3 hapb
      go_wp2
      go_loopw [13, 14] (fun vl x wy => ∃ xx : Nat, xx ≤ lf.length ∧ x = .int .i64 xx ∧ wy.ownsRow w3.heap.size 3 1 vl (skip lf k xx).length (natsV (skip lf k xx)) ∧ Below w3.heap.size w3 wy) (fun _ x _ => lf.length - (intOf x).toNat)
      case atStart => exact ⟨0, Nat.zero_le _, rfl, World.ownsRow_nil _ _ _ _, Below.refl _ _⟩
      case round =>
        obtain ⟨xx, hxx, rfl, hown, hBy⟩ := hrel
        rename World => wy
        by_cases hlt2 : xx < lf.length
        · have hlti2 : (xx : Int) < (lf.length : Int) := by omega
          have hx0 : (0 : Int) ≤ (xx : Int) := by omega
          by_cases hxk : xx = k
          · have hno := skip_no lf k xx hxk
            have g1 : ((xx : Int) == (k : Int)) = true := by rw [hxk]; simp
            have g2 : (xx == k) = true := by rw [hxk]; simp
            have g3 : ((xx : Int) != (k : Int)) = false := by rw [hxk]; simp
            have g4 : (xx != k) = false := by rw [hxk]; simp
            have Hno := Lib.hid hno
            clear hno hxk
            go_wp2
            go_roundw
            case rel => exact ⟨xx + 1, by omega, by go_num, by rw [Hno.out]; exact hown, hBy⟩
            case measure => simp [intOf]; omega
          · have hyes := skip_yes lf k xx hxk
            have g1 : ((xx : Int) == (k : Int)) = false := by rw [beq_eq_false_iff_ne]; omega
            have g2 : (xx == k) = false := by rw [beq_eq_false_iff_ne]; omega
            have g3 : ((xx : Int) != (k : Int)) = true := by rw [bne_iff_ne]; omega
            have g4 : (xx != k) = true := by rw [bne_iff_ne]; omega
            have hcx := (hBy.cell (p := ⟨b, off + xx, none⟩) (by show b < w3.heap.size; omega)).trans (Hr3.out xx hlt2)
            obtain ⟨y, hy⟩ : ∃ y, y = el lf xx := ⟨_, rfl⟩
            rw [← hy] at hcx hyes
            have hsl := skip_len lf k xx
            have Hyes := Lib.hid hyes
            have hsy := hBy.size
            clear hyes hxk hy
            go_wp2_with (at_builtin; refine wpList_append_own _ rfl _ _ 22 rfl w3.heap.size 3 i0 (.int .i64 0) 1 8 Try.underlying22 Hi0.out hz0 hz1 hz2 rfl (by decide) _ _ _ rfl (hown.alloc _) ⟨wy.heap.size, 0, none⟩ 1 1 [.int .i64 (y : Int)] rfl rfl (cell_one_new _ _ _) (by simp [Value.oneCell']) (by unfold maxLen; omega) (by omega) (by simp; omega) ?_)
            intro vl' w5 hown' hgrow _
            have hB5 : Below w3.heap.size w3 w5 := hBy.trans ((((Below.refl _ wy).alloc (by omega) _)).grown hgrow (by simp; omega) (fun j e => (hown.lt j e).1))
            have Hown5 : Hid (w5.ownsRow w3.heap.size 3 1 vl' (skip lf k (xx + 1)).length (natsV (skip lf k (xx + 1)))) := by
              rw [Hyes.out]
              unfold Hid
              simpa [natsV] using hown'
            clear hown' hgrow
            go_wp2
            go_roundw
            case rel => exact ⟨xx + 1, by omega, by go_num, Hown5.out, hB5⟩
            case measure => simp [intOf]; omega
        · have hlti2 : ¬ (xx : Int) < (lf.length : Int) := by omega
          obtain rfl : xx = lf.length := by omega
          rw [skip_all, natsV_intsV] at hown
          obtain ⟨A5, c5, rfl, hI5, hap5⟩ := own_ints_at hown
          rw [length_natsI]
          have hst : RsSt w wy n total A5 v' v (lf.eraseIdx k) (dn ++ [v]) := by
            refine ⟨hv1, ?_, fun x hx => Hltq.out x (List.mem_of_mem_eraseIdx hx), hI5, own_below Hown3.out hBy (fun j e => (Hown3.out.lt j e).2), ?_, hB3.trans (hBy.mono (by omega)), Hsum.out⟩
            · rw [List.length_append, Hlen2.out]
              have := Hlen.out
              simp
              omega
            · intro g o e hv
              have h1 := hap5 g o e
              have h2 := (Hown3.out.lt g hv).2
              omega
          have Hst := Lib.hid hst
          have hml : (lf.eraseIdx k).length < lf.length := by rw [Hlen2.out]; omega
          have Hml := Lib.hid hml
          clear hst hown hI5 hap5 hml
          go_wp2
          go_roundw
          case rel => exact ⟨A5, c5, v, lf.eraseIdx k, dn ++ [v], rfl, rfl, Hst.out⟩
          case measure => exact Hml.out
    · have hl0 : lf.length = 0 := by omega
      have hlf : lf = [] := List.eq_nil_of_length_eq_zero hl0
      have hX : SweepSays w n i q (.returned (.tuple #[u8, .int .i64 0])) wr := by
        have hs := st.sum
        rw [hlf] at hs
        have hdn : dn = total := by rw [← hs]; simp [swR]
        have ho := st.out
        rw [hdn, Htl.out, Htot.out] at ho
        exact ⟨u8, rfl, ho, st.below⟩
      have HX := Lib.hid hX
      have hd : decide (0 < lf.length) = false := by simpa using hlp
      subst hlf
      clear hX st hd hl0 hlp
      go_wp2
      go_ret2
      exact HX.out
end Go.Proofs.Ytceppcmcokkkoaa
