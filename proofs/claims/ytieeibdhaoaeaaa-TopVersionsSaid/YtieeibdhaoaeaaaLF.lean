/- play. -/
import Derived.Test.YtieeibdhaoaeaaaLE
set_option linter.unusedVariables false
set_option linter.unusedSimpArgs false
namespace Go.Proofs.Ytieeibdhaoaeaaa
open Go.RowKit

/-- deeds in memory: their cells, one behind the other -/
def DeedsAt (w : World) (A : Option Addr) (L : List Dd) : Prop := L = [] ∨ ∃ b o, A = some ⟨b, o, none⟩ ∧ b < w.heap.size ∧ w.rangeAt b o (L.flatMap Dd.cs)
/-- a deed that came in -/
structure DdIn (w : World) (x : Dd) : Prop where
  c0 : 0 ≤ x.c ∧ x.c ≤ 255
  pw : ∀ y ∈ x.pick, -9223372036854775808 ≤ y ∧ y ≤ 9223372036854775807
  at_ : PickAt w (fun _ => False) x.P x.pick
theorem Dd.cs_at {L : List Dd} {i : Nat} (hi : i < L.length) {j : Nat} (hj : j < 5) : (L.flatMap Dd.cs)[i * 5 + j]? = L[i].cs[j]? := by
  induction L generalizing i with
  | nil => simp at hi
  | cons y L ih =>
    rw [List.flatMap_cons]
    cases i with
    | zero => rw [Nat.zero_mul, Nat.zero_add, List.getElem?_append_left (by simpa [Dd.cs] using hj)]; rfl
    | succ i =>
      have hi' : i < L.length := by simpa using hi
      rw [List.getElem?_append_right (by simp [Dd.cs]; omega)]
      have e : (i + 1) * 5 + j - y.cs.length = i * 5 + j := by simp [Dd.cs]; omega
      rw [e, ih hi']
      rfl
theorem DeedsAt.get {w W : World} {A : Option Addr} {L : List Dd} (h : DeedsAt w A L) {i : Nat} (hi : i < L.length) (hB : Below w.heap.size w W) : ∃ b o, A = some ⟨b, o, none⟩ ∧ W.rangeAt b (o + i * 5) L[i].cs := by
  rcases h with rfl | ⟨b, o, hA, hb, hr⟩
  · simp at hi
  · refine ⟨b, o, hA, fun j u hj => ?_⟩
    have hj' : j < 5 := by
      rcases Nat.lt_or_ge j 5 with h1 | h1
      · exact h1
      · rw [List.getElem?_eq_none (by simpa [Dd.cs] using h1)] at hj; cases hj
    rw [World.cell?_of_block (a := ⟨b, o + i * 5 + j, none⟩) (hB.block b hb), Nat.add_assoc]
    exact hr _ u (by rw [Dd.cs_at hi hj']; exact hj)
theorem size41 : (Try.prog.info? 41).map (·.size) = some 5 := by kernel_rfl
/-- every sector is of some bytes that are the same -/
def isU (s : List Int) : Prop := ∃ c, (0 ≤ c ∧ c ≤ 255) ∧ s = uniS c
def Uni (n : Nat) (S : Nat → Bk) : Prop := ∀ j, j < n → isU (S j).s ∧ ∀ x ∈ (S j).v, isU x
theorem uni_zero (n : Nat) : Uni n (fun _ => ⟨noSec, [], false⟩) := fun _ _ => ⟨⟨0, by decide, rfl⟩, fun x hx => by cases hx⟩
theorem Uni.upd {n : Nat} {S : Nat → Bk} (h : Uni n S) (i : Nat) {b : Bk} (hb : isU b.s ∧ ∀ x ∈ b.v, isU x) : Uni n (Go.Proofs.Ytieeibdhaoaeaaa.upd S i b) := fun j hj => by
  by_cases e : j = i
  · subst e; rw [upd_same]; exact hb
  · rw [upd_other _ _ e]; exact h j hj
theorem Uni.now {n : Nat} {S : Nat → Bk} (h : Uni n S) {j : Nat} (hj : j < n) : isU (S j).now := by
  unfold Bk.now
  cases e : (S j).v.getLast? with
  | none => exact (h j hj).1
  | some x => exact (h j hj).2 x (List.mem_of_getLast? e)
theorem Uni.crashed {n : Nat} {S : Nat → Bk} (h : Uni n S) (pick : List Int) : Uni n (Go.Proofs.Ytieeibdhaoaeaaa.crashed n S pick) := fun j hj => by
  refine ⟨?_, fun x hx => by cases hx⟩
  show isU ((Option.bind _ (pickAt (S j).v)).getD (S j).s)
  cases pick[(waits n S).idxOf j]? with
  | none => exact (h j hj).1
  | some p =>
    show isU ((pickAt (S j).v p).getD (S j).s)
    cases e : pickAt (S j).v p with
    | none => exact (h j hj).1
    | some x => exact (h j hj).2 x (pickAt_mem e)
theorem Uni.doS {n : Nat} {S : Nat → Bk} (h : Uni n S) {x : Dd} (hx : 0 ≤ x.c ∧ x.c ≤ 255) : Uni n (Go.Proofs.Ytieeibdhaoaeaaa.doS n S x) := by
  unfold Go.Proofs.Ytieeibdhaoaeaaa.doS
  split
  · split
    · next hi =>
      have hj : x.i.toNat < n := by omega
      split
      · exact h
      · refine h.upd _ ⟨(h _ hj).1, fun y hy => ?_⟩
        rcases List.mem_append.1 hy with q | q
        · exact (h _ hj).2 y q
        · obtain rfl : y = uniS x.c := by simpa using q
          exact ⟨x.c, hx, rfl⟩
    · exact h
  · split
    · exact fun j hj => ⟨h.now hj, fun y hy => by cases hy⟩
    · split
      · exact h.crashed _
      · split
        · split
          · next hi =>
            have hj : x.i.toNat < n := by omega
            exact h.upd _ (h _ hj)
          · exact h
        · exact h
/-- both disks of this call's own -/
def OwnB (w wr : World) (d r n c : Nat) : Prop := ∃ S F, Both wr d r n S c F ∧ Uni n S ∧ (∀ b, F b → w.heap.size ≤ b) ∧ Below w.heap.size w wr
theorem OwnB.next {w w1 w2 : World} {d r n c : Nat} (h : OwnB w w1 d r n c) (hB : Below w1.heap.size w1 w2) : OwnB w w2 d r n c := by
  obtain ⟨S, F, h1, h2, h3, h4⟩ := h
  exact ⟨S, F, h1.fresh hB, h2, h3, h4.trans (hB.mono h4.size)⟩
theorem OwnB.mono {w w1 : World} {d r n c c' : Nat} (h : OwnB w w1 d r n c) (hc : c ≤ c') : OwnB w w1 d r n c' := by
  obtain ⟨S, F, h1, h2, h3, h4⟩ := h
  exact ⟨S, F, h1.mono hc, h2, h3, h4⟩
theorem OwnB.done {w w1 : World} {d r n c : Nat} (h : OwnB w w1 d r n c) (hc : c < 50000) {x : Dd} (hx : DdIn w x) :
    Calls Try.prog 28 #[.pointer (some ⟨d, 0, none⟩), .pointer (some ⟨r, 0, none⟩), x.v] w1 fun e w' => e = .returned (.bool true) ∧ OwnB w w' d r n (c + 1) := by
  obtain ⟨S, F, h1, h2, h3, h4⟩ := h
  have hp : PickAt w1 F x.P x.pick := by
    rcases hx.at_ with q | ⟨b, o, q1, q2, _, q4⟩
    · exact .inl q
    · exact .inr ⟨b, o, q1, Nat.lt_of_lt_of_le q2 h4.size, fun q => by have := h3 b q; omega, fun j u hj => by rw [World.cell?_of_block (a := ⟨b, o + j, none⟩) (h4.block b q2)]; exact q4 j u hj⟩
  refine (do_any h1 hc x ⟨hx.c0, hx.pw, hp⟩).mono ?_
  rintro e w' ⟨rfl, F', hq, hk, hf⟩
  refine ⟨rfl, _, F', hq, h2.doS hx.c0, fun b hb => ?_, h4.trans (hk.below h3 h4.size)⟩
  rcases hf b hb with q | q
  · exact h3 b q
  · exact Nat.le_trans h4.size q
def Played (w : World) (n : Nat) (e : Ending) (w' : World) : Prop := ∃ d r, e = .returned (.tuple #[.pointer (some ⟨d, 0, none⟩), .pointer (some ⟨r, 0, none⟩), .bool true]) ∧ OwnB w w' d r n 60
set_option maxRecDepth 100000 in
set_option linter.unusedSimpArgs false in
set_option maxHeartbeats 2000000 in
theorem play_any (w : World) (m : Int) (hm : 0 ≤ m ∧ m ≤ 255) (A : Option Addr) (cap : Nat) (L : List Dd) (hA : DeedsAt w A L) (hL : ∀ x ∈ L, DdIn w x) :
    Calls Try.prog 12 #[.int .u8 m, .slice A L.length cap] w (Played w ((m % 8).toNat + 1)) := by
  obtain ⟨q, hq⟩ : ∃ q : Nat, m % 8 = (q : Int) := ⟨(m % 8).toNat, by omega⟩
  have hq8 : q < 8 := by omega
  have hq2 : m.tmod 8 = (q : Int) := by rw [Int.tmod_eq_emod_of_nonneg hm.1]; exact hq
  rw [hq, Int.toNat_natCast]
  have hwq : IntKind.i64.wrap ((q : Int) + 1) = (q : Int) + 1 := by simp [IntKind.wrap, IntKind.bits, IntKind.signed]; omega
  have hwm : IntKind.i64.wrap m = m := by simp [IntKind.wrap, IntKind.bits, IntKind.signed]; omega
  have C1 : Hid (Calls Try.prog 26 #[.int .i64 ((q : Int) + 1)] w fun e w' => e = .returned (.pointer (some ⟨w.heap.size + 1, 0, none⟩)) ∧ ∃ F, Code w' (w.heap.size + 1) (q + 1) (fun _ => ⟨noSec, [], false⟩) 0 F ∧ (∀ b, F b → w.heap.size ≤ b) ∧ Below w.heap.size w w') := by
    refine (cnew (m := (q : Int) + 1) (by omega) (by omega) w).mono ?_
    rintro e w' ⟨rfl, ⟨F, hF, hf⟩, hB⟩
    rw [show ((q : Int) + 1).toNat = q + 1 by omega] at hF
    exact ⟨rfl, F, hF, hf, hB⟩
  have R1 : Hid (∀ W, Calls Try.prog 33 #[.int .i64 ((q : Int) + 1)] W fun e w' => e = .returned (.pointer (some ⟨W.heap.size + 1, 0, none⟩)) ∧ (∃ F, Ref w' (W.heap.size + 1) (q + 1) (fun _ => zeroBk) 0 F ∧ ∀ b, F b → W.heap.size ≤ b) ∧ Below W.heap.size W w') := fun W => by
    have := rnew (q + 1) W (by omega) (by omega)
    rw [show (((q + 1 : Nat)) : Int) = (q : Int) + 1 by omega] at this
    exact this
  have HA := Lib.hid hA
  have HL := Lib.hid hL
  have HDo : Hid (∀ wr d r i (hi : i < L.length), i < 60 → OwnB w wr d r (q + 1) i → Calls Try.prog 28 #[.pointer (some ⟨d, 0, none⟩), .pointer (some ⟨r, 0, none⟩), .agg L[i].cs.toArray] wr fun e w' => e = .returned (.bool true) ∧ OwnB w w' d r (q + 1) (i + 1)) := fun wr d r i hi hi6 h => h.done (by omega) (hL _ (List.getElem_mem hi))
  have HG : Hid (∀ wr d r i (hi : i < L.length), OwnB w wr d r (q + 1) i → ∃ b o, A = some ⟨b, o, none⟩ ∧ wr.rangeAt b (o + i * 5) L[i].cs) := fun wr d r i hi h => by
    obtain ⟨S, F, _, _, _, h4⟩ := h
    exact hA.get hi h4
  have hsz : Hid (∀ i (hi : i < L.length), (Try.prog.info? 41).map (·.size) = some L[i].cs.length) := fun i hi => size41
  clear hA hL hq
  go_enter Try.func12, Try.ntmps12
  go_wp2_with fail
  refine C1.out.mono ?_
  rintro e w1 ⟨rfl, F1, hC, hF1, hB1⟩
  have HC := Lib.hid hC
  have HF1 := Lib.hid hF1
  have HB1 := Lib.hid hB1
  clear hC hF1 hB1
  go_wp2_with fail
  refine (R1.out w1).mono ?_
  rintro e w2 ⟨rfl, ⟨F2, hR, hF2⟩, hB2⟩
  have O2 : Hid (OwnB w w2 (w.heap.size + 1) (w1.heap.size + 1) (q + 1) 0) := by
    refine ⟨_, _, ⟨F1, F2, HC.out.fresh hB2, hR, fun b q1 q2 => ?_, rfl⟩, uni_zero _, ?_, HB1.out.trans (hB2.mono HB1.out.size)⟩
    · have := HC.out.lt b q1
      have := hF2 b q2
      omega
    · rintro b (q | q)
      · exact HF1.out b q
      · exact Nat.le_trans HB1.out.size (hF2 b q)
  obtain ⟨d, hd⟩ : ∃ d, d = w.heap.size + 1 := ⟨_, rfl⟩
  obtain ⟨r, hr⟩ : ∃ r, r = w1.heap.size + 1 := ⟨_, rfl⟩
  rw [← hd, ← hr] at O2 ⊢
  clear hR hF2 hB2 hd hr
  go_wp2_with fail
  go_loopw [9] (fun i wr => ∃ k : Nat, k ≤ L.length ∧ k ≤ 60 ∧ i = .int .i64 k ∧ OwnB w wr d r (q + 1) k) (fun i _ => L.length - (intOf i).toNat)
  case atStart => exact ⟨0, Nat.zero_le _, Nat.zero_le _, rfl, O2.out⟩
  case round =>
    obtain ⟨k, hk, hk6, rfl, hO⟩ := hrel
    rename World => wr
    have HO := Lib.hid hO
    clear hO
    by_cases hlt : k < L.length
    · have hlt' : (k : Int) < (L.length : Int) := by omega
      have hk0 : (0 : Int) ≤ (k : Int) := by omega
      have hwk : IntKind.i64.wrap ((k : Int) + 1) = (k : Int) + 1 := by simp [IntKind.wrap, IntKind.bits, IntKind.signed]; omega
      by_cases h60 : k < 60
      · have h60' : (k : Int) < 60 := by omega
        obtain ⟨b, o, hAe, hr⟩ := HG.out wr d r k hlt HO.out
        have HR := Lib.hid hr
        have DO := Lib.hid (HDo.out wr d r k hlt h60 HO.out)
        have hs := Lib.hid (hsz.out k hlt)
        obtain ⟨X, hX⟩ : ∃ X, X = L[k].cs := ⟨_, rfl⟩
        rw [← hX] at HR DO hs
        subst hAe
        clear hr hX
        go_wp2_with (refine wpList_load_mid rfl 41 (.tmp 34) rfl b (o + k * 5) rfl X _ HR.out Try.underlying41 rfl hs.out ?_)
        refine DO.out.mono ?_
        rintro e w5 ⟨rfl, h5⟩
        have H5 := Lib.hid h5
        clear h5
        go_wp2_with fail
        go_roundw
        case rel => exact ⟨k + 1, by omega, by omega, rfl, H5.out⟩
        case measure => simp [intOf]; omega
      · have h60' : ¬ (k : Int) < 60 := by omega
        go_wp2
        go_ret3
        exact ⟨d, r, rfl, HO.out.mono (by omega)⟩
    · have hlt' : ¬ (k : Int) < (L.length : Int) := by omega
      go_wp2
      go_ret3
      exact ⟨d, r, rfl, HO.out.mono (by omega)⟩
end Go.Proofs.Ytieeibdhaoaeaaa
