/- The document's Take, where there is something to look for. -/
import Derived.Test.YtpcindemkkdbbaaRE
import Derived.Test.YtpcindemkkdbbaaTN
import Derived.Test.YtpcindemkkdbbaaRH
import Derived.Test.YtpcindemkkdbbaaCA
import Derived.Deep.RegionHeld3
namespace Go.Proofs.Ytpcindemkkdbbaa
set_option linter.unusedVariables false
set_option linter.unusedSimpArgs false
open Go.RowKit

/-- what the document's calls answer: groups that lie somewhere, an address, an error -/
def RefSays (w : World) (r : An) (e : Ending) (w' : World) : Prop :=
  ∃ A c, e = .returned (.tuple #[.slice A r.l.length c, .agg #[.int .i64 r.g, .int .i64 r.b], .int .i64 r.e]) ∧ (∀ w2, Kept w' w2 (fun b => b < w.heap.size) → Cyls w2 w2.heap.size A r.l) ∧ Below w.heap.size w w'
theorem wayT_succ (m f k : Nat) : wayT m f (k + 1) = wayT m f k ++ [(f + k) % m] := by simp [wayT, List.range_succ]
theorem freeAt_none {x : Cy} {f : Nat} (h : ∀ y ∈ wayT x.bl.toNat f x.bl.toNat, x.us.contains ((y : Nat) : Int) = true) : freeAt x f = none := by
  unfold freeAt; rw [List.find?_eq_none]; intro y hy; simp only [h y hy]; decide
theorem freeAt_some {x : Cy} {f k : Nat} (hk : k < x.bl.toNat) (hp : ∀ y ∈ wayT x.bl.toNat f k, x.us.contains ((y : Nat) : Int) = true) (hb : x.us.contains ((((f + k) % x.bl.toNat : Nat) : Nat) : Int) = false) : freeAt x f = some ((f + k) % x.bl.toNat) :=
  find_pre (p := wayT x.bl.toNat f k) (x := (f + k) % x.bl.toNat) (by rw [← wayT_succ]; exact wayT_pre _ _ hk) (fun y hy => by simp only [hp y hy]; rfl) (by simp only [hb]; rfl)
theorem takeAt_step {l : List Cy} {ng nb k b : Nat} (hk : k < l.length) (hp : ∀ g ∈ wayT l.length ng k, freeAt (cyN l g) (frm l ng nb g) = none) (hb : freeAt (cyN l ((ng + k) % l.length)) (frm l ng nb ((ng + k) % l.length)) = some b) : takeAt l ng nb = some ((ng + k) % l.length, b) := by
  rw [takeAt_eq (by omega)]
  exact findSome_pre (p := wayT l.length ng k) (x := (ng + k) % l.length) (by rw [← wayT_succ]; exact wayT_pre _ _ hk) (fun y hy => by rw [hp y hy]; rfl) (by rw [hb]; rfl)
theorem takeAt_none {l : List Cy} {ng nb : Nat} (h0 : 0 < l.length) (hp : ∀ g ∈ wayT l.length ng l.length, freeAt (cyN l g) (frm l ng nb g) = none) : takeG l ng nb = ⟨[], 0, 0, 4⟩ := by
  have : takeAt l ng nb = none := by
    rw [takeAt_eq h0, List.findSome?_eq_none_iff]
    intro g hg; rw [hp g hg]; rfl
  unfold takeG; rw [this]
/-- the round's first group is near's -/
theorem frm_first {l : List Cy} {ng nb k : Nat} (hn : ng < l.length) (hk : k < l.length) : frm l ng nb ((ng + k) % l.length) = if k = 0 then nb else (cyN l ((ng + k) % l.length)).ro.toNat := by
  unfold frm
  have e : ((ng + k) % l.length = ng) ↔ k = 0 := by
    constructor
    · intro h
      have h1 := Nat.div_add_mod (ng + k) l.length
      rw [h] at h1
      have h2 : l.length * ((ng + k) / l.length) = k := by omega
      rcases Nat.eq_zero_or_pos ((ng + k) / l.length) with h3 | h3
      · rw [h3] at h2; omega
      · have : l.length * 1 ≤ l.length * ((ng + k) / l.length) := Nat.mul_le_mul_left _ h3
        omega
    · rintro rfl; rw [Nat.add_zero]; exact Nat.mod_eq_of_lt hn
  by_cases h : k = 0
  · rw [if_pos h, if_pos (e.2 h)]
  · rw [if_neg h, if_neg (fun q => h (e.1 q))]
/-- the two boxes of the document's Take -/
structure Box2 (w : World) (g b : Int) (W : World) : Prop where
  b1 : Blk W w.heap.size 41 #[.int .i64 g, .int .i64 b]
  b3 : Blk W (w.heap.size + 1) 41 #[.int .i64 0, .int .i64 0]
theorem Box2.keep {w : World} {g b : Int} {W W' : World} (h : Box2 w g b W) (hB : Below W.heap.size W W') : Box2 w g b W' :=
  ⟨h.b1.keep (S := fun _ => False) (Kept.fresh hB) (fun q => q), h.b3.keep (S := fun _ => False) (Kept.fresh hB) (fun q => q)⟩
theorem box2_new (w : World) (g b : Int) : Box2 w g b ((w.alloc (.cells #[.int .i64 g, .int .i64 b] 41)).alloc (.cells #[.int .i64 0, .int .i64 0] 41)) := by
  refine ⟨(Below.heap_alloc _ _ w.heap.size (by simp)).trans (Go.heap_alloc_new w _), ?_⟩
  have := Go.heap_alloc_new (w.alloc (.cells #[.int .i64 g, .int .i64 b] 41)) (.cells #[.int .i64 0, .int .i64 0] 41)
  rw [World.size_alloc] at this; exact this
theorem rec_use {x : Cy} {b : Int} (h : RightC x) : recount { x with us := withI x.us b, ro := (b + 1) % x.bl } = useC x b := by
  unfold recount useC
  have h1 := h.fb
  have h2 := h.fi
  simp only [length_withI]
  congr 1
  · omega
  · omega

set_option maxRecDepth 100000 in
set_option maxHeartbeats 4000000 in
theorem reftake_go (A : Option Addr) (c m : Nat) (l : List Cy) (ng nb : Nat) (hm : m = l.length) (w : World) (hs : SmallL l) (hI : Cyls w w.heap.size A l) (hW : Whole l) (hg : ng < l.length) (hb : (nb : Int) < (cyN l ng).bl) :
    Calls Try.prog 27 #[.slice A m c, .agg #[.int .i64 ng, .int .i64 nb]] w (RefSays w (takeG l ng nb)) := by
  have hm16 : m ≤ 16 := by have := hW.n2; omega
  have hm1 : 0 < m := by have := hW.n1; omega
  have HWh : Hid (∀ W, Below w.heap.size w W → Calls Try.prog 32 #[.slice A m c] W fun e w' => e = .returned (.bool true) ∧ Below W.heap.size W w') := fun W hB => by
    have := refwhole_any A c m l hm W hs (hI.next hB)
    rw [(wholeL_iff l).2 hW] at this; exact this
  have Hm := Lib.hid hm
  have HI := Lib.hid hI
  have Hs := Lib.hid hs
  have HWo := Lib.hid hW
  have hngm : (ng : Int) < (m : Int) := by omega
  have hnb64 : (nb : Int) < 64 := by have := (hW.ok ng hg).bl.2; omega
  obtain ⟨gb, goff, Ag, cg, A2g, c2g, hA, hgb, hcg⟩ := hI.at_ hg
  have HG1 : Hid (∀ W, Below w.heap.size w W → W.cell? ⟨gb, goff + ng * 7 + 1, none⟩ = some (.int .i64 (cyN l ng).bl)) := fun W hB => (hB.cell (p := ⟨gb, goff + ng * 7 + 1, none⟩) hgb).trans hcg.c1
  have HA := Lib.hid hA
  obtain ⟨bl0, hbl0⟩ : ∃ b, b = (cyN l ng).bl := ⟨_, rfl⟩
  have Hbl := Lib.hid hbl0
  rw [← hbl0] at HG1 hb
  obtain ⟨Q, hQ⟩ : ∃ Q, Q = RefSays w (takeG l ng nb) := ⟨_, rfl⟩
  have HQ : Hid (∀ e w', RefSays w (takeG l ng nb) e w' → Q e w') := by unfold Hid; rw [hQ]; exact fun _ _ h => h
  rw [← hQ]
  clear hQ hI hs hW hm hcg hbl0 hgb
  subst hA
  go_enter Try.func27, Try.ntmps27
  go_wp2_with fail
  have hB0 : Below w.heap.size w ((w.alloc (.cells #[.int .i64 ng, .int .i64 nb] 41)).alloc (.cells #[.int .i64 0, .int .i64 0] 41)) := ((Below.refl _ w).alloc (Nat.le_refl _) _).alloc (by simp) _
  have hX0 := box2_new w ng nb
  generalize (w.alloc (.cells #[.int .i64 ng, .int .i64 nb] 41)).alloc (.cells #[.int .i64 0, .int .i64 0] 41) = W0 at hB0 hX0 ⊢
  refine (HWh.out _ hB0).mono ?_
  rintro e W1 ⟨rfl, hB1⟩
  have hX1 := hX0.keep hB1
  have hBw := hB0.trans (hB1.mono hB0.size)
  have c10 := cellAt_of hX1.b1 0
  have c11 := cellAt_of hX1.b1 1
  simp only [List.getElem?_toArray, List.getElem?_cons_zero, List.getElem?_cons_succ] at c10 c11
  have cg1 := HG1.out W1 hBw
  have HX := Lib.hid hX1
  have HB := Lib.hid hBw
  have t1 : decide ((ng : Int) < 0) = false := decide_eq_false (by omega)
  have t2 : decide (m ≤ ng) = false := decide_eq_false (by omega)
  have t3 : decide ((nb : Int) < 0) = false := decide_eq_false (by omega)
  have t4 : decide (bl0 ≤ (nb : Int)) = false := decide_eq_false (by omega)
  have u1 : (0 : Int) ≤ (ng : Int) := by omega
  clear hB0 hX0 hB1 hX1 hBw
  go_wp2_with fail
  go_quiet (fail)
  go_wp2_with fail
  go_loopw [7] (fun i wr => ∃ k : Nat, k ≤ m ∧ i = .int .i64 k ∧ (∀ g ∈ wayT m ng k, freeAt (cyN l g) (frm l ng nb g) = none) ∧ Box2 w ng nb wr ∧ Below w.heap.size w wr) (fun i _ => m - (intOf i).toNat)
  case atStart => exact ⟨0, Nat.zero_le _, rfl, (fun g hg => by simp [wayT] at hg), HX.out.keep (bdn (Below.refl _ _) _), bdn HB.out _⟩
  case round =>
    obtain ⟨k, hk, rfl, hno, hX, hB⟩ := hrel
    rename World => wr
    have Hno := Lib.hid hno
    have HXr := Lib.hid hX
    have HBr := Lib.hid hB
    have hsz := hB.size
    have hsw : w.heap.size + 1 < wr.heap.size := lt_heap hX.b3
    have hsw0 : w.heap.size < wr.heap.size := by omega
    have hk0 : (0 : Int) ≤ (k : Int) := by omega
    have e10 := cellAt_of hX.b1 0
    have e11 := cellAt_of hX.b1 1
    simp only [List.getElem?_toArray, List.getElem?_cons_zero, List.getElem?_cons_succ] at e10 e11
    by_cases hlt : k < m
    · have hlti : (k : Int) < (m : Int) := by omega
      obtain ⟨j, hjN⟩ : ∃ j, j = (ng + k) % m := ⟨_, rfl⟩
      have hj : ((ng : Int) + (k : Int)) % (m : Int) = (j : Int) := by rw [hjN]; push_cast; rfl
      have hjm : j < m := by rw [hjN]; exact Nat.mod_lt _ (by omega)
      have hjmi : (j : Int) < (m : Int) := by omega
      have hj0 : (0 : Int) ≤ (j : Int) := by omega
      have hjl : j < l.length := by rw [← Hm.out]; exact hjm
      obtain ⟨b', off', Ak, ck, A2k, c2k, he, hbb, hx0⟩ := HI.out.at_ hjl
      cases he
      have hx := (hx0.keep (w' := wr) hbb (fun p hp => hB.cell hp)).more hB.size
      obtain ⟨q0, q1, q2, q3, q4, q5, q6, _, _⟩ := hx
      have hR := HWo.out.ok j hjl
      have hix := HWo.out.ix j hjl
      have hsm := Hs.out.2 j hjl
      have hst : frm l ng nb j = if k = 0 then nb else (cyN l j).ro.toNat := by
        have := frm_first (l := l) (ng := ng) (nb := nb) (k := k) (by rw [← Hm.out]; omega) (by rw [← Hm.out]; exact hlt)
        rw [← Hm.out, ← hjN] at this; exact this
      have hU0 := hx0.us
      have hV0 := hx0.is
      have hwl := HWo.out.n2
      have HHas : Hid (∀ W (q : Int), Below w.heap.size w W → Calls Try.prog 57 #[.slice Ak (cyN l j).us.length ck, .int .i64 q] W fun e w' => e = .returned (.bool ((cyN l j).us.contains q)) ∧ W = w') := fun W q hW => refhas_any Ak ck _ (cyN l j).us q rfl W (by have := hsm.1; omega) (hU0.next hW)
      have HWith : Hid (∀ W (q : Int), Below w.heap.size w W → (cyN l j).us.contains q = false → Calls Try.prog 58 #[.slice Ak (cyN l j).us.length ck, .int .i64 q] W (IntsSays W (withI (cyN l j).us q))) := fun W q hW hq => refwith_any Ak ck _ (cyN l j).us q rfl W (by have := hsm.1; omega) hR.us.2 (fun h => by rw [List.contains_iff_mem.2 h] at hq; cases hq) (hU0.next hW)
      have HSet : Hid (∀ W (q : Nat) A' c', Below w.heap.size w W → Ints W W.heap.size A' (withI (cyN l j).us q) → Calls Try.prog 59 #[.slice (some ⟨gb, goff, none⟩) m c, ({ (cyN l j) with us := withI (cyN l j).us q, ro := ((q : Int) + 1) % (cyN l j).bl } : Cy).v A' c' A2k c2k] W (SetFar W (l.set j (useC (cyN l j) q)))) := fun W q A' c' hW hA => by
        have := refset_far (some ⟨gb, goff, none⟩) c m l { (cyN l j) with us := withI (cyN l j).us q, ro := ((q : Int) + 1) % (cyN l j).bl } A' c' A2k c2k j Hm.out W Hs.out (HI.out.next hW) ⟨by simp only [length_withI]; have := rise_len hR.us (by have := hR.bl.1; omega); have := hR.bl.2; omega, hsm.2⟩ hix hjl hR.bl hA (hV0.next hW)
        rw [rec_use hR] at this; exact this
      obtain ⟨f, hf⟩ : ∃ f, f = frm l ng nb j := ⟨_, rfl⟩
      have HStep : Hid (∀ t : Nat, t < (cyN l j).bl.toNat → (∀ y ∈ wayT (cyN l j).bl.toNat f t, (cyN l j).us.contains ((y : Nat) : Int) = true) → ∀ bb : Nat, bb = (f + t) % (cyN l j).bl.toNat → (cyN l j).us.contains ((bb : Nat) : Int) = false → takeG l ng nb = ⟨l.set j (useC (cyN l j) bb), j, bb, 0⟩) := fun t ht hp bb hbb hb => by
        have h1 := freeAt_some ht hp (by rw [← hbb]; exact hb)
        have h2 : takeAt l ng nb = some ((ng + k) % l.length, bb) := takeAt_step (by rw [← Hm.out]; exact hlt) (by rw [← Hm.out]; exact Hno.out) (by rw [← Hm.out, ← hjN, ← hf, h1, ← hbb])
        unfold takeG
        rw [h2, ← Hm.out, ← hjN]
      have HNone : Hid ((∀ y ∈ wayT (cyN l j).bl.toNat f (cyN l j).bl.toNat, (cyN l j).us.contains ((y : Nat) : Int) = true) → ∀ g ∈ wayT m ng (k + 1), freeAt (cyN l g) (frm l ng nb g) = none) := fun hp g hg => by
        rw [wayT_succ, List.mem_append, List.mem_singleton, ← hjN] at hg
        rcases hg with hg | rfl
        · exact Hno.out g hg
        · rw [← hf]; exact freeAt_none hp
      have hfB : (f : Int) < (cyN l j).bl := by
        rw [hf, hst]
        split
        · rename_i h0
          subst h0
          rw [Nat.add_zero, Nat.mod_eq_of_lt (by omega)] at hjN
          subst hjN
          rw [← Hbl.out]; exact hb
        · have := hR.ro; omega
      have hf0 : k = 0 → f = nb := fun h0 => by rw [hf, hst, if_pos h0]
      have hf1 : k ≠ 0 → (cyN l j).ro = (f : Int) := fun h0 => by rw [hf, hst, if_neg h0]; have := hR.ro.1; omega
      obtain ⟨x, hxx⟩ : ∃ x, x = cyN l j := ⟨_, rfl⟩
      have hbl := hR.bl
      have hro := hR.ro
      rw [← hxx] at q0 q1 q2 q3 q4 q5 q6 HHas HWith HSet HStep HNone hfB hf1 hix hsm hbl hro
      clear hxx hU0 hV0 hx0 hR hst hf hno hX hB hjl hwl hjN
      obtain ⟨ix, bl, fb, fi, ro, us, is⟩ := x
      simp only at q0 q1 q2 q3 q4 q5 q6 HHas HWith HSet HStep HNone hfB hf1 hix hsm hbl hro
      obtain ⟨B, rfl⟩ : ∃ B : Nat, bl = (B : Int) := ⟨bl.toNat, by omega⟩
      obtain ⟨R, rfl⟩ : ∃ R : Nat, ro = (R : Int) := ⟨ro.toNat, by omega⟩
      rw [Int.toNat_natCast] at HStep HNone
      unfold Cy.v at HSet
      simp only at HSet
      subst hix
      have hsm1 := hsm.1
      obtain ⟨n1, hn1⟩ : ∃ n1, n1 = us.length := ⟨_, rfl⟩
      have Hn1 := Lib.hid hn1
      generalize is.length = n2 at q6 HSet
      rw [← hn1] at q5 HHas HWith
      have hB1 : 1 ≤ (B : Int) := hbl.1
      have hB2 : (B : Int) ≤ 64 := hbl.2
      have hBpos : (0 : Int) < (B : Int) := by omega
      have hfBn : f < B := by omega
      have hR0 : (0 : Int) ≤ (R : Int) := by omega
      have hf00 : (0 : Int) ≤ (f : Int) := by omega
      have hblt : gb < wr.heap.size := by omega
      clear hbl hro hn1 hsm
      have HBx : Hid (Blk (wr.alloc (.cells #[.int .i64 (j : Int), .int .i64 (B : Int), .int .i64 fb, .int .i64 fi, .int .i64 (R : Int), .slice Ak n1 ck, .slice A2k n2 c2k] 24)) wr.heap.size 24 #[.int .i64 (j : Int), .int .i64 (B : Int), .int .i64 fb, .int .i64 fi, .int .i64 (R : Int), .slice Ak n1 ck, .slice A2k n2 c2k]) := Go.heap_alloc_new wr _
      have HBa : Hid (Below wr.heap.size wr (wr.alloc (.cells #[.int .i64 (j : Int), .int .i64 (B : Int), .int .i64 fb, .int .i64 fi, .int .i64 (R : Int), .slice Ak n1 ck, .slice A2k n2 c2k] 24))) := (Below.refl _ wr).alloc (Nat.le_refl _) _
      by_cases hkz : k = 0
      · obtain rfl := (hf0 hkz).symm
        have hkb : ((k : Int) == 0) = true := beq_iff_eq.2 (by omega)
        have hkd : decide ((k : Int) = 0) = true := decide_eq_true (by omega)
        have hkd2 : decide (k = 0) = true := decide_eq_true hkz
        clear hf1 hkz
        go_wp2_with fail
        go_loopw [10] (fun i W => ∃ t : Nat, t ≤ B ∧ i = .int .i64 t ∧ (∀ y ∈ wayT B nb t, us.contains ((y : Nat) : Int) = true) ∧ Blk W wr.heap.size 24 #[.int .i64 (j : Int), .int .i64 (B : Int), .int .i64 fb, .int .i64 fi, .int .i64 (R : Int), .slice Ak n1 ck, .slice A2k n2 c2k] ∧ Box2 w ng nb W ∧ Below w.heap.size w W) (fun i _ => B - (intOf i).toNat)
        case atStart => exact ⟨0, Nat.zero_le _, rfl, (fun y hy => by simp [wayT] at hy), HBx.out, HXr.out.keep HBa.out, HBr.out.trans (HBa.out.mono hsz)⟩
        case round =>
          obtain ⟨t, ht, rfl, hway, hblk, hX, hB⟩ := hrel
          rename World => W
          have Hway := Lib.hid hway
          have HXw := Lib.hid hX
          have HBw := Lib.hid hB
          have Hblk := Lib.hid hblk
          have hswW : wr.heap.size < W.heap.size := lt_heap hblk
          have ht0 : (0 : Int) ≤ (t : Int) := by omega
          obtain ⟨v0, v1, v2, v3, v4, v5, v6⟩ := seven hblk
          clear hway hX hB hblk
          by_cases htl : t < B
          · have htli : (t : Int) < (B : Int) := by omega
            obtain ⟨bb, hbN⟩ : ∃ bb, bb = (nb + t) % B := ⟨_, rfl⟩
            have hbI : ((nb : Int) + (t : Int)) % (B : Int) = (bb : Int) := by rw [hbN]; push_cast; rfl
            have hbB : bb < B := by rw [hbN]; exact Nat.mod_lt _ (by omega)
            have hbBi : (bb : Int) < (B : Int) := by omega
            have hb0 : (0 : Int) ≤ (bb : Int) := by omega
            have HH := Lib.hid (HHas.out W (bb : Int) HBw.out)
            have Hsu : Hid (wayT B nb (t + 1) = wayT B nb t ++ [bb]) := by unfold Hid; rw [wayT_succ, hbN]
            by_cases hc : us.contains (bb : Int) = true
            · rw [hc] at HH
              have Hc : Hid (∀ y ∈ wayT B nb (t + 1), us.contains ((y : Nat) : Int) = true) := fun y hy => by
                rw [Hsu.out, List.mem_append, List.mem_singleton] at hy
                rcases hy with hy | rfl
                · exact Hway.out y hy
                · exact hc
              clear hc hbN
              go_wp2_with fail
              refine HH.out.mono ?_
              rintro e W2 ⟨rfl, rfl⟩
              go_wp2_with fail
              go_roundw
              case rel => exact ⟨t + 1, by omega, by go_num, Hc.out, Hblk.out, HXw.out, HBw.out⟩
              case measure => simp [intOf]; omega
            · have hc' : us.contains (bb : Int) = false := by simpa using hc
              rw [hc'] at HH
              have Hw := Lib.hid (HWith.out W (bb : Int) HBw.out hc')
              have Hfin := Lib.hid (HStep.out t htl Hway.out bb hbN hc')
              clear hc hc' hbN
              go_wp2_with fail
              refine HH.out.mono ?_
              rintro e W2 ⟨rfl, rfl⟩
              go_wp2_with fail
              refine Hw.out.mono ?_
              rintro e w4 ⟨A', c', rfl, hr, hB4⟩
              have h4 := (hB4.block _ hswW).trans Hblk.out
              have hB4w := HBw.out.trans (hB4.mono (by have := HBw.out.size; omega))
              have hz4 : W.heap.size ≤ w4.heap.size := hB4.size
              have HX4 := Lib.hid (HXw.out.keep hB4)
              clear v0 v1 v2 v3 v4 v5 v6
              obtain ⟨v0, v1, v2, v3, v4, v5, v6⟩ := seven h4
              have g4 := frozen_of_row w4 _ 4 _ 24 h4
              have g5 := frozen_of_row w4 _ 5 _ 24 h4
              have Hr := Lib.hid hr
              have HB4 := Lib.hid hB4w
              have H4 := Lib.hid h4
              have hlen : (withI us (bb : Int)).length = n1 + 1 := by rw [length_withI, Hn1.out]
              rw [hlen]
              have Hlen := Lib.hid hlen
              clear hr hB4w h4 hB4 hlen
              go_wp2_with fail
              have hk5 : Kept w4 ((w4.setCell ⟨wr.heap.size, 5, none⟩ (.slice A' (n1 + 1) c')).setCell ⟨wr.heap.size, 4, none⟩ (.int .i64 (((bb : Int) + 1) % (B : Int)))) (fun b => b = wr.heap.size) := ((Kept.refl w4 (fun b => b = wr.heap.size)).set (.inl rfl)).set (.inl rfl)
              have h5 := set_heap (set_heap H4.out (o := 5) (.slice A' (n1 + 1) c')) (o := 4) (.int .i64 (((bb : Int) + 1) % (B : Int)))
              simp only [List.setIfInBounds_toArray, List.set_cons_succ, List.set_cons_zero] at h5
              generalize (w4.setCell ⟨wr.heap.size, 5, none⟩ (.slice A' (n1 + 1) c')).setCell ⟨wr.heap.size, 4, none⟩ (.int .i64 (((bb : Int) + 1) % (B : Int))) = w5 at hk5 h5 ⊢
              have hB5 : Below w.heap.size w w5 := HB4.out.trans (hk5.below (fun b q => by omega) (by have := HB4.out.size; omega))
              have hI5 : Ints w5 w5.heap.size A' (withI us (bb : Int)) := (Hr.out.keep hk5 (fun b q r => by have := (Hr.out.lt q).1; omega)).ints
              have hb3 : Blk w5 (w.heap.size + 1) 41 #[.int .i64 0, .int .i64 0] := HX4.out.b3.keep hk5 (by omega)
              have hsz5 := hk5.size
              have X5 : Hid (w5.cell? ⟨wr.heap.size, 0, none⟩ = some (.int .i64 (j : Int)) ∧ w5.cell? ⟨wr.heap.size, 1, none⟩ = some (.int .i64 (B : Int)) ∧ w5.cell? ⟨wr.heap.size, 2, none⟩ = some (.int .i64 fb) ∧ w5.cell? ⟨wr.heap.size, 3, none⟩ = some (.int .i64 fi) ∧ w5.cell? ⟨wr.heap.size, 4, none⟩ = some (.int .i64 (((bb : Int) + 1) % (B : Int))) ∧ w5.cell? ⟨wr.heap.size, 5, none⟩ = some (.slice A' (n1 + 1) c') ∧ w5.cell? ⟨wr.heap.size, 6, none⟩ = some (.slice A2k n2 c2k)) := seven h5
              have HS5 := Lib.hid (HSet.out w5.drew bb A' c' hB5.drew hI5)
              rw [Hlen.out] at HS5
              have H5 := Lib.hid h5
              have HB5 := Lib.hid hB5
              have Hb3 := Lib.hid hb3
              have hne3 : wr.heap.size ≠ w.heap.size + 1 := by omega
              have hlt5 : wr.heap.size < w5.heap.size := by omega
              clear v0 v1 v2 v3 v4 v5 v6 g4 g5 hk5 h5 hB5 hI5 hb3
              go_wp2_with fail
              go_region_held3 (fun W => W.cell? ⟨wr.heap.size, 0, none⟩ = some (.int .i64 (j : Int)) ∧ W.cell? ⟨wr.heap.size, 1, none⟩ = some (.int .i64 (B : Int)) ∧ W.cell? ⟨wr.heap.size, 2, none⟩ = some (.int .i64 fb) ∧ W.cell? ⟨wr.heap.size, 3, none⟩ = some (.int .i64 fi) ∧ W.cell? ⟨wr.heap.size, 4, none⟩ = some (.int .i64 (((bb : Int) + 1) % (B : Int))) ∧ W.cell? ⟨wr.heap.size, 5, none⟩ = some (.slice A' (n1 + 1) c') ∧ W.cell? ⟨wr.heap.size, 6, none⟩ = some (.slice A2k n2 c2k)) (first | exact X5.out | exact X6.out | (with_reducible exact seven ((set_other hne3 _).trans ((set_other hne3 _).trans H6.out))) | go_keep)
                (first | (go_at_call 59; (with_reducible refine HS5.out.mono ?_); rintro e w6 ⟨A6, c6, rfl, hC6, hB6⟩; have hB60 : Below w5.heap.size w5 w6 := ⟨hB6.os, hB6.tape, hB6.output, hB6.size, hB6.block⟩; have H6 := Lib.hid ((hB60.block _ hlt5).trans H5.out); have X6 : Hid (w6.cell? ⟨wr.heap.size, 0, none⟩ = some (.int .i64 (j : Int)) ∧ w6.cell? ⟨wr.heap.size, 1, none⟩ = some (.int .i64 (B : Int)) ∧ w6.cell? ⟨wr.heap.size, 2, none⟩ = some (.int .i64 fb) ∧ w6.cell? ⟨wr.heap.size, 3, none⟩ = some (.int .i64 fi) ∧ w6.cell? ⟨wr.heap.size, 4, none⟩ = some (.int .i64 (((bb : Int) + 1) % (B : Int))) ∧ w6.cell? ⟨wr.heap.size, 5, none⟩ = some (.slice A' (n1 + 1) c') ∧ w6.cell? ⟨wr.heap.size, 6, none⟩ = some (.slice A2k n2 c2k)) := seven H6.out; have h3 := (hB60.block (w.heap.size + 1) (by omega)).trans Hb3.out; have d30 := cellAt_of h3 0; have d31 := cellAt_of h3 1; have f30 := frozen_of_row w6 _ 0 _ 41 h3; have f31 := frozen_of_row w6 _ 1 _ 41 h3; simp only [List.getElem?_toArray, List.getElem?_cons_zero, List.getElem?_cons_succ] at d30 d31; have hz6 : w5.heap.size ≤ w6.heap.size := hB60.size; have HC6 := Lib.hid hC6; have HB6 := Lib.hid (HB5.out.trans (hB60.mono HB5.out.size)); clear hC6 hB6 hB60 h3))
              all_goals
                go_wp2_with fail
                have hk6 : Kept w6 ((w6.setCell ⟨w.heap.size + 1, 0, none⟩ (.int .i64 (j : Int))).setCell ⟨w.heap.size + 1, 1, none⟩ (.int .i64 (bb : Int))) (fun b => b = w.heap.size + 1) := ((Kept.refl w6 (fun b => b = w.heap.size + 1)).set (.inl rfl)).set (.inl rfl)
                refine bodyPost_ret (v := .tuple #[.slice A6 (l.set j (useC ⟨j, B, fb, fi, R, us, is⟩ bb)).length c6, .agg #[.int .i64 (j : Int), .int .i64 (bb : Int)], .int .i64 0]) (by simp [results, Try.results27, go_sem, d30, d31]) rfl (HQ.out _ _ ?_)
                rw [Hfin.out]
                exact ⟨A6, c6, rfl, (fun w2 h2 => HC6.out _ ((hk6.more (S' := fun b => b < w5.drew.heap.size) (fun b q => .inl (by show b < w5.heap.size; omega))).trans h2 (fun b q => .inl (by have q' : b < w.heap.size := q; show b < w5.heap.size; omega)))), HB6.out.trans (hk6.below (fun b q => by omega) (by have := HB6.out.size; omega))⟩
          · have htli : ¬ (t : Int) < (B : Int) := by omega
            obtain rfl : t = B := by omega
            have Hnn := Lib.hid (HNone.out Hway.out)
            go_wp2_with fail
            go_roundw
            case rel => exact ⟨k + 1, by omega, by go_num, Hnn.out, HXw.out, HBw.out⟩
            case measure => simp [intOf]; omega
      · have hRf : R = f := by have := hf1 hkz; omega
        subst hRf
        have hkb : ((k : Int) == 0) = false := beq_eq_false_iff_ne.2 (by omega)
        have hkz' : ¬ (k : Int) = 0 := by omega
        go_wp2_with fail
        go_loopw [10] (fun i W => ∃ t : Nat, t ≤ B ∧ i = .int .i64 t ∧ (∀ y ∈ wayT B R t, us.contains ((y : Nat) : Int) = true) ∧ Blk W wr.heap.size 24 #[.int .i64 (j : Int), .int .i64 (B : Int), .int .i64 fb, .int .i64 fi, .int .i64 (R : Int), .slice Ak n1 ck, .slice A2k n2 c2k] ∧ Box2 w ng nb W ∧ Below w.heap.size w W) (fun i _ => B - (intOf i).toNat)
        case atStart => exact ⟨0, Nat.zero_le _, rfl, (fun y hy => by simp [wayT] at hy), HBx.out, HXr.out.keep HBa.out, HBr.out.trans (HBa.out.mono hsz)⟩
        case round =>
          obtain ⟨t, ht, rfl, hway, hblk, hX, hB⟩ := hrel
          rename World => W
          have Hway := Lib.hid hway
          have HXw := Lib.hid hX
          have HBw := Lib.hid hB
          have Hblk := Lib.hid hblk
          have hswW : wr.heap.size < W.heap.size := lt_heap hblk
          have ht0 : (0 : Int) ≤ (t : Int) := by omega
          obtain ⟨v0, v1, v2, v3, v4, v5, v6⟩ := seven hblk
          clear hway hX hB hblk
          by_cases htl : t < B
          · have htli : (t : Int) < (B : Int) := by omega
            obtain ⟨bb, hbN⟩ : ∃ bb, bb = (R + t) % B := ⟨_, rfl⟩
            have hbI : ((R : Int) + (t : Int)) % (B : Int) = (bb : Int) := by rw [hbN]; push_cast; rfl
            have hbB : bb < B := by rw [hbN]; exact Nat.mod_lt _ (by omega)
            have hbBi : (bb : Int) < (B : Int) := by omega
            have hb0 : (0 : Int) ≤ (bb : Int) := by omega
            have HH := Lib.hid (HHas.out W (bb : Int) HBw.out)
            have Hsu : Hid (wayT B R (t + 1) = wayT B R t ++ [bb]) := by unfold Hid; rw [wayT_succ, hbN]
            by_cases hc : us.contains (bb : Int) = true
            · rw [hc] at HH
              have Hc : Hid (∀ y ∈ wayT B R (t + 1), us.contains ((y : Nat) : Int) = true) := fun y hy => by
                rw [Hsu.out, List.mem_append, List.mem_singleton] at hy
                rcases hy with hy | rfl
                · exact Hway.out y hy
                · exact hc
              clear hc hbN
              go_wp2_with fail
              refine HH.out.mono ?_
              rintro e W2 ⟨rfl, rfl⟩
              go_wp2_with fail
              go_roundw
              case rel => exact ⟨t + 1, by omega, by go_num, Hc.out, Hblk.out, HXw.out, HBw.out⟩
              case measure => simp [intOf]; omega
            · have hc' : us.contains (bb : Int) = false := by simpa using hc
              rw [hc'] at HH
              have Hw := Lib.hid (HWith.out W (bb : Int) HBw.out hc')
              have Hfin := Lib.hid (HStep.out t htl Hway.out bb hbN hc')
              clear hc hc' hbN
              go_wp2_with fail
              refine HH.out.mono ?_
              rintro e W2 ⟨rfl, rfl⟩
              go_wp2_with fail
              refine Hw.out.mono ?_
              rintro e w4 ⟨A', c', rfl, hr, hB4⟩
              have h4 := (hB4.block _ hswW).trans Hblk.out
              have hB4w := HBw.out.trans (hB4.mono (by have := HBw.out.size; omega))
              have hz4 : W.heap.size ≤ w4.heap.size := hB4.size
              have HX4 := Lib.hid (HXw.out.keep hB4)
              clear v0 v1 v2 v3 v4 v5 v6
              obtain ⟨v0, v1, v2, v3, v4, v5, v6⟩ := seven h4
              have g4 := frozen_of_row w4 _ 4 _ 24 h4
              have g5 := frozen_of_row w4 _ 5 _ 24 h4
              have Hr := Lib.hid hr
              have HB4 := Lib.hid hB4w
              have H4 := Lib.hid h4
              have hlen : (withI us (bb : Int)).length = n1 + 1 := by rw [length_withI, Hn1.out]
              rw [hlen]
              have Hlen := Lib.hid hlen
              clear hr hB4w h4 hB4 hlen
              go_wp2_with fail
              have hk5 : Kept w4 ((w4.setCell ⟨wr.heap.size, 5, none⟩ (.slice A' (n1 + 1) c')).setCell ⟨wr.heap.size, 4, none⟩ (.int .i64 (((bb : Int) + 1) % (B : Int)))) (fun b => b = wr.heap.size) := ((Kept.refl w4 (fun b => b = wr.heap.size)).set (.inl rfl)).set (.inl rfl)
              have h5 := set_heap (set_heap H4.out (o := 5) (.slice A' (n1 + 1) c')) (o := 4) (.int .i64 (((bb : Int) + 1) % (B : Int)))
              simp only [List.setIfInBounds_toArray, List.set_cons_succ, List.set_cons_zero] at h5
              generalize (w4.setCell ⟨wr.heap.size, 5, none⟩ (.slice A' (n1 + 1) c')).setCell ⟨wr.heap.size, 4, none⟩ (.int .i64 (((bb : Int) + 1) % (B : Int))) = w5 at hk5 h5 ⊢
              have hB5 : Below w.heap.size w w5 := HB4.out.trans (hk5.below (fun b q => by omega) (by have := HB4.out.size; omega))
              have hI5 : Ints w5 w5.heap.size A' (withI us (bb : Int)) := (Hr.out.keep hk5 (fun b q r => by have := (Hr.out.lt q).1; omega)).ints
              have hb3 : Blk w5 (w.heap.size + 1) 41 #[.int .i64 0, .int .i64 0] := HX4.out.b3.keep hk5 (by omega)
              have hsz5 := hk5.size
              have X5 : Hid (w5.cell? ⟨wr.heap.size, 0, none⟩ = some (.int .i64 (j : Int)) ∧ w5.cell? ⟨wr.heap.size, 1, none⟩ = some (.int .i64 (B : Int)) ∧ w5.cell? ⟨wr.heap.size, 2, none⟩ = some (.int .i64 fb) ∧ w5.cell? ⟨wr.heap.size, 3, none⟩ = some (.int .i64 fi) ∧ w5.cell? ⟨wr.heap.size, 4, none⟩ = some (.int .i64 (((bb : Int) + 1) % (B : Int))) ∧ w5.cell? ⟨wr.heap.size, 5, none⟩ = some (.slice A' (n1 + 1) c') ∧ w5.cell? ⟨wr.heap.size, 6, none⟩ = some (.slice A2k n2 c2k)) := seven h5
              have HS5 := Lib.hid (HSet.out w5.drew bb A' c' hB5.drew hI5)
              rw [Hlen.out] at HS5
              have H5 := Lib.hid h5
              have HB5 := Lib.hid hB5
              have Hb3 := Lib.hid hb3
              have hne3 : wr.heap.size ≠ w.heap.size + 1 := by omega
              have hlt5 : wr.heap.size < w5.heap.size := by omega
              clear v0 v1 v2 v3 v4 v5 v6 g4 g5 hk5 h5 hB5 hI5 hb3
              go_wp2_with fail
              go_region_held3 (fun W => W.cell? ⟨wr.heap.size, 0, none⟩ = some (.int .i64 (j : Int)) ∧ W.cell? ⟨wr.heap.size, 1, none⟩ = some (.int .i64 (B : Int)) ∧ W.cell? ⟨wr.heap.size, 2, none⟩ = some (.int .i64 fb) ∧ W.cell? ⟨wr.heap.size, 3, none⟩ = some (.int .i64 fi) ∧ W.cell? ⟨wr.heap.size, 4, none⟩ = some (.int .i64 (((bb : Int) + 1) % (B : Int))) ∧ W.cell? ⟨wr.heap.size, 5, none⟩ = some (.slice A' (n1 + 1) c') ∧ W.cell? ⟨wr.heap.size, 6, none⟩ = some (.slice A2k n2 c2k)) (first | exact X5.out | exact X6.out | (with_reducible exact seven ((set_other hne3 _).trans ((set_other hne3 _).trans H6.out))) | go_keep)
                (first | (go_at_call 59; (with_reducible refine HS5.out.mono ?_); rintro e w6 ⟨A6, c6, rfl, hC6, hB6⟩; have hB60 : Below w5.heap.size w5 w6 := ⟨hB6.os, hB6.tape, hB6.output, hB6.size, hB6.block⟩; have H6 := Lib.hid ((hB60.block _ hlt5).trans H5.out); have X6 : Hid (w6.cell? ⟨wr.heap.size, 0, none⟩ = some (.int .i64 (j : Int)) ∧ w6.cell? ⟨wr.heap.size, 1, none⟩ = some (.int .i64 (B : Int)) ∧ w6.cell? ⟨wr.heap.size, 2, none⟩ = some (.int .i64 fb) ∧ w6.cell? ⟨wr.heap.size, 3, none⟩ = some (.int .i64 fi) ∧ w6.cell? ⟨wr.heap.size, 4, none⟩ = some (.int .i64 (((bb : Int) + 1) % (B : Int))) ∧ w6.cell? ⟨wr.heap.size, 5, none⟩ = some (.slice A' (n1 + 1) c') ∧ w6.cell? ⟨wr.heap.size, 6, none⟩ = some (.slice A2k n2 c2k)) := seven H6.out; have h3 := (hB60.block (w.heap.size + 1) (by omega)).trans Hb3.out; have d30 := cellAt_of h3 0; have d31 := cellAt_of h3 1; have f30 := frozen_of_row w6 _ 0 _ 41 h3; have f31 := frozen_of_row w6 _ 1 _ 41 h3; simp only [List.getElem?_toArray, List.getElem?_cons_zero, List.getElem?_cons_succ] at d30 d31; have hz6 : w5.heap.size ≤ w6.heap.size := hB60.size; have HC6 := Lib.hid hC6; have HB6 := Lib.hid (HB5.out.trans (hB60.mono HB5.out.size)); clear hC6 hB6 hB60 h3))
              all_goals
                go_wp2_with fail
                have hk6 : Kept w6 ((w6.setCell ⟨w.heap.size + 1, 0, none⟩ (.int .i64 (j : Int))).setCell ⟨w.heap.size + 1, 1, none⟩ (.int .i64 (bb : Int))) (fun b => b = w.heap.size + 1) := ((Kept.refl w6 (fun b => b = w.heap.size + 1)).set (.inl rfl)).set (.inl rfl)
                refine bodyPost_ret (v := .tuple #[.slice A6 (l.set j (useC ⟨j, B, fb, fi, R, us, is⟩ bb)).length c6, .agg #[.int .i64 (j : Int), .int .i64 (bb : Int)], .int .i64 0]) (by simp [results, Try.results27, go_sem, d30, d31]) rfl (HQ.out _ _ ?_)
                rw [Hfin.out]
                exact ⟨A6, c6, rfl, (fun w2 h2 => HC6.out _ ((hk6.more (S' := fun b => b < w5.drew.heap.size) (fun b q => .inl (by show b < w5.heap.size; omega))).trans h2 (fun b q => .inl (by have q' : b < w.heap.size := q; show b < w5.heap.size; omega)))), HB6.out.trans (hk6.below (fun b q => by omega) (by have := HB6.out.size; omega))⟩
          · have htli : ¬ (t : Int) < (B : Int) := by omega
            obtain rfl : t = B := by omega
            have Hnn := Lib.hid (HNone.out Hway.out)
            go_wp2_with fail
            go_roundw
            case rel => exact ⟨k + 1, by omega, by go_num, Hnn.out, HXw.out, HBw.out⟩
            case measure => simp [intOf]; omega
    · have hlti : ¬ (k : Int) < (m : Int) := by omega
      obtain rfl : k = m := by omega
      have Hfin : Hid (takeG l ng nb = ⟨[], 0, 0, 4⟩) := takeAt_none (by rw [← Hm.out]; omega) (by rw [← Hm.out]; exact Hno.out)
      have d30 := cellAt_of hX.b3 0
      have d31 := cellAt_of hX.b3 1
      simp only [List.getElem?_toArray, List.getElem?_cons_zero, List.getElem?_cons_succ] at d30 d31
      have f30 := frozen_of_row wr _ 0 _ 41 hX.b3
      have f31 := frozen_of_row wr _ 1 _ 41 hX.b3
      clear hX hB hno
      go_wp2_with fail
      refine bodyPost_ret (v := .tuple #[.slice none 0 0, .agg #[.int .i64 0, .int .i64 0], .int .i64 4]) (by simp [results, Try.results27, go_sem, d30, d31]) rfl (HQ.out _ _ ?_)
      rw [Hfin.out]
      exact ⟨none, 0, rfl, (fun _ _ => Cyls.nil), (HBr.out.setCell (p := ⟨w.heap.size + 1, 0, none⟩) (by dsimp only; omega) _).setCell (p := ⟨w.heap.size + 1, 1, none⟩) (by dsimp only; omega) _⟩
end Go.Proofs.Ytpcindemkkdbbaa
