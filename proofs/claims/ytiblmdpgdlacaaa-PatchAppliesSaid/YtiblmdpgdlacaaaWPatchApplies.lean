/- PatchApplies is true of every bytes and patch, and leaves its arguments as they are. Conditions: none. Here: the walk of the law's text. -/
import Derived.Test.YtiblmdpgdlacaaaR
namespace Go.Proofs.Ytiblmdpgdlacaaa.patchApplies
open Go.RowKit

/-- what stands while nothing older turns -/
def Fm (w : World) (p q : Pt) (g1 g2 : Nat) (l m : List Int) (a A1 A2 A3 : Option Addr) (W : World) : Prop :=
  Below w.heap.size w W ∧ Boxed W w.heap.size p ∧ Boxed W g1 q ∧ Boxed W g2 q ∧ Bts W W.heap.size a l ∧ Bts W W.heap.size A1 l ∧ Bts W W.heap.size A2 m ∧ Bts W W.heap.size A3 m
theorem Fm.next {w : World} {p q : Pt} {g1 g2 : Nat} {l m : List Int} {a A1 A2 A3 : Option Addr} {W W' : World} (h : Fm w p q g1 g2 l m a A1 A2 A3 W) (hB : Below W.heap.size W W') : Fm w p q g1 g2 l m a A1 A2 A3 W' := by
  obtain ⟨h1, h2, h3, h4, h5, h6, h7, h8⟩ := h
  exact ⟨h1.trans (hB.mono h1.size), h2.below hB (BlkIs.lt h2), h3.below hB (BlkIs.lt h3), h4.below hB (BlkIs.lt h4), (h5.below hB).more hB.size, (h6.below hB).more hB.size, (h7.below hB).more hB.size, (h8.below hB).more hB.size⟩
theorem Fm.drew {w : World} {p q : Pt} {g1 g2 : Nat} {l m : List Int} {a A1 A2 A3 : Option Addr} {W : World} (h : Fm w p q g1 g2 l m a A1 A2 A3 W) : Fm w p q g1 g2 l m a A1 A2 A3 W.drew := ⟨h.1.drew, h.2⟩
/-- a copy by append keeps what is older -/
theorem copied {w1 w2 : World} {v : Value} {l : List Int} (hl : AllB l) (hown : w2.ownsRow w1.heap.size 5 1 v (0 + l.length) ([] ++ bytesV l)) : ∃ A c, v = .slice A l.length c ∧ l.length ≤ c ∧ c ≤ maxLen ∧ Bts w2 w2.heap.size A l := by
  have : OwnB w2 w1.heap.size v l := by unfold OwnB; simpa using hown
  exact this.form hl

set_option maxRecDepth 100000 in
set_option linter.unusedSimpArgs false in
set_option maxHeartbeats 4000000 in
theorem walk (a : Option Addr) (len cap : Nat) (z : List Int) (p : Pt) (w : World) (h0 : IsRow .u8 w a len cap z) (hp : p.ok) :
    Calls Try.prog 3 #[.slice a len cap, p.v] w fun e w' => e = .returned (.bool true) ∧ Below w.heap.size w w' := by
  obtain ⟨l, hl, hc1, hc2, hb⟩ := few_row h0
  have F := Lib.hid (fun W => few_any a len cap W hc1 hc2)
  rw [← hl] at F
  have hlc : l.length ≤ cap := by omega
  have hl40 : l.length ≤ 40 := by omega
  have C1 := Lib.hid (fun W A c (h : Bts W W.heap.size A l) => apply_uni (c := c) h rfl hp)
  have C2 := Lib.hid (fun W A c (h : Bts W W.heap.size A l) => refapply_uni (c := c) h rfl hp)
  have C3 := Lib.hid (fun W A c (h : Bts W W.heap.size A l) (hc : l.length ≤ c) => undo_uni (c := c) h rfl hc hp)
  have C4 := Lib.hid (fun W A c (h : Bts W W.heap.size A l) (hc : l.length ≤ c) => refundo_uni (c := c) h rfl hc hp)
  have C5 := Lib.hid (fun W A c (h : Bts W W.heap.size A l) (hc : l.length ≤ c) => idle_uni (c := c) h rfl hc hp)
  have C6 := Lib.hid (fun W A c (h : Bts W W.heap.size A l) => refidle_uni (c := c) h rfl hp)
  have C7 := Lib.hid (fun W => right_any p W hp)
  have C8 := Lib.hid (fun W => refright_any p W hp)
  have HA := Lib.hid hb.1
  have t0 : St1 w p (w.alloc (.cells p.cs.toArray 24)) := St1.start w p
  have b0 : Bts (w.alloc (.cells p.cs.toArray 24)) (w.heap.size + 1) a l := (hb.below t0.1).more (by omega)
  have b00 : Bts ((w.alloc (.cells p.cs.toArray 24)).alloc (.cells #[] 5)) (w.heap.size + 1) a l := b0.below (by simpa using below_alloc1 (w.alloc (.cells p.cs.toArray 24)) (.cells #[] 5))
  have B0 := Lib.hid b0
  have B00 := Lib.hid b00
  have T0 := Lib.hid t0
  obtain ⟨r, hr⟩ : ∃ r, r = ansP l [p] := ⟨_, rfl⟩
  obtain ⟨q, hq⟩ : ∃ q, q = undoA l p := ⟨_, rfl⟩
  obtain ⟨ue, hue⟩ : ∃ ue, ue = undoE l p := ⟨_, rfl⟩
  obtain ⟨ia, hia⟩ : ∃ ia, ia = idleA l p := ⟨_, rfl⟩
  obtain ⟨pr, hpr⟩ : ∃ pr, pr = p.right := ⟨_, rfl⟩
  rw [← hr] at C1 C2
  rw [← hq, ← hue] at C3 C4
  rw [← hia] at C5 C6
  rw [← hpr] at C7 C8
  obtain ⟨n, hn⟩ : ∃ n, n = l.length := ⟨_, rfl⟩
  rw [← hn] at F C1 C2 C3 C4 C5 C6 hlc hl40
  have Hn := Lib.hid hn
  clear hr hq hue hia hpr hn hl hb h0 hp hc1 hc2 t0 b0 b00
  obtain ⟨b, o, s⟩ := p
  obtain ⟨b', o', s'⟩ := q
  unfold Pt.v at *
  simp only [Pt.cs] at B0 B00 T0
  simp only at *
  have O0 : Hid (((w.alloc (.cells #[.int .i64 b, .int .i64 o, .string s] 24)).alloc (.cells #[] 5)).ownsRow (w.heap.size + 1) 5 1 (.slice (some ⟨w.heap.size + 1, 0, none⟩) 0 0) 0 []) := by
    have := own_empty (w.alloc (.cells #[.int .i64 b, .int .i64 o, .string s] 24))
    simpa [Hid] using this
  go_enter Try.func3, Try.ntmps3
  go_wp2_with (first
    | (go_at_call 11; (with_reducible refine (F.out _).mono ?_); rintro e w' ⟨rfl, rfl⟩)
    | (at_builtin; refine wpList_append_bytes rfl (.tmp 16) (.tmp 17) rfl (w.heap.size + 1) (.slice (some ⟨w.heap.size + 1, 0, none⟩) 0 0) 0 [] rfl O0.out (w.heap.size + 1) a l cap n Hn.out rfl B00.out (by omega) (by simp) ?_))
  intro v' w1 hown hgrow
  have hg : (((w.alloc (.cells #[.int .i64 b, .int .i64 o, .string s] 24)).alloc (.cells #[] 5)).grownBy w1 (some (w.heap.size + 1))) := hgrow
  have hB1 : Below (w.heap.size + 1) (w.alloc (.cells #[.int .i64 b, .int .i64 o, .string s] 24)) w1 := by
    have := below_copy (w := w.alloc (.cells #[.int .i64 b, .int .i64 o, .string s] 24)) (by simpa using hg)
    simpa using this
  rw [Hn.out] at hown
  obtain ⟨A1, c1, rfl, hnc1, hmc1, b1⟩ := copied (w1 := w.alloc (.cells #[.int .i64 b, .int .i64 o, .string s] 24)) HA.out (by simpa using hown)
  rw [← Hn.out] at hnc1
  rw [← Hn.out]
  have T1 := Lib.hid (T0.out.next (by simpa using hB1))
  have B1 := Lib.hid b1
  have D1 := Lib.hid ((B0.out.below hB1).more (B' := w1.heap.size) (by simpa using hB1.size))
  obtain ⟨e0, e1, e2⟩ := T1.out.2.cells
  simp only at e0 e1 e2
  clear hown hgrow hg hB1 b1 hmc1
  go_wp2_with fail
  refine (C1.out _ _ _ B1.out).mono ?_
  rintro e w2 h2
  obtain ⟨hB2, A2, n2, c2, rfl, -, -, -, b2, hn2⟩ := h2.form
  have B2 := Lib.hid b2
  have N2 := Lib.hid hn2
  have T2 := Lib.hid (T1.out.next hB2)
  have D2 := Lib.hid (show Bts w2 w2.heap.size a l ∧ Bts w2 w2.heap.size A1 l from ⟨(D1.out.below hB2).more hB2.size, (B1.out.below hB2).more hB2.size⟩)
  clear hB2 h2 b2 hn2 e0 e1 e2
  obtain ⟨e0, e1, e2⟩ := T2.out.2.cells
  simp only at e0 e1 e2
  go_wp2_with fail
  refine (C2.out _ _ _ D2.out.1).mono ?_
  rintro e w3 h3
  obtain ⟨hB3, A3, n3, c3, rfl, -, -, -, b3, hn3⟩ := h3.form
  have N3 := Lib.hid hn3
  have T3 := Lib.hid (T2.out.next hB3)
  have D3 := Lib.hid (show Bts w3 w3.heap.size a l ∧ Bts w3 w3.heap.size A1 l ∧ Bts w3 w3.heap.size A2 (r.getD []) ∧ Bts w3 w3.heap.size A3 (r.getD []) from ⟨(D2.out.1.below hB3).more hB3.size, (D2.out.2.below hB3).more hB3.size, (B2.out.below hB3).more hB3.size, b3⟩)
  clear hB3 h3 b3 hn3 e0 e1 e2 D1 D2 B1 B2 T1 T2 B0 B00 T0
  obtain ⟨e0, e1, e2⟩ := T3.out.2.cells
  simp only at e0 e1 e2
  go_wp2_with fail
  refine (C3.out _ _ _ D3.out.2.1 hnc1).mono ?_
  rintro e w4 ⟨rfl, hB4⟩
  have hB4' : Below w3.heap.size w3 (w4.alloc (.cells #[.int .i64 b', .int .i64 o', .string s'] 24)) := hB4.trans ((below_alloc1 w4 _).mono hB4.size)
  have T4 := Lib.hid (T3.out.next hB4')
  have hs4 : w3.heap.size ≤ (w4.alloc (.cells #[.int .i64 b', .int .i64 o', .string s'] 24)).heap.size := hB4'.size
  have D4 := Lib.hid (show Boxed (w4.alloc (.cells #[.int .i64 b', .int .i64 o', .string s'] 24)) w4.heap.size ⟨b', o', s'⟩ ∧ Bts (w4.alloc (.cells #[.int .i64 b', .int .i64 o', .string s'] 24)) (w4.alloc (.cells #[.int .i64 b', .int .i64 o', .string s'] 24)).heap.size a l ∧ _ ∧ _ ∧ _ from ⟨boxed1 w4 ⟨b', o', s'⟩, (D3.out.1.below hB4').more hs4, (D3.out.2.1.below hB4').more hs4, (D3.out.2.2.1.below hB4').more hs4, (D3.out.2.2.2.below hB4').more hs4⟩)
  clear hB4 hB4' hs4 e0 e1 e2 D3 T3
  obtain ⟨e0, e1, e2⟩ := T4.out.2.cells
  simp only at e0 e1 e2
  go_wp2_with fail
  refine (C4.out _ _ _ D4.out.2.1 hlc).mono ?_
  rintro e w5 ⟨rfl, hB5⟩
  have hB5' : Below (w4.alloc (.cells #[.int .i64 b', .int .i64 o', .string s'] 24)).heap.size (w4.alloc (.cells #[.int .i64 b', .int .i64 o', .string s'] 24)) (w5.alloc (.cells #[.int .i64 b', .int .i64 o', .string s'] 24)) := hB5.trans ((below_alloc1 w5 _).mono hB5.size)
  have hs5 := hB5'.size
  have HS0 : Fm w ⟨b, o, s⟩ ⟨b', o', s'⟩ w4.heap.size w5.heap.size l (r.getD []) a A1 A2 A3 (w5.alloc (.cells #[.int .i64 b', .int .i64 o', .string s'] 24)) :=
    ⟨(T4.out.next hB5').1, (T4.out.next hB5').2, D4.out.1.below hB5' (BlkIs.lt D4.out.1), boxed1 w5 ⟨b', o', s'⟩, (D4.out.2.1.below hB5').more hs5, (D4.out.2.2.1.below hB5').more hs5, (D4.out.2.2.2.1.below hB5').more hs5, (D4.out.2.2.2.2.below hB5').more hs5⟩
  have HS := Lib.hid HS0.drew
  clear HS0 hB5 hB5' hs5 e0 e1 e2 D4 T4
  obtain ⟨x, hx⟩ : ∃ x, x = strOfNums (r.getD []) := ⟨_, rfl⟩
  obtain ⟨y, hy⟩ : ∃ y, y = strOfNums l := ⟨_, rfl⟩
  have HC : Hid (∀ W, Fm w ⟨b, o, s⟩ ⟨b', o', s'⟩ w4.heap.size w5.heap.size l (r.getD []) a A1 A2 A3 W → W.cell? ⟨w.heap.size, 0, none⟩ = some (.int .i64 b) ∧ W.cell? ⟨w.heap.size, 1, none⟩ = some (.int .i64 o) ∧ W.cell? ⟨w.heap.size, 2, none⟩ = some (.string s) ∧ W.cell? ⟨w4.heap.size, 0, none⟩ = some (.int .i64 b') ∧ W.cell? ⟨w4.heap.size, 1, none⟩ = some (.int .i64 o') ∧ W.cell? ⟨w4.heap.size, 2, none⟩ = some (.string s') ∧ W.cell? ⟨w5.heap.size, 0, none⟩ = some (.int .i64 b') ∧ W.cell? ⟨w5.heap.size, 1, none⟩ = some (.int .i64 o') ∧ W.cell? ⟨w5.heap.size, 2, none⟩ = some (.string s') ∧
      (convert 22 9 (.slice A2 n2 c2)).run Try.prog W = .ok (.string x) W ∧ (convert 22 9 (.slice A3 n3 c3)).run Try.prog W = .ok (.string x) W ∧ (convert 22 9 (.slice A1 n c1)).run Try.prog W = .ok (.string y) W ∧ (convert 22 9 (.slice a n cap)).run Try.prog W = .ok (.string y) W) := fun W h => by
    obtain ⟨_, h2, h3, h4, h5, h6, h7, h8⟩ := h
    obtain ⟨x0, x1, x2⟩ := h2.cells
    obtain ⟨y0, y1, y2⟩ := h3.cells
    obtain ⟨z0, z1, z2⟩ := h4.cells
    rw [hx, hy]
    exact ⟨x0, x1, x2, y0, y1, y2, z0, z1, z2, h7.text _ _ N2.out, h8.text _ _ N3.out, h6.text _ _ Hn.out, h5.text _ _ Hn.out⟩
  have HN : Hid (∀ W W', Fm w ⟨b, o, s⟩ ⟨b', o', s'⟩ w4.heap.size w5.heap.size l (r.getD []) a A1 A2 A3 W → Below W.heap.size W W' → Fm w ⟨b, o, s⟩ ⟨b', o', s'⟩ w4.heap.size w5.heap.size l (r.getD []) a A1 A2 A3 W') := fun W W' h hB => h.next hB
  have K0 : Hid (∀ W, Fm w ⟨b, o, s⟩ ⟨b', o', s'⟩ w4.heap.size w5.heap.size l (r.getD []) a A1 A2 A3 W → Calls Try.prog 16 #[] W fun e w' => e = .returned (.bool true) ∧ Below W.heap.size W w') := fun W _ => live_any W
  have K1 : Hid (∀ W, Fm w ⟨b, o, s⟩ ⟨b', o', s'⟩ w4.heap.size w5.heap.size l (r.getD []) a A1 A2 A3 W → Calls Try.prog 17 #[.slice A1 n c1, .agg #[.int .i64 b, .int .i64 o, .string s]] W fun e w' => e = .returned (.bool ia) ∧ Below W.heap.size W w') := fun W h => C5.out W A1 c1 h.2.2.2.2.2.1 hnc1
  have K2 : Hid (∀ W, Fm w ⟨b, o, s⟩ ⟨b', o', s'⟩ w4.heap.size w5.heap.size l (r.getD []) a A1 A2 A3 W → Calls Try.prog 18 #[.slice a n cap, .agg #[.int .i64 b, .int .i64 o, .string s]] W fun e w' => e = .returned (.bool ia) ∧ Below W.heap.size W w') := fun W h => C6.out W a cap h.2.2.2.2.1
  have K3 : Hid (∀ W, Fm w ⟨b, o, s⟩ ⟨b', o', s'⟩ w4.heap.size w5.heap.size l (r.getD []) a A1 A2 A3 W → Calls Try.prog 19 #[.agg #[.int .i64 b, .int .i64 o, .string s]] W fun e w' => e = .returned (.bool pr) ∧ Below W.heap.size W w') := fun W _ => C7.out W
  have K4 : Hid (∀ W, Fm w ⟨b, o, s⟩ ⟨b', o', s'⟩ w4.heap.size w5.heap.size l (r.getD []) a A1 A2 A3 W → Calls Try.prog 20 #[.agg #[.int .i64 b, .int .i64 o, .string s]] W fun e w' => e = .returned (.bool pr) ∧ Below W.heap.size W w') := fun W _ => C8.out W
  have X := Lib.hid (HC.out _ HS.out)
  clear hx hy C1 C2 C3 C4 C5 C6 C7 C8
  go_wp2_with fail
  refine wp_region_held_drew (S := (fun W =>
      W.cell? ⟨w.heap.size, 0, none⟩ = some (.int .i64 b) ∧ W.cell? ⟨w.heap.size, 1, none⟩ = some (.int .i64 o) ∧ W.cell? ⟨w.heap.size, 2, none⟩ = some (.string s) ∧ W.cell? ⟨w4.heap.size, 0, none⟩ = some (.int .i64 b') ∧ W.cell? ⟨w4.heap.size, 1, none⟩ = some (.int .i64 o') ∧ W.cell? ⟨w4.heap.size, 2, none⟩ = some (.string s') ∧ W.cell? ⟨w5.heap.size, 0, none⟩ = some (.int .i64 b') ∧ W.cell? ⟨w5.heap.size, 1, none⟩ = some (.int .i64 o') ∧ W.cell? ⟨w5.heap.size, 2, none⟩ = some (.string s') ∧
      (convert 22 9 (.slice A2 n2 c2)).run Try.prog W = .ok (.string x) W ∧ (convert 22 9 (.slice A3 n3 c3)).run Try.prog W = .ok (.string x) W ∧ (convert 22 9 (.slice A1 n c1)).run Try.prog W = .ok (.string y) W ∧ (convert 22 9 (.slice a n cap)).run Try.prog W = .ok (.string y) W)) (by kernel_rfl) (X.out) (fun hHeld => ?_)
  refine wpAnyH_ready (rs := [0]) (by kernel_rfl) (by simp) ?_
  refine AllReadyH.cons rfl (fun K hK => ?_) AllReadyH.nil
  go_simp
  ((with_reducible refine (K0.out _ HS.out).mono ?_); rintro e w9 ⟨rfl, hB9⟩; replace HS := Lib.hid (HN.out _ _ HS.out hB9); replace X := Lib.hid (HC.out _ HS.out))
  refine hK _ _ (X.out) (fun hHeld => ?_)
  clear hK K
  try simp only [Act.put, List.setIfInBounds_toArray, List.set_cons_zero, List.set_cons_succ]
  refine takeH (i := 1) (some 44) (v := ?_) rfl rfl (by kernel_rfl) (by kernel_rfl) (by kernel_rfl) (fun _ _ _ h => h) (by rfl) ?_ (by assumption) ?_
  rotate_left
  · (intro w hSw; (try dsimp only at hSw); go_simp; try with_reducible rfl)
  simp only [Act.put, List.setIfInBounds_toArray, List.set_cons_zero, List.set_cons_succ]
  refine takeH (i := 2) (some 45) (v := ?_) rfl rfl (by kernel_rfl) (by kernel_rfl) (by kernel_rfl) (fun _ _ _ h => h) (by rfl) ?_ (by assumption) ?_
  rotate_left
  · (intro w hSw; (try dsimp only at hSw); go_simp; try with_reducible rfl)
  simp only [Act.put, List.setIfInBounds_toArray, List.set_cons_zero, List.set_cons_succ]
  refine takeH (i := 3) (some 46) (v := ?_) rfl rfl (by kernel_rfl) (by kernel_rfl) (by kernel_rfl) (fun _ _ _ h => h) (by rfl) ?_ (by assumption) ?_
  rotate_left
  · (intro w hSw; (try dsimp only at hSw); go_simp; try with_reducible rfl)
  simp only [Act.put, List.setIfInBounds_toArray, List.set_cons_zero, List.set_cons_succ]
  refine takeH (i := 4) (some 47) (v := ?_) rfl rfl (by kernel_rfl) (by kernel_rfl) (by kernel_rfl) (fun _ _ _ h => h) (by rfl) ?_ (by assumption) ?_
  rotate_left
  · (intro w hSw; (try dsimp only at hSw); go_simp; try with_reducible rfl)
  simp only [Act.put, List.setIfInBounds_toArray, List.set_cons_zero, List.set_cons_succ]
  refine takeH (i := 5) (some 48) (v := ?_) rfl rfl (by kernel_rfl) (by kernel_rfl) (by kernel_rfl) (fun _ _ _ h => h) (by rfl) ?_ (by assumption) ?_
  rotate_left
  · (intro w hSw; (try dsimp only at hSw); go_simp; try with_reducible rfl)
  simp only [Act.put, List.setIfInBounds_toArray, List.set_cons_zero, List.set_cons_succ]
  refine takeH (i := 6) (some 49) (v := ?_) rfl rfl (by kernel_rfl) (by kernel_rfl) (by kernel_rfl) (fun _ _ _ h => h) (by rfl) ?_ (by assumption) ?_
  rotate_left
  · (intro w hSw; (try dsimp only at hSw); go_simp; try with_reducible rfl)
  simp only [Act.put, List.setIfInBounds_toArray, List.set_cons_zero, List.set_cons_succ]
  refine takeH (i := 7) (some 50) (v := ?_) rfl rfl (by kernel_rfl) (by kernel_rfl) (by kernel_rfl) (fun _ _ _ h => h) (by rfl) ?_ (by assumption) ?_
  rotate_left
  · (intro w hSw; (try dsimp only at hSw); go_simp; try with_reducible rfl)
  simp only [Act.put, List.setIfInBounds_toArray, List.set_cons_zero, List.set_cons_succ]
  refine takeH (i := 8) (some 51) (v := ?_) rfl rfl (by kernel_rfl) (by kernel_rfl) (by kernel_rfl) (fun _ _ _ h => h) (by rfl) ?_ (by assumption) ?_
  rotate_left
  · (intro w hSw; (try dsimp only at hSw); go_simp; try with_reducible rfl)
  simp only [Act.put, List.setIfInBounds_toArray, List.set_cons_zero, List.set_cons_succ]
  refine takeH (i := 9) (some 52) (v := ?_) rfl rfl (by kernel_rfl) (by kernel_rfl) (by kernel_rfl) (fun _ _ _ h => h) (by rfl) ?_ (by assumption) ?_
  rotate_left
  · (intro w hSw; (try dsimp only at hSw); go_simp; try with_reducible rfl)
  simp only [Act.put, List.setIfInBounds_toArray, List.set_cons_zero, List.set_cons_succ]
  refine takeH (i := 10) (some 53) (v := ?_) rfl rfl (by kernel_rfl) (by kernel_rfl) (by kernel_rfl) (fun _ _ _ h => h) (by rfl) ?_ (by assumption) ?_
  rotate_left
  · (intro w hSw; (try dsimp only at hSw); go_simp; try with_reducible rfl)
  simp only [Act.put, List.setIfInBounds_toArray, List.set_cons_zero, List.set_cons_succ]
  refine takeH (i := 11) (some 54) (v := ?_) rfl rfl (by kernel_rfl) (by kernel_rfl) (by kernel_rfl) (fun _ _ _ h => h) (by rfl) ?_ (by assumption) ?_
  rotate_left
  · (intro w hSw; (try dsimp only at hSw); go_simp; try with_reducible rfl)
  simp only [Act.put, List.setIfInBounds_toArray, List.set_cons_zero, List.set_cons_succ]
  refine takeH (i := 12) (some 55) (v := ?_) rfl rfl (by kernel_rfl) (by kernel_rfl) (by kernel_rfl) (fun _ _ _ h => h) (by rfl) ?_ (by assumption) ?_
  rotate_left
  · (intro w hSw; (try dsimp only at hSw); go_simp; try with_reducible rfl)
  simp only [Act.put, List.setIfInBounds_toArray, List.set_cons_zero, List.set_cons_succ]
  refine takeH (i := 13) (some 56) (v := ?_) rfl rfl (by kernel_rfl) (by kernel_rfl) (by kernel_rfl) (fun _ _ _ h => h) (by rfl) ?_ (by assumption) ?_
  rotate_left
  · (intro w hSw; (try dsimp only at hSw); go_simp; try with_reducible rfl)
  simp only [Act.put, List.setIfInBounds_toArray, List.set_cons_zero, List.set_cons_succ]
  refine takeH (i := 14) (some 57) (v := ?_) rfl rfl (by kernel_rfl) (by kernel_rfl) (by kernel_rfl) (fun _ _ _ h => h) (by rfl) ?_ (by assumption) ?_
  rotate_left
  · (intro w hSw; (try dsimp only at hSw); go_simp; try with_reducible rfl)
  simp only [Act.put, List.setIfInBounds_toArray, List.set_cons_zero, List.set_cons_succ]
  refine takeH (i := 15) (some 58) (v := ?_) rfl rfl (by kernel_rfl) (by kernel_rfl) (by kernel_rfl) (fun _ _ _ h => h) (by rfl) ?_ (by assumption) ?_
  rotate_left
  · (intro w hSw; (try dsimp only at hSw); go_simp; try with_reducible rfl)
  simp only [Act.put, List.setIfInBounds_toArray, List.set_cons_zero, List.set_cons_succ]
  refine takeH (i := 16) (some 59) (v := ?_) rfl rfl (by kernel_rfl) (by kernel_rfl) (by kernel_rfl) (fun _ _ _ h => h) (by rfl) ?_ (by assumption) ?_
  rotate_left
  · (intro w hSw; (try dsimp only at hSw); go_simp; try with_reducible rfl)
  simp only [Act.put, List.setIfInBounds_toArray, List.set_cons_zero, List.set_cons_succ]
  refine takeH (i := 17) (some 60) (v := ?_) rfl rfl (by kernel_rfl) (by kernel_rfl) (by kernel_rfl) (fun _ _ _ h => h) (by rfl) ?_ (by assumption) ?_
  rotate_left
  · (intro w hSw; (try dsimp only at hSw); go_simp; try with_reducible rfl)
  simp only [Act.put, List.setIfInBounds_toArray, List.set_cons_zero, List.set_cons_succ]
  refine takeH (i := 18) (some 61) (v := ?_) rfl rfl (by kernel_rfl) (by kernel_rfl) (by kernel_rfl) (fun _ _ _ h => h) (by rfl) ?_ (by assumption) ?_
  rotate_left
  · (intro w hSw; (try dsimp only at hSw); go_simp; try with_reducible rfl)
  simp only [Act.put, List.setIfInBounds_toArray, List.set_cons_zero, List.set_cons_succ]
  refine takeH (i := 19) (some 62) (v := ?_) rfl rfl (by kernel_rfl) (by kernel_rfl) (by kernel_rfl) (fun _ _ _ h => h) (by rfl) ?_ (by assumption) ?_
  rotate_left
  · (intro w hSw; (try dsimp only at hSw); go_simp; try with_reducible rfl)
  simp only [Act.put, List.setIfInBounds_toArray, List.set_cons_zero, List.set_cons_succ]
  refine takeH (i := 20) (some 63) (v := ?_) rfl rfl (by kernel_rfl) (by kernel_rfl) (by kernel_rfl) (fun _ _ _ h => h) (by rfl) ?_ (by assumption) ?_
  rotate_left
  · (intro w hSw; (try dsimp only at hSw); go_simp; try with_reducible rfl)
  simp only [Act.put, List.setIfInBounds_toArray, List.set_cons_zero, List.set_cons_succ]
  refine takeH (i := 21) (some 64) (v := ?_) rfl rfl (by kernel_rfl) (by kernel_rfl) (by kernel_rfl) (fun _ _ _ h => h) (by rfl) ?_ (by assumption) ?_
  rotate_left
  · (intro w hSw; (try dsimp only at hSw); go_simp; try with_reducible rfl)
  simp only [Act.put, List.setIfInBounds_toArray, List.set_cons_zero, List.set_cons_succ]
  refine takeH (i := 22) (some 65) (v := ?_) rfl rfl (by kernel_rfl) (by kernel_rfl) (by kernel_rfl) (fun _ _ _ h => h) (by rfl) ?_ (by assumption) ?_
  rotate_left
  · (intro w hSw; (try dsimp only at hSw); go_simp; try with_reducible rfl)
  simp only [Act.put, List.setIfInBounds_toArray, List.set_cons_zero, List.set_cons_succ]
  refine takeH (i := 23) (some 66) (v := ?_) rfl rfl (by kernel_rfl) (by kernel_rfl) (by kernel_rfl) (fun _ _ _ h => h) (by rfl) ?_ (by assumption) ?_
  rotate_left
  · (intro w hSw; (try dsimp only at hSw); go_simp; try with_reducible rfl)
  simp only [Act.put, List.setIfInBounds_toArray, List.set_cons_zero, List.set_cons_succ]
  refine takeH (i := 24) (some 67) (v := ?_) rfl rfl (by kernel_rfl) (by kernel_rfl) (by kernel_rfl) (fun _ _ _ h => h) (by rfl) ?_ (by assumption) ?_
  rotate_left
  · (intro w hSw; (try dsimp only at hSw); go_simp; try with_reducible rfl)
  simp only [Act.put, List.setIfInBounds_toArray, List.set_cons_zero, List.set_cons_succ]
  refine takeH (i := 25) (some 68) (v := ?_) rfl rfl (by kernel_rfl) (by kernel_rfl) (by kernel_rfl) (fun _ _ _ h => h) (by rfl) ?_ (by assumption) ?_
  rotate_left
  · (intro w hSw; (try dsimp only at hSw); go_simp; try with_reducible rfl)
  simp only [Act.put, List.setIfInBounds_toArray, List.set_cons_zero, List.set_cons_succ]
  refine takeH (i := 27) (some 70) (v := ?_) rfl rfl (by kernel_rfl) (by kernel_rfl) (by kernel_rfl) (fun _ _ _ h => h) (by rfl) ?_ (by assumption) ?_
  rotate_left
  · (intro w hSw; (try dsimp only at hSw); go_simp; try with_reducible rfl)
  simp only [Act.put, List.setIfInBounds_toArray, List.set_cons_zero, List.set_cons_succ]
  refine takeH (i := 28) (some 71) (v := ?_) rfl rfl (by kernel_rfl) (by kernel_rfl) (by kernel_rfl) (fun _ _ _ h => h) (by rfl) ?_ (by assumption) ?_
  rotate_left
  · (intro w hSw; (try dsimp only at hSw); go_simp; try with_reducible rfl)
  simp only [Act.put, List.setIfInBounds_toArray, List.set_cons_zero, List.set_cons_succ]
  refine wpAnyH_ready (rs := [26]) (by kernel_rfl) (by simp) ?_
  refine AllReadyH.cons rfl (fun K hK => ?_) AllReadyH.nil
  go_simp
  ((with_reducible refine (K1.out _ HS.out).mono ?_); rintro e w9 ⟨rfl, hB9⟩; replace HS := Lib.hid (HN.out _ _ HS.out hB9); replace X := Lib.hid (HC.out _ HS.out))
  refine hK _ _ (X.out) (fun hHeld => ?_)
  clear hK K
  try simp only [Act.put, List.setIfInBounds_toArray, List.set_cons_zero, List.set_cons_succ]
  refine wpAnyH_ready (rs := [29]) (by kernel_rfl) (by simp) ?_
  refine AllReadyH.cons rfl (fun K hK => ?_) AllReadyH.nil
  go_simp
  ((with_reducible refine (K2.out _ HS.out).mono ?_); rintro e w9 ⟨rfl, hB9⟩; replace HS := Lib.hid (HN.out _ _ HS.out hB9); replace X := Lib.hid (HC.out _ HS.out))
  refine hK _ _ (X.out) (fun hHeld => ?_)
  clear hK K
  try simp only [Act.put, List.setIfInBounds_toArray, List.set_cons_zero, List.set_cons_succ]
  refine takeH (i := 30) (some 73) (v := ?_) rfl rfl (by kernel_rfl) (by kernel_rfl) (by kernel_rfl) (fun _ _ _ h => h) (by rfl) ?_ (by assumption) ?_
  rotate_left
  · (intro w hSw; (try dsimp only at hSw); go_simp; try with_reducible rfl)
  simp only [Act.put, List.setIfInBounds_toArray, List.set_cons_zero, List.set_cons_succ]
  refine takeH (i := 31) (some 74) (v := ?_) rfl rfl (by kernel_rfl) (by kernel_rfl) (by kernel_rfl) (fun _ _ _ h => h) (by rfl) ?_ (by assumption) ?_
  rotate_left
  · (intro w hSw; (try dsimp only at hSw); go_simp; try with_reducible rfl)
  simp only [Act.put, List.setIfInBounds_toArray, List.set_cons_zero, List.set_cons_succ]
  refine takeH (i := 32) (some 75) (v := ?_) rfl rfl (by kernel_rfl) (by kernel_rfl) (by kernel_rfl) (fun _ _ _ h => h) (by rfl) ?_ (by assumption) ?_
  rotate_left
  · (intro w hSw; (try dsimp only at hSw); go_simp; try with_reducible rfl)
  simp only [Act.put, List.setIfInBounds_toArray, List.set_cons_zero, List.set_cons_succ]
  refine takeH (i := 33) (some 76) (v := ?_) rfl rfl (by kernel_rfl) (by kernel_rfl) (by kernel_rfl) (fun _ _ _ h => h) (by rfl) ?_ (by assumption) ?_
  rotate_left
  · (intro w hSw; (try dsimp only at hSw); go_simp; try with_reducible rfl)
  simp only [Act.put, List.setIfInBounds_toArray, List.set_cons_zero, List.set_cons_succ]
  refine takeH (i := 35) (some 78) (v := ?_) rfl rfl (by kernel_rfl) (by kernel_rfl) (by kernel_rfl) (fun _ _ _ h => h) (by rfl) ?_ (by assumption) ?_
  rotate_left
  · (intro w hSw; (try dsimp only at hSw); go_simp; try with_reducible rfl)
  simp only [Act.put, List.setIfInBounds_toArray, List.set_cons_zero, List.set_cons_succ]
  refine wpAnyH_ready (rs := [34]) (by kernel_rfl) (by simp) ?_
  refine AllReadyH.cons rfl (fun K hK => ?_) AllReadyH.nil
  go_simp
  ((with_reducible refine (K3.out _ HS.out).mono ?_); rintro e w9 ⟨rfl, hB9⟩; replace HS := Lib.hid (HN.out _ _ HS.out hB9); replace X := Lib.hid (HC.out _ HS.out))
  refine hK _ _ (X.out) (fun hHeld => ?_)
  clear hK K
  try simp only [Act.put, List.setIfInBounds_toArray, List.set_cons_zero, List.set_cons_succ]
  refine wpAnyH_ready (rs := [36]) (by kernel_rfl) (by simp) ?_
  refine AllReadyH.cons rfl (fun K hK => ?_) AllReadyH.nil
  go_simp
  ((with_reducible refine (K4.out _ HS.out).mono ?_); rintro e w9 ⟨rfl, hB9⟩; replace HS := Lib.hid (HN.out _ _ HS.out hB9); replace X := Lib.hid (HC.out _ HS.out))
  refine hK _ _ (X.out) (fun hHeld => ?_)
  clear hK K
  try simp only [Act.put, List.setIfInBounds_toArray, List.set_cons_zero, List.set_cons_succ]
  refine takeH (i := 37) (some 80) (v := ?_) rfl rfl (by kernel_rfl) (by kernel_rfl) (by kernel_rfl) (fun _ _ _ h => h) (by rfl) ?_ (by assumption) ?_
  rotate_left
  · (intro w hSw; (try dsimp only at hSw); go_simp; try with_reducible rfl)
  simp only [Act.put, List.setIfInBounds_toArray, List.set_cons_zero, List.set_cons_succ]
  refine takeH (i := 38) (some 81) (v := ?_) rfl rfl (by kernel_rfl) (by kernel_rfl) (by kernel_rfl) (fun _ _ _ h => h) (by rfl) ?_ (by assumption) ?_
  rotate_left
  · (intro w hSw; (try dsimp only at hSw); go_simp; try with_reducible rfl)
  simp only [Act.put, List.setIfInBounds_toArray, List.set_cons_zero, List.set_cons_succ]
  refine takeH (i := 39) (some 82) (v := ?_) rfl rfl (by kernel_rfl) (by kernel_rfl) (by kernel_rfl) (fun _ _ _ h => h) (by rfl) ?_ (by assumption) ?_
  rotate_left
  · (intro w hSw; (try dsimp only at hSw); go_simp; try with_reducible rfl)
  simp only [Act.put, List.setIfInBounds_toArray, List.set_cons_zero, List.set_cons_succ]
  refine takeH (i := 40) (some 83) (v := ?_) rfl rfl (by kernel_rfl) (by kernel_rfl) (by kernel_rfl) (fun _ _ _ h => h) (by rfl) ?_ (by assumption) ?_
  rotate_left
  · (intro w hSw; (try dsimp only at hSw); go_simp; try with_reducible rfl)
  simp only [Act.put, List.setIfInBounds_toArray, List.set_cons_zero, List.set_cons_succ]
  refine takeH (i := 41) (some 84) (v := ?_) rfl rfl (by kernel_rfl) (by kernel_rfl) (by kernel_rfl) (fun _ _ _ h => h) (by rfl) ?_ (by assumption) ?_
  rotate_left
  · (intro w hSw; (try dsimp only at hSw); go_simp; try with_reducible rfl)
  simp only [Act.put, List.setIfInBounds_toArray, List.set_cons_zero, List.set_cons_succ]
  refine takeH (i := 42) (some 85) (v := ?_) rfl rfl (by kernel_rfl) (by kernel_rfl) (by kernel_rfl) (fun _ _ _ h => h) (by rfl) ?_ (by assumption) ?_
  rotate_left
  · (intro w hSw; (try dsimp only at hSw); go_simp; try with_reducible rfl)
  simp only [Act.put, List.setIfInBounds_toArray, List.set_cons_zero, List.set_cons_succ]
  refine takeH (i := 43) (some 86) (v := ?_) rfl rfl (by kernel_rfl) (by kernel_rfl) (by kernel_rfl) (fun _ _ _ h => h) (by rfl) ?_ (by assumption) ?_
  rotate_left
  · (intro w hSw; (try dsimp only at hSw); go_simp; try with_reducible rfl)
  simp only [Act.put, List.setIfInBounds_toArray, List.set_cons_zero, List.set_cons_succ]
  refine takeH (i := 44) (some 87) (v := ?_) rfl rfl (by kernel_rfl) (by kernel_rfl) (by kernel_rfl) (fun _ _ _ h => h) (by rfl) ?_ (by assumption) ?_
  rotate_left
  · (intro w hSw; (try dsimp only at hSw); go_simp; try with_reducible rfl)
  simp only [Act.put, List.setIfInBounds_toArray, List.set_cons_zero, List.set_cons_succ]
  refine takeH (i := 45) (some 88) (v := ?_) rfl rfl (by kernel_rfl) (by kernel_rfl) (by kernel_rfl) (fun _ _ _ h => h) (by rfl) ?_ (by assumption) ?_
  rotate_left
  · (intro w hSw; (try dsimp only at hSw); go_simp; try with_reducible rfl)
  simp only [Act.put, List.setIfInBounds_toArray, List.set_cons_zero, List.set_cons_succ]
  refine takeH (i := 46) (some 4) (v := ?_) rfl rfl (by kernel_rfl) (by kernel_rfl) (by kernel_rfl) (fun _ _ _ h => h) (by rfl) ?_ (by assumption) ?_
  rotate_left
  · (intro w hSw; (try dsimp only at hSw); go_simp; try with_reducible rfl)
  simp only [Act.put, List.setIfInBounds_toArray, List.set_cons_zero, List.set_cons_succ]
  refine wpAnyH_done (by kernel_rfl) ?_ _
  go_wp2
  go_ret
  exact ⟨by simp, HS.out.1⟩
end Go.Proofs.Ytiblmdpgdlacaaa.patchApplies
