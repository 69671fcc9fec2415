/- The program's arm: Next. -/
import Derived.Test.YtpelocpjfmmceaaL
set_option linter.unusedVariables false
set_option linter.unusedSimpArgs false
namespace Go.Proofs.Ytpelocpjfmmceaa
open Go.RowKit

def aged1 (r : Rq) : Rq := ⟨r.b, r.a + 1⟩
def ageK (l : List Rq) : Nat → List Rq
  | 0 => l
  | k + 1 => modQ (ageK l k) k aged1
theorem length_modQ (l : List Rq) (k : Nat) (f : Rq → Rq) : (modQ l k f).length = l.length := by simp [modQ]
theorem length_ageK (l : List Rq) (k : Nat) : (ageK l k).length = l.length := by
  induction k with
  | zero => rfl
  | succ k ih => rw [ageK, length_modQ, ih]
theorem rn_ageK (l : List Rq) (k j : Nat) (hj : j < l.length) : rn (ageK l k) j = if j < k then aged1 (rn l j) else rn l j := by
  induction k with
  | zero => rw [if_neg (by omega)]; rfl
  | succ k ih =>
    rw [ageK, modQ, rn_lt (by rw [List.length_set, length_ageK]; exact hj), List.getElem_set]
    by_cases e : k = j
    · subst e
      rw [if_pos rfl, ih, if_neg (by omega), if_pos (by omega)]
    · rw [if_neg e, ← rn_lt (by rw [length_ageK]; exact hj), ih]
      by_cases h : j < k
      · rw [if_pos h, if_pos (by omega)]
      · rw [if_neg h, if_neg (by omega)]
theorem ageK_all (l : List Rq) : ageK l l.length = agedL l := by
  apply List.ext_getElem
  · rw [length_ageK]; simp [agedL]
  · intro i h1 h2
    have hi : i < l.length := by rw [length_ageK] at h1; exact h1
    rw [← rn_lt h1, rn_ageK l _ i hi, if_pos hi, rn_lt hi]
    simp [agedL, aged1]
theorem RowQ.stored1 {E : TypeId} {w : World} {B ab c : Nat} {l : List Rq} (h : RowQ E w B (some ⟨ab, 0, none⟩) c l) {k : Nat} (hk : k < l.length) {a : Int} (ha : a = (rn l k).a + 1) :
    RowQ E (w.setCell ⟨ab, k * 2 + 1, none⟩ (.int .i64 a)) B (some ⟨ab, 0, none⟩) c (modQ l k aged1) := by
  have h1 := (World.ownsRow.stored h (k * 2 + 1) (.int .i64 a)).1
  have e := flatQ_set hk (fun r => ⟨r.b, a⟩) 1 (.int .i64 a) (fun _ => rfl) (by omega)
  have e2 : modQ l k (fun r => ⟨r.b, a⟩) = modQ l k aged1 := by unfold modQ aged1; rw [ha]
  rw [e, e2] at h1
  unfold RowQ
  rw [length_modQ]
  exact h1
theorem PAt.age {B : Nat} {w : World} {g ab c : Nat} {x y : Ar} (h : PAt B w g (some ⟨ab, 0, none⟩) c x) {k : Nat} (hk : k < x.l.length) {a : Int} (ha : a = (rn x.l k).a + 1) (hy : y = { x with l := modQ x.l k aged1 }) :
    PAt B (w.setCell ⟨ab, k * 2 + 1, none⟩ (.int .i64 a)) g (some ⟨ab, 0, none⟩) c y := by
  subst hy
  have hne : g ≠ ab := fun e => h.apart (by rw [e]; rfl)
  refine ⟨?_, h.row.stored1 hk ha, h.ne, h.lo⟩
  show (w.setCell ⟨ab, k * 2 + 1, none⟩ (.int .i64 a)).heap[g]? = some (.cells (hP { x with l := modQ x.l k aged1 } (.slice _ (modQ x.l k aged1).length c)) 67 (0, 0))
  rw [heap_setCell_other w ⟨ab, k * 2 + 1, none⟩ g _ hne, h.head, length_modQ]
  rfl

set_option maxRecDepth 100000 in
set_option maxHeartbeats 4000000 in
theorem next_old (B g : Nat) (A : Option Addr) (c : Nat) (x : Ar) (w : World) (hC : PAt B w g A c x) (hl : x.l.length ≤ 1000) (h0 : 0 < x.l.length) (hs : x.s < 1024) (hn : 1 ≤ x.n) (hn64 : x.n ≤ 64) (hm : x.m ≤ 1000000000)
    (hage : ∀ r ∈ x.l, 0 ≤ r.a ∧ r.a ≤ 1000000000) (b : Int) (u : Bool) (hb0 : 0 ≤ b) (hb1 : b < 1024) (hN : choiceN x = 58) (hB : B ≤ w.heap.size)
    (hp : ∀ W, Below w.heap.size w W → Calls Try.prog 58 #[.pointer (some ⟨g, 0, none⟩)] W fun e w' => e = .returned (.int .i64 b) ∧ PWent B W g A { x with u := u } w') :
    Calls Try.prog 19 #[.pointer (some ⟨g, 0, none⟩)] w fun e w' => e = .returned (.tuple #[.int .i64 b, .bool true]) ∧ PWent B w g A (x.gone b u) w' := by
  have HCh := Lib.hid (choice_any B g A c x w hC hl)
  rw [hN] at HCh
  obtain ⟨_, _, _, _, _, cs⟩ := pcells hC
  have HP : Hid (∀ W, Below w.heap.size w W → Calls Try.prog 58 #[.pointer (some ⟨g, 0, none⟩)] W fun e w' => e = .returned (.int .i64 b) ∧ PWent B w g A { x with u := u } w') := fun W hW =>
    (hp W hW).mono fun e w' ⟨h1, A', c', h2, h3, h4⟩ => ⟨h1, A', c', h2, (Kept.fresh hW).trans h3 (fun k q => .inl q), fun k e => by rcases h4 k e with q | q; exact .inl q; exact .inr (Nat.le_trans hW.size q)⟩
  have HFo : Hid (∀ W, PWent B w g A { x with u := u } W → Calls Try.prog 43 #[.pointer (some ⟨g, 0, none⟩), .int .i64 b] W fun e w' => e = .returned (.tuple #[]) ∧ PWent B w g A ⟨x.p, x.n, x.s, x.m, u, dropL x.l b⟩ w') := fun W ⟨A1, c1, h1, h2, h3⟩ =>
    (forget_any B g A1 c1 { x with u := u } b W h1 hl).mono fun e w' ⟨h4, A', c', h5, h6, h7⟩ => by
      have hOf : ∀ k, Of g A1 k → Of g A k ∨ w.heap.size ≤ k := fun k q => by rcases q with q | q; exact .inl (.inl q); rcases h3 k q with q | q; exact .inl (.inr q); exact .inr q
      exact ⟨h4, A', c', h5, h2.trans h6 hOf, fun k e => by rcases h7 k e with q | q; exact h3 k q; exact .inr (Nat.le_trans h2.size q)⟩
  have hld : (dropL x.l b).length ≤ x.l.length := List.length_filter_le _ _
  have hl2 : (dropL x.l b).length ≤ 1000 := by omega
  have Hage : Hid (∀ k, k < (dropL x.l b).length → 0 ≤ (rn (dropL x.l b) k).a ∧ (rn (dropL x.l b) k).a ≤ 1000000000) := fun k hk => hage _ (List.mem_filter.1 (rn_mem hk)).1
  have hfar := far_le x.s b.toNat x.n hs (by omega) hn hn64
  have Hw : Hid (∀ W A2 c2 l2, PAt B W g A2 c2 ⟨x.p, x.n, x.s, x.m, u, l2⟩ → Calls Try.prog 44 #[.pointer (some ⟨g, 0, none⟩), .int .i64 b] W fun e w' => e = .returned (.int .i64 (far x.s b.toNat x.n : Nat)) ∧ Below W.heap.size W w') := fun W A2 c2 l2 h => away_any B g A2 c2 ⟨x.p, x.n, x.s, x.m, u, l2⟩ b W h hs hn hn64 hb0 hb1
  have Hend : Hid (∀ W A2 c2 q, PAt B W g A2 c2 ⟨x.p, x.n, x.s, x.m, u, ageK (dropL x.l b) (dropL x.l b).length⟩ → Kept w W (Of g A) → (∀ k, own A2 = some k → own A = some k ∨ w.heap.size ≤ k) → q = (x.m : Int) + (far x.s b.toNat x.n : Nat) → PWent B w g A (x.gone b u) ((W.setCell ⟨g, 3, none⟩ (.int .i64 q)).setCell ⟨g, 2, none⟩ (.int .i64 b))) := fun W A2 c2 q h1 h2 h3 hq => by
    obtain ⟨r1, k1⟩ := field B g A2 c2 _ W (y := ⟨x.p, x.n, x.s, x.m + far x.s b.toNat x.n, u, agedL (dropL x.l b)⟩) (j := 3) (v := .int .i64 q) h1 (by show agedL _ = ageK _ _; rw [ageK_all]) (fun v => by subst hq; rfl)
    obtain ⟨r2, k2⟩ := field B g A2 c2 _ _ (y := x.gone b u) (j := 2) (v := .int .i64 b) r1 rfl (fun v => by
      show (hP _ v).setIfInBounds 2 _ = #[.int .u8 x.p, .int .i64 x.n, .int .i64 (b.toNat : Int), .int .i64 _, .bool u, v]
      rw [show ((b.toNat : Int)) = b by omega]; rfl)
    exact ⟨A2, c2, r2, (h2.trans k1 (fun k q => .inl (.inl q))).trans k2 (fun k q => .inl (.inl q)), h3⟩
  have h0i : ((x.l.length : Int) == 0) = false := by rw [beq_eq_false_iff_ne]; omega
  have h0n : (x.l.length == 0) = false := by rw [beq_eq_false_iff_ne]; omega
  obtain ⟨d, hd⟩ : ∃ d, d = far x.s b.toNat x.n := ⟨_, rfl⟩
  rw [← hd] at hfar Hw Hend
  obtain ⟨L, hL⟩ : ∃ L, L = dropL x.l b := ⟨_, rfl⟩
  rw [← hL] at HFo Hage hl2 Hend
  generalize x.gone b u = xg at *
  generalize x.l.length = len0 at *
  generalize hxm : x.m = m at *
  have Hxu : Hid (∀ W, PWent B w g A { x with u := u } W → PWent B w g A { x with u := u } W) := fun _ h => h
  clear hC hN hp hd hL hage hld hb0 hb1 hs hn hn64
  go_enter Try.func19, Try.ntmps19
  go_wp2_with (first
    | (go_at_call 42; refine HCh.out.mono ?_; rintro e w1 ⟨rfl, hb1⟩; have HB1 := Lib.hid hb1; clear hb1)
    | (go_at_call 58; refine (HP.out _ HB1.out).mono ?_; rintro e w2 ⟨rfl, hw2⟩; have HW2 := Lib.hid hw2; clear hw2)
    | (go_at_call 43; refine (HFo.out _ HW2.out).mono ?_; rintro e w3 ⟨rfl, A2, c2, h3, k3, o3⟩; have H3 := Lib.hid h3; have K3 := Lib.hid k3; have O3 := Lib.hid o3; have s3 := (pcells h3).2.2.2.2.2; dsimp only at s3; clear h3 k3 o3))
  go_loopw [29] (fun i wr => ∃ k : Nat, k ≤ L.length ∧ i = .int .i64 k ∧ Hid (PAt B wr g A2 c2 ⟨x.p, x.n, x.s, m, u, ageK L k⟩) ∧ Hid (Kept w wr (Of g A))) (fun i _ => L.length - (intOf i).toNat)
  case atStart => exact ⟨0, Nat.zero_le _, rfl, H3.out, K3.out⟩
  case round =>
    obtain ⟨k, hk, rfl, hP, hK⟩ := hrel
    rename World => wr
    have hsz := hP.out.glt
    have sr : wr.cell? ⟨g, 5, none⟩ = some (.slice A2 L.length c2) := by
      have := (pcells hP.out).2.2.2.2.2
      dsimp only at this
      rwa [length_ageK] at this
    by_cases hlt : k < L.length
    · have hlti : (k : Int) < (L.length : Int) := by omega
      have hk0 : (0 : Int) ≤ (k : Int) := by omega
      obtain ⟨ab, hA, h3, h4, hb, hBb, _, q1, hfz⟩ := hP.out.row.at_ (show k < (ageK L k).length by rw [length_ageK]; exact hlt)
      subst hA
      have hf1 := hfz (k * 2 + 1)
      obtain ⟨ha0, ha1⟩ := Hage.out k hlt
      have er : rn (ageK L k) k = rn L k := by rw [rn_ageK L k k hlt, if_neg (Nat.lt_irrefl k)]
      have Hst : Hid (∀ q, q = (rn L k).a + 1 → PAt B (wr.setCell ⟨ab, k * 2 + 1, none⟩ (.int .i64 q)) g (some ⟨ab, 0, none⟩) c2 ⟨x.p, x.n, x.s, m, u, ageK L (k + 1)⟩ ∧ Kept w (wr.setCell ⟨ab, k * 2 + 1, none⟩ (.int .i64 q)) (Of g A)) := fun q hq => by
        refine ⟨hP.out.age (show k < (ageK L k).length by rw [length_ageK]; exact hlt) (by show q = (rn (ageK L k) k).a + 1; rw [er, hq]) rfl, ?_⟩
        refine hK.out.trans (Kept.set wr ab (k * 2 + 1) _) (fun b q => ?_)
        subst q
        rcases O3.out b rfl with q | q
        · exact .inl (.inr q)
        · exact .inr q
      have hgn : g ≠ ab := fun e => hP.out.apart (by rw [e]; rfl)
      rw [er] at q1
      clear hP hfz er
      rw [length_ageK] at h3
      unfold maxLen at h4
      generalize (rn L k).a = ra at *
      go_wp2
      go_roundw
      case rel => exact ⟨k + 1, by omega, by go_num, (Hst.out _ rfl).1, (Hst.out _ rfl).2⟩
      case measure => simp [intOf]; omega
    · obtain rfl : k = L.length := by omega
      have hlti : ¬ (L.length : Int) < (L.length : Int) := by omega
      obtain ⟨_, _, c2', c3, _, _⟩ := pcells hP.out
      dsimp only at c2' c3
      have hf3 := hP.out.free 3
      have hf2 := hP.out.free 2
      have HwP := Lib.hid (fun W hW => Hw.out W A2 c2 _ (hP.out.fresh (w' := W) hW))
      have HE := Lib.hid (fun W hW q => Hend.out W A2 c2 q (hP.out.fresh (w' := W) hW) (hK.out.trans (Kept.fresh hW) (fun k q => .inl q)) O3.out)
      clear hP hK
      go_wp2
      go_region_with (go_at_call 44; refine (HwP.out _ (Below.refl _ _).drew).mono ?_; rintro e w5 ⟨rfl, hb5⟩; have HB5 := Lib.hid ((Below.refl wr.heap.size wr).drew.trans hb5); have d3 : w5.cell? ⟨g, 3, none⟩ = some (.int .i64 m) := (hb5.cell (p := ⟨g, 3, none⟩) hsz).trans c3; have d2 := (hb5.cell (p := ⟨g, 2, none⟩) hsz).trans c2'; have g3 := (hb5.frozen (p := ⟨g, 3, none⟩) hsz).trans hf3; have g2 := (hb5.frozen (p := ⟨g, 2, none⟩) hsz).trans hf2; have hg5 : g < w5.heap.size := Nat.lt_of_lt_of_le hsz hb5.size; clear hb5)
      all_goals
        go_wp2
        go_ret2
        exact ⟨rfl, HE.out _ HB5.out _ rfl⟩

set_option maxRecDepth 100000 in
set_option maxHeartbeats 4000000 in
theorem next_near (B g : Nat) (A : Option Addr) (c : Nat) (x : Ar) (w : World) (hC : PAt B w g A c x) (hl : x.l.length ≤ 1000) (h0 : 0 < x.l.length) (hs : x.s < 1024) (hn : 1 ≤ x.n) (hn64 : x.n ≤ 64) (hm : x.m ≤ 1000000000)
    (hage : ∀ r ∈ x.l, 0 ≤ r.a ∧ r.a ≤ 1000000000) (b : Int) (u : Bool) (hb0 : 0 ≤ b) (hb1 : b < 1024) (hN : choiceN x = 59) (hB : B ≤ w.heap.size)
    (hp : ∀ W, Below w.heap.size w W → Calls Try.prog 59 #[.pointer (some ⟨g, 0, none⟩)] W fun e w' => e = .returned (.int .i64 b) ∧ PWent B W g A { x with u := u } w') :
    Calls Try.prog 19 #[.pointer (some ⟨g, 0, none⟩)] w fun e w' => e = .returned (.tuple #[.int .i64 b, .bool true]) ∧ PWent B w g A (x.gone b u) w' := by
  have HCh := Lib.hid (choice_any B g A c x w hC hl)
  rw [hN] at HCh
  obtain ⟨_, _, _, _, _, cs⟩ := pcells hC
  have HP : Hid (∀ W, Below w.heap.size w W → Calls Try.prog 59 #[.pointer (some ⟨g, 0, none⟩)] W fun e w' => e = .returned (.int .i64 b) ∧ PWent B w g A { x with u := u } w') := fun W hW =>
    (hp W hW).mono fun e w' ⟨h1, A', c', h2, h3, h4⟩ => ⟨h1, A', c', h2, (Kept.fresh hW).trans h3 (fun k q => .inl q), fun k e => by rcases h4 k e with q | q; exact .inl q; exact .inr (Nat.le_trans hW.size q)⟩
  have HFo : Hid (∀ W, PWent B w g A { x with u := u } W → Calls Try.prog 43 #[.pointer (some ⟨g, 0, none⟩), .int .i64 b] W fun e w' => e = .returned (.tuple #[]) ∧ PWent B w g A ⟨x.p, x.n, x.s, x.m, u, dropL x.l b⟩ w') := fun W ⟨A1, c1, h1, h2, h3⟩ =>
    (forget_any B g A1 c1 { x with u := u } b W h1 hl).mono fun e w' ⟨h4, A', c', h5, h6, h7⟩ => by
      have hOf : ∀ k, Of g A1 k → Of g A k ∨ w.heap.size ≤ k := fun k q => by rcases q with q | q; exact .inl (.inl q); rcases h3 k q with q | q; exact .inl (.inr q); exact .inr q
      exact ⟨h4, A', c', h5, h2.trans h6 hOf, fun k e => by rcases h7 k e with q | q; exact h3 k q; exact .inr (Nat.le_trans h2.size q)⟩
  have hld : (dropL x.l b).length ≤ x.l.length := List.length_filter_le _ _
  have hl2 : (dropL x.l b).length ≤ 1000 := by omega
  have Hage : Hid (∀ k, k < (dropL x.l b).length → 0 ≤ (rn (dropL x.l b) k).a ∧ (rn (dropL x.l b) k).a ≤ 1000000000) := fun k hk => hage _ (List.mem_filter.1 (rn_mem hk)).1
  have hfar := far_le x.s b.toNat x.n hs (by omega) hn hn64
  have Hw : Hid (∀ W A2 c2 l2, PAt B W g A2 c2 ⟨x.p, x.n, x.s, x.m, u, l2⟩ → Calls Try.prog 44 #[.pointer (some ⟨g, 0, none⟩), .int .i64 b] W fun e w' => e = .returned (.int .i64 (far x.s b.toNat x.n : Nat)) ∧ Below W.heap.size W w') := fun W A2 c2 l2 h => away_any B g A2 c2 ⟨x.p, x.n, x.s, x.m, u, l2⟩ b W h hs hn hn64 hb0 hb1
  have Hend : Hid (∀ W A2 c2 q, PAt B W g A2 c2 ⟨x.p, x.n, x.s, x.m, u, ageK (dropL x.l b) (dropL x.l b).length⟩ → Kept w W (Of g A) → (∀ k, own A2 = some k → own A = some k ∨ w.heap.size ≤ k) → q = (x.m : Int) + (far x.s b.toNat x.n : Nat) → PWent B w g A (x.gone b u) ((W.setCell ⟨g, 3, none⟩ (.int .i64 q)).setCell ⟨g, 2, none⟩ (.int .i64 b))) := fun W A2 c2 q h1 h2 h3 hq => by
    obtain ⟨r1, k1⟩ := field B g A2 c2 _ W (y := ⟨x.p, x.n, x.s, x.m + far x.s b.toNat x.n, u, agedL (dropL x.l b)⟩) (j := 3) (v := .int .i64 q) h1 (by show agedL _ = ageK _ _; rw [ageK_all]) (fun v => by subst hq; rfl)
    obtain ⟨r2, k2⟩ := field B g A2 c2 _ _ (y := x.gone b u) (j := 2) (v := .int .i64 b) r1 rfl (fun v => by
      show (hP _ v).setIfInBounds 2 _ = #[.int .u8 x.p, .int .i64 x.n, .int .i64 (b.toNat : Int), .int .i64 _, .bool u, v]
      rw [show ((b.toNat : Int)) = b by omega]; rfl)
    exact ⟨A2, c2, r2, (h2.trans k1 (fun k q => .inl (.inl q))).trans k2 (fun k q => .inl (.inl q)), h3⟩
  have h0i : ((x.l.length : Int) == 0) = false := by rw [beq_eq_false_iff_ne]; omega
  have h0n : (x.l.length == 0) = false := by rw [beq_eq_false_iff_ne]; omega
  obtain ⟨d, hd⟩ : ∃ d, d = far x.s b.toNat x.n := ⟨_, rfl⟩
  rw [← hd] at hfar Hw Hend
  obtain ⟨L, hL⟩ : ∃ L, L = dropL x.l b := ⟨_, rfl⟩
  rw [← hL] at HFo Hage hl2 Hend
  generalize x.gone b u = xg at *
  generalize x.l.length = len0 at *
  generalize hxm : x.m = m at *
  have Hxu : Hid (∀ W, PWent B w g A { x with u := u } W → PWent B w g A { x with u := u } W) := fun _ h => h
  clear hC hN hp hd hL hage hld hb0 hb1 hs hn hn64
  go_enter Try.func19, Try.ntmps19
  go_wp2_with (first
    | (go_at_call 42; refine HCh.out.mono ?_; rintro e w1 ⟨rfl, hb1⟩; have HB1 := Lib.hid hb1; clear hb1)
    | (go_at_call 59; refine (HP.out _ HB1.out).mono ?_; rintro e w2 ⟨rfl, hw2⟩; have HW2 := Lib.hid hw2; clear hw2)
    | (go_at_call 43; refine (HFo.out _ HW2.out).mono ?_; rintro e w3 ⟨rfl, A2, c2, h3, k3, o3⟩; have H3 := Lib.hid h3; have K3 := Lib.hid k3; have O3 := Lib.hid o3; have s3 := (pcells h3).2.2.2.2.2; dsimp only at s3; clear h3 k3 o3))
  go_loopw [29] (fun i wr => ∃ k : Nat, k ≤ L.length ∧ i = .int .i64 k ∧ Hid (PAt B wr g A2 c2 ⟨x.p, x.n, x.s, m, u, ageK L k⟩) ∧ Hid (Kept w wr (Of g A))) (fun i _ => L.length - (intOf i).toNat)
  case atStart => exact ⟨0, Nat.zero_le _, rfl, H3.out, K3.out⟩
  case round =>
    obtain ⟨k, hk, rfl, hP, hK⟩ := hrel
    rename World => wr
    have hsz := hP.out.glt
    have sr : wr.cell? ⟨g, 5, none⟩ = some (.slice A2 L.length c2) := by
      have := (pcells hP.out).2.2.2.2.2
      dsimp only at this
      rwa [length_ageK] at this
    by_cases hlt : k < L.length
    · have hlti : (k : Int) < (L.length : Int) := by omega
      have hk0 : (0 : Int) ≤ (k : Int) := by omega
      obtain ⟨ab, hA, h3, h4, hb, hBb, _, q1, hfz⟩ := hP.out.row.at_ (show k < (ageK L k).length by rw [length_ageK]; exact hlt)
      subst hA
      have hf1 := hfz (k * 2 + 1)
      obtain ⟨ha0, ha1⟩ := Hage.out k hlt
      have er : rn (ageK L k) k = rn L k := by rw [rn_ageK L k k hlt, if_neg (Nat.lt_irrefl k)]
      have Hst : Hid (∀ q, q = (rn L k).a + 1 → PAt B (wr.setCell ⟨ab, k * 2 + 1, none⟩ (.int .i64 q)) g (some ⟨ab, 0, none⟩) c2 ⟨x.p, x.n, x.s, m, u, ageK L (k + 1)⟩ ∧ Kept w (wr.setCell ⟨ab, k * 2 + 1, none⟩ (.int .i64 q)) (Of g A)) := fun q hq => by
        refine ⟨hP.out.age (show k < (ageK L k).length by rw [length_ageK]; exact hlt) (by show q = (rn (ageK L k) k).a + 1; rw [er, hq]) rfl, ?_⟩
        refine hK.out.trans (Kept.set wr ab (k * 2 + 1) _) (fun b q => ?_)
        subst q
        rcases O3.out b rfl with q | q
        · exact .inl (.inr q)
        · exact .inr q
      have hgn : g ≠ ab := fun e => hP.out.apart (by rw [e]; rfl)
      rw [er] at q1
      clear hP hfz er
      rw [length_ageK] at h3
      unfold maxLen at h4
      generalize (rn L k).a = ra at *
      go_wp2
      go_roundw
      case rel => exact ⟨k + 1, by omega, by go_num, (Hst.out _ rfl).1, (Hst.out _ rfl).2⟩
      case measure => simp [intOf]; omega
    · obtain rfl : k = L.length := by omega
      have hlti : ¬ (L.length : Int) < (L.length : Int) := by omega
      obtain ⟨_, _, c2', c3, _, _⟩ := pcells hP.out
      dsimp only at c2' c3
      have hf3 := hP.out.free 3
      have hf2 := hP.out.free 2
      have HwP := Lib.hid (fun W hW => Hw.out W A2 c2 _ (hP.out.fresh (w' := W) hW))
      have HE := Lib.hid (fun W hW q => Hend.out W A2 c2 q (hP.out.fresh (w' := W) hW) (hK.out.trans (Kept.fresh hW) (fun k q => .inl q)) O3.out)
      clear hP hK
      go_wp2
      go_region_with (go_at_call 44; refine (HwP.out _ (Below.refl _ _).drew).mono ?_; rintro e w5 ⟨rfl, hb5⟩; have HB5 := Lib.hid ((Below.refl wr.heap.size wr).drew.trans hb5); have d3 : w5.cell? ⟨g, 3, none⟩ = some (.int .i64 m) := (hb5.cell (p := ⟨g, 3, none⟩) hsz).trans c3; have d2 := (hb5.cell (p := ⟨g, 2, none⟩) hsz).trans c2'; have g3 := (hb5.frozen (p := ⟨g, 3, none⟩) hsz).trans hf3; have g2 := (hb5.frozen (p := ⟨g, 2, none⟩) hsz).trans hf2; have hg5 : g < w5.heap.size := Nat.lt_of_lt_of_le hsz hb5.size; clear hb5)
      all_goals
        go_wp2
        go_ret2
        exact ⟨rfl, HE.out _ HB5.out _ rfl⟩

set_option maxRecDepth 100000 in
set_option maxHeartbeats 4000000 in
theorem next_scan (B g : Nat) (A : Option Addr) (c : Nat) (x : Ar) (w : World) (hC : PAt B w g A c x) (hl : x.l.length ≤ 1000) (h0 : 0 < x.l.length) (hs : x.s < 1024) (hn : 1 ≤ x.n) (hn64 : x.n ≤ 64) (hm : x.m ≤ 1000000000)
    (hage : ∀ r ∈ x.l, 0 ≤ r.a ∧ r.a ≤ 1000000000) (b : Int) (u : Bool) (hb0 : 0 ≤ b) (hb1 : b < 1024) (hN : choiceN x = 60) (hB : B ≤ w.heap.size)
    (hp : ∀ W, Below w.heap.size w W → Calls Try.prog 60 #[.pointer (some ⟨g, 0, none⟩)] W fun e w' => e = .returned (.int .i64 b) ∧ PWent B W g A { x with u := u } w') :
    Calls Try.prog 19 #[.pointer (some ⟨g, 0, none⟩)] w fun e w' => e = .returned (.tuple #[.int .i64 b, .bool true]) ∧ PWent B w g A (x.gone b u) w' := by
  have HCh := Lib.hid (choice_any B g A c x w hC hl)
  rw [hN] at HCh
  obtain ⟨_, _, _, _, _, cs⟩ := pcells hC
  have HP : Hid (∀ W, Below w.heap.size w W → Calls Try.prog 60 #[.pointer (some ⟨g, 0, none⟩)] W fun e w' => e = .returned (.int .i64 b) ∧ PWent B w g A { x with u := u } w') := fun W hW =>
    (hp W hW).mono fun e w' ⟨h1, A', c', h2, h3, h4⟩ => ⟨h1, A', c', h2, (Kept.fresh hW).trans h3 (fun k q => .inl q), fun k e => by rcases h4 k e with q | q; exact .inl q; exact .inr (Nat.le_trans hW.size q)⟩
  have HFo : Hid (∀ W, PWent B w g A { x with u := u } W → Calls Try.prog 43 #[.pointer (some ⟨g, 0, none⟩), .int .i64 b] W fun e w' => e = .returned (.tuple #[]) ∧ PWent B w g A ⟨x.p, x.n, x.s, x.m, u, dropL x.l b⟩ w') := fun W ⟨A1, c1, h1, h2, h3⟩ =>
    (forget_any B g A1 c1 { x with u := u } b W h1 hl).mono fun e w' ⟨h4, A', c', h5, h6, h7⟩ => by
      have hOf : ∀ k, Of g A1 k → Of g A k ∨ w.heap.size ≤ k := fun k q => by rcases q with q | q; exact .inl (.inl q); rcases h3 k q with q | q; exact .inl (.inr q); exact .inr q
      exact ⟨h4, A', c', h5, h2.trans h6 hOf, fun k e => by rcases h7 k e with q | q; exact h3 k q; exact .inr (Nat.le_trans h2.size q)⟩
  have hld : (dropL x.l b).length ≤ x.l.length := List.length_filter_le _ _
  have hl2 : (dropL x.l b).length ≤ 1000 := by omega
  have Hage : Hid (∀ k, k < (dropL x.l b).length → 0 ≤ (rn (dropL x.l b) k).a ∧ (rn (dropL x.l b) k).a ≤ 1000000000) := fun k hk => hage _ (List.mem_filter.1 (rn_mem hk)).1
  have hfar := far_le x.s b.toNat x.n hs (by omega) hn hn64
  have Hw : Hid (∀ W A2 c2 l2, PAt B W g A2 c2 ⟨x.p, x.n, x.s, x.m, u, l2⟩ → Calls Try.prog 44 #[.pointer (some ⟨g, 0, none⟩), .int .i64 b] W fun e w' => e = .returned (.int .i64 (far x.s b.toNat x.n : Nat)) ∧ Below W.heap.size W w') := fun W A2 c2 l2 h => away_any B g A2 c2 ⟨x.p, x.n, x.s, x.m, u, l2⟩ b W h hs hn hn64 hb0 hb1
  have Hend : Hid (∀ W A2 c2 q, PAt B W g A2 c2 ⟨x.p, x.n, x.s, x.m, u, ageK (dropL x.l b) (dropL x.l b).length⟩ → Kept w W (Of g A) → (∀ k, own A2 = some k → own A = some k ∨ w.heap.size ≤ k) → q = (x.m : Int) + (far x.s b.toNat x.n : Nat) → PWent B w g A (x.gone b u) ((W.setCell ⟨g, 3, none⟩ (.int .i64 q)).setCell ⟨g, 2, none⟩ (.int .i64 b))) := fun W A2 c2 q h1 h2 h3 hq => by
    obtain ⟨r1, k1⟩ := field B g A2 c2 _ W (y := ⟨x.p, x.n, x.s, x.m + far x.s b.toNat x.n, u, agedL (dropL x.l b)⟩) (j := 3) (v := .int .i64 q) h1 (by show agedL _ = ageK _ _; rw [ageK_all]) (fun v => by subst hq; rfl)
    obtain ⟨r2, k2⟩ := field B g A2 c2 _ _ (y := x.gone b u) (j := 2) (v := .int .i64 b) r1 rfl (fun v => by
      show (hP _ v).setIfInBounds 2 _ = #[.int .u8 x.p, .int .i64 x.n, .int .i64 (b.toNat : Int), .int .i64 _, .bool u, v]
      rw [show ((b.toNat : Int)) = b by omega]; rfl)
    exact ⟨A2, c2, r2, (h2.trans k1 (fun k q => .inl (.inl q))).trans k2 (fun k q => .inl (.inl q)), h3⟩
  have h0i : ((x.l.length : Int) == 0) = false := by rw [beq_eq_false_iff_ne]; omega
  have h0n : (x.l.length == 0) = false := by rw [beq_eq_false_iff_ne]; omega
  obtain ⟨d, hd⟩ : ∃ d, d = far x.s b.toNat x.n := ⟨_, rfl⟩
  rw [← hd] at hfar Hw Hend
  obtain ⟨L, hL⟩ : ∃ L, L = dropL x.l b := ⟨_, rfl⟩
  rw [← hL] at HFo Hage hl2 Hend
  generalize x.gone b u = xg at *
  generalize x.l.length = len0 at *
  generalize hxm : x.m = m at *
  have Hxu : Hid (∀ W, PWent B w g A { x with u := u } W → PWent B w g A { x with u := u } W) := fun _ h => h
  clear hC hN hp hd hL hage hld hb0 hb1 hs hn hn64
  go_enter Try.func19, Try.ntmps19
  go_wp2_with (first
    | (go_at_call 42; refine HCh.out.mono ?_; rintro e w1 ⟨rfl, hb1⟩; have HB1 := Lib.hid hb1; clear hb1)
    | (go_at_call 60; refine (HP.out _ HB1.out).mono ?_; rintro e w2 ⟨rfl, hw2⟩; have HW2 := Lib.hid hw2; clear hw2)
    | (go_at_call 43; refine (HFo.out _ HW2.out).mono ?_; rintro e w3 ⟨rfl, A2, c2, h3, k3, o3⟩; have H3 := Lib.hid h3; have K3 := Lib.hid k3; have O3 := Lib.hid o3; have s3 := (pcells h3).2.2.2.2.2; dsimp only at s3; clear h3 k3 o3))
  go_loopw [29] (fun i wr => ∃ k : Nat, k ≤ L.length ∧ i = .int .i64 k ∧ Hid (PAt B wr g A2 c2 ⟨x.p, x.n, x.s, m, u, ageK L k⟩) ∧ Hid (Kept w wr (Of g A))) (fun i _ => L.length - (intOf i).toNat)
  case atStart => exact ⟨0, Nat.zero_le _, rfl, H3.out, K3.out⟩
  case round =>
    obtain ⟨k, hk, rfl, hP, hK⟩ := hrel
    rename World => wr
    have hsz := hP.out.glt
    have sr : wr.cell? ⟨g, 5, none⟩ = some (.slice A2 L.length c2) := by
      have := (pcells hP.out).2.2.2.2.2
      dsimp only at this
      rwa [length_ageK] at this
    by_cases hlt : k < L.length
    · have hlti : (k : Int) < (L.length : Int) := by omega
      have hk0 : (0 : Int) ≤ (k : Int) := by omega
      obtain ⟨ab, hA, h3, h4, hb, hBb, _, q1, hfz⟩ := hP.out.row.at_ (show k < (ageK L k).length by rw [length_ageK]; exact hlt)
      subst hA
      have hf1 := hfz (k * 2 + 1)
      obtain ⟨ha0, ha1⟩ := Hage.out k hlt
      have er : rn (ageK L k) k = rn L k := by rw [rn_ageK L k k hlt, if_neg (Nat.lt_irrefl k)]
      have Hst : Hid (∀ q, q = (rn L k).a + 1 → PAt B (wr.setCell ⟨ab, k * 2 + 1, none⟩ (.int .i64 q)) g (some ⟨ab, 0, none⟩) c2 ⟨x.p, x.n, x.s, m, u, ageK L (k + 1)⟩ ∧ Kept w (wr.setCell ⟨ab, k * 2 + 1, none⟩ (.int .i64 q)) (Of g A)) := fun q hq => by
        refine ⟨hP.out.age (show k < (ageK L k).length by rw [length_ageK]; exact hlt) (by show q = (rn (ageK L k) k).a + 1; rw [er, hq]) rfl, ?_⟩
        refine hK.out.trans (Kept.set wr ab (k * 2 + 1) _) (fun b q => ?_)
        subst q
        rcases O3.out b rfl with q | q
        · exact .inl (.inr q)
        · exact .inr q
      have hgn : g ≠ ab := fun e => hP.out.apart (by rw [e]; rfl)
      rw [er] at q1
      clear hP hfz er
      rw [length_ageK] at h3
      unfold maxLen at h4
      generalize (rn L k).a = ra at *
      go_wp2
      go_roundw
      case rel => exact ⟨k + 1, by omega, by go_num, (Hst.out _ rfl).1, (Hst.out _ rfl).2⟩
      case measure => simp [intOf]; omega
    · obtain rfl : k = L.length := by omega
      have hlti : ¬ (L.length : Int) < (L.length : Int) := by omega
      obtain ⟨_, _, c2', c3, _, _⟩ := pcells hP.out
      dsimp only at c2' c3
      have hf3 := hP.out.free 3
      have hf2 := hP.out.free 2
      have HwP := Lib.hid (fun W hW => Hw.out W A2 c2 _ (hP.out.fresh (w' := W) hW))
      have HE := Lib.hid (fun W hW q => Hend.out W A2 c2 q (hP.out.fresh (w' := W) hW) (hK.out.trans (Kept.fresh hW) (fun k q => .inl q)) O3.out)
      clear hP hK
      go_wp2
      go_region_with (go_at_call 44; refine (HwP.out _ (Below.refl _ _).drew).mono ?_; rintro e w5 ⟨rfl, hb5⟩; have HB5 := Lib.hid ((Below.refl wr.heap.size wr).drew.trans hb5); have d3 : w5.cell? ⟨g, 3, none⟩ = some (.int .i64 m) := (hb5.cell (p := ⟨g, 3, none⟩) hsz).trans c3; have d2 := (hb5.cell (p := ⟨g, 2, none⟩) hsz).trans c2'; have g3 := (hb5.frozen (p := ⟨g, 3, none⟩) hsz).trans hf3; have g2 := (hb5.frozen (p := ⟨g, 2, none⟩) hsz).trans hf2; have hg5 : g < w5.heap.size := Nat.lt_of_lt_of_le hsz hb5.size; clear hb5)
      all_goals
        go_wp2
        go_ret2
        exact ⟨rfl, HE.out _ HB5.out _ rfl⟩

set_option maxRecDepth 100000 in
set_option maxHeartbeats 4000000 in
theorem next_cyclic (B g : Nat) (A : Option Addr) (c : Nat) (x : Ar) (w : World) (hC : PAt B w g A c x) (hl : x.l.length ≤ 1000) (h0 : 0 < x.l.length) (hs : x.s < 1024) (hn : 1 ≤ x.n) (hn64 : x.n ≤ 64) (hm : x.m ≤ 1000000000)
    (hage : ∀ r ∈ x.l, 0 ≤ r.a ∧ r.a ≤ 1000000000) (b : Int) (u : Bool) (hb0 : 0 ≤ b) (hb1 : b < 1024) (hN : choiceN x = 61) (hB : B ≤ w.heap.size)
    (hp : ∀ W, Below w.heap.size w W → Calls Try.prog 61 #[.pointer (some ⟨g, 0, none⟩)] W fun e w' => e = .returned (.int .i64 b) ∧ PWent B W g A { x with u := u } w') :
    Calls Try.prog 19 #[.pointer (some ⟨g, 0, none⟩)] w fun e w' => e = .returned (.tuple #[.int .i64 b, .bool true]) ∧ PWent B w g A (x.gone b u) w' := by
  have HCh := Lib.hid (choice_any B g A c x w hC hl)
  rw [hN] at HCh
  obtain ⟨_, _, _, _, _, cs⟩ := pcells hC
  have HP : Hid (∀ W, Below w.heap.size w W → Calls Try.prog 61 #[.pointer (some ⟨g, 0, none⟩)] W fun e w' => e = .returned (.int .i64 b) ∧ PWent B w g A { x with u := u } w') := fun W hW =>
    (hp W hW).mono fun e w' ⟨h1, A', c', h2, h3, h4⟩ => ⟨h1, A', c', h2, (Kept.fresh hW).trans h3 (fun k q => .inl q), fun k e => by rcases h4 k e with q | q; exact .inl q; exact .inr (Nat.le_trans hW.size q)⟩
  have HFo : Hid (∀ W, PWent B w g A { x with u := u } W → Calls Try.prog 43 #[.pointer (some ⟨g, 0, none⟩), .int .i64 b] W fun e w' => e = .returned (.tuple #[]) ∧ PWent B w g A ⟨x.p, x.n, x.s, x.m, u, dropL x.l b⟩ w') := fun W ⟨A1, c1, h1, h2, h3⟩ =>
    (forget_any B g A1 c1 { x with u := u } b W h1 hl).mono fun e w' ⟨h4, A', c', h5, h6, h7⟩ => by
      have hOf : ∀ k, Of g A1 k → Of g A k ∨ w.heap.size ≤ k := fun k q => by rcases q with q | q; exact .inl (.inl q); rcases h3 k q with q | q; exact .inl (.inr q); exact .inr q
      exact ⟨h4, A', c', h5, h2.trans h6 hOf, fun k e => by rcases h7 k e with q | q; exact h3 k q; exact .inr (Nat.le_trans h2.size q)⟩
  have hld : (dropL x.l b).length ≤ x.l.length := List.length_filter_le _ _
  have hl2 : (dropL x.l b).length ≤ 1000 := by omega
  have Hage : Hid (∀ k, k < (dropL x.l b).length → 0 ≤ (rn (dropL x.l b) k).a ∧ (rn (dropL x.l b) k).a ≤ 1000000000) := fun k hk => hage _ (List.mem_filter.1 (rn_mem hk)).1
  have hfar := far_le x.s b.toNat x.n hs (by omega) hn hn64
  have Hw : Hid (∀ W A2 c2 l2, PAt B W g A2 c2 ⟨x.p, x.n, x.s, x.m, u, l2⟩ → Calls Try.prog 44 #[.pointer (some ⟨g, 0, none⟩), .int .i64 b] W fun e w' => e = .returned (.int .i64 (far x.s b.toNat x.n : Nat)) ∧ Below W.heap.size W w') := fun W A2 c2 l2 h => away_any B g A2 c2 ⟨x.p, x.n, x.s, x.m, u, l2⟩ b W h hs hn hn64 hb0 hb1
  have Hend : Hid (∀ W A2 c2 q, PAt B W g A2 c2 ⟨x.p, x.n, x.s, x.m, u, ageK (dropL x.l b) (dropL x.l b).length⟩ → Kept w W (Of g A) → (∀ k, own A2 = some k → own A = some k ∨ w.heap.size ≤ k) → q = (x.m : Int) + (far x.s b.toNat x.n : Nat) → PWent B w g A (x.gone b u) ((W.setCell ⟨g, 3, none⟩ (.int .i64 q)).setCell ⟨g, 2, none⟩ (.int .i64 b))) := fun W A2 c2 q h1 h2 h3 hq => by
    obtain ⟨r1, k1⟩ := field B g A2 c2 _ W (y := ⟨x.p, x.n, x.s, x.m + far x.s b.toNat x.n, u, agedL (dropL x.l b)⟩) (j := 3) (v := .int .i64 q) h1 (by show agedL _ = ageK _ _; rw [ageK_all]) (fun v => by subst hq; rfl)
    obtain ⟨r2, k2⟩ := field B g A2 c2 _ _ (y := x.gone b u) (j := 2) (v := .int .i64 b) r1 rfl (fun v => by
      show (hP _ v).setIfInBounds 2 _ = #[.int .u8 x.p, .int .i64 x.n, .int .i64 (b.toNat : Int), .int .i64 _, .bool u, v]
      rw [show ((b.toNat : Int)) = b by omega]; rfl)
    exact ⟨A2, c2, r2, (h2.trans k1 (fun k q => .inl (.inl q))).trans k2 (fun k q => .inl (.inl q)), h3⟩
  have h0i : ((x.l.length : Int) == 0) = false := by rw [beq_eq_false_iff_ne]; omega
  have h0n : (x.l.length == 0) = false := by rw [beq_eq_false_iff_ne]; omega
  obtain ⟨d, hd⟩ : ∃ d, d = far x.s b.toNat x.n := ⟨_, rfl⟩
  rw [← hd] at hfar Hw Hend
  obtain ⟨L, hL⟩ : ∃ L, L = dropL x.l b := ⟨_, rfl⟩
  rw [← hL] at HFo Hage hl2 Hend
  generalize x.gone b u = xg at *
  generalize x.l.length = len0 at *
  generalize hxm : x.m = m at *
  have Hxu : Hid (∀ W, PWent B w g A { x with u := u } W → PWent B w g A { x with u := u } W) := fun _ h => h
  clear hC hN hp hd hL hage hld hb0 hb1 hs hn hn64
  go_enter Try.func19, Try.ntmps19
  go_wp2_with (first
    | (go_at_call 42; refine HCh.out.mono ?_; rintro e w1 ⟨rfl, hb1⟩; have HB1 := Lib.hid hb1; clear hb1)
    | (go_at_call 61; refine (HP.out _ HB1.out).mono ?_; rintro e w2 ⟨rfl, hw2⟩; have HW2 := Lib.hid hw2; clear hw2)
    | (go_at_call 43; refine (HFo.out _ HW2.out).mono ?_; rintro e w3 ⟨rfl, A2, c2, h3, k3, o3⟩; have H3 := Lib.hid h3; have K3 := Lib.hid k3; have O3 := Lib.hid o3; have s3 := (pcells h3).2.2.2.2.2; dsimp only at s3; clear h3 k3 o3))
  go_loopw [29] (fun i wr => ∃ k : Nat, k ≤ L.length ∧ i = .int .i64 k ∧ Hid (PAt B wr g A2 c2 ⟨x.p, x.n, x.s, m, u, ageK L k⟩) ∧ Hid (Kept w wr (Of g A))) (fun i _ => L.length - (intOf i).toNat)
  case atStart => exact ⟨0, Nat.zero_le _, rfl, H3.out, K3.out⟩
  case round =>
    obtain ⟨k, hk, rfl, hP, hK⟩ := hrel
    rename World => wr
    have hsz := hP.out.glt
    have sr : wr.cell? ⟨g, 5, none⟩ = some (.slice A2 L.length c2) := by
      have := (pcells hP.out).2.2.2.2.2
      dsimp only at this
      rwa [length_ageK] at this
    by_cases hlt : k < L.length
    · have hlti : (k : Int) < (L.length : Int) := by omega
      have hk0 : (0 : Int) ≤ (k : Int) := by omega
      obtain ⟨ab, hA, h3, h4, hb, hBb, _, q1, hfz⟩ := hP.out.row.at_ (show k < (ageK L k).length by rw [length_ageK]; exact hlt)
      subst hA
      have hf1 := hfz (k * 2 + 1)
      obtain ⟨ha0, ha1⟩ := Hage.out k hlt
      have er : rn (ageK L k) k = rn L k := by rw [rn_ageK L k k hlt, if_neg (Nat.lt_irrefl k)]
      have Hst : Hid (∀ q, q = (rn L k).a + 1 → PAt B (wr.setCell ⟨ab, k * 2 + 1, none⟩ (.int .i64 q)) g (some ⟨ab, 0, none⟩) c2 ⟨x.p, x.n, x.s, m, u, ageK L (k + 1)⟩ ∧ Kept w (wr.setCell ⟨ab, k * 2 + 1, none⟩ (.int .i64 q)) (Of g A)) := fun q hq => by
        refine ⟨hP.out.age (show k < (ageK L k).length by rw [length_ageK]; exact hlt) (by show q = (rn (ageK L k) k).a + 1; rw [er, hq]) rfl, ?_⟩
        refine hK.out.trans (Kept.set wr ab (k * 2 + 1) _) (fun b q => ?_)
        subst q
        rcases O3.out b rfl with q | q
        · exact .inl (.inr q)
        · exact .inr q
      have hgn : g ≠ ab := fun e => hP.out.apart (by rw [e]; rfl)
      rw [er] at q1
      clear hP hfz er
      rw [length_ageK] at h3
      unfold maxLen at h4
      generalize (rn L k).a = ra at *
      go_wp2
      go_roundw
      case rel => exact ⟨k + 1, by omega, by go_num, (Hst.out _ rfl).1, (Hst.out _ rfl).2⟩
      case measure => simp [intOf]; omega
    · obtain rfl : k = L.length := by omega
      have hlti : ¬ (L.length : Int) < (L.length : Int) := by omega
      obtain ⟨_, _, c2', c3, _, _⟩ := pcells hP.out
      dsimp only at c2' c3
      have hf3 := hP.out.free 3
      have hf2 := hP.out.free 2
      have HwP := Lib.hid (fun W hW => Hw.out W A2 c2 _ (hP.out.fresh (w' := W) hW))
      have HE := Lib.hid (fun W hW q => Hend.out W A2 c2 q (hP.out.fresh (w' := W) hW) (hK.out.trans (Kept.fresh hW) (fun k q => .inl q)) O3.out)
      clear hP hK
      go_wp2
      go_region_with (go_at_call 44; refine (HwP.out _ (Below.refl _ _).drew).mono ?_; rintro e w5 ⟨rfl, hb5⟩; have HB5 := Lib.hid ((Below.refl wr.heap.size wr).drew.trans hb5); have d3 : w5.cell? ⟨g, 3, none⟩ = some (.int .i64 m) := (hb5.cell (p := ⟨g, 3, none⟩) hsz).trans c3; have d2 := (hb5.cell (p := ⟨g, 2, none⟩) hsz).trans c2'; have g3 := (hb5.frozen (p := ⟨g, 3, none⟩) hsz).trans hf3; have g2 := (hb5.frozen (p := ⟨g, 2, none⟩) hsz).trans hf2; have hg5 : g < w5.heap.size := Nat.lt_of_lt_of_le hsz hb5.size; clear hb5)
      all_goals
        go_wp2
        go_ret2
        exact ⟨rfl, HE.out _ HB5.out _ rfl⟩

set_option maxRecDepth 100000 in
set_option maxHeartbeats 4000000 in
theorem next_fifo (B g : Nat) (A : Option Addr) (c : Nat) (x : Ar) (w : World) (hC : PAt B w g A c x) (hl : x.l.length ≤ 1000) (h0 : 0 < x.l.length) (hs : x.s < 1024) (hn : 1 ≤ x.n) (hn64 : x.n ≤ 64) (hm : x.m ≤ 1000000000)
    (hage : ∀ r ∈ x.l, 0 ≤ r.a ∧ r.a ≤ 1000000000) (b : Int) (u : Bool) (hb0 : 0 ≤ b) (hb1 : b < 1024) (hN : choiceN x = 62) (hB : B ≤ w.heap.size)
    (hp : ∀ W, Below w.heap.size w W → Calls Try.prog 62 #[.pointer (some ⟨g, 0, none⟩)] W fun e w' => e = .returned (.int .i64 b) ∧ PWent B W g A { x with u := u } w') :
    Calls Try.prog 19 #[.pointer (some ⟨g, 0, none⟩)] w fun e w' => e = .returned (.tuple #[.int .i64 b, .bool true]) ∧ PWent B w g A (x.gone b u) w' := by
  have HCh := Lib.hid (choice_any B g A c x w hC hl)
  rw [hN] at HCh
  obtain ⟨_, _, _, _, _, cs⟩ := pcells hC
  have HP : Hid (∀ W, Below w.heap.size w W → Calls Try.prog 62 #[.pointer (some ⟨g, 0, none⟩)] W fun e w' => e = .returned (.int .i64 b) ∧ PWent B w g A { x with u := u } w') := fun W hW =>
    (hp W hW).mono fun e w' ⟨h1, A', c', h2, h3, h4⟩ => ⟨h1, A', c', h2, (Kept.fresh hW).trans h3 (fun k q => .inl q), fun k e => by rcases h4 k e with q | q; exact .inl q; exact .inr (Nat.le_trans hW.size q)⟩
  have HFo : Hid (∀ W, PWent B w g A { x with u := u } W → Calls Try.prog 43 #[.pointer (some ⟨g, 0, none⟩), .int .i64 b] W fun e w' => e = .returned (.tuple #[]) ∧ PWent B w g A ⟨x.p, x.n, x.s, x.m, u, dropL x.l b⟩ w') := fun W ⟨A1, c1, h1, h2, h3⟩ =>
    (forget_any B g A1 c1 { x with u := u } b W h1 hl).mono fun e w' ⟨h4, A', c', h5, h6, h7⟩ => by
      have hOf : ∀ k, Of g A1 k → Of g A k ∨ w.heap.size ≤ k := fun k q => by rcases q with q | q; exact .inl (.inl q); rcases h3 k q with q | q; exact .inl (.inr q); exact .inr q
      exact ⟨h4, A', c', h5, h2.trans h6 hOf, fun k e => by rcases h7 k e with q | q; exact h3 k q; exact .inr (Nat.le_trans h2.size q)⟩
  have hld : (dropL x.l b).length ≤ x.l.length := List.length_filter_le _ _
  have hl2 : (dropL x.l b).length ≤ 1000 := by omega
  have Hage : Hid (∀ k, k < (dropL x.l b).length → 0 ≤ (rn (dropL x.l b) k).a ∧ (rn (dropL x.l b) k).a ≤ 1000000000) := fun k hk => hage _ (List.mem_filter.1 (rn_mem hk)).1
  have hfar := far_le x.s b.toNat x.n hs (by omega) hn hn64
  have Hw : Hid (∀ W A2 c2 l2, PAt B W g A2 c2 ⟨x.p, x.n, x.s, x.m, u, l2⟩ → Calls Try.prog 44 #[.pointer (some ⟨g, 0, none⟩), .int .i64 b] W fun e w' => e = .returned (.int .i64 (far x.s b.toNat x.n : Nat)) ∧ Below W.heap.size W w') := fun W A2 c2 l2 h => away_any B g A2 c2 ⟨x.p, x.n, x.s, x.m, u, l2⟩ b W h hs hn hn64 hb0 hb1
  have Hend : Hid (∀ W A2 c2 q, PAt B W g A2 c2 ⟨x.p, x.n, x.s, x.m, u, ageK (dropL x.l b) (dropL x.l b).length⟩ → Kept w W (Of g A) → (∀ k, own A2 = some k → own A = some k ∨ w.heap.size ≤ k) → q = (x.m : Int) + (far x.s b.toNat x.n : Nat) → PWent B w g A (x.gone b u) ((W.setCell ⟨g, 3, none⟩ (.int .i64 q)).setCell ⟨g, 2, none⟩ (.int .i64 b))) := fun W A2 c2 q h1 h2 h3 hq => by
    obtain ⟨r1, k1⟩ := field B g A2 c2 _ W (y := ⟨x.p, x.n, x.s, x.m + far x.s b.toNat x.n, u, agedL (dropL x.l b)⟩) (j := 3) (v := .int .i64 q) h1 (by show agedL _ = ageK _ _; rw [ageK_all]) (fun v => by subst hq; rfl)
    obtain ⟨r2, k2⟩ := field B g A2 c2 _ _ (y := x.gone b u) (j := 2) (v := .int .i64 b) r1 rfl (fun v => by
      show (hP _ v).setIfInBounds 2 _ = #[.int .u8 x.p, .int .i64 x.n, .int .i64 (b.toNat : Int), .int .i64 _, .bool u, v]
      rw [show ((b.toNat : Int)) = b by omega]; rfl)
    exact ⟨A2, c2, r2, (h2.trans k1 (fun k q => .inl (.inl q))).trans k2 (fun k q => .inl (.inl q)), h3⟩
  have h0i : ((x.l.length : Int) == 0) = false := by rw [beq_eq_false_iff_ne]; omega
  have h0n : (x.l.length == 0) = false := by rw [beq_eq_false_iff_ne]; omega
  obtain ⟨d, hd⟩ : ∃ d, d = far x.s b.toNat x.n := ⟨_, rfl⟩
  rw [← hd] at hfar Hw Hend
  obtain ⟨L, hL⟩ : ∃ L, L = dropL x.l b := ⟨_, rfl⟩
  rw [← hL] at HFo Hage hl2 Hend
  generalize x.gone b u = xg at *
  generalize x.l.length = len0 at *
  generalize hxm : x.m = m at *
  have Hxu : Hid (∀ W, PWent B w g A { x with u := u } W → PWent B w g A { x with u := u } W) := fun _ h => h
  clear hC hN hp hd hL hage hld hb0 hb1 hs hn hn64
  go_enter Try.func19, Try.ntmps19
  go_wp2_with (first
    | (go_at_call 42; refine HCh.out.mono ?_; rintro e w1 ⟨rfl, hb1⟩; have HB1 := Lib.hid hb1; clear hb1)
    | (go_at_call 62; refine (HP.out _ HB1.out).mono ?_; rintro e w2 ⟨rfl, hw2⟩; have HW2 := Lib.hid hw2; clear hw2)
    | (go_at_call 43; refine (HFo.out _ HW2.out).mono ?_; rintro e w3 ⟨rfl, A2, c2, h3, k3, o3⟩; have H3 := Lib.hid h3; have K3 := Lib.hid k3; have O3 := Lib.hid o3; have s3 := (pcells h3).2.2.2.2.2; dsimp only at s3; clear h3 k3 o3))
  go_loopw [29] (fun i wr => ∃ k : Nat, k ≤ L.length ∧ i = .int .i64 k ∧ Hid (PAt B wr g A2 c2 ⟨x.p, x.n, x.s, m, u, ageK L k⟩) ∧ Hid (Kept w wr (Of g A))) (fun i _ => L.length - (intOf i).toNat)
  case atStart => exact ⟨0, Nat.zero_le _, rfl, H3.out, K3.out⟩
  case round =>
    obtain ⟨k, hk, rfl, hP, hK⟩ := hrel
    rename World => wr
    have hsz := hP.out.glt
    have sr : wr.cell? ⟨g, 5, none⟩ = some (.slice A2 L.length c2) := by
      have := (pcells hP.out).2.2.2.2.2
      dsimp only at this
      rwa [length_ageK] at this
    by_cases hlt : k < L.length
    · have hlti : (k : Int) < (L.length : Int) := by omega
      have hk0 : (0 : Int) ≤ (k : Int) := by omega
      obtain ⟨ab, hA, h3, h4, hb, hBb, _, q1, hfz⟩ := hP.out.row.at_ (show k < (ageK L k).length by rw [length_ageK]; exact hlt)
      subst hA
      have hf1 := hfz (k * 2 + 1)
      obtain ⟨ha0, ha1⟩ := Hage.out k hlt
      have er : rn (ageK L k) k = rn L k := by rw [rn_ageK L k k hlt, if_neg (Nat.lt_irrefl k)]
      have Hst : Hid (∀ q, q = (rn L k).a + 1 → PAt B (wr.setCell ⟨ab, k * 2 + 1, none⟩ (.int .i64 q)) g (some ⟨ab, 0, none⟩) c2 ⟨x.p, x.n, x.s, m, u, ageK L (k + 1)⟩ ∧ Kept w (wr.setCell ⟨ab, k * 2 + 1, none⟩ (.int .i64 q)) (Of g A)) := fun q hq => by
        refine ⟨hP.out.age (show k < (ageK L k).length by rw [length_ageK]; exact hlt) (by show q = (rn (ageK L k) k).a + 1; rw [er, hq]) rfl, ?_⟩
        refine hK.out.trans (Kept.set wr ab (k * 2 + 1) _) (fun b q => ?_)
        subst q
        rcases O3.out b rfl with q | q
        · exact .inl (.inr q)
        · exact .inr q
      have hgn : g ≠ ab := fun e => hP.out.apart (by rw [e]; rfl)
      rw [er] at q1
      clear hP hfz er
      rw [length_ageK] at h3
      unfold maxLen at h4
      generalize (rn L k).a = ra at *
      go_wp2
      go_roundw
      case rel => exact ⟨k + 1, by omega, by go_num, (Hst.out _ rfl).1, (Hst.out _ rfl).2⟩
      case measure => simp [intOf]; omega
    · obtain rfl : k = L.length := by omega
      have hlti : ¬ (L.length : Int) < (L.length : Int) := by omega
      obtain ⟨_, _, c2', c3, _, _⟩ := pcells hP.out
      dsimp only at c2' c3
      have hf3 := hP.out.free 3
      have hf2 := hP.out.free 2
      have HwP := Lib.hid (fun W hW => Hw.out W A2 c2 _ (hP.out.fresh (w' := W) hW))
      have HE := Lib.hid (fun W hW q => Hend.out W A2 c2 q (hP.out.fresh (w' := W) hW) (hK.out.trans (Kept.fresh hW) (fun k q => .inl q)) O3.out)
      clear hP hK
      go_wp2
      go_region_with (go_at_call 44; refine (HwP.out _ (Below.refl _ _).drew).mono ?_; rintro e w5 ⟨rfl, hb5⟩; have HB5 := Lib.hid ((Below.refl wr.heap.size wr).drew.trans hb5); have d3 : w5.cell? ⟨g, 3, none⟩ = some (.int .i64 m) := (hb5.cell (p := ⟨g, 3, none⟩) hsz).trans c3; have d2 := (hb5.cell (p := ⟨g, 2, none⟩) hsz).trans c2'; have g3 := (hb5.frozen (p := ⟨g, 3, none⟩) hsz).trans hf3; have g2 := (hb5.frozen (p := ⟨g, 2, none⟩) hsz).trans hf2; have hg5 : g < w5.heap.size := Nat.lt_of_lt_of_le hsz hb5.size; clear hb5)
      all_goals
        go_wp2
        go_ret2
        exact ⟨rfl, HE.out _ HB5.out _ rfl⟩
end Go.Proofs.Ytpelocpjfmmceaa
