/- The document's Squash. -/
import Derived.Test.YtibkipdadpidnaaL
import Derived.Test.YtibkipdadpidnaaPX
set_option linter.unusedVariables false
set_option linter.unusedSimpArgs false
namespace Go.Proofs.Ytibkipdadpidnaa
open Go.RowKit
open Pat (Pt AllB undoP nth)
def sqQ (l : List On) (a n : Int) : Pt := ⟨(patP l a).b, (patP l n).o, (patP l n).s⟩
def bet (l : List On) (a n : Int) : Bool := l.any fun x => decide (a < x.n) && decide (x.n < n) && (meetP (patP l a) x.p || meetP x.p (patP l n))
def sqE (l : List On) (a n : Int) : Int := if isOn l a = false ∨ isOn l n = false then 5 else if n ≤ a then 2 else if bet l a n = true then 12 else if (patP l a).apart (sqQ l a n) = true then 3 else 0
def sqX (a : Int) (j : Pt) (x : On) : On := if x.n = a then ⟨x.n, j⟩ else x
def sqL (l : List On) (a n : Int) (j : Pt) : List On := (l.filter (fun x => decide (x.n ≠ n))).map (sqX a j)
def squashS (s : Sk) (a n : Int) : Sk := ⟨s.f, sqL s.l a n (Pat.joinP (patP s.l a) (sqQ s.l a n)), s.k⟩
theorem sqL_next {l : List On} {a n : Int} {j : Pt} {k : Nat} (h : k < l.length) : sqL (l.take (k + 1)) a n j = sqL (l.take k) a n j ++ (if (onn l k).n = n then [] else [sqX a j (onn l k)]) := by
  unfold sqL
  rw [take_onn h, List.filter_append, List.map_append]
  congr 1
  by_cases q : (onn l k).n = n
  · rw [List.filter_cons_of_neg (by simpa using q), if_pos q]; rfl
  · rw [List.filter_cons_of_pos (by simpa using q), if_neg q]; rfl
theorem sqL_len (l : List On) (a n : Int) (j : Pt) : (sqL l a n j).length ≤ l.length := by unfold sqL; rw [List.length_map]; exact List.length_filter_le _ _
theorem bet_at {l : List On} {a n : Int} {k : Nat} (hk : k < l.length) (h1 : a < (onn l k).n) (h2 : (onn l k).n < n) (h : (meetP (patP l a) (onn l k).p || meetP (onn l k).p (patP l n)) = true) : bet l a n = true :=
  List.any_eq_true.2 ⟨_, onn_mem hk, by rw [decide_eq_true h1, decide_eq_true h2, h]; rfl⟩
theorem bet_no {l : List On} {a n : Int} (h : ∀ q, q < l.length → (a < (onn l q).n → (onn l q).n < n → (meetP (patP l a) (onn l q).p || meetP (onn l q).p (patP l n)) = false)) : bet l a n = false := by
  unfold bet
  rw [List.any_eq_false]
  intro x hx
  obtain ⟨q, hq, rfl⟩ := List.mem_iff_getElem.1 hx
  have := h q hq
  rw [onn_lt hq] at this
  by_cases z1 : a < l[q].n
  · by_cases z2 : l[q].n < n
    · rw [this z1 z2]; simp
    · rw [decide_eq_false z2]; simp
  · rw [decide_eq_false z1]; simp
section
variable (B r : Nat) (bA A : Option Addr) (bc c : Nat) (s : Sk) (a n : Int) (w : World)
set_option maxRecDepth 100000 in
set_option maxHeartbeats 2000000 in
theorem rsquash_off (hC : RefAt B w r bA bc A c s) (hr0 : Rights s.l) (hl : s.l.length ≤ 900) (hoff : isOn s.l a = false ∨ isOn s.l n = false) : Calls Try.prog 62 #[.pointer (some ⟨r, 0, none⟩), .int .i64 a, .int .i64 n] w fun e w' => e = .returned (.int .i64 (sqE s.l a n)) ∧ RW B w r (if sqE s.l a n = 0 then squashS s a n else s) w' := by
  have hE : sqE s.l a n = 5 := if_pos hoff
  rw [hE, if_neg (by decide)]
  have HGa := Lib.hid (rget_any B r bA A bc c s a w hC (by omega))
  have HGn : Hid (∀ W, Below w.heap.size w W → Calls Try.prog 36 #[.pointer (some ⟨r, 0, none⟩), .int .i64 n] W fun e w' => e = .returned (.tuple #[(patP s.l n).v, .bool (isOn s.l n)]) ∧ Below W.heap.size W w') := fun W hW => rget_any B r bA A bc c s n W (hC.fresh hW) (by omega)
  have HX : Hid (∀ (w1 : World) (p : Pt), Below w.heap.size w w1 → Below w.heap.size w (w1.alloc (.cells #[.int .i64 p.b, .int .i64 p.o, .string p.s] 38)) ∧ Pat.Boxed (w1.alloc (.cells #[.int .i64 p.b, .int .i64 p.o, .string p.s] 38)) w1.heap.size p) := fun w1 p h => ⟨h.alloc h.size _, Pat.boxed1 w1 p⟩
  have HF : Hid (∀ w', Below w.heap.size w w' → RW B w r s w') := fun w' h => hC.rw h
  generalize hpa : patP s.l a = p at *
  generalize hpn : patP s.l n = q at *
  obtain ⟨pb, po, ps⟩ := p
  obtain ⟨qb, qo, qs⟩ := q
  unfold Pat.Pt.v at HGa HGn
  simp only at HGa HGn
  clear hC hr0 hE hpa hpn
  cases ha : isOn s.l a <;> cases hn : isOn s.l n <;> (try (rw [ha, hn] at hoff; simp at hoff)) <;> (
    rw [ha] at HGa
    rw [hn] at HGn
    clear hoff
    go_enter Try.func62, Try.ntmps62
    go_wp2_with (first
      | (go_at_call 36; (with_reducible refine HGa.out.mono ?_); rintro e w1 ⟨rfl, hb1⟩; have Z1 := Lib.hid (HX.out w1 ⟨pb, po, ps⟩ hb1); clear hb1)
      | (go_at_call 36; (with_reducible refine (HGn.out _ Z1.out.1).mono ?_); rintro e w2 ⟨rfl, hb2⟩; have B2 := Lib.hid (Below.trans Z1.out.1 (Below.mono hb2 Z1.out.1.size)); have Q1 := Lib.hid (Z1.out.2.below hb2 (by simp)); have Y2 := Lib.hid (by simpa using hb2.size : w1.heap.size + 1 ≤ w2.heap.size); clear hb2; have Z2 := Lib.hid (HX.out w2 ⟨qb, qo, qs⟩ B2.out)))
    go_ret
    exact ⟨rfl, HF.out _ Z2.out.1⟩)
set_option maxRecDepth 100000 in
set_option maxHeartbeats 2000000 in
theorem rsquash_low (hC : RefAt B w r bA bc A c s) (hr0 : Rights s.l) (hl : s.l.length ≤ 900) (ha : isOn s.l a = true) (hn : isOn s.l n = true) (han : n ≤ a) : Calls Try.prog 62 #[.pointer (some ⟨r, 0, none⟩), .int .i64 a, .int .i64 n] w fun e w' => e = .returned (.int .i64 (sqE s.l a n)) ∧ RW B w r (if sqE s.l a n = 0 then squashS s a n else s) w' := by
  have hE : sqE s.l a n = 2 := by unfold sqE; rw [if_neg (by rw [ha, hn]; simp), if_pos han]
  rw [hE, if_neg (by decide)]
  have HGa := Lib.hid (rget_any B r bA A bc c s a w hC (by omega))
  have HGn : Hid (∀ W, Below w.heap.size w W → Calls Try.prog 36 #[.pointer (some ⟨r, 0, none⟩), .int .i64 n] W fun e w' => e = .returned (.tuple #[(patP s.l n).v, .bool (isOn s.l n)]) ∧ Below W.heap.size W w') := fun W hW => rget_any B r bA A bc c s n W (hC.fresh hW) (by omega)
  have HX : Hid (∀ (w1 : World) (p : Pt), Below w.heap.size w w1 → Below w.heap.size w (w1.alloc (.cells #[.int .i64 p.b, .int .i64 p.o, .string p.s] 38)) ∧ Pat.Boxed (w1.alloc (.cells #[.int .i64 p.b, .int .i64 p.o, .string p.s] 38)) w1.heap.size p) := fun w1 p h => ⟨h.alloc h.size _, Pat.boxed1 w1 p⟩
  have HF : Hid (∀ w', Below w.heap.size w w' → RW B w r s w') := fun w' h => hC.rw h
  generalize hpa : patP s.l a = p at *
  generalize hpn : patP s.l n = q at *
  obtain ⟨pb, po, ps⟩ := p
  obtain ⟨qb, qo, qs⟩ := q
  unfold Pat.Pt.v at HGa HGn
  simp only at HGa HGn
  clear hC hr0 hE hpa hpn
  rw [ha] at HGa
  rw [hn] at HGn
  go_enter Try.func62, Try.ntmps62
  go_wp2_with (first
      | (go_at_call 36; (with_reducible refine HGa.out.mono ?_); rintro e w1 ⟨rfl, hb1⟩; have Z1 := Lib.hid (HX.out w1 ⟨pb, po, ps⟩ hb1); clear hb1)
      | (go_at_call 36; (with_reducible refine (HGn.out _ Z1.out.1).mono ?_); rintro e w2 ⟨rfl, hb2⟩; have B2 := Lib.hid (Below.trans Z1.out.1 (Below.mono hb2 Z1.out.1.size)); have Q1 := Lib.hid (Z1.out.2.below hb2 (by simp)); have Y2 := Lib.hid (by simpa using hb2.size : w1.heap.size + 1 ≤ w2.heap.size); clear hb2; have Z2 := Lib.hid (HX.out w2 ⟨qb, qo, qs⟩ B2.out)))
  go_ret
  exact ⟨rfl, HF.out _ Z2.out.1⟩
theorem ao_src2 (w6 : World) (x : On) (g : Nat) (hg : g = w6.heap.size) (ad : Addr) (e : some (⟨g, 0, none⟩ : Addr) = some ad) : ∀ j u, [Value.int .i64 x.n, .int .i64 x.p.b, .int .i64 x.p.o, .string x.p.s][j]? = some u → (w6.alloc x.cell).cell? (ad.add j) = some u := by subst hg; exact ao_src w6 x ad e
set_option maxRecDepth 100000 in
set_option maxHeartbeats 4000000 in
theorem rsquash_main (hC : RefAt B w r bA bc A c s) (hr0 : Rights s.l) (hl : s.l.length ≤ 900) (ha : isOn s.l a = true) (hn : isOn s.l n = true) (han : a < n) : Calls Try.prog 62 #[.pointer (some ⟨r, 0, none⟩), .int .i64 a, .int .i64 n] w fun e w' => e = .returned (.int .i64 (sqE s.l a n)) ∧ RW B w r (if sqE s.l a n = 0 then squashS s a n else s) w' := by
  have HGa := Lib.hid (rget_any B r bA A bc c s a w hC (by omega))
  have HGn : Hid (∀ W, Below w.heap.size w W → Calls Try.prog 36 #[.pointer (some ⟨r, 0, none⟩), .int .i64 n] W fun e w' => e = .returned (.tuple #[(patP s.l n).v, .bool (isOn s.l n)]) ∧ Below W.heap.size W w') := fun W hW => rget_any B r bA A bc c s n W (hC.fresh hW) (by omega)
  have HX : Hid (∀ (w1 : World) (p : Pt), Below w.heap.size w w1 → Below w.heap.size w (w1.alloc (.cells #[.int .i64 p.b, .int .i64 p.o, .string p.s] 38)) ∧ Pat.Boxed (w1.alloc (.cells #[.int .i64 p.b, .int .i64 p.o, .string p.s] 38)) w1.heap.size p) := fun w1 p h => ⟨h.alloc h.size _, Pat.boxed1 w1 p⟩
  have HF : Hid (∀ w', Below w.heap.size w w' → RW B w r s w') := fun w' h => hC.rw h
  have HRa := Lib.hid (patP_right hr0 ha)
  have HRn := Lib.hid (patP_right hr0 hn)
  have HM1 : Hid (∀ (x : On) W, x ∈ s.l → Calls Try.prog 64 #[(patP s.l a).v, x.p.v] W fun e w' => e = .returned (.bool (meetP (patP s.l a) x.p)) ∧ Below W.heap.size W w') := fun x W hx => by
    have := rmeet_any (patP s.l a) x.p W (Pat.ok_of HRa.out) (Pat.ok_of (hr0 x hx))
    rwa [over_meet HRa.out (hr0 x hx)] at this
  have HM2 : Hid (∀ (x : On) W, x ∈ s.l → Calls Try.prog 64 #[x.p.v, (patP s.l n).v] W fun e w' => e = .returned (.bool (meetP x.p (patP s.l n))) ∧ Below W.heap.size W w') := fun x W hx => by
    have := rmeet_any x.p (patP s.l n) W (Pat.ok_of (hr0 x hx)) (Pat.ok_of HRn.out)
    rwa [over_meet (hr0 x hx) HRn.out] at this
  have HJ : Hid (∀ W, Calls Try.prog 80 #[(patP s.l a).v, (sqQ s.l a n).v] W fun e w' => e = .returned (.tuple #[(Pat.joinA (patP s.l a) (sqQ s.l a n)).v, .bool (!(patP s.l a).apart (sqQ s.l a n))]) ∧ Below W.heap.size W w') := fun W => by
    refine Pat.refjoin_any _ _ W ?_
    have h1 := Pat.Pt.right_out HRa.out
    have h2 := Pat.Pt.right_out HRn.out
    unfold Pat.Pt.both sqQ
    rw [HRa.out, show (⟨(patP s.l a).b, (patP s.l n).o, (patP s.l n).s⟩ : Pt).right = true from Pat.Pt.right_in ⟨h1.1, h1.2.1, h2.2.2⟩]
    simp
  have HEb : Hid (bet s.l a n = true → sqE s.l a n = 12) := fun h => by unfold sqE; rw [if_neg (by rw [ha, hn]; simp), if_neg (by omega), if_pos h]
  have HEf : Hid (bet s.l a n = false → (patP s.l a).apart (sqQ s.l a n) = true → sqE s.l a n = 3) := fun h h2 => by unfold sqE; rw [if_neg (by rw [ha, hn]; simp), if_neg (by omega), if_neg (by rw [h]; decide), if_pos h2]
  have HEo : Hid (bet s.l a n = false → (patP s.l a).apart (sqQ s.l a n) = false → sqE s.l a n = 0) := fun h h2 => by unfold sqE; rw [if_neg (by rw [ha, hn]; simp), if_neg (by omega), if_neg (by rw [h]; decide), if_neg (by rw [h2]; decide)]
  have HBy := Lib.hid (fun k hk h1 h2 h => bet_at (l := s.l) (a := a) (n := n) (k := k) hk h1 h2 h)
  have HBn := Lib.hid (fun h => bet_no (l := s.l) (a := a) (n := n) h)
  have HSq : Hid (squashS s a n = ⟨s.f, sqL s.l a n (Pat.joinP (patP s.l a) (sqQ s.l a n)), s.k⟩) := rfl
  have HJA : Hid ((patP s.l a).apart (sqQ s.l a n) = false → Pat.joinA (patP s.l a) (sqQ s.l a n) = Pat.joinP (patP s.l a) (sqQ s.l a n)) := fun h => by unfold Pat.joinA; rw [if_neg (by rw [h]; decide)]
  have Hq : Hid (sqQ s.l a n = ⟨(patP s.l a).b, (patP s.l n).o, (patP s.l n).s⟩) := rfl
  rw [ha] at HGa
  rw [hn] at HGn
  obtain ⟨i0, hi0, hz0, hz1, hz2⟩ := info_parts infoO
  have HC := Lib.hid hC
  have hr := hC.glt
  generalize bet s.l a n = bt at *
  generalize sqE s.l a n = E at *
  generalize squashS s a n = s' at *
  generalize hqq : sqQ s.l a n = qq at *
  generalize hpa : patP s.l a = p at *
  generalize hpn : patP s.l n = q at *
  generalize hap : p.apart qq = ap at *
  have HT0 : Hid (E = 0 → (if E = 0 then s' else s) = s') := fun h => if_pos h
  have HT1 : Hid (E ≠ 0 → (if E = 0 then s' else s) = s) := fun h => if_neg h
  generalize (if E = 0 then s' else s) = tt at *
  obtain ⟨pb, po, ps⟩ := p
  obtain ⟨qb, qo, qs⟩ := q
  have Hq2 := Hq.out
  subst Hq2
  unfold Pat.Pt.v at HGa HGn HM1 HM2 HJ
  try simp only at HGa
  try simp only at HGn
  try simp only at HM1
  try simp only at HM2
  try simp only at HJ
  clear hC hr0 hpa hpn hqq ha hn hap HRa HRn Hq
  have hgt : ¬ (n ≤ a) := by omega
  go_enter Try.func62, Try.ntmps62
  go_wp2_with (first
      | (go_at_call 36; (with_reducible refine HGa.out.mono ?_); rintro e w1 ⟨rfl, hb1⟩; have Z1 := Lib.hid (HX.out w1 ⟨pb, po, ps⟩ hb1); clear hb1)
      | (go_at_call 36; (with_reducible refine (HGn.out _ Z1.out.1).mono ?_); rintro e w2 ⟨rfl, hb2⟩; have B2 := Lib.hid (Below.trans Z1.out.1 (Below.mono hb2 Z1.out.1.size)); have Q1 := Lib.hid (Z1.out.2.below hb2 (by simp)); have Y2 := Lib.hid (by simpa using hb2.size : w1.heap.size + 1 ≤ w2.heap.size); clear hb2; have Z2 := Lib.hid (HX.out w2 ⟨qb, qo, qs⟩ B2.out)))
  obtain ⟨V2, hV2⟩ : ∃ V2, V2 = w2.alloc (.cells #[.int .i64 qb, .int .i64 qo, .string qs] 38) := ⟨_, rfl⟩
  have hz := Z2.out
  (try simp only at hz)
  rw [← hV2] at hz ⊢
  have hs2 : V2.heap.size = w2.heap.size + 1 := by rw [hV2]; simp
  have hY2 := Y2.out
  have HB2 := Lib.hid hz.1
  have HQb := Lib.hid hz.2
  have HQa := Lib.hid (show Pat.Boxed V2 w1.heap.size ⟨pb, po, ps⟩ by rw [hV2]; exact Q1.out.below ((Below.refl w2.heap.size w2).alloc (Nat.le_refl _) _) (by omega))
  have hw12 : w.heap.size ≤ w2.heap.size := B2.out.size
  clear hz hV2 Z1 Z2 B2 Q1 Y2 HGa HGn HX
  have C2 := Lib.hid (HC.out.fresh HB2.out)
  obtain ⟨_, c1, _⟩ := C2.out.hcells
  have hrV : r < V2.heap.size := by omega
  have hw1V : w1.heap.size < V2.heap.size := by omega
  have hw2V : w2.heap.size < V2.heap.size := by omega
  go_loopw [11] (fun i wr => ∃ k : Nat, k ≤ s.l.length ∧ i = .int .i64 k ∧ Hid (∀ q, q < k → (a < (onn s.l q).n → (onn s.l q).n < n → (meetP ⟨pb, po, ps⟩ (onn s.l q).p || meetP (onn s.l q).p ⟨qb, qo, qs⟩) = false)) ∧ Hid (Below V2.heap.size V2 wr)) (fun i _ => s.l.length - (intOf i).toNat)
  case atStart => exact ⟨0, Nat.zero_le _, rfl, fun q h => absurd h (by omega), Below.refl _ _⟩
  case round =>
    obtain ⟨k, hk, rfl, hno, hB⟩ := hrel
    rename World => wr
    have hk0 : (0 : Int) ≤ (k : Int) := by omega
    have hwz := hB.out.size
    have HC3 := Lib.hid (C2.out.fresh hB.out)
    clear c1
    obtain ⟨_, c1, _⟩ := HC3.out.hcells
    have hrz : r < wr.heap.size := by omega
    by_cases hlt : k < s.l.length
    · have hki : (k : Int) < (s.l.length : Int) := by omega
      obtain ⟨b, rfl, h1, h2, hb, d0, d1, d2, d3⟩ := HC3.out.at_ hlt
      unfold maxLen at h2
      have HMa := Lib.hid (fun W => HM1.out (onn s.l k) W (onn_mem hlt))
      have HMb := Lib.hid (fun W => HM2.out (onn s.l k) W (onn_mem hlt))
      have HBk := Lib.hid (fun h1 h2 h => HEb.out (HBy.out k hlt h1 h2 h))
      have HNk : Hid ((a < (onn s.l k).n → (onn s.l k).n < n → (meetP ⟨pb, po, ps⟩ (onn s.l k).p || meetP (onn s.l k).p ⟨qb, qo, qs⟩) = false) → ∀ q, q < k + 1 → (a < (onn s.l q).n → (onn s.l q).n < n → (meetP ⟨pb, po, ps⟩ (onn s.l q).p || meetP (onn s.l q).p ⟨qb, qo, qs⟩) = false)) := fun h q hq => by
        by_cases e : q = k
        · rw [e]; exact h
        · exact hno.out q (by omega)
      generalize onn s.l k = x at *
      generalize hm1 : meetP ⟨pb, po, ps⟩ x.p = m1 at *
      generalize hm2 : meetP x.p ⟨qb, qo, qs⟩ = m2 at *
      obtain ⟨y, xb, xo, xs⟩ := x
      simp only at d0 d1 d2 d3
      try simp only at HMa
      try simp only at HMb
      try simp only at HBk
      try simp only at HNk
      clear hm1 hm2 hno
      have HS : Hid (∀ V, Below wr.heap.size wr V → (V.cell? ⟨w1.heap.size, 0, none⟩ = some (.int .i64 pb) ∧ V.cell? ⟨w1.heap.size, 1, none⟩ = some (.int .i64 po) ∧ V.cell? ⟨w1.heap.size, 2, none⟩ = some (.string ps)) ∧ (V.cell? ⟨w2.heap.size, 0, none⟩ = some (.int .i64 qb) ∧ V.cell? ⟨w2.heap.size, 1, none⟩ = some (.int .i64 qo) ∧ V.cell? ⟨w2.heap.size, 2, none⟩ = some (.string qs))) := fun V hV =>
        have hbb := Below.trans hB.out (Below.mono hV hB.out.size)
        ⟨(HQa.out.below hbb hw1V).cells, (HQb.out.below hbb hw2V).cells⟩
      obtain ⟨⟨p0, p1, p2⟩, q0, q1, q2⟩ := HS.out wr (Below.refl _ _)
      have HW4 : Hid (Below wr.heap.size wr (wr.alloc (.cells #[.int .i64 y, .int .i64 xb, .int .i64 xo, .string xs] 97))) := (Below.refl _ _).alloc (Nat.le_refl _) _
      have hp1z : w1.heap.size < wr.heap.size := by omega
      have hp2z : w2.heap.size < wr.heap.size := by omega
      have HW4c : Hid (∀ V, Below (wr.heap.size + 1) (wr.alloc (.cells #[.int .i64 y, .int .i64 xb, .int .i64 xo, .string xs] 97)) V → V.cell? ⟨wr.heap.size, 1, none⟩ = some (.int .i64 xb) ∧ V.cell? ⟨wr.heap.size, 2, none⟩ = some (.int .i64 xo) ∧ V.cell? ⟨wr.heap.size, 3, none⟩ = some (.string xs)) := fun V hV => by
        have h0 := heap_alloc_new wr (.cells #[.int .i64 y, .int .i64 xb, .int .i64 xo, .string xs] 97)
        have hh : ∀ j, V.cell? ⟨wr.heap.size, j, none⟩ = (wr.alloc (.cells #[.int .i64 y, .int .i64 xb, .int .i64 xo, .string xs] 97)).cell? ⟨wr.heap.size, j, none⟩ := fun j => hV.cell (p := ⟨wr.heap.size, j, none⟩) (by simp)
        exact ⟨(hh 1).trans (cell_of_row _ wr.heap.size 1 _ _ (0, 0) h0), (hh 2).trans (cell_of_row _ wr.heap.size 2 _ _ (0, 0) h0), (hh 3).trans (cell_of_row _ wr.heap.size 3 _ _ (0, 0) h0)⟩
      by_cases h3 : a < y
      · by_cases h4 : y < n
        · cases m1 with
          | true =>
            have HE12 := Lib.hid (HBk.out h3 h4 rfl)
            clear HBk HNk
            go_wp2_with (go_at_call 64; (with_reducible refine (HMa.out _).mono ?_); rintro e w5 ⟨rfl, hb5⟩; have B5 := Lib.hid (Below.trans HW4.out (Below.mono hb5 HW4.out.size)); clear hb5)
            go_ret
            exact ⟨by rw [HE12.out]; rfl, by rw [HT1.out (by rw [HE12.out]; decide)]; exact HF.out _ (Below.trans HB2.out (Below.mono (Below.trans hB.out (Below.mono B5.out hB.out.size)) HB2.out.size))⟩
          | false =>
            cases m2 with
            | true =>
              have HE12 := Lib.hid (HBk.out h3 h4 rfl)
              clear HBk HNk
              go_wp2_with (first
                | (go_at_call 64; (with_reducible refine (HMa.out _).mono ?_); rintro e w5 ⟨rfl, hb5⟩; have B5 := Lib.hid (Below.trans HW4.out (Below.mono hb5 HW4.out.size)); obtain ⟨f1, f2, f3⟩ := HW4c.out w5 (by simpa using hb5); obtain ⟨_, g0, g1, g2⟩ := HS.out w5 B5.out; clear hb5)
                | (go_at_call 64; (with_reducible refine (HMb.out _).mono ?_); rintro e w6 ⟨rfl, hb6⟩; have B6 := Lib.hid (Below.trans B5.out (Below.mono hb6 B5.out.size)); clear hb6))
              go_ret
              exact ⟨by rw [HE12.out]; rfl, by rw [HT1.out (by rw [HE12.out]; decide)]; exact HF.out _ (Below.trans HB2.out (Below.mono (Below.trans hB.out (Below.mono B6.out hB.out.size)) HB2.out.size))⟩
            | false =>
              have HN2 := Lib.hid (HNk.out (fun _ _ => rfl))
              clear HBk HNk
              go_wp2_with (first
                | (go_at_call 64; (with_reducible refine (HMa.out _).mono ?_); rintro e w5 ⟨rfl, hb5⟩; have B5 := Lib.hid (Below.trans HW4.out (Below.mono hb5 HW4.out.size)); obtain ⟨f1, f2, f3⟩ := HW4c.out w5 (by simpa using hb5); obtain ⟨_, g0, g1, g2⟩ := HS.out w5 B5.out; clear hb5)
                | (go_at_call 64; (with_reducible refine (HMb.out _).mono ?_); rintro e w6 ⟨rfl, hb6⟩; have B6 := Lib.hid (Below.trans B5.out (Below.mono hb6 B5.out.size)); clear hb6))
              go_roundw
              case rel => exact ⟨k + 1, by omega, by go_num, HN2.out, Below.trans hB.out (Below.mono B6.out hB.out.size)⟩
              case measure => simp [intOf]; omega
        · have HN2 := Lib.hid (HNk.out (fun _ h => absurd h h4))
          have hd4 : decide (y < n) = false := decide_eq_false h4
          clear HBk HNk h4
          go_wp2
          go_roundw
          case rel => exact ⟨k + 1, by omega, by go_num, HN2.out, Below.trans hB.out (Below.mono HW4.out hB.out.size)⟩
          case measure => simp [intOf]; omega
      · have HN2 := Lib.hid (HNk.out (fun h => absurd h h3))
        have hd3 : decide (a < y) = false := decide_eq_false h3
        clear HBk HNk h3
        go_wp2
        go_roundw
        case rel => exact ⟨k + 1, by omega, by go_num, HN2.out, Below.trans hB.out (Below.mono HW4.out hB.out.size)⟩
        case measure => simp [intOf]; omega
    · obtain rfl : k = s.l.length := by omega
      have hki : ¬ (s.l.length : Int) < (s.l.length : Int) := by omega
      have HbF := Lib.hid (HBn.out hno.out)
      clear hno HBy HBn HEb HM1 HM2
      have Qa := HQa.out.below hB.out hw1V
      have Qb := HQb.out.below hB.out hw2V
      obtain ⟨p0, p1, p2⟩ := Qa.cells
      obtain ⟨q0, q1, q2⟩ := Qb.cells
      simp only at p0 p1 p2 q0 q1 q2
      have qf := Qb.frozen
      have hw1z : w1.heap.size < wr.heap.size := by omega
      have hw2z : w2.heap.size < wr.heap.size := by omega
      have hne1 : w1.heap.size ≠ w2.heap.size := by omega
      have hne2 : w2.heap.size ≠ w1.heap.size := by omega
      have HB5 := Lib.hid ((Below.trans HB2.out (Below.mono hB.out HB2.out.size)).setCell (p := ⟨w2.heap.size, 0, none⟩) hw12 (.int .i64 pb))
      clear Qa Qb C2 HC3 hB HQa HQb
      cases ap with
      | true =>
        have HE3 := Lib.hid (HEf.out HbF.out rfl)
        generalize Pat.joinA ⟨pb, po, ps⟩ ⟨pb, qo, qs⟩ = j at *
        obtain ⟨jb, jo, js⟩ := j
        (try simp only at HJ)
        clear HEf HEo HSq HJA
        go_wp2_with (go_at_call 80; (with_reducible refine (HJ.out _).mono ?_); rintro e w6 ⟨rfl, hb6⟩; have B6 := Lib.hid (Below.trans HB5.out (Below.mono hb6 HB5.out.size)); clear hb6)
        go_ret
        exact ⟨by rw [HE3.out]; rfl, by rw [HT1.out (by rw [HE3.out]; decide)]; exact HF.out _ (B6.out.alloc B6.out.size _)⟩
      | false =>
        have HE0 := Lib.hid (HEo.out HbF.out rfl)
        have hja := HJA.out rfl
        rw [hja] at HJ
        clear HEf HEo HJA hja
        generalize Pat.joinP ⟨pb, po, ps⟩ ⟨pb, qo, qs⟩ = j at *
        obtain ⟨jb, jo, js⟩ := j
        (try simp only at HJ)
        go_wp2_with (go_at_call 80; (with_reducible refine (HJ.out _).mono ?_); rintro e w6 ⟨rfl, hb6⟩; have B6 := Lib.hid (Below.trans HB5.out (Below.mono hb6 HB5.out.size)); clear hb6)
        obtain ⟨V7, hV7⟩ : ∃ V7, V7 = w6.alloc (.cells #[.int .i64 jb, .int .i64 jo, .string js] 38) := ⟨_, rfl⟩
        have HB7 := Lib.hid (show Below w.heap.size w V7 by rw [hV7]; exact B6.out.alloc B6.out.size _)
        have HQj := Lib.hid (show Pat.Boxed V7 w6.heap.size ⟨jb, jo, js⟩ by rw [hV7]; exact Pat.boxed1 w6 ⟨jb, jo, js⟩)
        have hs7 : V7.heap.size = w6.heap.size + 1 := by rw [hV7]; simp
        rw [← hV7]
        clear hV7 p0 p1 p2 q0 q1 q2 qf hw1z hw2z hne1 hne2 HB5 B6 hrz hwz c1
        have C7 := Lib.hid (HC.out.fresh HB7.out)
        obtain ⟨_, c1, _⟩ := C7.out.hcells
        have hrV7 := C7.out.glt
        have h6V7 : w6.heap.size < V7.heap.size := by omega
        go_loopw [15, 16] (fun s0 i wr => ∃ (k : Nat) (A' : Option Addr) (c' : Nat), k ≤ s.l.length ∧ i = .int .i64 k ∧ s0 = .slice A' (sqL (s.l.take k) a n ⟨jb, jo, js⟩).length c' ∧ Hid (RowO wr V7.heap.size A' c' (sqL (s.l.take k) a n ⟨jb, jo, js⟩)) ∧ Hid (Below V7.heap.size V7 wr)) (fun _ i _ => s.l.length - (intOf i).toNat)
        case atStart => exact ⟨0, none, 0, Nat.zero_le _, rfl, rfl, World.ownsRow_nil _ _ _ _, Below.refl _ _⟩
        case round =>
          obtain ⟨k, A', c', hk, rfl, rfl, hrow, hB⟩ := hrel
          rename World => wr
          have hk0 : (0 : Int) ≤ (k : Int) := by omega
          have hwz := hB.out.size
          have HC3 := Lib.hid (C7.out.fresh hB.out)
          clear c1
          obtain ⟨_, c1, _⟩ := HC3.out.hcells
          have hrz : r < wr.heap.size := by omega
          by_cases hlt : k < s.l.length
          · have hki2 : (k : Int) < (s.l.length : Int) := by omega
            obtain ⟨b, rfl, h1, h2, hb, d0, d1, d2, d3⟩ := HC3.out.at_ hlt
            unfold maxLen at h2
            have Hs := Lib.hid (sqL_next (a := a) (n := n) (j := ⟨jb, jo, js⟩) hlt)
            have hol : (sqL (s.l.take k) a n ⟨jb, jo, js⟩).length ≤ 1000 := by
              have := sqL_len (s.l.take k) a n ⟨jb, jo, js⟩
              have := List.length_take_le k s.l
              omega
            obtain ⟨j0, j1, j2⟩ := (HQj.out.below hB.out h6V7).cells
            simp only at j0 j1 j2
            have h6z : w6.heap.size < wr.heap.size := by omega
            generalize sqL (s.l.take k) a n ⟨jb, jo, js⟩ = o at *
            generalize onn s.l k = x at *
            obtain ⟨y, xb, xo, xs⟩ := x
            simp only at d0 d1 d2 d3
            have HB4 : Hid (∀ (z : On), Below V7.heap.size V7 (wr.alloc z.cell) ∧ RowO (wr.alloc z.cell) V7.heap.size A' c' o ∧ wr.heap.size + 1 = (wr.alloc z.cell).heap.size) := fun z => ⟨hB.out.alloc hB.out.size _, World.ownsRow.alloc hrow.out _, by simp [On.cell]⟩
            by_cases hn : y = n
            · have Hs2 := Lib.hid (Hs.out.trans (by rw [if_pos hn, List.append_nil]))
              have hya : (y == a) = false := by simp; omega
              have hyn : (y != n) = false := by simpa using hn
              clear Hs hn
              have Z := Lib.hid (HB4.out ⟨y, ⟨xb, xo, xs⟩⟩)
              go_wp2
              go_roundw
              case rel => exact ⟨k + 1, A', c', by omega, by go_num, by rw [Hs2.out], by rw [Hs2.out]; exact Z.out.2.1, Z.out.1⟩
              case measure => simp [intOf]; omega
            · have hyn : (y != n) = true := by simpa using hn
              by_cases hy : y = a
              · have Hs2 : Hid (sqL (s.l.take (k + 1)) a n ⟨jb, jo, js⟩ = o ++ [(⟨y, ⟨jb, jo, js⟩⟩ : On)]) := by unfold Hid; rw [Hs.out, if_neg hn]; unfold sqX; rw [if_pos hy]
                have hya : (y == a) = true := by simpa using hy
                have hlo : (o ++ [(⟨y, ⟨jb, jo, js⟩⟩ : On)]).length = o.length + 1 := by simp
                clear Hs hn hy
                have Z := Lib.hid (HB4.out ⟨y, ⟨jb, jo, js⟩⟩)
                go_wp2_with (at_builtin; refine wpList_append_src rfl (.tmp 119) (.tmp 121) 93 rfl V7.heap.size 97 i0 zeroO 4 40 Try.underlying93 hi0 hz0 hz1 hz2 rfl (by decide) (.slice A' o.length c') o.length (flatO o) rfl (ao_row ⟨y, ⟨jb, jo, js⟩⟩ Z.out.2.1) (some ⟨wr.heap.size + 1, 0, none⟩) 1 1 [.int .i64 y, .int .i64 jb, .int .i64 jo, .string js] rfl rfl (ao_src2 (wr.alloc (On.cell ⟨y, ⟨jb, jo, js⟩⟩)) ⟨y, ⟨jb, jo, js⟩⟩ _ Z.out.2.2) (by intro h; cases h) (ao_one ⟨y, ⟨jb, jo, js⟩⟩) (by unfold maxLen; omega) (by omega) (by simp; omega) (o.length + 1) rfl ?_; intro A7 c7 w7 ho7 hg7 hor7; have G1 := Lib.hid (ao_new (x := ⟨y, ⟨jb, jo, js⟩⟩) Z.out.2.1 Z.out.1 ho7 hg7).1; have G2 := Lib.hid (ao_new (x := ⟨y, ⟨jb, jo, js⟩⟩) Z.out.2.1 Z.out.1 ho7 hg7).2; clear ho7 hg7 hor7)
                go_roundw
                case rel => exact ⟨k + 1, A7, c7, by omega, by go_num, by rw [Hs2.out, hlo], by rw [Hs2.out]; exact G1.out, G2.out⟩
                case measure => simp [intOf]; omega
              · have Hs2 : Hid (sqL (s.l.take (k + 1)) a n ⟨jb, jo, js⟩ = o ++ [(⟨y, ⟨xb, xo, xs⟩⟩ : On)]) := by unfold Hid; rw [Hs.out, if_neg hn]; unfold sqX; rw [if_neg hy]
                have hya : (y == a) = false := by simpa using hy
                have hlo : (o ++ [(⟨y, ⟨xb, xo, xs⟩⟩ : On)]).length = o.length + 1 := by simp
                clear Hs hn hy
                have Z := Lib.hid (HB4.out ⟨y, ⟨xb, xo, xs⟩⟩)
                go_wp2_with (at_builtin; refine wpList_append_src rfl (.tmp 119) (.tmp 121) 93 rfl V7.heap.size 97 i0 zeroO 4 40 Try.underlying93 hi0 hz0 hz1 hz2 rfl (by decide) (.slice A' o.length c') o.length (flatO o) rfl (ao_row ⟨y, ⟨xb, xo, xs⟩⟩ Z.out.2.1) (some ⟨wr.heap.size + 1, 0, none⟩) 1 1 [.int .i64 y, .int .i64 xb, .int .i64 xo, .string xs] rfl rfl (ao_src2 (wr.alloc (On.cell ⟨y, ⟨xb, xo, xs⟩⟩)) ⟨y, ⟨xb, xo, xs⟩⟩ _ Z.out.2.2) (by intro h; cases h) (ao_one ⟨y, ⟨xb, xo, xs⟩⟩) (by unfold maxLen; omega) (by omega) (by simp; omega) (o.length + 1) rfl ?_; intro A7 c7 w7 ho7 hg7 hor7; have G1 := Lib.hid (ao_new (x := ⟨y, ⟨xb, xo, xs⟩⟩) Z.out.2.1 Z.out.1 ho7 hg7).1; have G2 := Lib.hid (ao_new (x := ⟨y, ⟨xb, xo, xs⟩⟩) Z.out.2.1 Z.out.1 ho7 hg7).2; clear ho7 hg7 hor7)
                go_roundw
                case rel => exact ⟨k + 1, A7, c7, by omega, by go_num, by rw [Hs2.out, hlo], by rw [Hs2.out]; exact G1.out, G2.out⟩
                case measure => simp [intOf]; omega
          · obtain rfl : k = s.l.length := by omega
            rw [List.take_length] at *
            have NR := new_row C7.out hB.out hrow.out rfl
            have hfr := HC3.out.free 1
            have HFn : Hid (RW B w r s' (wr.setCell ⟨r, 1, none⟩ (.slice A' (sqL s.l a n ⟨jb, jo, js⟩).length c'))) := by
              rw [HSq.out]
              exact ⟨⟨_, _, _, _, NR.1⟩, (Kept.fresh HB7.out).trans NR.2 (fun b e => .inl e)⟩
            clear NR
            go_wp2
            go_ret
            exact ⟨by rw [HE0.out]; rfl, by rw [HT0.out HE0.out]; exact HFn.out⟩
end
end Go.Proofs.Ytibkipdadpidnaa
