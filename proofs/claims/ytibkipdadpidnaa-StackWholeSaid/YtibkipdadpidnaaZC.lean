/- The program's Squash. -/
import Derived.Test.YtibkipdadpidnaaZA
import Derived.Test.YtibkipdadpidnaaM
set_option linter.unusedVariables false
set_option linter.unusedSimpArgs false
namespace Go.Proofs.Ytibkipdadpidnaa
open Go.RowKit
open Pat (Pt AllB undoP nth)
def betY (L : List Ly) (j : Nat) (a : Int) (pa pn : Pt) : Bool := (L.take j).any fun q => decide (a < q.x.n) && (meetP q.x.p pa || meetP pn q.x.p)
theorem bet_is {L : List Ly} {j : Nat} (hj : j < L.length) (hr : RiseO (xsL L)) (a : Int) : bet (xsL L) a (lyn L j).x.n = betY L j a (patP (xsL L) a) (lyn L j).x.p := by
  have hin : (lyn L j).x ∈ xsL L := xsL_mem (lyn_mem hj)
  have e : xsL L = xsL (L.take j) ++ xsL (L.drop j) := by unfold xsL; rw [← List.map_append, List.take_append_drop]
  have hp : (xsL (L.take j) ++ xsL (L.drop j)).Pairwise fun x y => x.n < y.n := by rw [← e]; exact hr
  obtain ⟨_, hp2, hp3⟩ := List.pairwise_append.1 hp
  have hd : L.drop j = lyn L j :: L.drop (j + 1) := by rw [List.drop_eq_getElem_cons hj, lyn_lt hj]
  unfold bet betY
  rw [patP_mem hr hin]
  generalize patP (xsL L) a = pa
  rw [e, List.any_append]
  have z : (xsL (L.drop j)).any (fun x => decide (a < x.n) && decide (x.n < (lyn L j).x.n) && (meetP pa x.p || meetP x.p (lyn L j).x.p)) = false := by
    rw [List.any_eq_false]
    intro x hx
    rw [hd] at hx hp2
    have hp2' := List.pairwise_cons.1 hp2
    rcases List.mem_cons.1 hx with rfl | hx
    · simp
    · have h2 : (lyn L j).x.n < x.n := hp2'.1 x hx
      simp
      intro _ _
      omega
  rw [z, Bool.or_false]
  unfold xsL
  rw [List.any_map]
  rw [Bool.eq_iff_iff, List.any_eq_true, List.any_eq_true]
  constructor
  · rintro ⟨q, hq, h⟩
    have h1 : q.x.n < (lyn L j).x.n := hp3 q.x (xsL_mem hq) (lyn L j).x (by rw [hd]; exact xsL_mem (List.mem_cons_self ..))
    refine ⟨q, hq, ?_⟩
    simp only [Function.comp, decide_eq_true h1, Bool.and_true] at h
    rw [meet_symm q.x.p pa, meet_symm (lyn L j).x.p q.x.p]; exact h
  · rintro ⟨q, hq, h⟩
    have h1 : q.x.n < (lyn L j).x.n := hp3 q.x (xsL_mem hq) (lyn L j).x (by rw [hd]; exact xsL_mem (List.mem_cons_self ..))
    refine ⟨q, hq, ?_⟩
    simp only [Function.comp, decide_eq_true h1, Bool.and_true]
    rw [meet_symm q.x.p pa, meet_symm (lyn L j).x.p q.x.p] at h; exact h
theorem lays_nil (W : World) : Lays W [] := fun q hq => by cases hq
theorem lays_grown {W W' : World} {B c n : Nat} {A : Option Addr} {xs : List Value} {l : List Ly} (h : Lays W l) (hr : W.ownsRow B 75 1 (.slice A n c) n xs) (hg : W.grownBy W' (Value.slice A n c).ownBlock) : Lays W' l := fun q hq => by
  obtain ⟨v, hv⟩ := h q hq
  refine ⟨v, ((Kept.grown (S := fun k => (Value.slice A n c).ownBlock = some k) hg (fun k e => .inl e)).block q.b hv.lt (fun e => ?_)).trans hv⟩
  rcases hr.2 with ⟨z, _⟩ | ⟨k2, cap, cur2, z, _, hk, _⟩
  · obtain ⟨rfl, _⟩ := Value.slice.inj z; cases e
  · obtain ⟨rfl, _⟩ := Value.slice.inj z
    obtain rfl : k2 = q.b := by simpa [Value.ownBlock] using e
    have := hk.symm.trans hv
    simp only [Option.some.injEq, Obj.cells.injEq] at this
    exact absurd this.2.1 (by decide)
theorem sq_xs {L l : List Ly} {a n : Int} {j : Pt} {k : Nat} (hk : k < L.length) (h : xsL l = sqL (xsL (L.take k)) a n j) (x : Ly) (hx : x.x = sqX a j (lyn L k).x) (hn : (lyn L k).x.n ≠ n) : xsL (l ++ [x]) = sqL (xsL (L.take (k + 1))) a n j := by
  unfold xsL at h ⊢
  rw [take_lyn hk, List.map_append, List.map_append, h]
  unfold sqL
  rw [List.filter_append, List.map_append]
  congr 1
  rw [List.map_singleton, List.map_singleton, List.filter_cons_of_pos (by simpa using hn), List.filter_nil, List.map_singleton, hx]
theorem sq_no {L l : List Ly} {a n : Int} {j : Pt} {k : Nat} (hk : k < L.length) (h : xsL l = sqL (xsL (L.take k)) a n j) (hn : (lyn L k).x.n = n) : xsL l = sqL (xsL (L.take (k + 1))) a n j := by
  rw [h]
  unfold xsL
  rw [take_lyn hk, List.map_append]
  unfold sqL
  rw [List.filter_append, List.map_append, List.map_singleton, List.filter_cons_of_neg (by simpa using hn), List.filter_nil, List.map_nil, List.append_nil]
section
variable (B g : Nat) (L : List Ly) (s : Sk) (a n : Int) (w : World)
set_option maxRecDepth 100000 in
set_option maxHeartbeats 2000000 in
theorem psquash_off (hC : StkAt B w g L s) (hr0 : Rights s.l) (hrise : RiseO s.l) (hl : s.l.length ≤ 190) (hoff : isOn s.l a = false ∨ isOn s.l n = false) : Calls Try.prog 23 #[.pointer (some ⟨g, 0, none⟩), .int .i64 a, .int .i64 n] w fun e w' => e = .returned (.int .i64 (sqE s.l a n)) ∧ PW B w g (if sqE s.l a n = 0 then squashS s a n else s) w' := by
  have hE : sqE s.l a n = 5 := if_pos hoff
  rw [hE, if_neg (by decide)]
  have hxs : xsL L = s.l := hC.xs
  have HF : Hid (∀ w', Below w.heap.size w w' → PW B w g s w') := fun w' h => hC.pw h
  cases ha : isOn s.l a with
  | false =>
    rw [← hxs] at ha
    have HA := Lib.hid (ask_no B g L s a w hC (off_at ha))
    clear hC hr0 hrise hE hxs hoff ha
    go_enter Try.func23, Try.ntmps23
    go_wp2_with (go_at_call 49; (with_reducible refine HA.out.mono ?_); rintro e w1 ⟨rfl, rfl⟩)
    go_ret
    exact ⟨rfl, HF.out _ (Below.refl _ _)⟩
  | true =>
    have hn : isOn s.l n = false := hoff.elim (fun h => by rw [h] at ha; cases ha) id
    rw [← hxs] at ha hn hrise
    obtain ⟨j, hj, e1, e2, _⟩ := isOn_at ha hrise
    have HA := Lib.hid (ask_yes B g L s a w hC j hj e1 e2)
    have HN := Lib.hid (ask_no B g L s n w hC (off_at hn))
    unfold Ly.ptr at HA
    clear hC hr0 hrise hE hxs hoff ha hn e1 e2
    go_enter Try.func23, Try.ntmps23
    go_wp2_with (first
      | (go_at_call 49; (with_reducible refine HA.out.mono ?_); rintro e w1 ⟨rfl, rfl⟩)
      | (go_at_call 49; (with_reducible refine HN.out.mono ?_); rintro e w1 ⟨rfl, rfl⟩))
    go_ret
    exact ⟨rfl, HF.out _ (Below.refl _ _)⟩
set_option maxRecDepth 100000 in
set_option maxHeartbeats 2000000 in
theorem psquash_low (hC : StkAt B w g L s) (hr0 : Rights s.l) (hrise : RiseO s.l) (hl : s.l.length ≤ 190) (ha : isOn s.l a = true) (hn : isOn s.l n = true) (han : n ≤ a) : Calls Try.prog 23 #[.pointer (some ⟨g, 0, none⟩), .int .i64 a, .int .i64 n] w fun e w' => e = .returned (.int .i64 (sqE s.l a n)) ∧ PW B w g (if sqE s.l a n = 0 then squashS s a n else s) w' := by
  have hE : sqE s.l a n = 2 := by unfold sqE; rw [if_neg (by rw [ha, hn]; simp), if_pos han]
  rw [hE, if_neg (by decide)]
  have hxs : xsL L = s.l := hC.xs
  have HF : Hid (∀ w', Below w.heap.size w w' → PW B w g s w') := fun w' h => hC.pw h
  rw [← hxs] at ha hn hrise
  obtain ⟨j, hj, e1, e2, _⟩ := isOn_at ha hrise
  obtain ⟨k, hk, e3, e4, _⟩ := isOn_at hn hrise
  have HA := Lib.hid (ask_yes B g L s a w hC j hj e1 e2)
  have HN := Lib.hid (ask_yes B g L s n w hC k hk e3 e4)
  unfold Ly.ptr at HA HN
  clear hC hr0 hrise hE hxs ha hn e1 e2 e3 e4
  go_enter Try.func23, Try.ntmps23
  go_wp2_with (first
    | (go_at_call 49; (with_reducible refine HA.out.mono ?_); rintro e w1 ⟨rfl, rfl⟩)
    | (go_at_call 49; (with_reducible refine HN.out.mono ?_); rintro e w1 ⟨rfl, rfl⟩))
  go_ret
  exact ⟨rfl, HF.out _ (Below.refl _ _)⟩
set_option maxRecDepth 100000 in
set_option maxHeartbeats 4000000 in
theorem psquash_main (hC : StkAt B w g L s) (hr0 : Rights s.l) (hrise : RiseO s.l) (hl : s.l.length ≤ 190) (ha : isOn s.l a = true) (hn : isOn s.l n = true) (han : a < n) : Calls Try.prog 23 #[.pointer (some ⟨g, 0, none⟩), .int .i64 a, .int .i64 n] w fun e w' => e = .returned (.int .i64 (sqE s.l a n)) ∧ PW B w g (if sqE s.l a n = 0 then squashS s a n else s) w' := by
  have hxs : xsL L = s.l := hC.xs
  have hLl : L.length ≤ 190 := by rw [hC.llen]; exact hl
  have HF : Hid (∀ w', Below w.heap.size w w' → PW B w g s w') := fun w' h => hC.pw h
  have hEb : bet s.l a n = true → sqE s.l a n = 12 := fun h => by unfold sqE; rw [if_neg (by rw [ha, hn]; simp), if_neg (by omega), if_pos h]
  have hEf : bet s.l a n = false → (patP s.l a).apart (sqQ s.l a n) = true → sqE s.l a n = 3 := fun h h2 => by unfold sqE; rw [if_neg (by rw [ha, hn]; simp), if_neg (by omega), if_neg (by rw [h]; decide), if_pos h2]
  have hEo : bet s.l a n = false → (patP s.l a).apart (sqQ s.l a n) = false → sqE s.l a n = 0 := fun h h2 => by unfold sqE; rw [if_neg (by rw [ha, hn]; simp), if_neg (by omega), if_neg (by rw [h]; decide), if_neg (by rw [h2]; decide)]
  have hra := patP_right hr0 ha
  have hrn := patP_right hr0 hn
  have ha2 := ha
  have hn2 := hn
  rw [← hxs] at ha2 hn2
  obtain ⟨j, hj, e1, e2, e5⟩ := isOn_at ha2 (by rw [hxs]; exact hrise)
  obtain ⟨k0, hk0, e3, e4, e6⟩ := isOn_at hn2 (by rw [hxs]; exact hrise)
  rw [hxs] at e5 e6
  have hb := bet_is hk0 (by rw [hxs]; exact hrise) a
  rw [hxs, e3, e5] at hb
  have HRY : Hid (RightsY L) := fun q hq => hr0 q.x (by rw [← hxs]; exact xsL_mem hq)
  have HA := Lib.hid (ask_yes B g L s a w hC j hj e1 e2)
  have HN := Lib.hid (ask_yes B g L s n w hC k0 hk0 e3 e4)
  have HC := Lib.hid hC
  have hlayn := (hC.ch k0 hk0).cells
  have hbn := (hC.ch k0 hk0).lt
  have HMt : Hid (∀ (q y : Ly) W, q ∈ L → y ∈ L → Below w.heap.size w W → Calls Try.prog 53 #[q.ptr, y.ptr] W fun e w' => e = .returned (.bool (meetP q.x.p y.x.p)) ∧ Below W.heap.size W w') := fun q y W hq hy hW => meets_any q y W ((hC.fresh hW).ch.mem hq) ((hC.fresh hW).ch.mem hy) (HRY.out q hq) (HRY.out y hy)
  have HRt : Hid (∀ W, Below w.heap.size w W → Calls Try.prog 48 #[.agg #[.int .i64 (lyn L k0).x.n, topV (L.take k0)]] W fun e w' => ∃ A c, e = .returned (.slice A (L.take k0).length c) ∧ RowP w' W.heap.size A c (L.take k0) ∧ Below W.heap.size W w') := fun W hW => rising_any (L.take k0) _ W ((hC.fresh hW).ch.take k0) (by rw [List.length_take]; omega)
  have HRs : Hid (∀ W, Below w.heap.size w W → Calls Try.prog 48 #[.agg #[.int .i64 s.k, topV L]] W fun e w' => ∃ A c, e = .returned (.slice A L.length c) ∧ RowP w' W.heap.size A c L ∧ Below W.heap.size W w') := fun W hW => rising_any L s.k W (hC.fresh hW).ch (by omega)
  have HOf : Hid (∀ W k, Below w.heap.size w W → Calls Try.prog 55 #[(lyn L k0).ptr, .int .i64 k] W fun e w' => e = .returned (⟨k, (lyn L k0).x.p.o, (lyn L k0).x.p.s⟩ : Pt).v ∧ Below W.heap.size W w') := fun W k hW => of_any (lyn L k0) k _ W ((hC.ch k0 hk0).fresh hW)
  have HJ : Hid (∀ W, Calls Try.prog 54 #[(lyn L j).x.p.v, (⟨(lyn L j).x.p.b, (lyn L k0).x.p.o, (lyn L k0).x.p.s⟩ : Pt).v] W fun e w' => e = .returned (.tuple #[(Pat.joinA (patP s.l a) (sqQ s.l a n)).v, .bool (!(patP s.l a).apart (sqQ s.l a n))]) ∧ Below W.heap.size W w') := fun W => by
    have h := Pat.join_any (patP s.l a) (sqQ s.l a n) W (Pat.ok_of hra) ⟨(Pat.ok_of hra).1, (Pat.ok_of hrn).2⟩
    unfold sqQ at h ⊢
    rw [e5, e6] at h ⊢
    exact h
  have HLa : Hid (∀ W, Below w.heap.size w W → LayAt W (lyn L j) (topV (L.take j))) := fun W hW => (hC.ch j hj).fresh hW
  have HLn : Hid (∀ W, Below w.heap.size w W → LayAt W (lyn L k0) (topV (L.take k0))) := fun W hW => (hC.ch k0 hk0).fresh hW
  have HNo : Hid ((lyn L k0).x.n = n) := e3
  have HSq : Hid ((patP s.l a).apart (sqQ s.l a n) = false → squashS s a n = ⟨s.f, sqL (xsL L) a n (Pat.joinA (patP s.l a) (sqQ s.l a n)), s.k⟩) := fun h => by
    unfold squashS Pat.joinA
    rw [if_neg (by rw [h]; decide), hxs]
  rw [hb] at hEb hEf hEo
  have HEb := Lib.hid hEb
  have HEf := Lib.hid hEf
  have HEo := Lib.hid hEo
  have HBy : Hid (∀ k, k < (L.take k0).length → a < (lyn (L.take k0) k).x.n → (meetP (lyn (L.take k0) k).x.p (lyn L j).x.p || meetP (lyn L k0).x.p (lyn (L.take k0) k).x.p) = true → betY L k0 a (lyn L j).x.p (lyn L k0).x.p = true) := fun k hk h1 h2 => List.any_eq_true.2 ⟨_, lyn_mem hk, by rw [decide_eq_true h1, h2]; rfl⟩
  have HBn : Hid ((∀ q, q < (L.take k0).length → a < (lyn (L.take k0) q).x.n → (meetP (lyn (L.take k0) q).x.p (lyn L j).x.p || meetP (lyn L k0).x.p (lyn (L.take k0) q).x.p) = false) → betY L k0 a (lyn L j).x.p (lyn L k0).x.p = false) := fun h => by
    unfold betY
    rw [List.any_eq_false]
    intro q hq
    obtain ⟨i, hi, rfl⟩ := mem_lyn hq
    by_cases z : a < (lyn (L.take k0) i).x.n
    · rw [h i hi z]; simp
    · rw [decide_eq_false z]; simp
  have HTk : Hid (∀ q ∈ L.take k0, q ∈ L) := fun q hq => List.mem_of_mem_take hq
  have hTl : (L.take k0).length ≤ 190 := by rw [List.length_take]; omega
  have HjL : Hid (lyn L j ∈ L) := lyn_mem hj
  have HkL : Hid (lyn L k0 ∈ L) := lyn_mem hk0
  have HT0 : Hid (sqE s.l a n = 0 → (if sqE s.l a n = 0 then squashS s a n else s) = squashS s a n) := fun h => if_pos h
  have HT1 : Hid (sqE s.l a n ≠ 0 → (if sqE s.l a n = 0 then squashS s a n else s) = s) := fun h => if_neg h
  generalize (if sqE s.l a n = 0 then squashS s a n else s) = tt at *
  generalize sqE s.l a n = E at *
  generalize betY L k0 a (lyn L j).x.p (lyn L k0).x.p = bt at *
  generalize squashS s a n = s' at *
  generalize (patP s.l a).apart (sqQ s.l a n) = ap at *
  generalize Pat.joinA (patP s.l a) (sqQ s.l a n) = J at *
  obtain ⟨oT, hoT⟩ := topV_ptr (L.take k0)
  obtain ⟨oL, hoL⟩ := topV_ptr L
  have t2 := hC.num
  have t3 := hC.top
  have hgw := hC.glt
  rw [hoT] at HRt hlayn HLn
  rw [hoL] at HRs t3
  have HoL := Lib.hid hoL
  generalize L.take k0 = T at *
  generalize hqa : lyn L j = qa at *
  generalize hqn : lyn L k0 = qn at *
  clear hC hr0 hrise hEb hEf hEo hra hrn ha2 hn2 e1 e2 e3 e4 e5 e6 hb ha hn hqa hqn hoT hoL hj hk0 hxs t2 t3
  obtain ⟨ab, an, pab, pao, pas⟩ := qa
  obtain ⟨nb, nn, pnb, pno, pns⟩ := qn
  obtain ⟨jb, jo, js⟩ := J
  unfold Ly.ptr at HA HN HOf
  unfold Pat.Pt.v at HJ HOf
  simp only at *
  obtain ⟨m0, m1, m2, m3, m4⟩ := hlayn
  have hgt : ¬ (n ≤ a) := by omega
  go_enter Try.func23, Try.ntmps23
  go_wp2_with (first
    | (go_at_call 49; (with_reducible refine HA.out.mono ?_); rintro e w1 ⟨rfl, rfl⟩)
    | (go_at_call 49; (with_reducible refine HN.out.mono ?_); rintro e w1 ⟨rfl, rfl⟩)
    | (go_at_call 48; (with_reducible refine (HRt.out _ (Below.refl _ _)).mono ?_); rintro e w3 ⟨A3, c3, rfl, hr3, hb3⟩; have R3 := Lib.hid hr3; have B3 := Lib.hid hb3; clear hr3 hb3))
  go_loopw [44] (fun i wr => ∃ k : Nat, k ≤ T.length ∧ i = .int .i64 k ∧ Hid (∀ q, q < k → a < (lyn T q).x.n → (meetP (lyn T q).x.p ⟨pab, pao, pas⟩ || meetP ⟨pnb, pno, pns⟩ (lyn T q).x.p) = false) ∧ (∃ bb, RowP wr bb A3 c3 T) ∧ Hid (Below w.heap.size w wr)) (fun i _ => T.length - (intOf i).toNat)
  case atStart => exact ⟨0, Nat.zero_le _, rfl, fun q h => absurd h (by omega), ⟨_, R3.out⟩, B3.out⟩
  case round =>
    obtain ⟨k, hk, rfl, hno, hrow, hB⟩ := hrel
    rename World => wr
    have hk0 : (0 : Int) ≤ (k : Int) := by omega
    by_cases hlt : k < T.length
    · have hki : (k : Int) < (T.length : Int) := by omega
      obtain ⟨bb, hrw⟩ := hrow
      obtain ⟨rb, hA, hab, h1, h2, e0⟩ := hrw.at_ hlt
      subst hA
      unfold maxLen at h2
      have Hrw := Lib.hid hrw
      obtain ⟨v, hv⟩ := (HC.out.fresh hB.out).ch.mem (HTk.out _ (lyn_mem hlt))
      have d3 := hv.cells.2.2.2.1
      have hqb := hv.lt
      have HMa := Lib.hid (fun W hW => HMt.out (lyn T k) ⟨ab, an, pab, pao, pas⟩ W (HTk.out _ (lyn_mem hlt)) HjL.out hW)
      have HMb := Lib.hid (fun W hW => HMt.out ⟨nb, nn, pnb, pno, pns⟩ (lyn T k) W HkL.out (HTk.out _ (lyn_mem hlt)) hW)
      have HBk := Lib.hid (fun h1 h2 => HEb.out (HBy.out k hlt h1 h2))
      have HNk : Hid ((a < (lyn T k).x.n → (meetP (lyn T k).x.p ⟨pab, pao, pas⟩ || meetP ⟨pnb, pno, pns⟩ (lyn T k).x.p) = false) → ∀ q, q < k + 1 → a < (lyn T q).x.n → (meetP (lyn T q).x.p ⟨pab, pao, pas⟩ || meetP ⟨pnb, pno, pns⟩ (lyn T q).x.p) = false) := fun h q hq => by
        by_cases e : q = k
        · rw [e]; exact h
        · exact hno.out q (by omega)
      generalize meetP (lyn T k).x.p ⟨pab, pao, pas⟩ = u1 at *
      generalize meetP ⟨pnb, pno, pns⟩ (lyn T k).x.p = u2 at *
      clear hv hno hrw
      generalize lyn T k = q at *
      obtain ⟨qb, y, qp⟩ := q
      unfold Ly.ptr at e0 HMa HMb
      simp only at *
      by_cases h3 : a < y
      · cases u1 with
        | true =>
          have HE12 := Lib.hid (HBk.out h3 rfl)
          clear HBk HNk
          go_wp2_with (go_at_call 53; (with_reducible refine (HMa.out _ hB.out).mono ?_); rintro e w5 ⟨rfl, hb5⟩; have B5 := Lib.hid (Below.trans hB.out (Below.mono hb5 hB.out.size)); clear hb5)
          go_ret
          exact ⟨by rw [HE12.out]; rfl, by rw [HT1.out (by rw [HE12.out]; decide)]; exact HF.out _ B5.out⟩
        | false =>
          cases u2 with
          | true =>
            have HE12 := Lib.hid (HBk.out h3 rfl)
            clear HBk HNk
            go_wp2_with (first
              | (go_at_call 53; (with_reducible refine (HMa.out _ hB.out).mono ?_); rintro e w5 ⟨rfl, hb5⟩; have B5 := Lib.hid (Below.trans hB.out (Below.mono hb5 hB.out.size)); clear hb5)
              | (go_at_call 53; (with_reducible refine (HMb.out _ B5.out).mono ?_); rintro e w6 ⟨rfl, hb6⟩; have B6 := Lib.hid (Below.trans B5.out (Below.mono hb6 B5.out.size)); clear hb6))
            go_ret
            exact ⟨by rw [HE12.out]; rfl, by rw [HT1.out (by rw [HE12.out]; decide)]; exact HF.out _ B6.out⟩
          | false =>
            have HN2 := Lib.hid (HNk.out (fun _ => rfl))
            clear HBk HNk
            go_wp2_with (first
              | (go_at_call 53; (with_reducible refine (HMa.out _ hB.out).mono ?_); rintro e w5 ⟨rfl, hb5⟩; have B5 := Lib.hid (Below.trans hB.out (Below.mono hb5 hB.out.size)); have R5 := Lib.hid (Hrw.out.fresh hb5); clear hb5)
              | (go_at_call 53; (with_reducible refine (HMb.out _ B5.out).mono ?_); rintro e w6 ⟨rfl, hb6⟩; have B6 := Lib.hid (Below.trans B5.out (Below.mono hb6 B5.out.size)); have R6 := Lib.hid (R5.out.fresh hb6); clear hb6))
            go_roundw
            case rel => exact ⟨k + 1, by omega, by go_num, HN2.out, ⟨_, R6.out⟩, B6.out⟩
            case measure => simp [intOf]; omega
      · have HN2 := Lib.hid (HNk.out (fun h => absurd h h3))
        have hd3 : decide (a < y) = false := decide_eq_false h3
        clear HBk HNk h3
        go_wp2
        go_roundw
        case rel => exact ⟨k + 1, by omega, by go_num, HN2.out, ⟨_, Hrw.out⟩, hB.out⟩
        case measure => simp [intOf]; omega
    · obtain rfl : k = T.length := by omega
      have hki : ¬ (T.length : Int) < (T.length : Int) := by omega
      have HbF := Lib.hid (HBn.out hno.out)
      clear hno hrow HBy HBn HEb HMt HRt HN HA
      have HNx : Hid (∀ V, Below w.heap.size w V → V.cell? ⟨ab, 0, none⟩ = some (.int .i64 pab) ∧ V.cell? ⟨ab, 1, none⟩ = some (.int .i64 pao) ∧ V.cell? ⟨ab, 2, none⟩ = some (.string pas)) := fun V hV => by
        have hl := (HLa.out V hV).cells
        exact ⟨hl.1, hl.2.1, hl.2.2.1⟩
      have habw : ab < wr.heap.size := (HLa.out wr hB.out).lt
      have BD := Lib.hid hB.out.drew
      have BA : Hid (Below w.heap.size w (wr.alloc (.cells #[.int .i64 0, .int .i64 0, .string ⟨#[]⟩] 38)).drew) := (hB.out.alloc hB.out.size _).drew
      have X0 := Lib.hid (HNx.out wr.drew BD.out)
      have X1 := Lib.hid (HNx.out wr hB.out)
      have XA := Lib.hid (HNx.out _ BA.out)
      have QA : Hid (Pat.Boxed (wr.alloc (.cells #[.int .i64 0, .int .i64 0, .string ⟨#[]⟩] 38)).drew wr.heap.size Pat.zeroP) := Pat.boxed1 wr Pat.zeroP
      have HO0 := Lib.hid (HOf.out wr.drew pab BD.out)
      have HOA := Lib.hid (HOf.out _ pab BA.out)
      have hwz := Lib.hid hB.out.size
      have HSt : Hid (∀ (V : World) (d : Nat), Below w.heap.size w V → w.heap.size ≤ d → Pat.Boxed V d Pat.zeroP → Below w.heap.size w (((V.setCell ⟨d, 0, none⟩ (.int .i64 jb)).setCell ⟨d, 1, none⟩ (.int .i64 jo)).setCell ⟨d, 2, none⟩ (.string js)) ∧ Pat.Boxed (((V.setCell ⟨d, 0, none⟩ (.int .i64 jb)).setCell ⟨d, 1, none⟩ (.int .i64 jo)).setCell ⟨d, 2, none⟩ (.string js)) d ⟨jb, jo, js⟩) := fun V d hV hd hq =>
        ⟨((hV.setCell (p := ⟨d, 0, none⟩) hd _).setCell (p := ⟨d, 1, none⟩) hd _).setCell (p := ⟨d, 2, none⟩) hd _, box_set hq ⟨jb, jo, js⟩⟩
      have hnot : ∀ (x : Bool) (w : World), (Op.unary .not (.bool x)).run Try.prog w = .ok (.bool (!x)) w := fun _ _ => rfl
      clear HOf HLn m0 m1 m2 m3 m4 hbn
      go_wp2_with fail
      go_region_held3 (fun V => V.cell? ⟨ab, 0, none⟩ = some (.int .i64 pab) ∧ V.cell? ⟨ab, 1, none⟩ = some (.int .i64 pao) ∧ V.cell? ⟨ab, 2, none⟩ = some (.string pas))
        (first | exact X0.out | exact X1.out | exact XA.out | exact X5.out | exact X5a.out | exact X6.out | exact X6a.out | exact X6u.out | exact Y7.out)
        (first
          | (go_at_call 55; (with_reducible refine HO0.out.mono ?_); rintro e w5 ⟨rfl, hb5⟩; have B5 := Lib.hid (Below.trans BD.out (Below.mono hb5 BD.out.size)); have X5 := Lib.hid (HNx.out w5 B5.out); have B5a := Lib.hid (show Below w.heap.size w (w5.alloc (.cells #[.int .i64 0, .int .i64 0, .string ⟨#[]⟩] 38)) from B5.out.alloc B5.out.size _); have X5a := Lib.hid (HNx.out _ B5a.out); clear hb5)
          | (go_at_call 55; (with_reducible refine HOA.out.mono ?_); rintro e w5 ⟨rfl, hb5⟩; have B5 := Lib.hid (Below.trans BA.out (Below.mono hb5 BA.out.size)); have X5 := Lib.hid (HNx.out w5 B5.out); have Q5 := Lib.hid (QA.out.below hb5 (Pat.BlkIs.lt QA.out)); clear hb5)
          | (have q5 := Q5.out; go_at_call 54; (with_reducible refine (HJ.out w5).mono ?_); rintro e w6 ⟨rfl, hb6⟩; have B6 := Lib.hid (Below.trans B5.out (Below.mono hb6 B5.out.size)); have X6 := Lib.hid (HNx.out w6 B6.out); have Q6 := Lib.hid (q5.below hb6 (Pat.BlkIs.lt q5)); clear q5; have St6 := Lib.hid (HSt.out w6 wr.heap.size B6.out hwz.out Q6.out); have Y7 := Lib.hid (HNx.out _ St6.out.1); obtain ⟨q0, q1, q2⟩ := Q6.out.cells; simp only [Pat.zeroP] at q0 q1 q2; have qf := Q6.out.frozen; clear hb6)
          | (go_at_call 54; (with_reducible refine (HJ.out (w5.alloc (.cells #[.int .i64 0, .int .i64 0, .string ⟨#[]⟩] 38))).mono ?_); rintro e w6 ⟨rfl, hb6⟩; have B6 := Lib.hid (Below.trans B5a.out (Below.mono hb6 B5a.out.size)); have X6 := Lib.hid (HNx.out w6 B6.out); have Q6 : Hid (Pat.Boxed w6 w5.heap.size Pat.zeroP) := (Pat.boxed1 w5 Pat.zeroP).below hb6 (by simp); have St6 := Lib.hid (HSt.out w6 w5.heap.size B6.out B5.out.size Q6.out); have Y7 := Lib.hid (HNx.out _ St6.out.1); obtain ⟨q0, q1, q2⟩ := Q6.out.cells; simp only [Pat.zeroP] at q0 q1 q2; have qf := Q6.out.frozen; clear hb6)
          | (go_at_call 54; (with_reducible refine (HJ.out w5).mono ?_); rintro e w6 ⟨rfl, hb6⟩; have B6 := Lib.hid (Below.trans B5.out (Below.mono hb6 B5.out.size)); have X6 := Lib.hid (HNx.out w6 B6.out); have X6a := Lib.hid (HNx.out (w6.alloc (.cells #[.int .i64 0, .int .i64 0, .string ⟨#[]⟩] 38)) (B6.out.alloc B6.out.size _)); have B6u := Lib.hid (show Below w.heap.size w (w6.alloc (.cells #[.int .i64 jb, .int .i64 jo, .string js] 38)) from B6.out.alloc B6.out.size _); have X6u := Lib.hid (HNx.out _ B6u.out); clear hb6)
          | fail)
      all_goals first
        | (have q5 := Q5.out
           clear q5
           have NX := Lib.hid St6.out.1
           have FBox := Lib.hid St6.out.2
           generalize (((w6.setCell ⟨wr.heap.size, 0, none⟩ (.int .i64 jb)).setCell ⟨wr.heap.size, 1, none⟩ (.int .i64 jo)).setCell ⟨wr.heap.size, 2, none⟩ (.string js)) = V at *
           generalize wr.heap.size = dd at *
           clear QA HSt Q5 Q6 St6 q0 q1 q2 qf X5)
        | (have NX := Lib.hid St6.out.1
           have FBox := Lib.hid St6.out.2
           generalize (((w6.setCell ⟨w5.heap.size, 0, none⟩ (.int .i64 jb)).setCell ⟨w5.heap.size, 1, none⟩ (.int .i64 jo)).setCell ⟨w5.heap.size, 2, none⟩ (.string js)) = V at *
           generalize w5.heap.size = dd at *
           clear QA HSt Q6 St6 q0 q1 q2 qf X5 X5a B5a)
        | (have NX := Lib.hid B6u.out
           have FBox : Hid (Pat.Boxed (w6.alloc (.cells #[.int .i64 jb, .int .i64 jo, .string js] 38)) w6.heap.size ⟨jb, jo, js⟩) := Pat.boxed1 w6 ⟨jb, jo, js⟩
           generalize w6.alloc (.cells #[.int .i64 jb, .int .i64 jo, .string js] 38) = V at *
           generalize w6.heap.size = dd at *
           clear QA HSt X5 X5a B5a X6a X6u B6u)
      all_goals
        clear HNx X0 X1 XA HO0 HOA BA BD HJ B5 B6 X6 HLa
        have hdd := Pat.BlkIs.lt FBox.out
        have HS0 := Lib.hid (HC.out.fresh NX.out)
        have t2 := HS0.out.num
        have t3 := HS0.out.top
        have hgV := HS0.out.glt
        rw [HoL.out] at t3
        cases ap with
        | true =>
          have HE3 := Lib.hid (HEf.out HbF.out rfl)
          clear HEf HEo HSq HT0 FBox
          go_wp2
          go_ret
          exact ⟨by rw [HE3.out]; rfl, by rw [HT1.out (by rw [HE3.out]; decide)]; exact HF.out _ NX.out⟩
        | false =>
          have HE0 := Lib.hid (HEo.out HbF.out rfl)
          have HSq2 := Lib.hid (HSq.out rfl)
          clear HEf HEo HSq HT1
          go_wp2_with (go_at_call 48; (with_reducible refine (HRs.out _ NX.out).mono ?_); rintro e w8 ⟨A8, c8, rfl, hr8, hb8⟩; have R8 := Lib.hid hr8; have B8 := Lib.hid (Below.trans NX.out (Below.mono hb8 NX.out.size)); have F8 := Lib.hid (FBox.out.below hb8 hdd); clear hr8 hb8)
          clear t2 t3
          obtain ⟨i0, hi0, hz0, hz1, hz2⟩ := info_parts infoP
          have hwz8 := B8.out.size
          go_loopw [14, 89] (fun s0 i wr => ∃ (k : Nat) (A' : Option Addr) (c' : Nat) (l' : List Ly), k ≤ L.length ∧ l'.length ≤ k ∧ i = .int .i64 k ∧ s0 = .slice A' l'.length c' ∧ Hid (xsL l' = sqL (xsL (L.take k)) a n ⟨jb, jo, js⟩) ∧ Hid (RowP wr w8.heap.size A' c' l') ∧ Hid (Lays wr l') ∧ Hid (Below w8.heap.size w8 wr)) (fun _ i _ => L.length - (intOf i).toNat)
          case atStart => exact ⟨0, none, 0, [], Nat.zero_le _, Nat.zero_le _, rfl, rfl, rfl, World.ownsRow_nil _ _ _ _, lays_nil _, Below.refl _ _⟩
          case round =>
            obtain ⟨k, A', c', l', hk, hkl, rfl, rfl, hX, hrow, hY, hB2⟩ := hrel
            rename World => wx
            have hk0 : (0 : Int) ≤ (k : Int) := by omega
            have hbx := Lib.hid (Below.trans B8.out (Below.mono hB2.out B8.out.size))
            by_cases hlt : k < L.length
            · have hki : (k : Int) < (L.length : Int) := by omega
              obtain ⟨rb, hA, hab, h1, h2, e0⟩ := (R8.out.fresh hB2.out).at_ hlt
              subst hA
              unfold maxLen at h2
              have hv := (HC.out.fresh hbx.out).ch k hlt
              obtain ⟨o, ho⟩ := topV_ptr (L.take k)
              rw [ho] at hv
              obtain ⟨d0, d1, d2, d3, d4⟩ := hv.cells
              have hqb := hv.lt
              obtain ⟨y0, y1, y2⟩ := (F8.out.below hB2.out (by have := Pat.BlkIs.lt F8.out; omega)).cells
              have hdx := Pat.BlkIs.lt (F8.out.below hB2.out (by have := Pat.BlkIs.lt F8.out; omega))
              simp only at y0 y1 y2
              have HYx : Hid (Lays wx (l' ++ [lyn L k])) := fun q hq => by
                rcases List.mem_append.1 hq with h | h
                · exact hY.out q h
                · rw [List.mem_singleton.1 h]; exact ⟨_, hv⟩
              have HS1 := Lib.hid (fun x h1 h2 => sq_xs hlt hX.out x h1 h2)
              have HS2 := Lib.hid (fun h => sq_no hlt hX.out h)
              have hz : l'.length ≤ 200 := by omega
              clear hv ho hX
              generalize lyn L k = q at *
              obtain ⟨qb, y, qp⟩ := q
              unfold Ly.ptr at e0
              simp only at *
              by_cases ha : y = a
              · have hb1 : (y == a) = true := by simpa using ha
                have hb2 : (y == n) = false := by simpa using (show y ≠ n by omega)
                have HS3 := Lib.hid (fun b => HS1.out ⟨b, ⟨y, ⟨jb, jo, js⟩⟩⟩ (by unfold sqX; rw [if_pos ha]) (by omega))
                have HW2 : Hid (RowP (wx.alloc (.cells #[.int .i64 jb, .int .i64 jo, .string js, .int .i64 y, .pointer o] 84)).drew w8.heap.size A' c' l' ∧ Lays (wx.alloc (.cells #[.int .i64 jb, .int .i64 jo, .string js, .int .i64 y, .pointer o] 84)).drew (l' ++ [⟨wx.heap.size, ⟨y, ⟨jb, jo, js⟩⟩⟩]) ∧ Below w8.heap.size w8 (wx.alloc (.cells #[.int .i64 jb, .int .i64 jo, .string js, .int .i64 y, .pointer o] 84)).drew ∧ LayAt (wx.alloc (.cells #[.int .i64 jb, .int .i64 jo, .string js, .int .i64 y, .pointer o] 84)).drew ⟨wx.heap.size, ⟨y, ⟨jb, jo, js⟩⟩⟩ (.pointer o)) := by
                  have hl : LayAt (wx.alloc (.cells #[.int .i64 jb, .int .i64 jo, .string js, .int .i64 y, .pointer o] 84)).drew ⟨wx.heap.size, ⟨y, ⟨jb, jo, js⟩⟩⟩ (.pointer o) := heap_alloc_new wx _
                  have hb : Below wx.heap.size wx (wx.alloc (.cells #[.int .i64 jb, .int .i64 jo, .string js, .int .i64 y, .pointer o] 84)).drew := ((Below.refl _ _).alloc (Nat.le_refl _) _).drew
                  refine ⟨hrow.out.fresh hb, fun q hq => ?_, Below.trans hB2.out (Below.mono hb hB2.out.size), hl⟩
                  rcases List.mem_append.1 hq with h | h
                  · exact (hY.out.fresh hb) q h
                  · rw [List.mem_singleton.1 h]; exact ⟨_, hl⟩
                clear HS1 HS2 ha HYx
                go_wp2_with fail
                go_region
                generalize (wx.alloc (.cells #[.int .i64 jb, .int .i64 jo, .string js, .int .i64 y, .pointer o] 84)).drew = W2 at *
                obtain ⟨hrow2, hY2, hB3, hv2⟩ := HW2.out
                have hrow2 := Lib.hid hrow2
                have hY2 := Lib.hid hY2
                have hB3 := Lib.hid hB3
                have x3 := hv2.cells.2.2.2.1
                have hq2 := hv2.lt
                clear hv2 HW2 hrow hY hB2
                generalize wx.heap.size = qn at *
                simp only at x3 hq2
                have hwx := hB3.out.size
                have Z := Lib.hid (ap_row ⟨qn, ⟨y, ⟨jb, jo, js⟩⟩⟩ hrow2.out)
                have Hx : Hid (∀ A7 c7 w7, w7.ownsRow w8.heap.size 75 1 (.slice A7 (l'.length + 1) c7) (l'.length + 1) (ptrV l' ++ [.pointer (some ⟨qn, 0, none⟩)]) → (W2.alloc (.cells #[.pointer (some ⟨qn, 0, none⟩)] 75)).grownBy w7 (Value.slice A' l'.length c').ownBlock → RowP w7 w8.heap.size A7 c7 (l' ++ [⟨qn, ⟨y, ⟨jb, jo, js⟩⟩⟩]) ∧ Lays w7 (l' ++ [⟨qn, ⟨y, ⟨jb, jo, js⟩⟩⟩]) ∧ Below w8.heap.size w8 w7) := fun A7 c7 w7 h7 hg7 => by
                  have hn := ap_new (q := ⟨qn, ⟨y, ⟨jb, jo, js⟩⟩⟩) hrow2.out hB3.out h7 hg7
                  exact ⟨hn.1, lays_grown (hY2.out.fresh (Pat.below_alloc1 W2 _)) (ap_row ⟨qn, ⟨y, ⟨jb, jo, js⟩⟩⟩ hrow2.out) hg7, hn.2⟩
                unfold Ly.ptr at Z
                simp only at Z
                go_wp2_with (at_builtin; refine wpList_append_src rfl (.tmp 114) (.tmp 116) 77 rfl w8.heap.size 75 i0 (.pointer none) 1 8 Try.underlying77 hi0 hz0 hz1 hz2 rfl (by decide) (.slice A' l'.length c') l'.length (ptrV l') rfl Z.out (some ⟨W2.heap.size, 0, none⟩) 1 1 [.pointer (some ⟨qn, 0, none⟩)] rfl rfl (ap_src W2 ⟨qn, ⟨y, ⟨jb, jo, js⟩⟩⟩ _ rfl) (by intro h; cases h) (by intro u hu; simp at hu; subst hu; rfl) (by unfold maxLen; omega) (by omega) (by simp; omega) (l'.length + 1) rfl ?_; intro A7 c7 w7 ho7 hg7 hor7; have G1 := Lib.hid (Hx.out A7 c7 w7 ho7 hg7); clear ho7 hg7 hor7)
                go_roundw
                case rel => exact ⟨k + 1, A7, c7, l' ++ [(⟨qn, ⟨y, ⟨jb, jo, js⟩⟩⟩ : Ly)], by omega, by rw [List.length_append]; simp; omega, by go_num, by rw [List.length_append]; rfl, HS3.out _, G1.out.1, G1.out.2.1, G1.out.2.2⟩
                case measure => simp [intOf]; omega
              · have hb1 : (y == a) = false := by simpa using ha
                by_cases hn : y = n
                · have hb2 : (y == n) = true := by simpa using hn
                  have HS3 := Lib.hid (HS2.out hn)
                  clear HS1 HS2 ha hn HYx
                  go_wp2
                  go_roundw
                  case rel => exact ⟨k + 1, A', c', l', by omega, by omega, by go_num, rfl, HS3.out, hrow.out, hY.out, hB2.out⟩
                  case measure => simp [intOf]; omega
                · have hb2 : (y == n) = false := by simpa using hn
                  have HS3 := Lib.hid (HS1.out ⟨qb, ⟨y, qp⟩⟩ (by unfold sqX; rw [if_neg ha]) hn)
                  clear HS1 HS2 ha hn
                  have hwx := hB2.out.size
                  have Z := Lib.hid (ap_row ⟨qb, ⟨y, qp⟩⟩ hrow.out)
                  have Hx : Hid (∀ A7 c7 w7, w7.ownsRow w8.heap.size 75 1 (.slice A7 (l'.length + 1) c7) (l'.length + 1) (ptrV l' ++ [.pointer (some ⟨qb, 0, none⟩)]) → (wx.alloc (.cells #[.pointer (some ⟨qb, 0, none⟩)] 75)).grownBy w7 (Value.slice A' l'.length c').ownBlock → RowP w7 w8.heap.size A7 c7 (l' ++ [⟨qb, ⟨y, qp⟩⟩]) ∧ Lays w7 (l' ++ [⟨qb, ⟨y, qp⟩⟩]) ∧ Below w8.heap.size w8 w7) := fun A7 c7 w7 h7 hg7 => by
                    have hn := ap_new (q := ⟨qb, ⟨y, qp⟩⟩) hrow.out hB2.out h7 hg7
                    exact ⟨hn.1, lays_grown (HYx.out.fresh (Pat.below_alloc1 wx _)) (ap_row ⟨qb, ⟨y, qp⟩⟩ hrow.out) hg7, hn.2⟩
                  unfold Ly.ptr at Z
                  simp only at Z
                  go_wp2_with (at_builtin; refine wpList_append_src rfl (.tmp 114) (.tmp 116) 77 rfl w8.heap.size 75 i0 (.pointer none) 1 8 Try.underlying77 hi0 hz0 hz1 hz2 rfl (by decide) (.slice A' l'.length c') l'.length (ptrV l') rfl Z.out (some ⟨wx.heap.size, 0, none⟩) 1 1 [.pointer (some ⟨qb, 0, none⟩)] rfl rfl (ap_src wx ⟨qb, ⟨y, qp⟩⟩ _ rfl) (by intro h; cases h) (by intro u hu; simp at hu; subst hu; rfl) (by unfold maxLen; omega) (by omega) (by simp; omega) (l'.length + 1) rfl ?_; intro A7 c7 w7 ho7 hg7 hor7; have G1 := Lib.hid (Hx.out A7 c7 w7 ho7 hg7); clear ho7 hg7 hor7)
                  go_roundw
                  case rel => exact ⟨k + 1, A7, c7, l' ++ [(⟨qb, ⟨y, qp⟩⟩ : Ly)], by omega, by rw [List.length_append]; simp; omega, by go_num, by rw [List.length_append]; rfl, HS3.out, G1.out.1, G1.out.2.1, G1.out.2.2⟩
                  case measure => simp [intOf]; omega
            · obtain rfl : k = L.length := by omega
              have hki : ¬ (L.length : Int) < (L.length : Int) := by omega
              rw [List.take_length] at hX
              have HRk := Lib.hid (relink_any B g L s wx w8.heap.size A' c' l' (HC.out.fresh hbx.out) hrow.out hY.out (by omega))
              clear hrow hY
              go_wp2_with (go_at_call 56; (with_reducible refine HRk.out.mono ?_); rintro e w9 ⟨rfl, ⟨L2, hs9⟩, hk9⟩; have S9 := Lib.hid hs9; have K9 := Lib.hid hk9; clear hs9 hk9)
              go_ret
              exact ⟨by rw [HE0.out]; rfl, by rw [HT0.out HE0.out, HSq2.out, ← hX.out]; exact ⟨⟨L2, S9.out⟩, (Kept.fresh hbx.out).trans K9.out (fun b e => .inl e)⟩⟩
end
end Go.Proofs.Ytibkipdadpidnaa
