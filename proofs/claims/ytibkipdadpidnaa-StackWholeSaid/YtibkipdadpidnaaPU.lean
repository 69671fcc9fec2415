/- Words for the document's own 'Join'. -/
import Derived.Test.YtibkipdadpidnaaPT
namespace Go.Proofs.Ytibkipdadpidnaa.Pat
set_option linter.unusedVariables false
set_option linter.unusedSimpArgs false
set_option maxRecDepth 100000
open Go.RowKit

theorem own_below {w w' : World} {base B : Nat} {e : TypeId} {size : Nat} {v : Value} {n : Nat} {xs : List Value} (h : w.ownsRow base e size v n xs) (hb : Below B w w') (hlt : ∀ j, v.ownBlock = some j → j < B) : w'.ownsRow base e size v n xs := by
  refine ⟨h.1, ?_⟩
  rcases h.2 with hn | ⟨g, cap, cur, rfl, h1, h2, rest⟩
  · exact .inl hn
  · refine .inr ⟨g, cap, cur, rfl, h1, ?_, rest⟩
    rw [hb.block g (hlt g rfl)]
    exact h2
theorem own_next {w w' : World} {base : Nat} {e : TypeId} {size : Nat} {v : Value} {n : Nat} {xs : List Value} (h : w.ownsRow base e size v n xs) (hb : Below w.heap.size w w') : w'.ownsRow base e size v n xs :=
  own_below h hb fun j hj => (h.lt j hj).2
theorem St3.grown {w W W' : World} {p q : Pt} {row : Option Nat} (h : St3 w p q W) (hg : W.grownBy W' row) (hr : ∀ j, row = some j → w.heap.size + 1 + 1 + 1 ≤ j) : St3 w p q W' := by
  have hk : ∀ {k : Nat} {r : Pt}, Boxed W k r → k < w.heap.size + 1 + 1 + 1 → Boxed W' k r := fun {k r} h1 h2 => by
    have hlt := BlkIs.lt h1
    unfold Boxed BlkIs at *
    rw [hg.block k hlt (by intro e; have := hr k e.symm; omega)]
    exact h1
  exact ⟨h.1.grown hg h.1.size (fun j e => by have := hr j e; omega), hk h.2.1 (by omega), hk h.2.2.1 (by omega), hk h.2.2.2 (by omega)⟩
theorem part_succ (l : List Int) (f k : Nat) (h1 : f ≤ k) (h2 : k < l.length) : part l f (k + 1) = part l f k ++ [nth l k] := by
  unfold part
  rw [List.take_add_one, List.getElem?_eq_getElem h2, nth_lt h2, List.drop_append_of_le_length (by simp; omega)]
  rfl
theorem part_nil (l : List Int) (f : Nat) : part l f f = [] := by simp [part]

/-- where the document's own 'Join' stands behind k bytes -/
def JS (F T : Nat) (Z : List Int) (k : Nat) (fr to : Value) (dl : List Int) : Prop :=
  (k ≤ F ∧ fr = .int .i64 (-1) ∧ to = .int .i64 0 ∧ dl = []) ∨ (F < k ∧ fr = .int .i64 (F : Nat) ∧ to = .int .i64 (min k T : Nat) ∧ dl = part Z F (min k T))
theorem JS.skip {F T : Nat} {Z : List Int} {k : Nat} {fr to : Value} {dl : List Int} (h : JS F T Z k fr to dl) (hFT : F < T) (hk : ¬ (F ≤ k ∧ k < T)) : JS F T Z (k + 1) fr to dl := by
  rcases h with ⟨h1, h2, h3, h4⟩ | ⟨h1, h2, h3, h4⟩
  · by_cases e : k = F
    · omega
    · exact .inl ⟨by omega, h2, h3, h4⟩
  · have e : min (k + 1) T = min k T := by omega
    exact .inr ⟨by omega, h2, by rw [e]; exact h3, by rw [e]; exact h4⟩
theorem nthZ {p q : Pt} (hp : p.right = true) (hq : q.right = true) (k : Nat) :
    (q.has k = true → ∃ h : k - q.o.toNat < q.s.size, nth (put (put zeros p) q) k = (q.s[k - q.o.toNat].toNat : Int)) ∧
    (q.has k = false → p.has k = true → ∃ h : k - p.o.toNat < p.s.size, nth (put (put zeros p) q) k = (p.s[k - p.o.toNat].toNat : Int)) := by
  obtain ⟨p1, p2, p3, p4, p5, p6⟩ := Pt.right_out hp
  obtain ⟨q1, q2, q3, q4, q5, q6⟩ := Pt.right_out hq
  rw [nth_put2 hp hq zeros_len]
  unfold Pt.has
  constructor
  · intro h
    have h' : q.o ≤ (k : Int) ∧ (k : Int) < q.o + q.s.size := by simpa using h
    have hlt : k - q.o.toNat < q.s.size := by omega
    exact ⟨hlt, by rw [if_pos (by omega), nth_sb _ _ hlt]⟩
  · intro h g
    have g' : p.o ≤ (k : Int) ∧ (k : Int) < p.o + p.s.size := by simpa using g
    have h' : ¬ (q.o ≤ (k : Int) ∧ (k : Int) < q.o + q.s.size) := by
      intro e
      have : (decide (q.o ≤ (k : Int)) && decide ((k : Int) < q.o + q.s.size)) = true := by simp [e]
      rw [this] at h; cases h
    have hlt : k - p.o.toNat < p.s.size := by omega
    exact ⟨hlt, by rw [if_neg (by omega), if_pos (by omega), nth_sb _ _ hlt]⟩

theorem has_ge {p : Pt} {k : Nat} (h : p.has k = true) : p.o ≤ (k : Int) := by
  have : p.o ≤ (k : Int) ∧ (k : Int) < p.o + p.s.size := by simpa [Pt.has] using h
  exact this.1

set_option maxRecDepth 100000 in
set_option maxHeartbeats 2000000 in
theorem refjoin_run (p q : Pt) (w : World) (F T G : Nat) (hp : p.right = true) (hq : q.right = true) (hb : p.b = q.b)
    (hU : ∀ i, i < G → (p.has i || q.has i) = (decide (F ≤ i) && decide (i < T))) (hFT : F < T) (hTG : T ≤ G) (hG : G ≤ 32) (hend : G < 32 → (p.has G || q.has G) = true ∧ T < G) :
    Calls Try.prog 80 #[p.v, q.v] w fun e w' => e = .returned (.tuple #[(if G < 32 then zeroP else ⟨p.b, F, strOfNums (part (put (put zeros p) q) F T)⟩).v, .bool (!decide (G < 32))]) ∧ Below w.heap.size w w' := by
  obtain ⟨i0, hi, hz0, hz1, hz2⟩ := info_parts info5
  obtain ⟨p1, p2, p3, p4, p5, p6⟩ := Pt.right_out hp
  obtain ⟨q1, q2, q3, q4, q5, q6⟩ := Pt.right_out hq
  have R1 := Lib.hid (fun W => refright_any p W (ok_of hp))
  have R2 := Lib.hid (fun W => refright_any q W (ok_of hq))
  have W1 := Lib.hid (fun i W => writes_any p i W hp)
  have W2 := Lib.hid (fun i W => writes_any q i W hq)
  have NZ := Lib.hid (fun k => nthZ hp hq k)
  have T0 := Lib.hid (St3.start w p q)
  have TN := Lib.hid (fun W (hB : Below (w.heap.size + 1 + 1 + 1) (((w.alloc (.cells p.cs.toArray 38)).alloc (.cells q.cs.toArray 38)).alloc (.cells zeroP.cs.toArray 38)) W) => T0.out.next (by simpa using hB))
  rw [hp] at R1
  rw [hq] at R2
  have HF : Hid (∀ W, St3 w p q W → W.cell? ⟨w.heap.size + 1 + 1, 0, none⟩ = some (.int .i64 0) ∧ W.cell? ⟨w.heap.size + 1 + 1, 1, none⟩ = some (.int .i64 0) ∧ W.cell? ⟨w.heap.size + 1 + 1, 2, none⟩ = some (.string ⟨#[]⟩) ∧ ∀ k, W.frozen? ⟨w.heap.size + 1 + 1, k, none⟩ = false) := fun W h => by
    obtain ⟨x, y, z⟩ := h.2.2.2.cells
    exact ⟨x, y, z, fun k => BlkIs.frozen h.2.2.2 k⟩
  have HE : Hid (∀ (r : Pt) W, St3 w p q W → BlkIs (((W.setCell ⟨w.heap.size + 1 + 1, 0, none⟩ (.int .i64 r.b)).setCell ⟨w.heap.size + 1 + 1, 1, none⟩ (.int .i64 r.o)).setCell ⟨w.heap.size + 1 + 1, 2, none⟩ (.string r.s)) (w.heap.size + 1 + 1) 38 r.cs ∧
      Below w.heap.size w (((W.setCell ⟨w.heap.size + 1 + 1, 0, none⟩ (.int .i64 r.b)).setCell ⟨w.heap.size + 1 + 1, 1, none⟩ (.int .i64 r.o)).setCell ⟨w.heap.size + 1 + 1, 2, none⟩ (.string r.s))) := fun r W h =>
    ⟨((BlkIs.set_ h.2.2.2 0 _).set_ 1 _).set_ 2 _, ((h.1.setCell (p := ⟨w.heap.size + 1 + 1, 0, none⟩) (by simp; omega) (.int .i64 r.b)).setCell (p := ⟨w.heap.size + 1 + 1, 1, none⟩) (by simp; omega) (.int .i64 r.o)).setCell (p := ⟨w.heap.size + 1 + 1, 2, none⟩) (by simp; omega) (.string r.s)⟩
  have HAS1 := Lib.hid (fun k => @has_ge p k)
  have HAS2 := Lib.hid (fun k => @has_ge q k)
  obtain ⟨f, hf⟩ : ∃ f : Nat → Bool, f = p.has := ⟨_, rfl⟩
  obtain ⟨g, hg⟩ : ∃ g : Nat → Bool, g = q.has := ⟨_, rfl⟩
  obtain ⟨Z, hZ⟩ : ∃ Z, Z = put (put zeros p) q := ⟨_, rfl⟩
  have hZl : Z.length = 32 := by rw [hZ]; exact length_put hq (length_put hp zeros_len)
  have hZa : AllB Z := by rw [hZ]; exact put_all (put_all zeros_all p) q
  rw [← hf] at W1 NZ hU hend HAS1
  rw [← hg] at W2 NZ hU hend HAS2
  rw [← hZ] at NZ ⊢
  have HU := Lib.hid hU
  have Hend := Lib.hid hend
  have HZl := Lib.hid hZl
  have HZa := Lib.hid hZa
  have Hb := Lib.hid hb
  clear hp hq hb hf hg hZ hU hend hZl hZa
  obtain ⟨b, o, s⟩ := p
  obtain ⟨b', o', s'⟩ := q
  obtain ⟨n, rfl⟩ := Int.eq_ofNat_of_zero_le p3
  obtain ⟨n', rfl⟩ := Int.eq_ofNat_of_zero_le q3
  obtain rfl : b = b' := Hb.out
  simp only [Int.toNat_natCast] at *
  unfold Pt.v at *
  simp only [Pt.cs, zeroP] at TN
  clear Hb T0
  obtain ⟨R, hR⟩ : ∃ R : Pt, R = (if G < 32 then zeroP else ⟨b, F, strOfNums (part Z F T)⟩) := ⟨_, rfl⟩
  obtain ⟨ok, hok⟩ : ∃ ok : Bool, ok = !decide (G < 32) := ⟨_, rfl⟩
  have HR1 : Hid (G < 32 → R = zeroP ∧ ok = false) := fun h => ⟨by rw [hR, if_pos h], by rw [hok]; simp [h]⟩
  have HR2 : Hid (¬ G < 32 → R = ⟨b, F, strOfNums (part Z F T)⟩ ∧ ok = true) := fun h => ⟨by rw [hR, if_neg h], by rw [hok]; simp [h]⟩
  have e1 : (if G < 32 then zeroP else ⟨b, F, strOfNums (part Z F T)⟩) = R := hR.symm
  have e2 : (!decide (G < 32)) = ok := hok.symm
  rw [e1, e2]
  change Calls Try.prog 80 _ w fun e w' => e = .returned (.tuple #[R.v, .bool ok]) ∧ Below w.heap.size w w'
  clear hR hok e1 e2
  go_enter Try.func80, Try.ntmps80
  go_wp2_with fail
  refine (R1.out _).mono ?_
  rintro e w1 ⟨rfl, hB1⟩
  have T1 := Lib.hid (TN.out _ (by simpa using hB1))
  obtain ⟨e0, e1, e2, e3, e4, e5⟩ := T1.out.two.cells
  simp only at e0 e1 e2 e3 e4 e5
  clear hB1
  go_wp2_with fail
  refine (R2.out _).mono ?_
  rintro e w2 ⟨rfl, hB2⟩
  have T2 := Lib.hid (T1.out.next hB2)
  clear hB2 e0 e1 e2 e3 e4 e5
  obtain ⟨e0, e1, e2, e3, e4, e5⟩ := T2.out.two.cells
  simp only at e0 e1 e2 e3 e4 e5
  go_wp2
  clear e0 e1 e2 e3 e4 e5
  go_loopw [6, 7, 8, 9] (fun d fr to i wr => ∃ (k : Nat) (dl : List Int), k ≤ G ∧ i = .int .i64 k ∧ St3 w ⟨b, n, s⟩ ⟨b, n', s'⟩ wr ∧ wr.ownsRow (w.heap.size + 1 + 1 + 1) 5 1 d dl.length (bytesV dl) ∧ JS F T Z k fr to dl) (fun _ _ _ i _ => 32 - (intOf i).toNat)
  case atStart => exact ⟨0, [], by omega, rfl, T2.out, World.ownsRow_nil _ _ _ _, .inl ⟨by omega, rfl, rfl, rfl⟩⟩
  case round =>
    obtain ⟨k, dl, hk, rfl, hst, hown, hjs⟩ := hrel
    rename World => wr
    have TT := Lib.hid hst
    have O := Lib.hid hown
    have J := Lib.hid hjs
    clear hst hown hjs
    have V1 := Lib.hid (W1.out k)
    have V2 := Lib.hid (W2.out k)
    by_cases hlt : k < 32
    · have hlti : (k : Int) < 32 := by omega
      obtain ⟨e0, e1, e2, e3, e4, e5⟩ := TT.out.two.cells
      simp only at e0 e1 e2 e3 e4 e5
      by_cases hkG : k < G
      · by_cases hin : F ≤ k ∧ k < T
        · have hu := HU.out k hkG
          have hor : (f k || g k) = true := by rw [hu]; simp [hin]
          clear hu
          by_cases hkF : k = F
          · cases h1 : f k with
            | true =>
              cases h2 : g k with
              | true =>
                rw [h1] at V1
                rw [h2] at V2
                obtain ⟨hix, hval⟩ := (NZ.out k).1 h2
                have hge : n' ≤ k := by have := (HAS2.out k (h2)); omega
                have hw : IntKind.i64.wrap ((k : Int) - (n' : Int)) = (k : Int) - (n' : Int) := IntWalk.i64_in _ (by omega)
                have hx0 : (0 : Int) ≤ (k : Int) - (n' : Int) := by omega
                have hx1 : (k : Int) - (n' : Int) < (s'.size : Int) := by omega
                have htn : ((k : Int) - (n' : Int)).toNat = k - n' := by omega
                have Hval := Lib.hid hval
                clear hval h1 h2
                rcases J.out with ⟨_, rfl, rfl, hdl⟩ | ⟨hbad, _⟩
                rotate_left
                · exact absurd hbad (by omega)
                have Hdl := Lib.hid hdl
                have HkF := Lib.hid hkF
                have hkT : k < T := hin.2
                clear hdl
                have hlen : dl.length ≤ 32 := by rw [Hdl.out]; simp
                clear hkF hin
                go_wp2_with fail
                refine (V1.out _).mono ?_
                rintro e w3 ⟨rfl, hB3⟩
                have T3 := Lib.hid (TT.out.next hB3)
                have O3 := Lib.hid (own_next O.out hB3)
                clear hB3 e0 e1 e2 e3 e4 e5
                obtain ⟨e0, e1, e2, e3, e4, e5⟩ := T3.out.two.cells
                simp only at e0 e1 e2 e3 e4 e5
                go_wp2_with fail
                refine (V2.out _).mono ?_
                rintro e w4 ⟨rfl, hB4⟩
                have T4 := Lib.hid (T3.out.next hB4)
                have O4 := Lib.hid (own_next O3.out hB4)
                clear hB4 e0 e1 e2 e3 e4 e5
                obtain ⟨e0, e1, e2, e3, e4, e5⟩ := T4.out.two.cells
                simp only at e0 e1 e2 e3 e4 e5
                go_wp2_with (at_builtin; refine wpList_append_own _ rfl _ _ 22 rfl (w.heap.size + 1 + 1 + 1) 5 i0 (.int .u8 0) 1 1 Try.underlying22 hi hz0 hz1 hz2 rfl (by decide) _ _ _ rfl (O4.out.alloc _) ⟨w4.heap.size, 0, none⟩ 1 1 [.int .u8 (s'[k - n'].toNat : Int)] rfl rfl (cell_one_new _ _ _) (by simp [Value.oneCell']) (by unfold maxLen; omega) (by omega) (by have := BlkIs.lt T4.out.2.2.2; simp; omega) ?_)
                intro v' w9 hown' hgrow _
                have hg9 : w4.grownBy w9 _ := (World.grownBy_alloc w4 _ _).trans hgrow
                have T9 := Lib.hid (T4.out.grown hg9 (fun j hj => (O4.out.lt j hj).1))
                have O9 : Hid (w9.ownsRow (w.heap.size + 1 + 1 + 1) 5 1 v' (dl ++ [nth Z k]).length (bytesV (dl ++ [nth Z k]))) := by
                  unfold Hid
                  rw [Hval.out]
                  simpa [bytesV, byteV] using hown'
                clear hown' hgrow hg9 e0 e1 e2 e3 e4 e5
                go_wp2
                go_roundw
                case rel =>
                  refine ⟨k + 1, dl ++ [nth Z k], by omega, by go_num, T9.out, O9.out, .inr ⟨by have := HkF.out; omega, by rw [HkF.out], ?_, ?_⟩⟩
                  · rw [show min (k + 1) T = k + 1 by omega]; go_num
                  · rw [show min (k + 1) T = k + 1 by omega, part_succ _ _ _ (by have := HkF.out; omega) (by rw [HZl.out]; omega), Hdl.out]
                    rw [HkF.out, part_nil]
                case measure => simp [intOf]; omega
              | false =>
                rw [h1] at V1
                rw [h2] at V2
                obtain ⟨hix, hval⟩ := (NZ.out k).2 h2 h1
                have hge : n ≤ k := by have := (HAS1.out k (h1)); omega
                have hw : IntKind.i64.wrap ((k : Int) - (n : Int)) = (k : Int) - (n : Int) := IntWalk.i64_in _ (by omega)
                have hx0 : (0 : Int) ≤ (k : Int) - (n : Int) := by omega
                have hx1 : (k : Int) - (n : Int) < (s.size : Int) := by omega
                have htn : ((k : Int) - (n : Int)).toNat = k - n := by omega
                have Hval := Lib.hid hval
                clear hval h1 h2
                rcases J.out with ⟨_, rfl, rfl, hdl⟩ | ⟨hbad, _⟩
                rotate_left
                · exact absurd hbad (by omega)
                have Hdl := Lib.hid hdl
                have HkF := Lib.hid hkF
                have hkT : k < T := hin.2
                clear hdl
                have hlen : dl.length ≤ 32 := by rw [Hdl.out]; simp
                clear hkF hin
                go_wp2_with fail
                refine (V1.out _).mono ?_
                rintro e w3 ⟨rfl, hB3⟩
                have T3 := Lib.hid (TT.out.next hB3)
                have O3 := Lib.hid (own_next O.out hB3)
                clear hB3 e0 e1 e2 e3 e4 e5
                obtain ⟨e0, e1, e2, e3, e4, e5⟩ := T3.out.two.cells
                simp only at e0 e1 e2 e3 e4 e5
                go_wp2_with fail
                refine (V2.out _).mono ?_
                rintro e w4 ⟨rfl, hB4⟩
                have T4 := Lib.hid (T3.out.next hB4)
                have O4 := Lib.hid (own_next O3.out hB4)
                clear hB4 e0 e1 e2 e3 e4 e5
                obtain ⟨e0, e1, e2, e3, e4, e5⟩ := T4.out.two.cells
                simp only at e0 e1 e2 e3 e4 e5
                go_wp2_with (at_builtin; refine wpList_append_own _ rfl _ _ 22 rfl (w.heap.size + 1 + 1 + 1) 5 i0 (.int .u8 0) 1 1 Try.underlying22 hi hz0 hz1 hz2 rfl (by decide) _ _ _ rfl (O4.out.alloc _) ⟨w4.heap.size, 0, none⟩ 1 1 [.int .u8 (s[k - n].toNat : Int)] rfl rfl (cell_one_new _ _ _) (by simp [Value.oneCell']) (by unfold maxLen; omega) (by omega) (by have := BlkIs.lt T4.out.2.2.2; simp; omega) ?_)
                intro v' w9 hown' hgrow _
                have hg9 : w4.grownBy w9 _ := (World.grownBy_alloc w4 _ _).trans hgrow
                have T9 := Lib.hid (T4.out.grown hg9 (fun j hj => (O4.out.lt j hj).1))
                have O9 : Hid (w9.ownsRow (w.heap.size + 1 + 1 + 1) 5 1 v' (dl ++ [nth Z k]).length (bytesV (dl ++ [nth Z k]))) := by
                  unfold Hid
                  rw [Hval.out]
                  simpa [bytesV, byteV] using hown'
                clear hown' hgrow hg9 e0 e1 e2 e3 e4 e5
                go_wp2
                go_roundw
                case rel =>
                  refine ⟨k + 1, dl ++ [nth Z k], by omega, by go_num, T9.out, O9.out, .inr ⟨by have := HkF.out; omega, by rw [HkF.out], ?_, ?_⟩⟩
                  · rw [show min (k + 1) T = k + 1 by omega]; go_num
                  · rw [show min (k + 1) T = k + 1 by omega, part_succ _ _ _ (by have := HkF.out; omega) (by rw [HZl.out]; omega), Hdl.out]
                    rw [HkF.out, part_nil]
                case measure => simp [intOf]; omega
            | false =>
              have h2 : g k = true := by simpa [h1] using hor
              rw [h1] at V1
              rw [h2] at V2
              obtain ⟨hix, hval⟩ := (NZ.out k).1 h2
              have hge : n' ≤ k := by have := (HAS2.out k (h2)); omega
              have hw : IntKind.i64.wrap ((k : Int) - (n' : Int)) = (k : Int) - (n' : Int) := IntWalk.i64_in _ (by omega)
              have hx0 : (0 : Int) ≤ (k : Int) - (n' : Int) := by omega
              have hx1 : (k : Int) - (n' : Int) < (s'.size : Int) := by omega
              have htn : ((k : Int) - (n' : Int)).toNat = k - n' := by omega
              have Hval := Lib.hid hval
              clear hval h1 h2
              rcases J.out with ⟨_, rfl, rfl, hdl⟩ | ⟨hbad, _⟩
              rotate_left
              · exact absurd hbad (by omega)
              have Hdl := Lib.hid hdl
              have HkF := Lib.hid hkF
              have hkT : k < T := hin.2
              clear hdl
              have hlen : dl.length ≤ 32 := by rw [Hdl.out]; simp
              clear hkF hin
              go_wp2_with fail
              refine (V1.out _).mono ?_
              rintro e w3 ⟨rfl, hB3⟩
              have T3 := Lib.hid (TT.out.next hB3)
              have O3 := Lib.hid (own_next O.out hB3)
              clear hB3 e0 e1 e2 e3 e4 e5
              obtain ⟨e0, e1, e2, e3, e4, e5⟩ := T3.out.two.cells
              simp only at e0 e1 e2 e3 e4 e5
              go_wp2_with fail
              refine (V2.out _).mono ?_
              rintro e w4 ⟨rfl, hB4⟩
              have T4 := Lib.hid (T3.out.next hB4)
              have O4 := Lib.hid (own_next O3.out hB4)
              clear hB4 e0 e1 e2 e3 e4 e5
              obtain ⟨e0, e1, e2, e3, e4, e5⟩ := T4.out.two.cells
              simp only at e0 e1 e2 e3 e4 e5
              go_wp2_with fail
              refine (V2.out _).mono ?_
              rintro e w5 ⟨rfl, hB5⟩
              have T5 := Lib.hid (T4.out.next hB5)
              have O5 := Lib.hid (own_next O4.out hB5)
              clear hB5 e0 e1 e2 e3 e4 e5
              obtain ⟨e0, e1, e2, e3, e4, e5⟩ := T5.out.two.cells
              simp only at e0 e1 e2 e3 e4 e5
              go_wp2_with (at_builtin; refine wpList_append_own _ rfl _ _ 22 rfl (w.heap.size + 1 + 1 + 1) 5 i0 (.int .u8 0) 1 1 Try.underlying22 hi hz0 hz1 hz2 rfl (by decide) _ _ _ rfl (O5.out.alloc _) ⟨w5.heap.size, 0, none⟩ 1 1 [.int .u8 (s'[k - n'].toNat : Int)] rfl rfl (cell_one_new _ _ _) (by simp [Value.oneCell']) (by unfold maxLen; omega) (by omega) (by have := BlkIs.lt T5.out.2.2.2; simp; omega) ?_)
              intro v' w9 hown' hgrow _
              have hg9 : w5.grownBy w9 _ := (World.grownBy_alloc w5 _ _).trans hgrow
              have T9 := Lib.hid (T5.out.grown hg9 (fun j hj => (O5.out.lt j hj).1))
              have O9 : Hid (w9.ownsRow (w.heap.size + 1 + 1 + 1) 5 1 v' (dl ++ [nth Z k]).length (bytesV (dl ++ [nth Z k]))) := by
                unfold Hid
                rw [Hval.out]
                simpa [bytesV, byteV] using hown'
              clear hown' hgrow hg9 e0 e1 e2 e3 e4 e5
              go_wp2
              go_roundw
              case rel =>
                refine ⟨k + 1, dl ++ [nth Z k], by omega, by go_num, T9.out, O9.out, .inr ⟨by have := HkF.out; omega, by rw [HkF.out], ?_, ?_⟩⟩
                · rw [show min (k + 1) T = k + 1 by omega]; go_num
                · rw [show min (k + 1) T = k + 1 by omega, part_succ _ _ _ (by have := HkF.out; omega) (by rw [HZl.out]; omega), Hdl.out]
                  rw [HkF.out, part_nil]
              case measure => simp [intOf]; omega
          · cases h1 : f k with
            | true =>
              cases h2 : g k with
              | true =>
                rw [h1] at V1
                rw [h2] at V2
                obtain ⟨hix, hval⟩ := (NZ.out k).1 h2
                have hge : n' ≤ k := by have := (HAS2.out k (h2)); omega
                have hw : IntKind.i64.wrap ((k : Int) - (n' : Int)) = (k : Int) - (n' : Int) := IntWalk.i64_in _ (by omega)
                have hx0 : (0 : Int) ≤ (k : Int) - (n' : Int) := by omega
                have hx1 : (k : Int) - (n' : Int) < (s'.size : Int) := by omega
                have htn : ((k : Int) - (n' : Int)).toNat = k - n' := by omega
                have Hval := Lib.hid hval
                clear hval h1 h2
                rcases J.out with ⟨hbad, _⟩ | ⟨_, rfl, rfl, hdl⟩
                · exact absurd hbad (by omega)
                have hmin : ((min k T : Nat) : Int) = (k : Int) := by omega
                have Hdl := Lib.hid hdl
                have hF0 : ¬ (F : Int) < 0 := by omega
                rw [hmin]
                clear hdl hmin
                have hlen : dl.length ≤ 32 := by rw [Hdl.out]; rw [length_part _ _ _ (by rw [HZl.out]; omega)]; omega
                go_wp2_with fail
                refine (V1.out _).mono ?_
                rintro e w3 ⟨rfl, hB3⟩
                have T3 := Lib.hid (TT.out.next hB3)
                have O3 := Lib.hid (own_next O.out hB3)
                clear hB3 e0 e1 e2 e3 e4 e5
                obtain ⟨e0, e1, e2, e3, e4, e5⟩ := T3.out.two.cells
                simp only at e0 e1 e2 e3 e4 e5
                go_wp2_with fail
                refine (V2.out _).mono ?_
                rintro e w4 ⟨rfl, hB4⟩
                have T4 := Lib.hid (T3.out.next hB4)
                have O4 := Lib.hid (own_next O3.out hB4)
                clear hB4 e0 e1 e2 e3 e4 e5
                obtain ⟨e0, e1, e2, e3, e4, e5⟩ := T4.out.two.cells
                simp only at e0 e1 e2 e3 e4 e5
                go_wp2_with (at_builtin; refine wpList_append_own _ rfl _ _ 22 rfl (w.heap.size + 1 + 1 + 1) 5 i0 (.int .u8 0) 1 1 Try.underlying22 hi hz0 hz1 hz2 rfl (by decide) _ _ _ rfl (O4.out.alloc _) ⟨w4.heap.size, 0, none⟩ 1 1 [.int .u8 (s'[k - n'].toNat : Int)] rfl rfl (cell_one_new _ _ _) (by simp [Value.oneCell']) (by unfold maxLen; omega) (by omega) (by have := BlkIs.lt T4.out.2.2.2; simp; omega) ?_)
                intro v' w9 hown' hgrow _
                have hg9 : w4.grownBy w9 _ := (World.grownBy_alloc w4 _ _).trans hgrow
                have T9 := Lib.hid (T4.out.grown hg9 (fun j hj => (O4.out.lt j hj).1))
                have O9 : Hid (w9.ownsRow (w.heap.size + 1 + 1 + 1) 5 1 v' (dl ++ [nth Z k]).length (bytesV (dl ++ [nth Z k]))) := by
                  unfold Hid
                  rw [Hval.out]
                  simpa [bytesV, byteV] using hown'
                clear hown' hgrow hg9 e0 e1 e2 e3 e4 e5
                go_wp2
                go_roundw
                case rel =>
                  refine ⟨k + 1, dl ++ [nth Z k], by omega, by go_num, T9.out, O9.out, .inr ⟨by omega, rfl, ?_, ?_⟩⟩
                  · rw [show min (k + 1) T = k + 1 by omega]; go_num
                  · rw [show min (k + 1) T = k + 1 by omega, part_succ _ _ _ (by omega) (by rw [HZl.out]; omega), Hdl.out]
                    rw [show min k T = k by omega]
                case measure => simp [intOf]; omega
              | false =>
                rw [h1] at V1
                rw [h2] at V2
                obtain ⟨hix, hval⟩ := (NZ.out k).2 h2 h1
                have hge : n ≤ k := by have := (HAS1.out k (h1)); omega
                have hw : IntKind.i64.wrap ((k : Int) - (n : Int)) = (k : Int) - (n : Int) := IntWalk.i64_in _ (by omega)
                have hx0 : (0 : Int) ≤ (k : Int) - (n : Int) := by omega
                have hx1 : (k : Int) - (n : Int) < (s.size : Int) := by omega
                have htn : ((k : Int) - (n : Int)).toNat = k - n := by omega
                have Hval := Lib.hid hval
                clear hval h1 h2
                rcases J.out with ⟨hbad, _⟩ | ⟨_, rfl, rfl, hdl⟩
                · exact absurd hbad (by omega)
                have hmin : ((min k T : Nat) : Int) = (k : Int) := by omega
                have Hdl := Lib.hid hdl
                have hF0 : ¬ (F : Int) < 0 := by omega
                rw [hmin]
                clear hdl hmin
                have hlen : dl.length ≤ 32 := by rw [Hdl.out]; rw [length_part _ _ _ (by rw [HZl.out]; omega)]; omega
                go_wp2_with fail
                refine (V1.out _).mono ?_
                rintro e w3 ⟨rfl, hB3⟩
                have T3 := Lib.hid (TT.out.next hB3)
                have O3 := Lib.hid (own_next O.out hB3)
                clear hB3 e0 e1 e2 e3 e4 e5
                obtain ⟨e0, e1, e2, e3, e4, e5⟩ := T3.out.two.cells
                simp only at e0 e1 e2 e3 e4 e5
                go_wp2_with fail
                refine (V2.out _).mono ?_
                rintro e w4 ⟨rfl, hB4⟩
                have T4 := Lib.hid (T3.out.next hB4)
                have O4 := Lib.hid (own_next O3.out hB4)
                clear hB4 e0 e1 e2 e3 e4 e5
                obtain ⟨e0, e1, e2, e3, e4, e5⟩ := T4.out.two.cells
                simp only at e0 e1 e2 e3 e4 e5
                go_wp2_with (at_builtin; refine wpList_append_own _ rfl _ _ 22 rfl (w.heap.size + 1 + 1 + 1) 5 i0 (.int .u8 0) 1 1 Try.underlying22 hi hz0 hz1 hz2 rfl (by decide) _ _ _ rfl (O4.out.alloc _) ⟨w4.heap.size, 0, none⟩ 1 1 [.int .u8 (s[k - n].toNat : Int)] rfl rfl (cell_one_new _ _ _) (by simp [Value.oneCell']) (by unfold maxLen; omega) (by omega) (by have := BlkIs.lt T4.out.2.2.2; simp; omega) ?_)
                intro v' w9 hown' hgrow _
                have hg9 : w4.grownBy w9 _ := (World.grownBy_alloc w4 _ _).trans hgrow
                have T9 := Lib.hid (T4.out.grown hg9 (fun j hj => (O4.out.lt j hj).1))
                have O9 : Hid (w9.ownsRow (w.heap.size + 1 + 1 + 1) 5 1 v' (dl ++ [nth Z k]).length (bytesV (dl ++ [nth Z k]))) := by
                  unfold Hid
                  rw [Hval.out]
                  simpa [bytesV, byteV] using hown'
                clear hown' hgrow hg9 e0 e1 e2 e3 e4 e5
                go_wp2
                go_roundw
                case rel =>
                  refine ⟨k + 1, dl ++ [nth Z k], by omega, by go_num, T9.out, O9.out, .inr ⟨by omega, rfl, ?_, ?_⟩⟩
                  · rw [show min (k + 1) T = k + 1 by omega]; go_num
                  · rw [show min (k + 1) T = k + 1 by omega, part_succ _ _ _ (by omega) (by rw [HZl.out]; omega), Hdl.out]
                    rw [show min k T = k by omega]
                case measure => simp [intOf]; omega
            | false =>
              have h2 : g k = true := by simpa [h1] using hor
              rw [h1] at V1
              rw [h2] at V2
              obtain ⟨hix, hval⟩ := (NZ.out k).1 h2
              have hge : n' ≤ k := by have := (HAS2.out k (h2)); omega
              have hw : IntKind.i64.wrap ((k : Int) - (n' : Int)) = (k : Int) - (n' : Int) := IntWalk.i64_in _ (by omega)
              have hx0 : (0 : Int) ≤ (k : Int) - (n' : Int) := by omega
              have hx1 : (k : Int) - (n' : Int) < (s'.size : Int) := by omega
              have htn : ((k : Int) - (n' : Int)).toNat = k - n' := by omega
              have Hval := Lib.hid hval
              clear hval h1 h2
              rcases J.out with ⟨hbad, _⟩ | ⟨_, rfl, rfl, hdl⟩
              · exact absurd hbad (by omega)
              have hmin : ((min k T : Nat) : Int) = (k : Int) := by omega
              have Hdl := Lib.hid hdl
              have hF0 : ¬ (F : Int) < 0 := by omega
              rw [hmin]
              clear hdl hmin
              have hlen : dl.length ≤ 32 := by rw [Hdl.out]; rw [length_part _ _ _ (by rw [HZl.out]; omega)]; omega
              go_wp2_with fail
              refine (V1.out _).mono ?_
              rintro e w3 ⟨rfl, hB3⟩
              have T3 := Lib.hid (TT.out.next hB3)
              have O3 := Lib.hid (own_next O.out hB3)
              clear hB3 e0 e1 e2 e3 e4 e5
              obtain ⟨e0, e1, e2, e3, e4, e5⟩ := T3.out.two.cells
              simp only at e0 e1 e2 e3 e4 e5
              go_wp2_with fail
              refine (V2.out _).mono ?_
              rintro e w4 ⟨rfl, hB4⟩
              have T4 := Lib.hid (T3.out.next hB4)
              have O4 := Lib.hid (own_next O3.out hB4)
              clear hB4 e0 e1 e2 e3 e4 e5
              obtain ⟨e0, e1, e2, e3, e4, e5⟩ := T4.out.two.cells
              simp only at e0 e1 e2 e3 e4 e5
              go_wp2_with fail
              refine (V2.out _).mono ?_
              rintro e w5 ⟨rfl, hB5⟩
              have T5 := Lib.hid (T4.out.next hB5)
              have O5 := Lib.hid (own_next O4.out hB5)
              clear hB5 e0 e1 e2 e3 e4 e5
              obtain ⟨e0, e1, e2, e3, e4, e5⟩ := T5.out.two.cells
              simp only at e0 e1 e2 e3 e4 e5
              go_wp2_with (at_builtin; refine wpList_append_own _ rfl _ _ 22 rfl (w.heap.size + 1 + 1 + 1) 5 i0 (.int .u8 0) 1 1 Try.underlying22 hi hz0 hz1 hz2 rfl (by decide) _ _ _ rfl (O5.out.alloc _) ⟨w5.heap.size, 0, none⟩ 1 1 [.int .u8 (s'[k - n'].toNat : Int)] rfl rfl (cell_one_new _ _ _) (by simp [Value.oneCell']) (by unfold maxLen; omega) (by omega) (by have := BlkIs.lt T5.out.2.2.2; simp; omega) ?_)
              intro v' w9 hown' hgrow _
              have hg9 : w5.grownBy w9 _ := (World.grownBy_alloc w5 _ _).trans hgrow
              have T9 := Lib.hid (T5.out.grown hg9 (fun j hj => (O5.out.lt j hj).1))
              have O9 : Hid (w9.ownsRow (w.heap.size + 1 + 1 + 1) 5 1 v' (dl ++ [nth Z k]).length (bytesV (dl ++ [nth Z k]))) := by
                unfold Hid
                rw [Hval.out]
                simpa [bytesV, byteV] using hown'
              clear hown' hgrow hg9 e0 e1 e2 e3 e4 e5
              go_wp2
              go_roundw
              case rel =>
                refine ⟨k + 1, dl ++ [nth Z k], by omega, by go_num, T9.out, O9.out, .inr ⟨by omega, rfl, ?_, ?_⟩⟩
                · rw [show min (k + 1) T = k + 1 by omega]; go_num
                · rw [show min (k + 1) T = k + 1 by omega, part_succ _ _ _ (by omega) (by rw [HZl.out]; omega), Hdl.out]
                  rw [show min k T = k by omega]
              case measure => simp [intOf]; omega
        · have hu := HU.out k hkG
          have hfg : f k = false ∧ g k = false := by
            have : (decide (F ≤ k) && decide (k < T)) = false := by
              cases h : (decide (F ≤ k) && decide (k < T)) with
              | false => rfl
              | true => exact absurd (by simpa using h) hin
            rw [this] at hu
            simpa using hu
          rw [hfg.1] at V1
          rw [hfg.2] at V2
          have J' := Lib.hid (J.out.skip hFT hin)
          clear hu hfg hin
          go_wp2_with fail
          refine (V1.out _).mono ?_
          rintro e w3 ⟨rfl, hB3⟩
          have T3 := Lib.hid (TT.out.next hB3)
          have O3 := Lib.hid (own_next O.out hB3)
          clear hB3 e0 e1 e2 e3 e4 e5
          obtain ⟨e0, e1, e2, e3, e4, e5⟩ := T3.out.two.cells
          simp only at e0 e1 e2 e3 e4 e5
          go_wp2_with fail
          refine (V2.out _).mono ?_
          rintro e w4 ⟨rfl, hB4⟩
          have T4 := Lib.hid (T3.out.next hB4)
          have O4 := Lib.hid (own_next O3.out hB4)
          clear hB4 e0 e1 e2 e3 e4 e5
          go_wp2
          go_roundw
          case rel => exact ⟨k + 1, dl, by omega, by go_num, T4.out, O4.out, J'.out⟩
          case measure => simp [intOf]; omega
      · obtain rfl : k = G := by omega
        obtain ⟨hor, hTG'⟩ := Hend.out hlt
        cases h1 : f k with
        | true =>
          rw [h1] at V1
          rcases J.out with ⟨hbad, _⟩ | ⟨_, rfl, rfl, hdl⟩
          · exact absurd hbad (by omega)
          have hmin : ((min k T : Nat) : Int) = (T : Int) := by omega
          have hF0 : ¬ (F : Int) < 0 := by omega
          have hTk : ((T : Int) == (k : Int)) = false := by rw [beq_eq_false_iff_ne]; omega
          rw [hmin]
          clear hdl hmin h1
          go_wp2_with fail
          refine (V1.out _).mono ?_
          rintro e w3 ⟨rfl, hB3⟩
          have T3 := Lib.hid (TT.out.next hB3)
          clear hB3 e0 e1 e2 e3 e4 e5
          obtain ⟨e0, e1, e2, e3, e4, e5⟩ := T3.out.two.cells
          simp only at e0 e1 e2 e3 e4 e5
          clear e0 e1 e2 e3 e4 e5
          obtain ⟨f0, f1, f2, f3⟩ := HF.out _ T3.out
          go_wp2
          obtain ⟨hh, hB⟩ := HE.out zeroP _ T3.out
          refine bodyPost_ret (v := .tuple #[R.v, .bool ok]) ?_ rfl ⟨rfl, hB⟩
          rw [(HR1.out hlt).1, (HR1.out hlt).2]
          exact results_cell_row_tmp rfl _ _ (w.heap.size + 1 + 1) 38 zeroP.cs.toArray (0, 0) _ rfl hh Try.underlying38 rfl info38 _ rfl
        | false =>
          have h2 : g k = true := by simpa [h1] using hor
          rw [h1] at V1
          rw [h2] at V2
          rcases J.out with ⟨hbad, _⟩ | ⟨_, rfl, rfl, hdl⟩
          · exact absurd hbad (by omega)
          have hmin : ((min k T : Nat) : Int) = (T : Int) := by omega
          have hF0 : ¬ (F : Int) < 0 := by omega
          have hTk : ((T : Int) == (k : Int)) = false := by rw [beq_eq_false_iff_ne]; omega
          rw [hmin]
          clear hdl hmin h1 h2
          go_wp2_with fail
          refine (V1.out _).mono ?_
          rintro e w3 ⟨rfl, hB3⟩
          have T3 := Lib.hid (TT.out.next hB3)
          clear hB3 e0 e1 e2 e3 e4 e5
          obtain ⟨e0, e1, e2, e3, e4, e5⟩ := T3.out.two.cells
          simp only at e0 e1 e2 e3 e4 e5
          go_wp2_with fail
          refine (V2.out _).mono ?_
          rintro e w4 ⟨rfl, hB4⟩
          have T4 := Lib.hid (T3.out.next hB4)
          clear hB4 e0 e1 e2 e3 e4 e5
          obtain ⟨f0, f1, f2, f3⟩ := HF.out _ T4.out
          go_wp2
          obtain ⟨hh, hB⟩ := HE.out zeroP _ T4.out
          refine bodyPost_ret (v := .tuple #[R.v, .bool ok]) ?_ rfl ⟨rfl, hB⟩
          rw [(HR1.out hlt).1, (HR1.out hlt).2]
          exact results_cell_row_tmp rfl _ _ (w.heap.size + 1 + 1) 38 zeroP.cs.toArray (0, 0) _ rfl hh Try.underlying38 rfl info38 _ rfl
    · have hlti : ¬ (k : Int) < 32 := by omega
      have hGn : ¬ G < 32 := by omega
      obtain ⟨hr1, hr2⟩ := HR2.out hGn
      rcases J.out with ⟨h1, _⟩ | ⟨_, rfl, rfl, hdl⟩
      · omega
      · have e : min k T = T := by omega
        rw [e] at hdl
        have hda : AllB dl := by rw [hdl]; exact part_all HZa.out _ _
        obtain ⟨A, c, rfl, -, -, hbt⟩ := OwnB.form (w := wr) (B := w.heap.size + 1 + 1 + 1) (v := _) (l := dl) O.out hda
        have x1 := hbt.text c dl.length rfl
        have Hdl := Lib.hid hdl
        have HR : Hid (R = ⟨b, F, strOfNums dl⟩ ∧ ok = true) := ⟨by rw [hr1, hdl], hr2⟩
        obtain ⟨e0, e1, e2, e3, e4, e5⟩ := TT.out.two.cells
        simp only at e0 e1 e2 e3 e4 e5
        obtain ⟨f0, f1, f2, f3⟩ := HF.out _ TT.out
        clear hdl hda hbt e hGn hr1 hr2
        go_wp2
        obtain ⟨hh, hB⟩ := HE.out ⟨b, F, strOfNums dl⟩ _ TT.out
        refine bodyPost_ret (v := .tuple #[R.v, .bool ok]) ?_ rfl ⟨rfl, hB⟩
        rw [HR.out.1, HR.out.2]
        exact results_cell_row_tmp rfl _ _ (w.heap.size + 1 + 1) 38 (⟨b, F, strOfNums dl⟩ : Pt).cs.toArray (0, 0) _ rfl hh Try.underlying38 rfl info38 _ rfl
end Go.Proofs.Ytibkipdadpidnaa.Pat
