/- The document's own arm: Ask, a request dropped, Cancel, how far it is, Fork; the program's Fork. -/
import Derived.Test.YtpelocpjfmmceaaRP
set_option linter.unusedVariables false
set_option linter.unusedSimpArgs false
namespace Go.Proofs.Ytpelocpjfmmceaa
open Go.RowKit

theorem own_base {w : World} {B B' : Nat} {e : TypeId} {size n : Nat} {v : Value} {xs : List Value} (h : w.ownsRow B' e size v n xs) (hB : B ≤ B') : w.ownsRow B e size v n xs := by
  refine ⟨h.1, ?_⟩
  rcases h.2 with h0 | ⟨g, cap, cur, rfl, hb, rest⟩
  · exact .inl h0
  · exact .inr ⟨g, cap, cur, rfl, Nat.le_trans hB hb, rest⟩
/-- the cells of a whole row as a source -/
theorem row_src {E : TypeId} {B : Nat} {w : World} {A : Option Addr} {n c : Nat} {xs : List Value} (h : w.ownsRow B E 2 (.slice A n c) n xs) : (∀ ad, A = some ad → ∀ j u, xs[j]? = some u → w.cell? (ad.add j) = some u) ∧ (A = none → n = 0) := by
  rcases h.2 with ⟨q, h0⟩ | ⟨k, cap, cur, q, _⟩
  · obtain ⟨rfl, _, _⟩ := Value.slice.inj q
    exact ⟨fun ad e => (by cases e), fun _ => h0⟩
  · obtain ⟨rfl, _, _⟩ := Value.slice.inj q
    refine ⟨fun ad e j u hu => ?_, fun e => by cases e⟩
    cases e
    have hlt := (List.getElem?_eq_some_iff.1 hu).1
    rw [h.1] at hlt
    rw [Addr.add_lit, Nat.zero_add, h.cellAt j hlt]
    exact hu
/-- a row's end -/
theorem tail_src {E : TypeId} {B : Nat} {w : World} {b n c k : Nat} {l : List Rq} (h : w.ownsRow B E 2 (.slice (some ⟨b, 0, none⟩) n c) n (flatQ l)) (hk : k ≤ n) :
    ∀ ad, (if c = k then some (⟨b, 0, none⟩ : Addr) else some ⟨b, k * 2, none⟩) = some ad → ∀ j u, ((flatQ l).drop (k * 2))[j]? = some u → w.cell? (ad.add j) = some u := by
  have h0 := own_cap h
  intro ad e j u hu
  have hlt := (List.getElem?_eq_some_iff.1 hu).1
  rw [List.length_drop, h.1] at hlt
  rw [List.getElem?_drop] at hu
  by_cases hc : c = k
  · omega
  · rw [if_neg hc] at e
    cases e
    rw [Addr.add_lit, h.cellAt _ (by omega)]
    exact hu
/-- a new row laid into an arm -/
theorem new_end {hd : Ar → Value → Array Value} {T E : TypeId} {B g c n A4 c4 : Nat} {A A5 : Option Addr} {x y : Ar} {w w4 : World} (hC : ArmAt hd T E B w g A c x) (hb : Below w.heap.size w w4) (hr : w4.ownsRow w.heap.size E 2 (.slice A5 n c4) n (flatQ y.l)) (hn : y.l.length = n)
    (hset : ∀ v v', (hd x v).setIfInBounds 5 v' = hd y v') (hB : B ≤ w.heap.size) :
    w4.cell? ⟨g, 5, none⟩ = w.cell? ⟨g, 5, none⟩ ∧ w4.frozen? ⟨g, 5, none⟩ = false ∧ g < w4.heap.size ∧ Went hd T E B w g A y (w4.setCell ⟨g, 5, none⟩ (.slice A5 n c4)) := by
  have hC4 := hC.fresh hb
  subst hn
  obtain ⟨r, kp⟩ := laid (hd := hd) (y := y) B g x rfl hC4.head (hset _) (show RowQ E w4 B A5 c4 y.l from own_base hr hB) hC.ne hC.lo
  refine ⟨hb.cell (p := ⟨g, 5, none⟩) hC.glt, hC4.free 5, hC4.glt, A5, c4, r, (Kept.fresh (S := Of g A) hb).trans kp (fun k e => .inl (.inl e)), fun k e => .inr ?_⟩
  exact (World.ownsRow.lt hr k (by rw [own_eq]; exact e)).1
theorem Went.from {hd : Ar → Value → Array Value} {T E : TypeId} {B g : Nat} {A : Option Addr} {y : Ar} {w w1 w' : World} (h : Went hd T E B w1 g A y w') (hb : Below w.heap.size w w1) : Went hd T E B w g A y w' := by
  obtain ⟨A', c', r, k, f⟩ := h
  refine ⟨A', c', r, (Kept.fresh (S := Of g A) hb).trans k (fun _ q => .inl q), fun b e => ?_⟩
  rcases f b e with q | q
  · exact .inl q
  · exact .inr (Nat.le_trans hb.size q)
section
variable (B g : Nat) (A : Option Addr) (c : Nat) (x : Ar) (b : Int) (w : World)
set_option maxRecDepth 100000 in
set_option maxHeartbeats 2000000 in
theorem rask_any (hC : RAt B w g A c x) (hl : x.l.length ≤ 24) (hB : B ≤ w.heap.size) :
    Calls Try.prog 39 #[.pointer (some ⟨g, 0, none⟩), .int .i64 b] w fun e w' => e = .returned (.int .i64 (x.askE b)) ∧ RWent B w g A (x.ask b) w' := by
  obtain ⟨_, _, _, _, _, c5⟩ := rcells hC
  have hg := hC.glt
  have HC := Lib.hid hC
  have Hno : Hid (∀ W, Below w.heap.size w W → RWent B w g A x W) := fun W hW => ⟨A, c, hC.fresh hW, Kept.fresh hW, fun k e => .inl e⟩
  have HF := Lib.hid (rfind_any B g A c x b w hC (by omega))
  unfold Ar.ask
  by_cases hr : b < 0 ∨ 1024 ≤ b
  · have he : x.askE b = 2 := by unfold Ar.askE; rw [if_pos hr]
    rw [he, if_neg (by decide)]
    clear hC he HF
    by_cases h1 : b < 0
    · clear hr
      go_enter Try.func39, Try.ntmps39
      go_wp2
      go_ret
      exact ⟨rfl, Hno.out _ (Below.refl _ _)⟩
    · have h2 : 1024 ≤ b := by omega
      clear hr
      go_enter Try.func39, Try.ntmps39
      go_wp2
      go_ret
      exact ⟨rfl, Hno.out _ (Below.refl _ _)⟩
  · have h1 : ¬ b < 0 := by omega
    have h2 : ¬ 1024 ≤ b := by omega
    have hi := idxR_ge x.l b
    cases hh : hasR x.l b with
    | true =>
      have he : x.askE b = 6 := by unfold Ar.askE; rw [if_neg hr, if_pos hh]
      rw [he, if_neg (by decide)]
      have hlt : 0 ≤ idxR x.l b := by rw [hh] at hi; simpa using hi
      generalize idxR x.l b = q at *
      clear hC he hr hi hh
      go_enter Try.func39, Try.ntmps39
      go_wp2_with (refine HF.out.mono ?_; rintro e w2 ⟨rfl, hb2⟩; have HB2 := Lib.hid hb2; clear hb2)
      go_ret
      exact ⟨rfl, Hno.out _ HB2.out⟩
    | false =>
      have hlt : idxR x.l b < 0 := by rw [hh] at hi; simpa using hi
      by_cases hf : 24 ≤ x.l.length
      · have he : x.askE b = 11 := by unfold Ar.askE; rw [if_neg hr, hh, if_neg (by decide), if_pos hf]
        rw [he, if_neg (by decide)]
        have hfi : (24 : Int) ≤ (x.l.length : Int) := by omega
        generalize idxR x.l b = q at *
        generalize x.l.length = len at *
        clear hC he hr hi hh hf
        go_enter Try.func39, Try.ntmps39
        go_wp2_with (refine HF.out.mono ?_; rintro e w2 ⟨rfl, hb2⟩; have d5 := (hb2.cell (p := ⟨g, 5, none⟩) hg).trans c5; have g5 : g < w2.heap.size := Nat.lt_of_lt_of_le hg hb2.size; have HB2 := Lib.hid hb2; clear hb2)
        go_ret
        exact ⟨rfl, Hno.out _ HB2.out⟩
      · have he : x.askE b = 0 := by unfold Ar.askE; rw [if_neg hr, hh, if_neg (by decide), if_neg hf]
        rw [he, if_pos rfl]
        obtain ⟨i0, hi0, hz0, hz1, hz2⟩ := info_parts infoR
        have hfi : ¬ (24 : Int) ≤ (x.l.length : Int) := by omega
        have H0 : Hid (∀ W, Below w.heap.size w W → (W.alloc (.cells #[] 81)).cell? ⟨g, 5, none⟩ = some (.slice A x.l.length c) ∧ (W.alloc (.cells #[] 81)).ownsRow W.heap.size 81 2 (.slice (some ⟨W.heap.size, 0, none⟩) 0 0) 0 [] ∧ (∀ ad, A = some ad → ∀ j u, (flatQ x.l)[j]? = some u → (W.alloc (.cells #[] 81)).cell? (ad.add j) = some u) ∧ (A = none → x.l.length = 0)) := fun W hW => by
          have hC1 := hC.fresh (hW.alloc hW.size (.cells #[] 81))
          exact ⟨(rcells hC1).2.2.2.2.2, World.ownsRow_made W #[] 0 (Nat.le_refl _) (by simp) (by simp), (row_src hC1.row).1, (row_src hC1.row).2⟩
        have H1 : Hid (∀ W A1 c1 w3, Below w.heap.size w W → w3.ownsRow W.heap.size 81 2 (.slice A1 x.l.length c1) x.l.length ([] ++ flatQ x.l) → (W.alloc (.cells #[] 81)).grownBy w3 (Value.slice (some ⟨W.heap.size, 0, none⟩) 0 0).ownBlock → Below w.heap.size w w3 ∧ (w3.alloc (.cells #[.int .i64 b, .int .i64 0] 81)).ownsRow w.heap.size 81 2 (.slice A1 x.l.length c1) x.l.length (flatQ x.l) ∧
            (∀ ad, some (⟨w3.heap.size, 0, none⟩ : Addr) = some ad → ∀ j u, [Value.int .i64 b, .int .i64 0][j]? = some u → (w3.alloc (.cells #[.int .i64 b, .int .i64 0] 81)).cell? (ad.add j) = some u)) := fun W A1 c1 w3 hW ho hgr =>
          ⟨(hW.alloc hW.size _).grown hgr (by simp; have := hW.size; omega) (fun j e => by cases e; exact hW.size), (own_base ho hW.size).alloc _, fun ad e j u hu => by cases e; exact World.news_of_block (heap_alloc_new w3 _) j u hu⟩
        have H2 : Hid (∀ A2 c2 w3 w4 vA, Below w.heap.size w w3 → (∀ k, vA = some k → w.heap.size ≤ k) → w4.ownsRow w.heap.size 81 2 (.slice A2 (x.l.length + 1) c2) (x.l.length + 1) (flatQ x.l ++ [.int .i64 b, .int .i64 0]) → (w3.alloc (.cells #[.int .i64 b, .int .i64 0] 81)).grownBy w4 vA →
            w4.cell? ⟨g, 5, none⟩ = some (.slice A x.l.length c) ∧ w4.frozen? ⟨g, 5, none⟩ = false ∧ g < w4.heap.size ∧ RWent B w g A { x with l := x.l ++ [⟨b, 0⟩] } (w4.setCell ⟨g, 5, none⟩ (.slice A2 (x.l.length + 1) c2))) := fun A2 c2 w3 w4 vA h3 hv ho hgr => by
          have hb4 : Below w.heap.size w w4 := (h3.alloc h3.size _).grown hgr (by simp; have := h3.size; omega) (fun j e => hv j e)
          obtain ⟨z1, z2, z3, z4⟩ := new_end (A4 := 0) (y := { x with l := x.l ++ [⟨b, 0⟩] }) (n := x.l.length + 1) hC hb4 (by show w4.ownsRow _ _ _ _ _ (flatQ (x.l ++ [⟨b, 0⟩])); rw [flatQ_append]; exact ho) (by show (x.l ++ [_]).length = _; rw [List.length_append]; rfl) (fun _ _ => rfl) hB
          exact ⟨z1.trans c5, z2, z3, z4⟩
        have Hone : Hid (∀ u ∈ [Value.int .i64 b, .int .i64 0], u.oneCell' = true) := by intro u hu; simp at hu; rcases hu with rfl | rfl <;> rfl
        have Hfo := Lib.hid (flatQ_one x.l)
        have Hfl := Lib.hid (length_flatQ x.l)
        have hlen : x.l.length ≤ 24 := hl
        generalize hxl : ({ x with l := x.l ++ [⟨b, 0⟩] } : Ar) = xa at *
        clear hxl
        generalize idxR x.l b = q at *
        generalize flatQ x.l = fl at *
        generalize x.l.length = len at *
        clear hC he hr hi hh hf hl
        go_enter Try.func39, Try.ntmps39
        go_wp2_with (first
          | (go_at_call 53; refine HF.out.mono ?_; rintro e w2 ⟨rfl, hb2⟩; have d5 := (hb2.cell (p := ⟨g, 5, none⟩) hg).trans c5; have g5 : g < w2.heap.size := Nat.lt_of_lt_of_le hg hb2.size; obtain ⟨e5, ho0, hs0, hn0⟩ := H0.out w2 hb2; have HO0 := Lib.hid ho0; have HS0 := Lib.hid hs0; have HN0 := Lib.hid hn0; have HB2 := Lib.hid hb2; clear hb2 ho0 hs0 hn0)
          | (at_builtin; refine wpList_append_src rfl (.tmp 28) (.tmp 32) 68 rfl w2.heap.size 81 i0 zeroQ 2 16 Try.underlying68 hi0 hz0 hz1 hz2 rfl (by decide) (.slice (some ⟨w2.heap.size, 0, none⟩) 0 0) 0 [] rfl HO0.out A len c fl rfl Hfl.out HS0.out HN0.out Hfo.out (by unfold maxLen; omega) (by omega) (by simp) len (by omega) ?_; intro A3 c3 w3 ho3 hg3 hor3; obtain ⟨hb3, hr3, hs3⟩ := H1.out w2 A3 c3 w3 HB2.out ho3 hg3; have HB3 := Lib.hid hb3; have HR3 := Lib.hid hr3; have HS3 := Lib.hid hs3; clear ho3 hg3 hor3 hb3 hr3 hs3)
          | (at_builtin; refine wpList_append_src rfl (.tmp 33) (.tmp 36) 68 rfl w.heap.size 81 i0 zeroQ 2 16 Try.underlying68 hi0 hz0 hz1 hz2 rfl (by decide) (.slice A3 len c3) len fl rfl HR3.out (some ⟨w3.heap.size, 0, none⟩) 1 1 [.int .i64 b, .int .i64 0] rfl rfl HS3.out (by intro h; cases h) Hone.out (by unfold maxLen; omega) (by omega) (by have := HB3.out.size; simp; omega) (len + 1) rfl ?_; intro A4 c4 w4 ho4 hg4 hor4; obtain ⟨s5, f5, l5, hfin⟩ := H2.out A4 c4 w3 w4 _ HB3.out (fun k e => (HR3.out.lt k e).1) ho4 hg4; have HE := Lib.hid hfin; clear ho4 hg4 hor4 hfin))
        go_ret
        exact ⟨rfl, HE.out⟩
set_option maxRecDepth 100000 in
set_option maxHeartbeats 2000000 in
theorem rdrop_any (k : Nat) (hk : k < x.l.length) (hC : RAt B w g A c x) (hl : x.l.length ≤ 1000) (hB : B ≤ w.heap.size) :
    Calls Try.prog 56 #[.pointer (some ⟨g, 0, none⟩), .int .i64 k] w fun e w' => e = .returned (.tuple #[]) ∧ RWent B w g A { x with l := x.l.eraseIdx k } w' := by
  have HC := Lib.hid hC
  obtain ⟨_, _, _, _, _, hs⟩ := rcells hC
  have hg := hC.glt
  have hf := hC.free 5
  obtain ⟨ab, rfl, h1, h2, hb, hBb, c0, c1, cf⟩ := hC.row.at_ hk
  obtain ⟨i0, hi0, hz0, hz1, hz2⟩ := info_parts infoR
  have hk0 : (0 : Int) ≤ (k : Int) := by omega
  have hki : (k : Int) < (x.l.length : Int) := by omega
  have hk1 : (0 : Int) ≤ (k : Int) + 1 := by omega
  have hk2 : (k : Int) + 1 ≤ (x.l.length : Int) := by omega
  have hwr : IntKind.i64.wrap ((k : Int) + 1) = (k : Int) + 1 := IntWalk.i64_in _ (by omega)
  have hkn : ((k : Int) + 1).toNat = k + 1 := by omega
  obtain ⟨A2, hA⟩ : ∃ A2 : Addr, (if c = k + 1 then some (⟨ab, 0, none⟩ : Addr) else some ⟨ab, (k + 1) * 2, none⟩) = some A2 := by
    by_cases h : c = k + 1
    · exact ⟨_, by rw [if_pos h]⟩
    · exact ⟨_, by rw [if_neg h]⟩
  have Hpl : Hid (((flatQ x.l).take (k * 2)).length = k * 2) := by unfold Hid; rw [List.length_take, length_flatQ]; omega
  have Hdl : Hid (((flatQ x.l).drop ((k + 1) * 2)).length = (x.l.length - (k + 1)) * 2) := by unfold Hid; rw [List.length_drop, length_flatQ]; omega
  have Hp1 : Hid (∀ u ∈ (flatQ x.l).take (k * 2), u.oneCell' = true) := fun u hu => flatQ_one x.l u (List.mem_of_mem_take hu)
  have Hd1 : Hid (∀ u ∈ (flatQ x.l).drop ((k + 1) * 2), u.oneCell' = true) := fun u hu => flatQ_one x.l u (List.mem_of_mem_drop hu)
  have Hps : Hid (∀ W, Below w.heap.size w W → ∀ ad, some (⟨ab, 0, none⟩ : Addr) = some ad → ∀ j u, ((flatQ x.l).take (k * 2))[j]? = some u → W.cell? (ad.add j) = some u) := fun W hW ad e =>
    (row_src (own_take (HC.out.fresh hW).row (show k ≤ x.l.length by omega))).1 ad e
  have Hds : Hid (∀ W, Below w.heap.size w W → ∀ ad, some A2 = some ad → ∀ j u, ((flatQ x.l).drop ((k + 1) * 2))[j]? = some u → W.cell? (ad.add j) = some u) := fun W hW ad e =>
    tail_src (HC.out.fresh hW).row (show k + 1 ≤ x.l.length by omega) ad (by rw [hA]; exact e)
  have Hfl : Hid ([] ++ (flatQ x.l).take (k * 2) ++ (flatQ x.l).drop ((k + 1) * 2) = flatQ (x.l.eraseIdx k)) := by
    unfold Hid
    rw [List.nil_append, flatQ_take, flatQ_drop, ← flatQ_append, List.eraseIdx_eq_take_drop_succ]
  have Hel : Hid ((x.l.eraseIdx k).length = x.l.length - 1) := by unfold Hid; rw [List.length_eraseIdx, if_pos hk]
  have HA := Lib.hid hA
  have hkc : (k : Int) + 1 ≤ (c : Int) := by omega
  have hkc0 : (k : Int) ≤ (c : Int) := by omega
  have hki' : (k : Int) ≤ (x.l.length : Int) := by omega
  have HB3 : Hid (Below w.heap.size w (w.drew.alloc (.cells #[] 81))) := ((Below.refl _ _).drew).alloc (Nat.le_refl _) _
  have Hown : Hid ((w.drew.alloc (.cells #[] 81)).ownsRow w.heap.size 81 2 (.slice (some ⟨w.heap.size, 0, none⟩) 0 0) 0 []) := World.ownsRow_made w.drew #[] 0 (Nat.le_refl _) (by simp) (by simp)
  have hne2 := World.new_ne w ⟨g, 5, none⟩ hs
  have hsA : (w.alloc (.cells #[] 81)).cell? ⟨g, 5, none⟩ = some (.slice (some ⟨ab, 0, none⟩) x.l.length c) := (rcells (HC.out.fresh ((Below.refl _ _).alloc (Nat.le_refl _) _))).2.2.2.2.2
  have Hc5 : Hid (∀ W, Below w.heap.size w W → W.cell? ⟨g, 5, none⟩ = some (.slice (some ⟨ab, 0, none⟩) x.l.length c) ∧ g < W.heap.size) := fun W hW => ⟨(rcells (hC.fresh hW)).2.2.2.2.2, (hC.fresh hW).glt⟩
  have HEnd : Hid (∀ A5 c5 w4, Below w.heap.size w w4 → w4.ownsRow w.heap.size 81 2 (.slice A5 (x.l.length - 1) c5) (x.l.length - 1) (flatQ (x.l.eraseIdx k)) → w4.cell? ⟨g, 5, none⟩ = some (.slice (some ⟨ab, 0, none⟩) x.l.length c) ∧ w4.frozen? ⟨g, 5, none⟩ = false ∧ g < w4.heap.size ∧ RWent B w g (some ⟨ab, 0, none⟩) { x with l := x.l.eraseIdx k } (w4.setCell ⟨g, 5, none⟩ (.slice A5 (x.l.length - 1) c5))) := fun A5 c5 w4 h4 ho => by
    obtain ⟨z1, z2, z3, z4⟩ := new_end (A4 := 0) (y := { x with l := x.l.eraseIdx k }) (n := x.l.length - 1) hC h4 ho Hel.out (fun _ _ => rfl) hB
    exact ⟨z1.trans hs, z2, z3, z4⟩
  unfold maxLen at h2
  generalize hxl : ({ x with l := x.l.eraseIdx k } : Ar) = xa at *
  clear hxl hC
  go_enter Try.func56, Try.ntmps56
  go_wp2
  go_region_law
    (first
      | (refine step_append_src rfl (.tmp 5) (.tmp 11) 68 rfl w.heap.size 81 i0 zeroQ 2 16 Try.underlying68 hi0 hz0 hz1 hz2 rfl (by decide) _ 0 [] rfl Hown.out (some ⟨ab, 0, none⟩) k c ((flatQ x.l).take (k * 2)) rfl Hpl.out (Hps.out _ HB3.out) (fun e => by cases e) Hp1.out (by unfold maxLen; omega) (by omega) (by simp) k (by omega) ?_; intro A3 c3 w3 ho3 hg3 hor3; have HBw3 := Lib.hid (HB3.out.grown hg3 (by simp) (fun j e => by cases e; exact Nat.le_refl _)); obtain ⟨hs3, hg3'⟩ := Hc5.out _ HBw3.out; have HO3 := Lib.hid ho3; clear ho3 hg3 hor3)
      | (refine step_append_src rfl (.tmp 12) (.tmp 19) 68 rfl w.heap.size 81 i0 zeroQ 2 16 Try.underlying68 hi0 hz0 hz1 hz2 rfl (by decide) _ k ([] ++ (flatQ x.l).take (k * 2)) rfl HO3.out (some A2) (x.l.length - (k + 1)) (c - (k + 1)) ((flatQ x.l).drop ((k + 1) * 2)) rfl Hdl.out (Hds.out _ HBw3.out) (fun e => by cases e) Hd1.out (by unfold maxLen; omega) (by omega) HBw3.out.size (x.l.length - 1) (by omega) ?_; intro A4 c4 w4 ho4 hg4 hor4; have HBw4 := Lib.hid (HBw3.out.grown hg4 HBw3.out.size (fun j e => (HO3.out.lt j e).1)); rw [Hfl.out] at ho4; obtain ⟨hs4, hf4, hgl4, hE4⟩ := HEnd.out _ _ _ HBw4.out ho4; have HE4 := Lib.hid hE4; clear ho4 hg4 hor4 hE4))
  all_goals
    go_wp2
    go_end0
    exact ⟨rfl, HE4.out⟩
end
end Go.Proofs.Ytpelocpjfmmceaa
