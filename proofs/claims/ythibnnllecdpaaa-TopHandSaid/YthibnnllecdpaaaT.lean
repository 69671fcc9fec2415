/- The document's own cache: Drop. -/
import Derived.Test.YthibnnllecdpaaaS
namespace Go.Proofs.Ythibnnllecdpaaa
open Go.RowKit

theorem own_base {w : World} {B B' : Nat} {e : TypeId} {size n : Nat} {v : Value} {xs : List Value} (h : w.ownsRow B' e size v n xs) (hB : B ≤ B') : w.ownsRow B e size v n xs := by
  refine ⟨h.1, ?_⟩
  rcases h.2 with h0 | ⟨g, cap, cur, rfl, hb, rest⟩
  · exact .inl h0
  · exact .inr ⟨g, cap, cur, rfl, Nat.le_trans hB hb, rest⟩
/-- a new row laid into a cache -/
theorem new_end {T E : TypeId} {B g : Nat} {v v5 : Value} {m : Int} {t t' : List H} {w w4 : World} {n : Nat} (hC : CacheAt T E B w g v m t) (hb : Below w.heap.size w w4) (hr : w4.ownsRow w.heap.size E 4 v5 n (flat t')) (hn : t'.length = n) (hB : B ≤ w.heap.size) :
    w4.cell? ⟨g, 1, none⟩ = some v ∧ w4.frozen? ⟨g, 1, none⟩ = false ∧ Went T E B w g v m t' (w4.setCell ⟨g, 1, none⟩ v5) := by
  have hC4 := hC.fresh hb
  obtain ⟨r, kp⟩ := CacheAt.laid (E := E) (B := B) (v' := v5) (l' := t') hC4.head (by rw [hn]; exact own_base hr hB) hC.ne hC.lo
  exact ⟨hC4.slot, hC4.free 1, _, r, (Kept.fresh hb : Kept w w4 (At g v)).trans kp (fun k e => .inl (.inl e)), fun k e => .inr (hr.lt k e).1⟩
theorem Went.from {T E : TypeId} {B g : Nat} {v : Value} {m : Int} {t' : List H} {w w1 w' : World} (h : Went T E B w1 g v m t' w') (hb : Below w.heap.size w w1) : Went T E B w g v m t' w' := by
  obtain ⟨v', r, k, f⟩ := h
  refine ⟨v', r, (Kept.fresh hb : Kept w w1 (At g v)).trans k (fun _ q => .inl q), fun b e => ?_⟩
  rcases f b e with q | q
  · exact .inl q
  · exact .inr (Nat.le_trans hb.size q)
set_option maxRecDepth 100000 in
set_option maxHeartbeats 2000000 in
theorem rdrop_any (B g : Nat) (v : Value) (m : Int) (l : List H) (x : Int) (w : World) (hC : CacheAt 77 102 B w g v m l) (hl : l.length ≤ 1000) (hB : B ≤ w.heap.size) :
    Calls Try.prog 47 #[.pointer (some ⟨g, 0, none⟩), .int .i64 x] w fun e w' => e = .returned (.int .i64 (dropE l x)) ∧ Went 77 102 B w g v m (dropL l x) w' := by
  have HF := Lib.hid (rat_any B g v m l x w hC hl)
  unfold dropE dropL
  have HC := Lib.hid hC
  cases hx : has l x with
  | false =>
    rw [idxI_no hx] at HF
    clear hx hC
    simp only [Bool.false_eq_true, if_false]
    go_enter Try.func47, Try.ntmps47
    go_wp2_with (refine HF.out.mono ?_; rintro e w' ⟨rfl, rfl⟩)
    go_ret
    exact ⟨rfl, .same HC.out (Kept.refl _ _)⟩
  | true =>
    rw [idxI_yes hx] at HF
    have hs := hC.slot
    have hg := hC.glt
    have hk := has_lt hx
    obtain ⟨b, cap, rfl, h1, h2, hb, hBb, c0, c1, c2, c3, cf⟩ := row_at hC.row hk
    clear hC hx
    simp only [if_true]
    generalize idx l x = k at *
    have hk0 : (0 : Int) ≤ (k : Int) := by omega
    have hki : (k : Int) < (l.length : Int) := by omega
    have HE := Lib.hid (fun w => rgoes_any (nthH l k) w)
    cases hcan : (nthH l k).can with
    | false =>
      rw [hcan] at HE
      clear hcan
      simp only [Bool.false_eq_true, if_false]
      generalize nthH l k = h at c0 c1 c2 c3 HE
      obtain ⟨hb', hp', hd', ht'⟩ := h
      unfold H.v at HE
      go_enter Try.func47, Try.ntmps47
      go_wp2_with (first
        | (go_at_call 55; refine HF.out.mono ?_; rintro e w' ⟨rfl, rfl⟩)
        | (go_at_call 58; refine (HE.out _).mono ?_; rintro e w2 ⟨rfl, hb2⟩; have HB2 := Lib.hid hb2; clear hb2))
      go_ret
      exact ⟨rfl, Went.fresh HC.out HB2.out⟩
    | true =>
      rw [hcan] at HE
      clear hcan
      simp only [if_true]
      generalize nthH l k = h at c0 c1 c2 c3 HE
      obtain ⟨hb', hp', hd', ht'⟩ := h
      unfold H.v at HE
      obtain ⟨i0, hi0, hz0, hz1, hz2⟩ := info_parts info102
      have hk1 : (0 : Int) ≤ (k : Int) + 1 := by omega
      have hk2 : (k : Int) + 1 ≤ (l.length : Int) := by omega
      have hwr : IntKind.i64.wrap ((k : Int) + 1) = (k : Int) + 1 := IntWalk.i64_in _ (by omega)
      have hkn : ((k : Int) + 1).toNat = k + 1 := by omega
      have Hwr := Lib.hid hwr
      have Hkn := Lib.hid hkn
      obtain ⟨A, hA⟩ : ∃ A : Addr, (if cap = k + 1 then some (⟨b, 0, none⟩ : Addr) else some ⟨b, (k + 1) * 4, none⟩) = some A := by
        by_cases h : cap = k + 1
        · exact ⟨_, by rw [if_pos h]⟩
        · exact ⟨_, by rw [if_neg h]⟩
      have Hpl : Hid (((flat l).take (k * 4)).length = k * 4) := by unfold Hid; rw [List.length_take, length_flat]; omega
      have Hdl : Hid (((flat l).drop ((k + 1) * 4)).length = (l.length - (k + 1)) * 4) := by unfold Hid; rw [List.length_drop, length_flat]; omega
      have Hp1 : Hid (∀ u ∈ (flat l).take (k * 4), u.oneCell' = true) := fun u hu => flat_one l u (List.mem_of_mem_take hu)
      have Hd1 : Hid (∀ u ∈ (flat l).drop ((k + 1) * 4), u.oneCell' = true) := fun u hu => flat_one l u (List.mem_of_mem_drop hu)
      have Hps : Hid (∀ W, Below w.heap.size w W → ∀ ad, some (⟨b, 0, none⟩ : Addr) = some ad → ∀ j u, ((flat l).take (k * 4))[j]? = some u → W.cell? (ad.add j) = some u) := fun W hW ad e => by
        have := (row_src (own_take (HC.out.fresh hW).row (show k ≤ l.length by omega))).1 ad e
        exact this
      have Hds : Hid (∀ W, Below w.heap.size w W → ∀ ad, some A = some ad → ∀ j u, ((flat l).drop ((k + 1) * 4))[j]? = some u → W.cell? (ad.add j) = some u) := fun W hW ad e => by
        have := tail_src (HC.out.fresh hW).row (show k + 1 ≤ l.length by omega) ad (by rw [hA]; exact e)
        exact this
      have Hfl : Hid ([] ++ (flat l).take (k * 4) ++ (flat l).drop ((k + 1) * 4) = flat (l.eraseIdx k)) := by
        unfold Hid
        rw [List.nil_append, flat_take, flat_drop, ← flat_append, List.eraseIdx_eq_take_drop_succ]
      have Hel : Hid ((l.eraseIdx k).length = l.length - 1) := by unfold Hid; rw [List.length_eraseIdx, if_pos hk]
      have HA := Lib.hid hA
      clear hwr hkn
      go_enter Try.func47, Try.ntmps47
      go_wp2_with (first
        | (go_at_call 55; refine HF.out.mono ?_; rintro e w' ⟨rfl, rfl⟩)
        | (go_at_call 58; refine (HE.out _).mono ?_; rintro e w2 ⟨rfl, hb2⟩; have hs2 := (HC.out.fresh hb2).slot; have hf2 := (HC.out.fresh hb2).free 1; have hz2' := hb2.size; have HB2 := Lib.hid hb2; clear hb2))
      have hwr := Hwr.out
      have hkn := Hkn.out
      have hkc : (k : Int) + 1 ≤ (cap : Int) := by omega
      have hkc0 : (k : Int) ≤ (cap : Int) := by omega
      have hki' : (k : Int) ≤ (l.length : Int) := by omega
      have HB3 : Hid (Below w.heap.size w (w2.drew.alloc (.cells #[] 102))) := (HB2.out.drew).alloc HB2.out.size _
      have HB3' : Hid (Below w2.heap.size w2 (w2.drew.alloc (.cells #[] 102))) := ((Below.refl _ _).drew).alloc (Nat.le_refl _) _
      have Hown : Hid ((w2.drew.alloc (.cells #[] 102)).ownsRow w2.heap.size 102 4 (.slice (some ⟨w2.heap.size, 0, none⟩) 0 0) 0 []) := World.ownsRow_made w2.drew #[] 0 (Nat.le_refl _) (by simp) (by simp)
      have hne2 := World.new_ne w2 ⟨g, 1, none⟩ hs2
      have hsA : (w2.alloc (.cells #[] 102)).cell? ⟨g, 1, none⟩ = some (.slice (some ⟨b, 0, none⟩) l.length cap) := (HC.out.fresh (HB2.out.alloc HB2.out.size _)).slot
      go_region_law
        (first
          | (refine step_append_src rfl (.tmp 26) (.tmp 32) 75 rfl w2.heap.size 102 i0 zeroH 4 24 Try.underlying75 hi0 hz0 hz1 hz2 rfl (by decide) _ 0 [] rfl Hown.out (some ⟨b, 0, none⟩) k cap ((flat l).take (k * 4)) rfl Hpl.out (Hps.out _ HB3.out) (fun e => by cases e) Hp1.out (by unfold maxLen; omega) (by omega) (by simp) k (by omega) ?_; intro A1 c1 w3 ho3 hg3 hor3; have HBw3 := Lib.hid (HB3'.out.grown hg3 (by simp) (fun j e => by cases e; exact Nat.le_refl _)); have hs3 := (HC.out.fresh (HB2.out.trans (HBw3.out.mono HB2.out.size))).slot; have hg3' : g < w3.heap.size := (HC.out.fresh (HB2.out.trans (HBw3.out.mono HB2.out.size))).glt; have HO3 := Lib.hid ho3; clear ho3 hg3 hor3)
          | (refine step_append_src rfl (.tmp 33) (.tmp 40) 75 rfl w2.heap.size 102 i0 zeroH 4 24 Try.underlying75 hi0 hz0 hz1 hz2 rfl (by decide) _ k ([] ++ (flat l).take (k * 4)) rfl HO3.out (some A) (l.length - (k + 1)) (cap - (k + 1)) ((flat l).drop ((k + 1) * 4)) rfl Hdl.out (Hds.out _ (HB2.out.trans (HBw3.out.mono HB2.out.size))) (fun e => by cases e) Hd1.out (by unfold maxLen; omega) (by omega) HBw3.out.size (l.length - 1) (by omega) ?_; intro A2 c2 w4 ho4 hg4 hor4; have HBw4 := Lib.hid (HBw3.out.grown hg4 HBw3.out.size (fun j e => (HO3.out.lt j e).1)); rw [Hfl.out] at ho4; obtain ⟨hs4, hf4, hE4⟩ := new_end (HC.out.fresh HB2.out) HBw4.out ho4 Hel.out (Nat.le_trans hB HB2.out.size); have HE4 := Lib.hid hE4; clear ho4 hg4 hor4 hE4))
      all_goals
        go_wp2
        go_ret
        exact ⟨rfl, HE4.out.from HB2.out⟩
end Go.Proofs.Ythibnnllecdpaaa
