/- The document's own cache: Use of a full one. -/
import Derived.Test.YthibnnllecdpaaaU
namespace Go.Proofs.Ythibnnllecdpaaa
open Go.RowKit

section
variable (B g M : Nat) (v : Value) (l : List H) (x : Int) (w : World)
set_option maxRecDepth 100000 in
set_option maxHeartbeats 2000000 in
theorem ruse_full (hC : CacheAt 77 102 B w g v M l) (hl : l.length ≤ 1000) (hx : ¬ (x < 0 ∨ 96 ≤ x)) (hh : has l x = false) (hlm : l.length = M) (hany : l.any H.can = false) (_hB : B ≤ w.heap.size) :
    Calls Try.prog 44 #[.pointer (some ⟨g, 0, none⟩), .int .i64 x] w fun e w' => e = .returned (.tuple #[.int .i64 (-1), .int .i64 11]) ∧ Went 77 102 B w g v M l w' := by
  have HF := Lib.hid (rat_any B g v M l x w hC hl)
  rw [idxI_no hh] at HF
  have HC := Lib.hid hC
  have hs := hC.slot
  have hm := hC.most
  have hg := hC.glt
  obtain ⟨i0, hi0, hz0, hz1, hz2⟩ := info_parts info102
  obtain ⟨A, cap, rfl, h1, h2⟩ := hC.form
  have x0 : ¬ x < 0 := by omega
  have x1 : ¬ 96 ≤ x := by omega
  have hB0 : Below w.heap.size w (w.alloc (.cells #[] 102)) := (Below.refl _ _).alloc (Nat.le_refl _) _
  have Hown : Hid ((w.alloc (.cells #[] 102)).ownsRow w.heap.size 102 4 (.slice (some ⟨w.heap.size, 0, none⟩) 0 0) 0 []) := World.ownsRow_made w #[] 0 (Nat.le_refl _) (by simp) (by simp)
  have Hsrc := Lib.hid (row_src (HC.out.fresh hB0).row)
  have HB0 := Lib.hid hB0
  have Hlf := Lib.hid (length_flat l)
  have Hone := Lib.hid (flat_one l)
  have HANY := Lib.hid hany
  subst hlm
  have hnl : ¬ (l.length : Int) < (l.length : Int) := by omega
  clear hany
  clear hC hh hx hB0
  go_enter Try.func44, Try.ntmps44
  go_wp2_with (first
    | (go_at_call 55; refine HF.out.mono ?_; rintro e w' ⟨rfl, rfl⟩)
    | (refine wpList_append_src rfl (.tmp 35) (.tmp 39) 75 rfl w.heap.size 102 i0 zeroH 4 24 Try.underlying75 hi0 hz0 hz1 hz2 rfl (by decide) _ 0 [] rfl Hown.out A l.length cap (flat l) rfl Hlf.out Hsrc.out.1 Hsrc.out.2 Hone.out (by unfold maxLen; omega) (by omega) (by simp) l.length (by omega) ?_; intro A1 c1 w1 ho1 hg1 hor1; have hB1 := HB0.out.grown hg1 (by simp) (fun j e => by cases e; exact Nat.le_refl _); have hs1 := (HC.out.fresh hB1).slot; have hm1 := (HC.out.fresh hB1).most; have hf1 := (HC.out.fresh hB1).free 1; have hg1' := (HC.out.fresh hB1).glt; have HB1 := Lib.hid hB1; rw [List.nil_append] at ho1; have HO1 := Lib.hid ho1; clear ho1 hg1 hor1 hB1))
  have Hx1 : Hid (Below w.heap.size w (w1.alloc (.cells #[.int .i64 x, .int .i64 0, .bool false, .bool true] 102))) := HB1.out.alloc HB1.out.size _
  have HW1 : Hid ((w1.alloc (.cells #[.int .i64 x, .int .i64 0, .bool false, .bool true] 102)).ownsRow w.heap.size 102 4 (.slice A1 l.length c1) l.length (flat l)) := HO1.out.alloc _
  have Hp1 : Hid ((w1.alloc (.cells #[.int .i64 x, .int .i64 0, .bool false, .bool true] 102)).heap[w1.heap.size]? = some (.cells #[.int .i64 x, .int .i64 0, .bool false, .bool true] 102 (0, 0))) := heap_alloc_new w1 _
  clear hs1 hm1 hf1 hg1'
  generalize w1.alloc (.cells #[.int .i64 x, .int .i64 0, .bool false, .bool true] 102) = W1 at *
  go_loopw [9, 10] (fun s i wr => ∃ k : Nat, k ≤ l.length ∧ s = .bool ((l.take k).any H.can) ∧ i = .int .i64 k ∧ Below W1.heap.size W1 wr) (fun _ i _ => l.length - (intOf i).toNat)
  case atStart => exact ⟨0, Nat.zero_le _, rfl, rfl, Below.refl _ _⟩
  case round =>
    obtain ⟨k, hk, rfl, rfl, hB⟩ := hrel
    rename World => wr
    have HBw := Lib.hid hB
    by_cases hlt : k < l.length
    · have hlti : (k : Int) < (l.length : Int) := by omega
      have hk0 : (0 : Int) ≤ (k : Int) := by omega
      obtain ⟨b, cap', hv, _, hc2, hb, _, c0, c1', c2, c3, _⟩ := row_at ((Kept.fresh (S := fun _ => False) hB).row HW1.out (fun _ _ q => q)) hlt
      cases hv
      unfold maxLen at hc2
      have Htk : Hid ((l.take (k + 1)).any H.can = ((l.take k).any H.can || (nthH l k).can)) := by
        unfold Hid
        rw [List.take_succ_eq_append_getElem hlt, List.any_append, nthH_lt hlt]
        simp
      have HE := Lib.hid (fun w => rgoes_any (nthH l k) w)
      clear hB
      cases h1 : (l.take k).any H.can with
      | true =>
        rw [h1] at Htk
        clear h1
        go_wp2
        go_roundw
        case rel => exact ⟨k + 1, by omega, by rw [Htk.out, Bool.true_or], by go_num, HBw.out⟩
        case measure => simp [intOf]; omega
      | false =>
        rw [h1] at Htk
        clear h1
        generalize hd : (nthH l k).can = d at HE Htk
        clear hd
        generalize nthH l k = h at c0 c1' c2 c3 HE
        obtain ⟨hb', hp', hd', ht'⟩ := h
        unfold H.v at HE
        go_wp2_with (refine (HE.out _).mono ?_; rintro e w3 ⟨rfl, hb3⟩; have HB3 := Lib.hid hb3; clear hb3)
        go_roundw
        case rel => exact ⟨k + 1, by omega, by rw [Htk.out, Bool.false_or], by go_num, HBw.out.trans (HB3.out.mono HBw.out.size)⟩
        case measure => simp [intOf]; omega
    · obtain rfl : k = l.length := by omega
      have hlti : ¬ (l.length : Int) < (l.length : Int) := by omega
      have e1 : (l.take l.length).any H.can = false := by rw [List.take_length]; exact HANY.out
      rw [e1]
      clear e1 hB
      go_wp2
      go_ret2
      exact ⟨rfl, Went.fresh HC.out (Hx1.out.trans (HBw.out.mono Hx1.out.size))⟩
end
end Go.Proofs.Ythibnnllecdpaaa
