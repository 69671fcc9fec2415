/- rising, numbers, of, meets, has, lacks: the program's. -/
import Derived.Test.YtibkipdadpidnaaN
import Derived.Test.YtibkipdadpidnaaNS
set_option linter.unusedVariables false
set_option linter.unusedSimpArgs false
namespace Go.Proofs.Ytibkipdadpidnaa
open Go.RowKit
open Pat (Pt AllB undoP nth)
set_option maxRecDepth 100000 in
set_option maxHeartbeats 1000000 in
theorem rising_any (L : List Ly) (n : Int) (w : World) (hC : Chain w L) (hl : L.length ≤ 900) : Calls Try.prog 48 #[.agg #[.int .i64 n, topV L]] w fun e w' => ∃ A c, e = .returned (.slice A L.length c) ∧ RowP w' w.heap.size A c L ∧ Below w.heap.size w w' := by
  obtain ⟨i0, hi0, hz0, hz1, hz2⟩ := info_parts infoP
  obtain ⟨W1, hW1⟩ : ∃ W1, W1 = w.alloc (.cells #[.int .i64 n, topV L] 80) := ⟨_, rfl⟩
  have hB1 : Below w.heap.size w W1 := by rw [hW1]; exact (Below.refl _ _).alloc (Nat.le_refl _) _
  have HB1 := Lib.hid hB1
  have HC1 := Lib.hid (hC.fresh hB1)
  have hRev := Lib.hid (fun A c m W (hR : RowP W W1.heap.size A c m) (hm : m.length ≤ 1000) => reverse_any W1.heap.size A c m W hR hm)
  clear hC
  go_enter Try.func48, Try.ntmps48
  go_wp2
  rw [← hW1]
  clear hW1 hB1
  go_loopg [3, 4] L.length (fun k s0 p wr => ∃ (A' : Option Addr) (c' : Nat), k ≤ L.length ∧ s0 = .slice A' (L.length - k) c' ∧ p = topV (L.take k) ∧ Hid (RowP wr W1.heap.size A' c' (L.drop k).reverse) ∧ Hid (Below W1.heap.size W1 wr))
  case atStart => exact ⟨none, 0, Nat.le_refl _, by rw [Nat.sub_self], by rw [List.take_length], by rw [List.drop_length]; exact World.ownsRow_nil _ _ _ _, Below.refl _ _⟩
  case round =>
    rename Nat => k
    rename World => wr
    obtain ⟨A', c', hk, rfl, rfl, hrow, hB⟩ := hrel
    have hwz := hB.out.size
    cases k with
    | zero =>
      rw [List.take_zero, topV_nil]
      rw [List.drop_zero] at hrow
      rw [Nat.sub_zero]
      have HR := Lib.hid (hRev.out A' c' L.reverse wr hrow.out (by rw [List.length_reverse]; omega))
      rw [List.length_reverse, List.reverse_reverse] at HR
      go_wp2_with (refine HR.out.mono ?_; rintro e w5 ⟨rfl, hr5, hk5⟩; have R5 := Lib.hid hr5; have K5 := Lib.hid hk5; clear hr5 hk5)
      go_ret
      exact ⟨A', c', rfl, Pat.base_le R5.out HB1.out.size, Below.trans HB1.out (Below.mono (Below.trans hB.out (K5.out.below (fun b e => (World.ownsRow.lt hrow.out b (by rw [own_eq]; exact e)).1) hwz)) HB1.out.size)⟩
    | succ k =>
      have hlt : k < L.length := by omega
      have hl := (HC1.out.fresh hB.out) k hlt
      obtain ⟨d0, d1, d2, d3, d4⟩ := hl.cells
      have hb := hl.lt
      have Hd : Hid ((L.drop k).reverse = (L.drop (k + 1)).reverse ++ [lyn L k]) := by
        unfold Hid
        rw [List.drop_eq_getElem_cons hlt, List.reverse_cons, lyn_lt hlt]
      have hol : (L.drop (k + 1)).reverse.length = L.length - (k + 1) := by rw [List.length_reverse, List.length_drop]
      have Hol := Lib.hid hol
      have HLay : Hid (∀ W, Below W1.heap.size W1 W → W.cell? ⟨(lyn L k).b, 4, none⟩ = some (topV (L.take k)) ∧ (lyn L k).b < W.heap.size) := fun W hW => ⟨((HC1.out.fresh hW) k hlt).cells.2.2.2.2, ((HC1.out.fresh hW) k hlt).lt⟩
      rw [topV_take hlt, ← hol]
      obtain ⟨V, hV⟩ : ∃ V, V = topV (L.take k) := ⟨_, rfl⟩
      rw [← hV] at d4 HLay
      have HV := Lib.hid hV
      clear hl hV hol
      generalize (L.drop (k + 1)).reverse = o at *
      generalize hq : lyn L k = q at *
      clear hq
      have Z := Lib.hid (ap_row q hrow.out)
      have hol : o.length ≤ 900 := by have := Hol.out; omega
      unfold Ly.ptr at *
      have Hx : Hid (∀ A7 c7 w7, w7.ownsRow W1.heap.size 75 1 (.slice A7 (o.length + 1) c7) (o.length + 1) (ptrV o ++ [.pointer (some ⟨q.b, 0, none⟩)]) → (wr.alloc (.cells #[.pointer (some ⟨q.b, 0, none⟩)] 75)).grownBy w7 (Value.slice A' o.length c').ownBlock → RowP w7 W1.heap.size A7 c7 (o ++ [q]) ∧ Below W1.heap.size W1 w7 ∧ w7.cell? ⟨q.b, 4, none⟩ = some V ∧ q.b < w7.heap.size) := fun A7 c7 w7 h7 hg7 => by
        have hn := ap_new (q := q) hrow.out hB.out h7 hg7
        exact ⟨hn.1, hn.2, HLay.out w7 hn.2⟩
      go_wp2_with (at_builtin; refine wpList_append_src rfl (.tmp 14) (.tmp 16) 77 rfl W1.heap.size 75 i0 (.pointer none) 1 8 Try.underlying77 hi0 hz0 hz1 hz2 rfl (by decide) (.slice A' o.length c') o.length (ptrV o) rfl Z.out (some ⟨wr.heap.size, 0, none⟩) 1 1 [.pointer (some ⟨q.b, 0, none⟩)] rfl rfl (ap_src wr q _ rfl) (by intro h; cases h) (by intro u hu; simp at hu; subst hu; rfl) (by unfold maxLen; omega) (by omega) (by simp; omega) (o.length + 1) rfl ?_; intro A7 c7 w7 ho7 hg7 hor7; have G1 := Lib.hid (Hx.out A7 c7 w7 ho7 hg7); have x4 := G1.out.2.2.1; have x5 := G1.out.2.2.2; clear ho7 hg7 hor7)
      go_roundg k
      case rel => exact ⟨A7, c7, by omega, by have := Hol.out; rw [show L.length - k = o.length + 1 by omega], HV.out, by rw [Hd.out]; exact G1.out.1, G1.out.2.1⟩
      case measure => omega
end Go.Proofs.Ytibkipdadpidnaa
