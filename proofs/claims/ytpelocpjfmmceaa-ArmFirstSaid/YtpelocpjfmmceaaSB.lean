/- Both arms: a Fork; the document's Next whatever is asked for. -/
import Derived.Test.YtpelocpjfmmceaaSA
set_option linter.unusedVariables false
set_option linter.unusedSimpArgs false
namespace Go.Proofs.Ytpelocpjfmmceaa
open Go.RowKit

theorem rnext_nothing (B g : Nat) (A : Option Addr) (c : Nat) (x : Ar) (w : World) (hC : RAt B w g A c x) (h0 : x.l.length = 0) : Calls Try.prog 40 #[.pointer (some ⟨g, 0, none⟩)] w fun e w' => e = .returned (.tuple #[.int .i64 0, .bool false]) ∧ w = w' := by
  obtain ⟨_, _, _, _, _, cs⟩ := rcells hC
  rw [h0] at cs
  clear hC h0
  go_enter Try.func40, Try.ntmps40
  go_wp2
  go_ret2
  exact ⟨rfl, rfl⟩
theorem rnext_some (B g : Nat) (A : Option Addr) (c : Nat) (x : Ar) (w : World) {q : Nat} (hO : x.Ok q) (hq : q ≤ 1000) (hC : RAt B w g A c x) (h0 : 0 < x.l.length) (hB : B ≤ w.heap.size) :
    Calls Try.prog 40 #[.pointer (some ⟨g, 0, none⟩)] w fun e w' => e = .returned (.tuple #[.int .i64 x.choose.1, .bool true]) ∧ RWent B w g A x.next w' := by
  have hl : x.l.length ≤ 1000 := by have := hO.len; omega
  have hm : x.m ≤ 1000000000 := by have := hO.m1; omega
  have hage : ∀ r ∈ x.l, 0 ≤ r.a ∧ r.a ≤ 1000000000 := fun r hr => by obtain ⟨h1, h2, _⟩ := hO.age0 r hr; omega
  obtain ⟨hb0, hb1⟩ := hO.blk_in (Ar.choose_mem h0)
  obtain ⟨k, hk, h1, h2, h3⟩ := Ar.pick_ties hO h0
  unfold Ar.next
  rcases oldFrom_is x.l x.l.length (Nat.le_refl _) with ⟨o1, o2⟩ | ⟨m, o1, o2, o3, o4, o5⟩
  · have hp : x.rpick = x.rchoose := by unfold Ar.rpick; rw [o1, if_neg (by decide)]
    rw [hp] at h1 h3
    refine rnext_pol B g A c x w hC hl h0 hO.s1 hO.n0 hO.n1 hm hage hO.nd hB k hk o1 _ (fun W hW => ?_) _ h2 hb0 hb1
    have := choose_all B g A c x W (by have := hO.p1; omega) (hC.fresh hW) hl h0 hO.s1 hO.n0 hO.n1 hO.rng
    rw [h1, h3] at this
    exact this
  · have hp : x.rpick = ((m : Int), if (rn x.l m).b = (x.s : Int) then x.u else !decide ((rn x.l m).b < (x.s : Int))) := by unfold Ar.rpick; rw [o1, if_pos (by omega)]; rfl
    rw [hp] at h1 h3
    have hkm : m = k := by have h1' : (m : Int) = (k : Int) := h1; omega
    subst hkm
    have hne : (rn x.l m).b ≠ (x.s : Int) := (hO.age0 _ (rn_mem hk)).2.2 (by have := of_decide_eq_true o4; omega)
    simp only at h3
    rw [if_neg hne] at h3
    exact rnext_old B g A c x w hC hl h0 hO.s1 hO.n0 hO.n1 hm hage hO.nd hB m hk o1 hne _ h3.symm _ h2 hb0 hb1

set_option maxRecDepth 100000 in
set_option maxHeartbeats 1000000 in
theorem clone_any (B : Nat) (A : Option Addr) (c : Nat) (l : List Rq) (w : World) (hR : RowQ 74 w B A c l) (hl : l.length ≤ 1000) :
    Calls Try.prog 48 #[.slice A l.length c] w fun e w' => ∃ A' c', e = .returned (.slice A' l.length c') ∧ RowQ 74 w' w.heap.size A' c' l ∧ Below w.heap.size w w' := by
  obtain ⟨i0, hi0, hz0, hz1, hz2⟩ := info_parts infoQ
  have hsrc := row_src hR
  have Hfl := Lib.hid (length_flatQ l)
  have Hone := Lib.hid (flatQ_one l)
  rcases A with _ | ad
  · have h0 : l.length = 0 := hsrc.2 rfl
    have hc0 : c = 0 := by
      rcases hR.2 with ⟨e, _⟩ | ⟨g, cap, cur, e, _⟩
      · exact (Value.slice.inj e).2.2
      · cases (Value.slice.inj e).1
    have hln : l = [] := List.eq_nil_of_length_eq_zero h0
    subst hln hc0
    have heq := fun W => Lib.run_eql_slice_nil (P := Try.prog) W 65 74 none 0 0 0 0 Try.underlying65
    clear hR hsrc
    go_enter Try.func48, Try.ntmps48
    go_wp2
    go_ret
    exact ⟨none, 0, rfl, World.ownsRow_nil _ _ _ _, Below.refl _ _⟩
  · have hB1 : Below w.heap.size w (w.alloc (.cells #[] 74)) := (Below.refl _ _).alloc (Nat.le_refl _) _
    have Hs : Hid (∀ a, some ad = some a → ∀ j u, (flatQ l)[j]? = some u → (w.alloc (.cells #[] 74)).cell? (a.add j) = some u) := (row_src (hR.fresh hB1)).1
    have Hown : Hid ((w.alloc (.cells #[] 74)).ownsRow w.heap.size 74 2 (.slice (some ⟨w.heap.size, 0, none⟩) 0 0) 0 []) := World.ownsRow_made w #[] 0 (Nat.le_refl _) (by simp) (by simp)
    have HB1 := Lib.hid hB1
    have heq := fun W => Lib.run_eql_slice_nil (P := Try.prog) W 65 74 (some ad) l.length c 0 0 Try.underlying65
    clear hR hsrc hB1
    go_enter Try.func48, Try.ntmps48
    go_wp2_with (at_builtin; refine wpList_append_src rfl (.tmp 5) (.tmp 6) 65 rfl w.heap.size 74 i0 zeroQ 2 16 Try.underlying65 hi0 hz0 hz1 hz2 rfl (by decide) (.slice (some ⟨w.heap.size, 0, none⟩) 0 0) 0 [] rfl Hown.out (some ad) l.length c (flatQ l) rfl Hfl.out Hs.out (by intro h; cases h) Hone.out (by unfold maxLen; omega) (by omega) (by simp) l.length (by omega) ?_; intro A2 c2 w2 ho2 hg2 hor2; have HO2 := Lib.hid ho2; have HB2 := Lib.hid (HB1.out.grown hg2 (by simp) (fun j e => by cases e; exact Nat.le_refl _)); clear ho2 hg2 hor2)
    go_ret
    exact ⟨A2, c2, rfl, HO2.out, HB2.out⟩
section
variable (B g : Nat) (A : Option Addr) (c : Nat) (x : Ar) (w : World)
/-- what a Fork answers -/
def Forked (hd : Ar → Value → Array Value) (T E : TypeId) (w : World) (x : Ar) (e : Ending) (w' : World) : Prop := ∃ h A' c', e = .returned (.pointer (some ⟨h, 0, none⟩)) ∧ ArmAt hd T E w.heap.size w' h A' c' x ∧ Below w.heap.size w w'
set_option maxRecDepth 100000 in
set_option maxHeartbeats 1000000 in
theorem fork_any (hC : PAt B w g A c x) (hl : x.l.length ≤ 1000) : Calls Try.prog 24 #[.pointer (some ⟨g, 0, none⟩)] w (Forked hP 67 74 w x) := by
  obtain ⟨c0, c1, c2, c3, c4, c5⟩ := pcells hC
  have hg := hC.glt
  obtain ⟨W, hW⟩ : ∃ W, W = w.alloc (.cells #[.int .u8 x.p, .int .i64 x.n, .int .i64 x.s, .int .i64 x.m, .bool x.u, .slice A x.l.length c] 67) := ⟨_, rfl⟩
  have hB1 : Below w.heap.size w W := by rw [hW]; exact (Below.refl _ _).alloc (Nat.le_refl _) _
  have hnew : W.heap[w.heap.size]? = some (.cells #[.int .u8 x.p, .int .i64 x.n, .int .i64 x.s, .int .i64 x.m, .bool x.u, .slice A x.l.length c] 67 (0, 0)) := by rw [hW]; exact heap_alloc_new w _
  have hsz : W.heap.size = w.heap.size + 1 := by rw [hW]; simp
  have HCl := Lib.hid (clone_any B A c x.l W (hC.fresh hB1).row hl)
  have HE : Hid (∀ w2 A2 c2, RowQ 74 w2 W.heap.size A2 c2 x.l → Below W.heap.size W w2 → w2.cell? ⟨w.heap.size, 5, none⟩ = some (.slice A x.l.length c) ∧ w2.frozen? ⟨w.heap.size, 5, none⟩ = false ∧ w.heap.size < w2.heap.size ∧
      Forked hP 67 74 w x (.returned (.pointer (some ⟨w.heap.size, 0, none⟩))) (w2.setCell ⟨w.heap.size, 5, none⟩ (.slice A2 x.l.length c2))) := fun w2 A2 c2 hr hb => by
    have hh : w2.heap[w.heap.size]? = some (.cells (hP x (.slice A x.l.length c)) 67 (0, 0)) := by rw [hb.block w.heap.size (by omega)]; exact hnew
    obtain ⟨r, kp⟩ := laid (hd := hP) (y := x) (B := w.heap.size) w.heap.size x rfl hh (fun _ => rfl) (show RowQ _ w2 w.heap.size A2 c2 x.l from own_base hr (by omega)) (by decide) (Nat.le_refl _)
    refine ⟨cell_of_row w2 _ 5 _ _ (0, 0) hh, frozen_of_row w2 _ 5 _ _ hh, (Array.getElem?_eq_some_iff.1 hh).1, w.heap.size, A2, c2, rfl, r, ?_⟩
    exact (hB1.trans (hb.mono (by omega))).setCell (p := ⟨w.heap.size, 5, none⟩) (Nat.le_refl _) _
  have hs5 : (w.alloc (.cells #[.int .u8 x.p, .int .i64 x.n, .int .i64 x.s, .int .i64 x.m, .bool x.u, .slice A x.l.length c] 67)).cell? ⟨g, 5, none⟩ = some (.slice A x.l.length c) := by rw [← hW]; exact (pcells (hC.fresh hB1)).2.2.2.2.2
  rw [hW] at HCl HE
  have hne : g ≠ w.heap.size := by omega
  clear hC hW hB1 hnew hsz
  obtain ⟨xp, xn, xs, xm, xu, l⟩ := x
  dsimp only at *
  go_enter Try.func24, Try.ntmps24
  go_wp2_with (refine HCl.out.mono ?_; rintro e w2 ⟨A2, c2', rfl, hr2, hb2⟩; obtain ⟨s5, f5, l5, hfin⟩ := HE.out w2 A2 c2' hr2 hb2; have HF := Lib.hid hfin; clear hfin hr2 hb2)
  go_ret
  exact HF.out
set_option maxRecDepth 100000 in
set_option maxHeartbeats 1000000 in
theorem rfork_any (hC : RAt B w g A c x) (hl : x.l.length ≤ 1000) : Calls Try.prog 25 #[.pointer (some ⟨g, 0, none⟩)] w (Forked hR 70 81 w x) := by
  obtain ⟨c0, c1, c2, c3, c4, c5⟩ := rcells hC
  have hg := hC.glt
  obtain ⟨i0, hi0, hz0, hz1, hz2⟩ := info_parts infoR
  have Hfl := Lib.hid (length_flatQ x.l)
  have Hone := Lib.hid (flatQ_one x.l)
  obtain ⟨xu', hxu⟩ : ∃ v, v = !x.u := ⟨_, rfl⟩
  rw [← hxu] at c3
  obtain ⟨W, hW⟩ : ∃ W, W = w.alloc (.cells #[.int .u8 x.p, .int .i64 x.n, .int .i64 x.s, .bool xu', .int .i64 x.m, .slice A x.l.length c] 70) := ⟨_, rfl⟩
  obtain ⟨W2, hW2⟩ : ∃ W2, W2 = W.alloc (.cells #[] 81) := ⟨_, rfl⟩
  have hB1 : Below w.heap.size w W := by rw [hW]; exact (Below.refl _ _).alloc (Nat.le_refl _) _
  have hB2 : Below w.heap.size w W2 := by rw [hW2]; exact hB1.alloc hB1.size _
  have hsz : W.heap.size = w.heap.size + 1 := by rw [hW]; simp
  have hnew : W2.heap[w.heap.size]? = some (.cells #[.int .u8 x.p, .int .i64 x.n, .int .i64 x.s, .bool xu', .int .i64 x.m, .slice A x.l.length c] 70 (0, 0)) := by
    rw [hW2, heap_alloc_old W _ (by omega), hW]; exact heap_alloc_new w _
  have hC2 := hC.fresh hB2
  have Hsrc := Lib.hid (row_src hC2.row)
  have Hown : Hid (W2.ownsRow w.heap.size 81 2 (.slice (some ⟨W.heap.size, 0, none⟩) 0 0) 0 []) := by rw [hW2]; exact own_base (World.ownsRow_made W #[] 0 (Nat.le_refl _) (by simp) (by simp)) hB1.size
  have hs5 : W2.cell? ⟨g, 5, none⟩ = some (.slice A x.l.length c) := (rcells hC2).2.2.2.2.2
  have hszB : w.heap.size ≤ W2.heap.size := hB2.size
  have HE : Hid (∀ w2 A2 c2, w2.ownsRow w.heap.size 81 2 (.slice A2 x.l.length c2) x.l.length ([] ++ flatQ x.l) → W2.grownBy w2 (Value.slice (some ⟨W.heap.size, 0, none⟩) 0 0).ownBlock → w2.cell? ⟨w.heap.size, 5, none⟩ = some (.slice A x.l.length c) ∧ w2.frozen? ⟨w.heap.size, 5, none⟩ = false ∧ w.heap.size < w2.heap.size ∧
      Forked hR 70 81 w x (.returned (.pointer (some ⟨w.heap.size, 0, none⟩))) (w2.setCell ⟨w.heap.size, 5, none⟩ (.slice A2 x.l.length c2))) := fun w2 A2 c2 hr hgr => by
    have hh : w2.heap[w.heap.size]? = some (.cells (hR x (.slice A x.l.length c)) 70 (0, 0)) := by
      rw [hgr.block w.heap.size (by have := (Array.getElem?_eq_some_iff.1 hnew).1; exact this) (by intro e; have e' : W.heap.size = w.heap.size := Option.some.inj e.symm; omega), hnew, hxu]; rfl
    obtain ⟨r, kp⟩ := laid (hd := hR) (y := x) (B := w.heap.size) w.heap.size x rfl hh (fun _ => rfl) (show RowQ _ w2 w.heap.size A2 c2 x.l from hr) (by decide) (Nat.le_refl _)
    refine ⟨cell_of_row w2 _ 5 _ _ (0, 0) hh, frozen_of_row w2 _ 5 _ _ hh, (Array.getElem?_eq_some_iff.1 hh).1, w.heap.size, A2, c2, rfl, r, ?_⟩
    exact (hB2.grown hgr hszB (fun j e => by have e' : W.heap.size = j := Option.some.inj e; omega)).setCell (p := ⟨w.heap.size, 5, none⟩) (Nat.le_refl _) _
  rw [hsz] at Hown HE
  rw [hW2, hW] at Hsrc Hown hs5 HE
  rw [hW2, hW] at hszB
  have hne : g ≠ w.heap.size := by omega
  clear hC hB1 hB2 hnew hsz hC2 hW2 hW hxu
  obtain ⟨xp, xn, xs, xm, xu, l⟩ := x
  dsimp only at *
  have HszB := Lib.hid hszB
  clear hszB
  go_enter Try.func25, Try.ntmps25
  go_wp2_with (at_builtin; go_loud (refine wpList_append_src rfl (.tmp 9) (.tmp 13) 68 rfl w.heap.size 81 i0 zeroQ 2 16 Try.underlying68 hi0 hz0 hz1 hz2 rfl (by decide) _ 0 [] rfl Hown.out A l.length c (flatQ l) rfl Hfl.out Hsrc.out.1 Hsrc.out.2 Hone.out (by unfold maxLen; omega) (by omega) HszB.out l.length (by omega) ?_); intro A2 c2' w2 ho2 hg2 hor2; obtain ⟨s5, f5, l5, hfin⟩ := HE.out w2 A2 c2' ho2 hg2; have HF := Lib.hid hfin; clear ho2 hg2 hor2 hfin)
  go_ret
  exact HF.out
end
end Go.Proofs.Ytpelocpjfmmceaa
