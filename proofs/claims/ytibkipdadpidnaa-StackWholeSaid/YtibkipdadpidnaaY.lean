/- The program's relink, Bytes, Base, Fork. -/
import Derived.Test.YtibkipdadpidnaaX
import Derived.Test.YtibkipdadpidnaaU
set_option linter.unusedVariables false
set_option linter.unusedSimpArgs false
namespace Go.Proofs.Ytibkipdadpidnaa
open Go.RowKit
open Pat (Pt AllB undoP nth)
/-- one more laid on top -/
theorem stk_lay {B : Nat} {V : World} {g : Nat} {L : List Ly} {s : Sk} (x : On) (h : StkAt B V g L s) :
    StkAt B (((V.setCell ⟨g, 33, none⟩ (.pointer (some ⟨V.heap.size, 0, none⟩))).alloc (.cells #[.int .i64 x.p.b, .int .i64 x.p.o, .string x.p.s, .int .i64 x.n, topV L] 84)).drew) g (L ++ [⟨V.heap.size, x⟩]) ⟨s.f, s.l ++ [x], s.k⟩ ∧ Kept V (((V.setCell ⟨g, 33, none⟩ (.pointer (some ⟨V.heap.size, 0, none⟩))).alloc (.cells #[.int .i64 x.p.b, .int .i64 x.p.o, .string x.p.s, .int .i64 x.n, topV L] 84)).drew) (fun b => b = g) := by
  have hk2 := Kept.set V g 33 (.pointer (some ⟨V.heap.size, 0, none⟩))
  have hz : (V.setCell ⟨g, 33, none⟩ (.pointer (some ⟨V.heap.size, 0, none⟩))).heap.size = V.heap.size := by simp
  have hh : (V.setCell ⟨g, 33, none⟩ (.pointer (some ⟨V.heap.size, 0, none⟩))).heap[g]? = some (.cells (Pat.bytesV s.f ++ [Value.int .i64 s.k, Value.pointer (some ⟨V.heap.size, 0, none⟩)]).toArray 82 (0, 0)) := by
    rw [heap_setCell_same _ g 33 _ 82 _ h.head]
    congr 1
    congr 1
    have hl : (Pat.bytesV s.f).length = 32 := by rw [Pat.length_bytesV, h.len]
    rw [show (33 : Nat) = (Pat.bytesV s.f).length + 1 by omega]
    simp
  have hch := h.ch.keep hk2 (fun b e => by rw [e]; exact h.isHead)
  generalize V.setCell ⟨g, 33, none⟩ (.pointer (some ⟨V.heap.size, 0, none⟩)) = W2 at *
  have hb3 : Below W2.heap.size W2 (W2.alloc (.cells #[.int .i64 x.p.b, .int .i64 x.p.o, .string x.p.s, .int .i64 x.n, topV L] 84)).drew := ((Below.refl _ _).alloc (Nat.le_refl _) _).drew
  have hlay : LayAt (W2.alloc (.cells #[.int .i64 x.p.b, .int .i64 x.p.o, .string x.p.s, .int .i64 x.n, topV L] 84)).drew ⟨V.heap.size, x⟩ (topV L) := by
    have := heap_alloc_new W2 (.cells #[.int .i64 x.p.b, .int .i64 x.p.o, .string x.p.s, .int .i64 x.n, topV L] 84)
    rw [hz] at this
    exact this
  refine ⟨⟨?_, (hch.fresh hb3).snoc hlay, ?_, h.lo, h.len, h.all⟩, hk2.trans (Kept.fresh (S := fun b => b = g) hb3) (fun b e => .inl e)⟩
  · rw [topV_snoc]
    exact (hb3.block g (by rw [hz]; exact h.glt)).trans hh
  · rw [List.map_append, h.xs]; rfl
section
variable (B g : Nat) (L : List Ly) (s : Sk) (w : World)
set_option maxRecDepth 100000 in
set_option maxHeartbeats 2000000 in
theorem relink_any (B0 : Nat) (A : Option Addr) (c : Nat) (l : List Ly) (hC : StkAt B w g L s) (hR : RowP w B0 A c l) (hY : Lays w l) (hl : l.length ≤ 900) : Calls Try.prog 56 #[.pointer (some ⟨g, 0, none⟩), .slice A l.length c] w fun e w' => e = .returned (.tuple #[]) ∧ (∃ L2, StkAt B w' g L2 ⟨s.f, xsL l, s.k⟩) ∧ Kept w w' (fun b => b = g) := by
  have hST := stk_top (l2 := []) hC (Below.refl _ _) (L2 := []) (fun i hi => by cases hi) rfl
  rw [topV_nil] at hST
  have HHead : Hid (∀ V, Kept w V (fun b => b = g) → RowP V B0 A c l ∧ Lays V l) := fun V hV =>
    ⟨hR.keep hV (fun k e z => own_notHead (show w.ownsRow B0 75 1 (.slice A l.length c) l.length (ptrV l) from hR) ⟨by decide, by decide⟩ k e (by rw [z]; exact hC.isHead)), hY.keep hV (fun b e => by rw [e]; exact hC.isHead)⟩
  have HST := Lib.hid hST
  have t3 := hC.top
  have hg := hC.glt
  have f33 := hC.free 33
  clear hC hR hY
  go_enter Try.func56, Try.ntmps56
  go_wp2
  generalize w.setCell ⟨g, 33, none⟩ (.pointer none) = W1 at *
  go_loopw [12] (fun i wr => ∃ (k : Nat) (L2 : List Ly), k ≤ l.length ∧ i = .int .i64 k ∧ Hid (StkAt B wr g L2 ⟨s.f, xsL (l.take k), s.k⟩) ∧ Hid (Kept w wr (fun b => b = g))) (fun i _ => l.length - (intOf i).toNat)
  case atStart => exact ⟨0, [], Nat.zero_le _, rfl, HST.out.1, HST.out.2⟩
  case round =>
    obtain ⟨k, L2, hk, rfl, hS, hK⟩ := hrel
    rename World => wr
    have hk0 : (0 : Int) ≤ (k : Int) := by omega
    by_cases hlt : k < l.length
    · have hki : (k : Int) < (l.length : Int) := by omega
      obtain ⟨hrw, hly⟩ := HHead.out wr hK.out
      obtain ⟨ab, hA, hab, h1, h2, e0⟩ := hrw.at_ hlt
      subst hA
      unfold maxLen at h2
      obtain ⟨v, hv⟩ := hly _ (lyn_mem hlt)
      obtain ⟨d0, d1, d2, d3, _⟩ := hv.cells
      have hb := hv.lt
      have x3 := hS.out.top
      have xf := hS.out.free 33
      have hgr := hS.out.glt
      have HN := Lib.hid (stk_lay (lyn l k).x hS.out)
      have Hs : Hid (xsL (l.take (k + 1)) = xsL (l.take k) ++ [(lyn l k).x]) := by unfold Hid; rw [take_lyn hlt]; simp [xsL]
      obtain ⟨o, ho⟩ := topV_ptr L2
      rw [ho] at x3 HN
      clear ho hv hrw hly t3 f33
      generalize lyn l k = q at *
      obtain ⟨qb, y, pb, po, ps⟩ := q
      unfold Ly.ptr at e0
      simp only at e0 d0 d1 d2 d3 hb HN Hs
      go_wp2_with fail
      go_region
      go_wp2
      go_roundw
      case rel => exact ⟨k + 1, _, by omega, by go_num, by rw [Hs.out]; exact HN.out.1, hK.out.trans HN.out.2 (fun b e => .inl e)⟩
      case measure => simp [intOf]; omega
    · obtain rfl : k = l.length := by omega
      have hki : ¬ (l.length : Int) < (l.length : Int) := by omega
      rw [List.take_length] at hS
      go_wp2
      go_end0
      exact ⟨rfl, ⟨L2, hS.out⟩, hK.out⟩
set_option maxRecDepth 100000 in
set_option maxHeartbeats 2000000 in
theorem pbytes_any (hC : StkAt B w g L s) (hr : Rights s.l) (hl : s.l.length ≤ 900) : Calls Try.prog 17 #[.pointer (some ⟨g, 0, none⟩)] w fun e w' => ∃ d, e = .returned (.slice (some ⟨d, 0, none⟩) 32 32) ∧ Pat.BlkIs w' d 71 (Pat.bytesV (withL (fun _ => true) s.f s.l)) ∧ w.heap.size ≤ d ∧ Below w.heap.size w w' := by
  have HRo := Lib.hid (rolled_all B g L s 0 (fun _ => true) w hC hr hl (fun q W hq hW => by
    unfold Ly.ptr
    go_enter Try.func46, Try.ntmps46
    go_wp2
    go_ret
    exact ⟨rfl, Below.refl _ _⟩))
  have hlen := withL_len (k := fun _ => true) hr hC.len
  rw [roll_with hr hC.all hC.len (List.Pairwise.imp (fun h h1 => by cases h1) (List.pairwise_of_forall (R := fun _ _ => True) (fun _ _ => trivial)))] at HRo
  generalize withL (fun _ => true) s.f s.l = m at *
  unfold secV at HRo
  obtain ⟨R0, hR0⟩ : ∃ R0, R0 = Pat.bytesV m := ⟨_, rfl⟩
  have HR0 := Lib.hid hR0
  have hsz2 : Hid ((Try.prog.info? 71).map (·.size) = some R0.toArray.size) := by unfold Hid; rw [hR0, List.size_toArray, Pat.length_bytesV, hlen]; exact size71
  have hone : Hid (R0.toArray.all (·.oneCell') = true) := by unfold Hid; rw [hR0]; exact all_oneCell_toArray (Pat.bytesV_one _)
  have hold : Hid ((Pat.bytesV (List.replicate 32 0)).toArray.size = R0.toArray.size) := by unfold Hid; rw [hR0, List.size_toArray, List.size_toArray, Pat.length_bytesV, Pat.length_bytesV, hlen]; rfl
  rw [← hR0] at HRo
  clear hC hR0 hlen hr
  go_enter Try.func17, Try.ntmps17
  go_wp2_with (first
    | (go_at_call 42; (with_reducible refine HRo.out.mono ?_); rintro e w5 ⟨rfl, hb5⟩; have B5 := Lib.hid hb5; clear hb5)
    | (generalize hW : w5.alloc (Obj.cells _ 71) = w6; have b6 : Hid (w6.heap[w5.heap.size]? = some (.cells (Pat.bytesV (List.replicate 32 0)).toArray 71 (0, 0))) := (by rw [← hW]; exact heap_alloc_new w5 _); have B6 : Hid (Below w.heap.size w w6) := (by rw [← hW]; exact B5.out.alloc B5.out.size _); have b7 := Lib.hid (setRow_heap w6 w5.heap.size _ R0.toArray 71 (0, 0) b6.out); have B7 := Lib.hid (below_setRow B6.out B5.out.size R0.toArray); clear hW; refine wpList_store_row rfl 71 (.tmp 3) (.tmp 7) rfl w5.heap.size R0.toArray rfl rfl 71 _ b6.out hsz2.out hold.out hone.out ?_; generalize w6.setRow w5.heap.size R0.toArray = w7 at *))
  go_ret
  exact ⟨w5.heap.size, rfl, by rw [← HR0.out]; exact b7.out, B5.out.size, B7.out⟩
end
end Go.Proofs.Ytibkipdadpidnaa
