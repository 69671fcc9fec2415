/- The program's Roll and Settle. -/
import Derived.Test.YtibkipdadpidnaaZ
set_option linter.unusedVariables false
set_option linter.unusedSimpArgs false
namespace Go.Proofs.Ytibkipdadpidnaa
open Go.RowKit
open Pat (Pt AllB undoP nth)
theorem mayE_in {l : List On} {m : List Int} (h : mayE l m = 0) : (∀ n ∈ m, isOn l n = true) ∧ ∀ n ∈ m, needsIn l m n = true := by
  unfold mayE at h
  by_cases h1 : m.all (isOn l) = true
  · rw [if_pos h1] at h
    by_cases h2 : m.all (needsIn l m) = true
    · exact ⟨fun n hn => List.all_eq_true.1 h1 n hn, fun n hn => List.all_eq_true.1 h2 n hn⟩
    · rw [if_neg h2] at h; cases h
  · rw [if_neg h1] at h; cases h
theorem closed_of_may {l : List On} {m : List Int} (h : mayE l m = 0) (hr : RiseO l) : ClosedL (fun n => decide (n ∈ m)) l := by
  obtain ⟨_, h2⟩ := mayE_in h
  refine List.Pairwise.imp_of_mem (fun {x y} hx hy hxy k1 k2 => ?_) hr
  have hym : y.n ∈ m := of_decide_eq_true k2
  cases q : meetP x.p y.p with
  | false => rfl
  | true =>
    have hin : x.n ∈ needsL l y.n := by
      unfold needsL
      rw [if_pos (isOn_iff.2 ⟨y, hy, rfl⟩), patP_mem hr hy]
      exact List.mem_map.2 ⟨x, List.mem_filter.2 ⟨hx, by unfold needF; rw [q, decide_eq_true hxy]; rfl⟩, rfl⟩
    have := List.all_eq_true.1 (h2 y.n hym) _ hin
    exact absurd (of_decide_eq_true this) (of_decide_eq_false k1)
theorem sc_heap {g : Nat} {t : TypeId} : ∀ (vs a b c : List Value) (w : World), w.heap[g]? = some (.cells (a ++ (b ++ c)).toArray t (0, 0)) → b.length = vs.length → (w.setCells g a.length vs).heap[g]? = some (.cells (a ++ (vs ++ c)).toArray t (0, 0))
  | [], a, [], c, w, h, _ => h
  | [], _, _ :: _, _, _, _, hb => by simp at hb
  | v :: vs, a, [], c, w, h, hb => by simp at hb
  | v :: vs, a, x :: b, c, w, h, hb => by
    have h1 : (w.setCell ⟨g, a.length, none⟩ v).heap[g]? = some (.cells ((a ++ [v]) ++ (b ++ c)).toArray t (0, 0)) := by
      rw [heap_setCell_same w g a.length _ t v h]
      congr 1
      congr 1
      simp
    have := sc_heap vs (a ++ [v]) b c _ h1 (by simpa using hb)
    rw [List.length_append, List.length_singleton] at this
    show ((w.setCell ⟨g, a.length, none⟩ v).setCells g (a.length + 1) vs).heap[g]? = _
    rw [this]
    congr 2
    simp
theorem Kept.cells (g : Nat) : ∀ (vs : List Value) (o : Nat) (w : World), Kept w (w.setCells g o vs) (fun b => b = g)
  | [], _, w => Kept.refl w _
  | v :: vs, o, w => (Kept.set w g o v).trans (Kept.cells g vs (o + 1) _) (fun b e => .inl e)
theorem stk_base {B : Nat} {w V : World} {g : Nat} {L : List Ly} {s : Sk} {f2 : List Int} (h : StkAt B w g L s) (hb : Below w.heap.size w V) (hl : f2.length = 32) (ha : AllB f2) :
    StkAt B (V.setCells g 0 (Pat.bytesV f2)) g L ⟨f2, s.l, s.k⟩ ∧ Kept w (V.setCells g 0 (Pat.bytesV f2)) (fun b => b = g) := by
  have h4 := h.fresh hb
  have hk := Kept.cells g (Pat.bytesV f2) 0 V
  refine ⟨⟨?_, h4.ch.keep hk (fun b e => by rw [e]; exact h4.isHead), h.xs, h.lo, hl, ha⟩, (Kept.fresh hb).trans hk (fun b e => .inl e)⟩
  exact sc_heap (Pat.bytesV f2) [] (Pat.bytesV s.f) [.int .i64 s.k, topV L] V (by simpa using h4.head) (by rw [Pat.length_bytesV, Pat.length_bytesV, h.len, hl])
theorem StkAt.there_ {B : Nat} {w : World} {g : Nat} {L : List Ly} {s : Sk} (h : StkAt B w g L s) : w.there g 0 32 := fun j hj => by
  rw [Nat.zero_add, h.byte hj]; exact ⟨rfl, h.free j⟩
section
variable (B g : Nat) (L : List Ly) (s : Sk) (w : World)
/-- the pieces of Roll and of Settle -/
theorem rolled_picked (b c : Nat) (m : List Int) (hC : StkAt B w g L s) (hr0 : Rights s.l) (hrise : RiseO s.l) (hwf : WfO s.l) (hl : s.l.length ≤ 900) (hS : SetAt w b c m) (hE : mayE s.l m = 0) :
    Calls Try.prog 42 #[.pointer (some ⟨g, 0, none⟩), .func (.func 43) #[.map (some b)] #[]] w fun e w' => e = .returned (secV (withL (fun n => decide (n ∈ m)) s.f s.l)) ∧ Below w.heap.size w w' := by
  have := rolled_has B g L s b (fun n => decide (n ∈ m)) w hC hr0 hl (fun q W hq hW => hasS_any b c q m W (hS.fresh hW) ((hC.fresh hW).ch.mem hq) (hwf q.x (by rw [← hC.xs]; exact xsL_mem hq)))
  rwa [roll_with hr0 hC.all hC.len (closed_of_may hE hrise)] at this
set_option maxRecDepth 100000 in
set_option maxHeartbeats 2000000 in
theorem proll_no (A0 : Option Addr) (c0 : Nat) (m : List Int) (hC : StkAt B w g L s) (hr0 : Rights s.l) (hrise : RiseO s.l) (hwf : WfO s.l) (hl : s.l.length ≤ 900) (hm : m.length ≤ 900) (hmw : ∀ x ∈ m, WfI x) (hI : Ints w w.heap.size A0 m) (hE : mayE s.l m ≠ 0) :
    Calls Try.prog 14 #[.pointer (some ⟨g, 0, none⟩), .slice A0 m.length c0] w fun e w' => e = .returned (.tuple #[.slice none 0 0, .int .i64 (mayE s.l m)]) ∧ Below w.heap.size w w' := by
  have HP := Lib.hid (pick_any B g L s w A0 c0 m hC hr0 hrise hwf hl hm hmw hI)
  generalize mayE s.l m = E at *
  have hne : (E != 0) = true := by simpa using hE
  have HE := Lib.hid hE
  clear hC hr0 hrise hwf hl hm hmw hI hE
  go_enter Try.func14, Try.ntmps14
  go_wp2_with (go_at_call 41; (with_reducible refine HP.out.mono ?_); rintro e w1 ⟨v, rfl, hb1, hv, _⟩; have B1 := Lib.hid hb1; have hv2 := hv HE.out; subst hv2; clear hb1 hv)
  go_ret2
  exact ⟨rfl, B1.out⟩
set_option maxRecDepth 100000 in
set_option maxHeartbeats 2000000 in
theorem proll_ok (A0 : Option Addr) (c0 : Nat) (m : List Int) (hC : StkAt B w g L s) (hr0 : Rights s.l) (hrise : RiseO s.l) (hwf : WfO s.l) (hl : s.l.length ≤ 900) (hm : m.length ≤ 900) (hmw : ∀ x ∈ m, WfI x) (hI : Ints w w.heap.size A0 m) (hE : mayE s.l m = 0) :
    Calls Try.prog 14 #[.pointer (some ⟨g, 0, none⟩), .slice A0 m.length c0] w fun e w' => ∃ d, e = .returned (.tuple #[.slice (some ⟨d, 0, none⟩) 32 32, .int .i64 0]) ∧ Pat.BlkIs w' d 71 (Pat.bytesV (withL (fun n => decide (n ∈ m)) s.f s.l)) ∧ w.heap.size ≤ d ∧ Below w.heap.size w w' := by
  have HP := Lib.hid (pick_any B g L s w A0 c0 m hC hr0 hrise hwf hl hm hmw hI)
  rw [hE] at HP
  have HRo : Hid (∀ W b c, Below w.heap.size w W → SetAt W b c m → Calls Try.prog 42 #[.pointer (some ⟨g, 0, none⟩), .func (.func 43) #[.map (some b)] #[]] W fun e w' => e = .returned (secV (withL (fun n => decide (n ∈ m)) s.f s.l)) ∧ Below W.heap.size W w') := fun W b c hW hS => rolled_picked B g L s W b c m (hC.fresh hW) hr0 hrise hwf hl hS hE
  have hlen := withL_len (k := fun n => decide (n ∈ m)) hr0 hC.len
  have hmf : ∀ (fn : Fn) (first cap : Array Value) (w : World), (Instr.makeFunc fn first cap).run Try.prog w = .ok (.func fn first cap) w := fun _ _ _ _ => rfl
  generalize withL (fun n => decide (n ∈ m)) s.f s.l = mm at *
  unfold secV at HRo
  obtain ⟨R0, hR0⟩ : ∃ R0, R0 = Pat.bytesV mm := ⟨_, rfl⟩
  have HR0 := Lib.hid hR0
  have hsz2 : Hid ((Try.prog.info? 71).map (·.size) = some R0.toArray.size) := by unfold Hid; rw [hR0, List.size_toArray, Pat.length_bytesV, hlen]; exact size71
  have hone : Hid (R0.toArray.all (·.oneCell') = true) := by unfold Hid; rw [hR0]; exact all_oneCell_toArray (Pat.bytesV_one _)
  have hold : Hid ((Pat.bytesV (List.replicate 32 0)).toArray.size = R0.toArray.size) := by unfold Hid; rw [hR0, List.size_toArray, List.size_toArray, Pat.length_bytesV, Pat.length_bytesV, hlen]; rfl
  rw [← hR0] at HRo
  clear hC hR0 hlen hr0 hrise hwf hl hm hmw hI hE
  go_enter Try.func14, Try.ntmps14
  go_wp2_with (first
    | (go_at_call 41; (with_reducible refine HP.out.mono ?_); rintro e w1 ⟨v, rfl, hb1, _, hv⟩; obtain ⟨b, rfl, hbb, c1, hS⟩ := hv rfl; have B1 := Lib.hid hb1; have S1 := Lib.hid hS; clear hb1 hS hbb)
    | (go_at_call 42; (with_reducible refine (HRo.out _ _ _ B1.out S1.out).mono ?_); rintro e w5 ⟨rfl, hb5⟩; have B5 := Lib.hid (Below.trans B1.out (Below.mono hb5 B1.out.size)); clear hb5)
    | (generalize hW : w5.alloc (Obj.cells _ 71) = w6; have b6 : Hid (w6.heap[w5.heap.size]? = some (.cells (Pat.bytesV (List.replicate 32 0)).toArray 71 (0, 0))) := (by rw [← hW]; exact heap_alloc_new w5 _); have B6 : Hid (Below w.heap.size w w6) := (by rw [← hW]; exact B5.out.alloc B5.out.size _); have b7 := Lib.hid (setRow_heap w6 w5.heap.size _ R0.toArray 71 (0, 0) b6.out); have B7 := Lib.hid (below_setRow B6.out B5.out.size R0.toArray); clear hW; refine wpList_store_row rfl 71 (.tmp 8) (.tmp 21) rfl w5.heap.size R0.toArray rfl rfl 71 _ b6.out hsz2.out hold.out hone.out ?_; generalize w6.setRow w5.heap.size R0.toArray = w7 at *))
  go_ret2
  exact ⟨w5.heap.size, rfl, by rw [← HR0.out]; exact b7.out, B5.out.size, B7.out⟩
set_option maxRecDepth 100000 in
set_option maxHeartbeats 2000000 in
theorem psettle_no (A0 : Option Addr) (c0 : Nat) (m : List Int) (hC : StkAt B w g L s) (hr0 : Rights s.l) (hrise : RiseO s.l) (hwf : WfO s.l) (hl : s.l.length ≤ 900) (hm : m.length ≤ 900) (hmw : ∀ x ∈ m, WfI x) (hI : Ints w w.heap.size A0 m) (hE : mayE s.l m ≠ 0) :
    Calls Try.prog 24 #[.pointer (some ⟨g, 0, none⟩), .slice A0 m.length c0] w fun e w' => e = .returned (.int .i64 (mayE s.l m)) ∧ PW B w g s w' := by
  have HF : Hid (∀ w', Below w.heap.size w w' → PW B w g s w') := fun w' h => hC.pw h
  have HP := Lib.hid (pick_any B g L s w A0 c0 m hC hr0 hrise hwf hl hm hmw hI)
  generalize mayE s.l m = E at *
  have hne : (E != 0) = true := by simpa using hE
  have HE := Lib.hid hE
  clear hC hr0 hrise hwf hl hm hmw hI hE
  go_enter Try.func24, Try.ntmps24
  go_wp2_with (go_at_call 41; (with_reducible refine HP.out.mono ?_); rintro e w1 ⟨v, rfl, hb1, hv, _⟩; have B1 := Lib.hid (HF.out w1 hb1); have hv2 := hv HE.out; subst hv2; clear hb1 hv)
  go_ret
  exact ⟨rfl, B1.out⟩
set_option maxRecDepth 100000 in
set_option maxHeartbeats 4000000 in
theorem psettle_ok (A0 : Option Addr) (c0 : Nat) (m : List Int) (hC : StkAt B w g L s) (hr0 : Rights s.l) (hrise : RiseO s.l) (hwf : WfO s.l) (hl : s.l.length ≤ 900) (hm : m.length ≤ 900) (hmw : ∀ x ∈ m, WfI x) (hI : Ints w w.heap.size A0 m) (hE : mayE s.l m = 0) :
    Calls Try.prog 24 #[.pointer (some ⟨g, 0, none⟩), .slice A0 m.length c0] w fun e w' => e = .returned (.int .i64 0) ∧ PW B w g (settleS s m) w' := by
  have HP := Lib.hid (pick_any B g L s w A0 c0 m hC hr0 hrise hwf hl hm hmw hI)
  rw [hE] at HP
  have HRo : Hid (∀ W b c, Below w.heap.size w W → SetAt W b c m → Calls Try.prog 42 #[.pointer (some ⟨g, 0, none⟩), .func (.func 43) #[.map (some b)] #[]] W fun e w' => e = .returned (secV (withL (fun n => decide (n ∈ m)) s.f s.l)) ∧ Below W.heap.size W w') := fun W b c hW hS => rolled_picked B g L s W b c m (hC.fresh hW) hr0 hrise hwf hl hS hE
  have hlen := withL_len (k := fun n => decide (n ∈ m)) hr0 hC.len
  have hall := withL_all (k := fun n => decide (n ∈ m)) (l := s.l) hC.all
  have HC := Lib.hid hC
  have hxs : xsL L = s.l := hC.xs
  have hLl : L.length ≤ 900 := by rw [hC.llen]; exact hl
  have HSet : Hid (settleS s m = ⟨withL (fun n => decide (n ∈ m)) s.f s.l, xsL (L.filter (fun q => !decide (q.x.n ∈ m))), s.k⟩) := by
    unfold Hid settleS
    congr 1
    rw [← hxs]
    unfold xsL
    rw [List.filter_map]; rfl
  rw [HSet.out]
  have HWq : Hid (∀ q ∈ L, WfI q.x.n) := fun q hq => hwf q.x (by rw [← hxs]; exact xsL_mem hq)
  have hmf : ∀ (fn : Fn) (first cap : Array Value) (w : World), (Instr.makeFunc fn first cap).run Try.prog w = .ok (.func fn first cap) w := fun _ _ _ _ => rfl
  generalize withL (fun n => decide (n ∈ m)) s.f s.l = mm at *
  have HBase : Hid (∀ V, Below w.heap.size w V → StkAt B (V.setCells g 0 (Pat.bytesV mm)) g L ⟨mm, s.l, s.k⟩ ∧ Kept w (V.setCells g 0 (Pat.bytesV mm)) (fun b => b = g) ∧ V.there g 0 (Pat.bytesV mm).toArray.size) := fun V hV => ⟨(stk_base hC hV hlen hall).1, (stk_base hC hV hlen hall).2, by rw [List.size_toArray, Pat.length_bytesV, hlen]; exact (hC.fresh hV).there_⟩
  unfold secV at HRo
  have hone : Hid ((Pat.bytesV mm).toArray.all (·.oneCell') = true) := all_oneCell_toArray (Pat.bytesV_one _)
  have hsz2 : Hid ((Try.prog.info? 71).map (·.size) = some (Pat.bytesV mm).toArray.size) := by unfold Hid; rw [List.size_toArray, Pat.length_bytesV, hlen]; exact size71
  have HDel : Hid (∀ (W W3 : World) (b c : Nat) A3 c3 B0, StkAt B W g L ⟨mm, s.l, s.k⟩ → SetAt W b c m → Below W.heap.size W W3 → RowP W3 B0 A3 c3 L → W.heap.size ≤ B0 → Calls Try.prog 57 #[.slice A3 L.length c3, .func (.func 43) #[.map (some b)] #[]] W3 fun e w' => e = .returned (.slice A3 (L.filter (fun q => !decide (q.x.n ∈ m))).length c3) ∧ RowP w' B0 A3 c3 (L.filter (fun q => !decide (q.x.n ∈ m))) ∧ Below W.heap.size W w') := fun W W3 b c A3 c3 B0 hSt hS hW hR hB0 => by
    have hkb : ∀ V, Kept W3 V (fun b => own A3 = some b) → Below W.heap.size W V := fun V hV => hW.trans (hV.below (fun b e => by have := (hR.lt b e).1; omega) hW.size)
    refine (delete_has B0 A3 c3 L b (fun q => decide (q.x.n ∈ m)) W3 hR (by omega) (fun q V hq hV => hasS_any b c q m V (hS.fresh (hkb V hV)) ((hSt.fresh (hkb V hV)).ch.mem hq) (HWq.out q hq))).mono ?_
    rintro e w' ⟨h1, h2, h3⟩
    exact ⟨h1, h2, hkb w' h3⟩
  have hr3 := Lib.hid hLl
  have hfl : (L.filter (fun q => !decide (q.x.n ∈ m))).length ≤ 900 := by have := List.length_filter_le (fun q : Ly => !decide (q.x.n ∈ m)) L; omega
  have HFsub : Hid (∀ W, Chain W L → Lays W (L.filter (fun q => !decide (q.x.n ∈ m)))) := fun W h q hq => h.lays q (List.mem_filter.1 hq).1
  generalize hFL : L.filter (fun q => !decide (q.x.n ∈ m)) = FL at *
  clear hFL hC hlen hall hr0 hrise hwf hl hm hmw hI hE hxs HSet
  obtain ⟨RV, hRV⟩ : ∃ RV, RV = (Pat.bytesV mm).toArray := ⟨_, rfl⟩
  have HRV := Lib.hid hRV
  rw [← hRV] at HRo hone hsz2 HBase
  have HRl : Hid (RV.toList = Pat.bytesV mm) := by unfold Hid; rw [hRV]
  clear hRV
  go_enter Try.func24, Try.ntmps24
  go_wp2_with (first
    | (go_at_call 41; (with_reducible refine HP.out.mono ?_); rintro e w1 ⟨v, rfl, hb1, _, hv⟩; obtain ⟨b, rfl, hbb, c1, hS⟩ := hv rfl; have B1 := Lib.hid hb1; have S1 := Lib.hid hS; have hbb1 := Lib.hid hbb; clear hb1 hS hbb)
    | (go_at_call 42; (with_reducible refine (HRo.out _ _ _ B1.out S1.out).mono ?_); rintro e w5 ⟨rfl, hb5⟩; have B5 := Lib.hid (Below.trans B1.out (Below.mono hb5 B1.out.size)); have S5 := Lib.hid (S1.out.fresh hb5); clear hb5)
    | (refine wpList_store_mid rfl 71 (.tmp 22) (.tmp 20) rfl g 0 RV rfl rfl (HBase.out w5 B5.out).2.2 hsz2.out hone.out ?_; rw [HRl.out]; have Z6 := Lib.hid (HBase.out w5 B5.out); have S6 := Lib.hid (S5.out.keep (Kept.cells g (Pat.bytesV mm) 0 w5) (by have := (HC.out.glt); have := hbb1.out; omega)); generalize w5.setCells g 0 (Pat.bytesV mm) = w6 at *; have t2 := Z6.out.1.num; have t3 := Z6.out.1.top; have hg6 := Z6.out.1.glt; have HRs := Lib.hid (rising_any L s.k w6 Z6.out.1.ch hr3.out))
    | (go_at_call 48; (with_reducible refine HRs.out.mono ?_); rintro e w7 ⟨A7, c7, rfl, hr7, hb7⟩; have R7 := Lib.hid hr7; have B7 := Lib.hid hb7; clear hr7 hb7)
    | (go_at_call 57; (with_reducible refine (HDel.out w6 w7 _ _ _ _ _ Z6.out.1 S6.out B7.out R7.out (Nat.le_refl _)).mono ?_); rintro e w8 ⟨rfl, hr8, hb8⟩; have R8 := Lib.hid hr8; have B8 := Lib.hid hb8; have HRe := Lib.hid (relink_any B g L ⟨mm, s.l, s.k⟩ w8 _ _ _ FL (Z6.out.1.fresh hb8) hr8 (HFsub.out w8 (Z6.out.1.fresh hb8).ch) hfl); clear hr8 hb8)
    | (go_at_call 56; (with_reducible refine HRe.out.mono ?_); rintro e w9 ⟨rfl, h9, k9⟩; have P9 := Lib.hid (show PW B w g ⟨mm, xsL FL, s.k⟩ w9 from ⟨h9, (Z6.out.2.1.trans (Kept.fresh (S := fun b => b = g) B8.out) (fun b e => .inl e)).trans k9 (fun b e => .inl e)⟩); clear h9 k9))
  go_ret
  exact ⟨rfl, P9.out⟩
end
end Go.Proofs.Ytibkipdadpidnaa
