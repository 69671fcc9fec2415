/- The program's groups: Behind. -/
import Derived.Test.YtdndchoghhllmaaZB
import Derived.RangeFuncCalls
set_option linter.unusedVariables false
set_option linter.unusedSimpArgs false
namespace Go.Proofs.Ytdndchoghhllmaa
open Go.RowKit Go.Maps Go.Sort Go.Shelf
attribute [local go_sem] Oper.semAt_some
theorem wide_depth {p : Prop} (h : Fence.wide.depth.isSome = true) : p := by cases h
/-- all groups that those which are engaged come behind -/
def farE (l : List Gp) (es : List Int) : List Int := withL [] (es.flatMap fun n => aheadR l n)
theorem farE_rises (l : List Gp) (es : List Int) : Rises (farE l es) := withL_rises List.Pairwise.nil
theorem farE_all {l : List Gp} (hin : ∀ n, ∀ y ∈ (ofN l n).a, y ∈ nos l) (es : List Int) : AllFar l es (farE l es) := by
  refine ⟨rises_nodup (farE_rises l es), fun y => ?_⟩
  unfold farE
  rw [mem_withL]
  constructor
  · rintro (h | h)
    · cases h
    · obtain ⟨n, hn, hy⟩ := List.mem_flatMap.1 h
      exact ⟨n, hn, (mem_aheadR hin n y).1 hy⟩
  · rintro ⟨n, hn, hf⟩
    exact .inr (List.mem_flatMap.2 ⟨n, hn, (mem_aheadR hin n y).2 hf⟩)
theorem farE_in {l : List Gp} (hin : ∀ n, ∀ y ∈ (ofN l n).a, y ∈ nos l) (es : List Int) : ∀ y ∈ farE l es, y ∈ nos l := fun y hy => by
  obtain ⟨n, _, hf⟩ := ((farE_all hin es).2 y).1 hy
  exact far_in hin hf
theorem mem_foldP {l : List Gp} {ns : List Int} : ∀ {o : List Int} {y : Int}, y ∈ foldP l o ns ↔ y ∈ o ∨ ∃ m ∈ ns, y ∈ (ofN l m).p := by
  induction ns with
  | nil => intro o y; simp [foldP]
  | cons n r ih =>
    intro o y
    show y ∈ foldP l (withL o (ofN l n).p) r ↔ _
    rw [ih, mem_withL]
    constructor
    · rintro ((h | h) | ⟨m, hm, h⟩)
      · exact .inl h
      · exact .inr ⟨n, List.mem_cons_self .., h⟩
      · exact .inr ⟨m, List.mem_cons_of_mem _ hm, h⟩
    · rintro (h | ⟨m, hm, h⟩)
      · exact .inl (.inl h)
      · rcases List.mem_cons.1 hm with e | e
        · rw [e] at h; exact .inl (.inr h)
        · exact .inr ⟨m, e, h⟩
theorem foldP_rises {l : List Gp} {ns : List Int} : ∀ {o : List Int}, Rises o → Rises (foldP l o ns) := by
  induction ns with
  | nil => intro o h; exact h
  | cons n r ih => intro o h; exact ih (withL_rises h)
theorem behind_rises (x : Gs) : Rises x.behind := foldP_rises List.Pairwise.nil
theorem mem_behind {x : Gs} {y : Int} : y ∈ x.behind ↔ ∃ m ∈ farE x.l x.engaged, y ∈ (ofN x.l m).p := by
  show y ∈ foldP x.l [] (x.engaged.flatMap fun n => aheadR x.l n) ↔ _
  rw [mem_foldP]
  unfold farE
  constructor
  · rintro (h | ⟨m, hm, h⟩)
    · cases h
    · exact ⟨m, mem_withL.2 (.inr hm), h⟩
  · rintro ⟨m, hm, h⟩
    rcases mem_withL.1 hm with z | z
    · cases z
    · exact .inr ⟨m, z, h⟩
/-- Behind under way: the patches of those that came -/
def BeI (l : List Gp) (w : World) (g c : Nat) (pre : List Int) (F : Nat → Prop) (V : World) : Prop :=
  ∃ d s, SetAt V (w.heap.size + 1) d s ∧ (∀ y, y ∈ s ↔ ∃ m ∈ pre, y ∈ (ofN l m).p) ∧ d ≤ c * pre.length ∧ V.heap[w.heap.size]? = some (.cells #[.pointer (some ⟨g, 0, none⟩)] 23 (0, 0)) ∧ V.heap[w.heap.size + 2]? = some (.cells #[.map (some (w.heap.size + 1))] 61 (0, 0)) ∧ Below w.heap.size w V ∧ ∀ b, F b ↔ b = w.heap.size + 1
theorem beI_bears {l : List Gp} {w : World} {g c B : Nat} (hB : w.heap.size + 3 ≤ B) : Bears B (BeI l w g c) := by
  rintro s F X Y T ⟨d, s', h1, h2, h3, h4, h5, h6, h7⟩ hK hT
  exact ⟨d, s', h1.keep hK (fun q => by have := (hT _ q).1; omega), h2, h3, (hK.block _ (Array.getElem?_eq_some_iff.1 h4).1 (fun q => by have := (hT _ q).1; omega)).trans h4, (hK.block _ (Array.getElem?_eq_some_iff.1 h5).1 (fun q => by have := (hT _ q).1; omega)).trans h5, h6.trans (hK.below (fun b q => by have := (hT b q).1; omega) h6.size), h7⟩
section
variable (B c g mb : Nat) (L : List Pr) (k : Int) (w : World)
set_option maxRecDepth 100000 in
set_option maxHeartbeats 4000000 in
theorem behind_any (h : PrgAt B c w g mb L k) (hc : c < 100000) (hwf : ∀ n ∈ nos (gp L), WfI n) (hin : ∀ n, ∀ y ∈ (ofN (gp L) n).a, y ∈ nos (gp L)) (hl : L.length ≤ 100) (hr : Rises (Gs.engaged ⟨gp L, k⟩)) : Calls Try.prog 25 #[.pointer (some ⟨g, 0, none⟩)] w fun e w' =>
    ∃ A' c', e = .returned (.slice A' (Gs.behind ⟨gp L, k⟩).length c') ∧ RowI w' w.heap.size A' c' (Gs.behind ⟨gp L, k⟩) ∧ Below w.heap.size w w' := by
  refine (callsIn_wide (n := 6)).1 ?_
  have HC := Lib.hid h
  have hmm := @run_makeMap Try.prog
  have HEn : Hid (∀ V, Below w.heap.size w V → CallsIn Fence.wide 5 Try.prog 26 #[.pointer (some ⟨g, 0, none⟩)] V fun e w' => ∃ A' c', e = .returned (.slice A' (Gs.engaged ⟨gp L, k⟩).length c') ∧ RowI w' V.heap.size A' c' (Gs.engaged ⟨gp L, k⟩) ∧ Below V.heap.size V w') := fun V hV => callsIn_wide.2 (engaged_any B c g mb L k V (h.fresh hV) (by omega) hr)
  have hEin : ∀ y ∈ Gs.engaged ⟨gp L, k⟩, y ∈ nos (gp L) := fun y hy => by
    obtain ⟨x, hx, e, _⟩ := Gs.mem_engaged.1 hy
    rw [← e]; exact in_nos hx
  have hft1 : Fence.wide.fn 26 := trivial
  have hft2 : Fence.wide.fn 41 := trivial
  have hft3 : Fence.wide.fn 42 := trivial
  have HEi := Lib.hid hEin
  have HIn := Lib.hid hin
  have HWf := Lib.hid hwf
  obtain ⟨es, hes⟩ : ∃ es, es = Gs.engaged ⟨gp L, k⟩ := ⟨_, rfl⟩
  rw [← hes] at HEn HEi
  have HEs := Lib.hid hes
  obtain ⟨bh, hbh⟩ : ∃ bh, bh = Gs.behind ⟨gp L, k⟩ := ⟨_, rfl⟩
  rw [← hbh]
  have HBh := Lib.hid hbh
  clear h hin hwf hr hEin hes hbh
  refine callsIn_of_wp_marks Try.func25 rfl trivial ?_ rfl
  simp only [Try.ntmps25, List.size_toArray, List.length_cons, List.length_nil, Nat.reduceAdd, Nat.reduceSub, Array.replicate_succ, Array.replicate_zero, List.push_toArray, List.append_toArray, List.nil_append, List.cons_append]
  gi_wp2
  obtain ⟨w3, hw3⟩ : ∃ w3, w3 = ((w.alloc (.cells #[.pointer (some ⟨g, 0, none⟩)] 23)).alloc (.map #[] 0)).alloc (.cells #[.map (some (w.heap.size + 1))] 61) := ⟨_, rfl⟩
  rw [← hw3]
  have hB3 : Below w.heap.size w w3 := by rw [hw3]; exact ((((Below.refl _ w).alloc (Nat.le_refl _) _).alloc (by simp) _).alloc (by simp; omega) _)
  have hs3 : w3.heap.size = w.heap.size + 3 := by rw [hw3]; simp
  have hz0 : w3.heap[w.heap.size]? = some (.cells #[.pointer (some ⟨g, 0, none⟩)] 23 (0, 0)) := by
    rw [hw3, Below.heap_alloc _ _ _ (by simp; omega), Below.heap_alloc _ _ _ (by simp)]; exact heap_alloc_new w _
  have hz1 : SetAt w3 (w.heap.size + 1) 0 [] := by
    rw [hw3]
    have h1 := set_made (w.alloc (.cells #[.pointer (some ⟨g, 0, none⟩)] 23))
    rw [World.size_alloc] at h1
    exact h1.fresh ((Below.refl _ _).alloc (Nat.le_refl _) _)
  have hz2 : w3.heap[w.heap.size + 2]? = some (.cells #[.map (some (w.heap.size + 1))] 61 (0, 0)) := by
    rw [hw3]
    have := heap_alloc_new ((w.alloc (.cells #[.pointer (some ⟨g, 0, none⟩)] 23)).alloc (.map #[] 0)) (.cells #[.map (some (w.heap.size + 1))] 61)
    simpa using this
  have c0 := cell_of_row w3 w.heap.size 0 _ _ (0, 0) hz0
  simp only [List.getElem?_toArray, List.getElem?_cons_zero] at c0
  have hl3 : w.heap.size < w3.heap.size := by omega
  have HB3 := Lib.hid hB3
  have HZ0 := Lib.hid hz0
  have HZ1 := Lib.hid hz1
  have HZ2 := Lib.hid hz2
  have HB3d : Hid (Below w.heap.size w w3.drew) := ⟨hB3.os, hB3.tape, hB3.output, hB3.size, hB3.block⟩
  have HS3 := Lib.hid hs3
  have HC0 : Hid (∀ V, Below w3.drew.heap.size w3.drew V → V.cell? ⟨w.heap.size, 0, none⟩ = some (.pointer (some ⟨g, 0, none⟩)) ∧ w.heap.size < V.heap.size) := fun V hV => ⟨(hV.cell (p := ⟨w.heap.size, 0, none⟩) hl3).trans c0, Nat.lt_of_lt_of_le hl3 hV.size⟩
  have hmx : Try.prog.follows .mixedOrders = true := by kernel_rfl
  clear hw3 hB3 hz0 hz1 hz2 hs3
  rename_i QQ K1 hK1 K2 hK2
  have key : ∀ (A : Option Addr) (c4 : Nat) (w4 w5 : World), Hid (RowI w4 w3.drew.heap.size A c4 es) → Hid (Below w3.drew.heap.size w3.drew w4) → Hid (w5 = (w4.alloc (.cells #[.pointer (some ⟨g, 0, none⟩)] 23)).alloc (.cells #[.slice A es.length c4] 30)) → K2 { tmps := #[.pointer (some ⟨g, 0, none⟩), .pointer (some ⟨w.heap.size, 0, none⟩), .slice none 0 0, .pointer (some ⟨w.heap.size + 1 + 1, 0, none⟩), undef, .pointer (some ⟨g, 0, none⟩), .bool false, .map (some (w.heap.size + 1)), .pointer (some ⟨g, 0, none⟩), .pointer (some ⟨g, 0, none⟩), .slice A es.length c4, .func (.func 59) #[] #[.pointer (some ⟨w4.heap.size + 1, 0, none⟩), .pointer (some ⟨w4.heap.size, 0, none⟩)], undef, undef, undef, undef, undef, undef, undef, undef, undef, undef, undef, undef, undef, undef], defers := [] } w5 := by
    intro A c4 w4 w5 HR4 HB4 HW5
    refine hK2 _ _ ?_
    have hft4 : Fence.wide.fn 53 := trivial
    have hs3 : w3.drew.heap.size = w.heap.size + 3 := HS3.out
    have hw4 : Below w.heap.size w w4 := HB3d.out.trans (HB4.out.mono (by rw [hs3]; omega))
    have hs4 := HB4.out.size
    rw [hs3] at hs4
    have hb45 : Below w4.heap.size w4 w5 := by rw [HW5.out]; exact ((Below.refl _ w4).alloc (Nat.le_refl _) _).alloc (by simp) _
    have hs5 : w5.heap.size = w4.heap.size + 2 := by rw [HW5.out]; simp
    have hg5 : w5.heap[w4.heap.size]? = some (.cells #[.pointer (some ⟨g, 0, none⟩)] 23 (0, 0)) := by rw [HW5.out, Below.heap_alloc _ _ _ (by simp)]; exact heap_alloc_new w4 _
    have hg6 : w5.heap[w4.heap.size + 1]? = some (.cells #[.slice A es.length c4] 30 (0, 0)) := by
      rw [HW5.out]
      have := heap_alloc_new (w4.alloc (.cells #[.pointer (some ⟨g, 0, none⟩)] 23)) (.cells #[.slice A es.length c4] 30)
      rwa [World.size_alloc] at this
    have hw5 : Below w.heap.size w w5 := hw4.trans (hb45.mono hw4.size)
    have hA := HR4.out.lt
    rw [hs3] at hA
    have hrow5 : RowI w5 (w.heap.size + 3) A c4 es := by have := HR4.out.fresh hb45; rw [hs3] at this; exact this
    have hPo : ∀ b, OfP g mb L b → b < w.heap.size := HC.out.lt
    have hPr : ∀ b, (OfP g mb L b ∨ b = w4.heap.size ∨ b = w4.heap.size + 1 ∨ own A = some b) → b < w5.heap.size := fun b q => by
      rcases q with q | q | q | q
      · have := hPo b q; omega
      · omega
      · omega
      · have := (hA b q).2; omega
    have hesl : es.length ≤ 100 := by
      have h1 : es.length ≤ L.length := by
        rw [HEs.out]
        unfold Gs.engaged
        rw [length_nos, ← length_gp]
        exact List.length_filter_le _ _
      omega
    have hpl : (farE (gp L) es).length ≤ 100 := by
      have := sub_len (rises_nodup (farE_rises (gp L) es)) (farE_in HIn.out es)
      rw [length_nos, length_gp] at this
      omega
    have hseq := walk_gives B c g mb L k w5 (HC.out.fresh hw5) (by omega) HWf.out HIn.out (w4.heap.size + 1) w4.heap.size (w.heap.size + 3) c4 A es (farE (gp L) es) (cell_of_row w5 _ 0 _ _ (0, 0) hg6) (by omega) (cell_of_row w5 _ 0 _ _ (0, 0) hg5) (by omega) hrow5 HEi.out hesl (farE_all HIn.out es) hpl (fun b => OfP g mb L b ∨ b = w4.heap.size ∨ b = w4.heap.size + 1 ∨ own A = some b) hPr (fun b q => .inl q) ⟨.inr (.inr (.inl rfl)), .inr (.inl rfl)⟩ (fun b q => .inr (.inr (.inr q)))
    have hIF : Lies (fun b => OfP g mb L b ∨ b = w4.heap.size ∨ b = w4.heap.size + 1 ∨ own A = some b) (BeI (gp L) w g c) := by
      rintro s F X ⟨d, s', h1, _, _, _, _, _, h7⟩ b hb
      have e := (h7 b).1 hb
      subst e
      refine ⟨?_, h1.lt⟩
      rintro (q | q | q | q)
      · have := hPo _ q; omega
      · omega
      · omega
      · have := (hA _ q).1; omega
    have hI0 : BeI (gp L) w g c [] (fun b => b = w.heap.size + 1) w5 := by
      have hb35 : Below w3.heap.size w3 w5 := by
        have := HB4.out.trans (hb45.mono HB4.out.size)
        exact ⟨this.os, this.tape, this.output, this.size, this.block⟩
      exact ⟨0, [], HZ1.out.fresh hb35, fun y => by simp, Nat.zero_le _, (hb35.block _ (by rw [HS3.out]; omega)).trans HZ0.out, (hb35.block _ (by rw [HS3.out]; omega)).trans HZ2.out, hw5, fun b => Iff.rfl⟩
    have HEs5 := Lib.hid (show w.heap.size + 3 ≤ w5.heap.size by omega)
    have HPf : Hid ((farE (gp L) es).length ≤ 100) := hpl
    have HFi : Hid (∀ y ∈ farE (gp L) es, y ∈ nos (gp L)) := farE_in HIn.out es
    clear hs3 hw4 hs4 hb45 hs5 hg5 hg6 hw5 hA hrow5 hPo hesl hpl c0 hl3 HEn HZ0 HZ1 HZ2 HB3 HB3d HC0
    gi_wp2
    refine range_f (n := 6) (by omega) rfl (enters_of Try.func59 (by kernel_rfl) rfl) hPr hseq (Kept.refl _ _) (BeI (gp L) w g c) (fun b => b = w.heap.size + 1) (beI_bears HEs5.out) hIF hI0
      (fun x => { tmps := #[.pointer (some ⟨g, 0, none⟩), .pointer (some ⟨w.heap.size, 0, none⟩), .slice none 0 0, .pointer (some ⟨w.heap.size + 1 + 1, 0, none⟩), .int .i64 x, .pointer (some ⟨g, 0, none⟩), .bool false, .map (some (w.heap.size + 1)), .pointer (some ⟨g, 0, none⟩), .pointer (some ⟨g, 0, none⟩), .slice A es.length c4, .func (.func 59) #[] #[.pointer (some ⟨w4.heap.size + 1, 0, none⟩), .pointer (some ⟨w4.heap.size, 0, none⟩)], .int .i64 x, undef, undef, undef, undef, undef, undef, undef, undef, undef, undef, undef, undef, undef], defers := [] })
      ?assign ?body ?done
    case assign =>
      rintro l2 m2 x V K hK
      gi_wp2
      exact hK
    case body =>
      rintro l2 m2 pre x V F1 ⟨d, s, h1, h2, h3, h4, h5, h6, h7⟩ ⟨hx1, hx2⟩
      have hxn := HFi.out x hx2
      have hCV := HC.out.fresh h6
      obtain ⟨q0, hq0, e1, e2⟩ := hCV.of_ hxn
      obtain ⟨_, k2⟩ := hCV.hcells
      have hgl := hCV.glt
      obtain ⟨_, d1, _, _, hqb⟩ := hCV.ocells hq0
      obtain ⟨D, m1, m2', m3⟩ := hCV.map
      have hlk : (Instr.lookup 65 (.map (some mb)) (.int .i64 x) false).run Try.prog V.drew = .ok (.pointer (some ⟨q0.b, 0, none⟩)) V.drew := by
        obtain ⟨u, ps, hrun, hv⟩ := (m1.drew).lookup lawI Try.underlying65 (zeroP _) (zd := .held (.pointer none)) (zp := []) rfl (keyI (HWf.out _ hxn))
        have : D.atKey (.int .i64 x) (.held (.pointer none)) = .held (.pointer (some ⟨q0.b, 0, none⟩)) := by rw [← e2]; exact m3 q0 hq0 _
        rw [this] at hv
        simp [RV] at hv
        rw [hrun, hv.1]
      have k3 := cell_of_row V w.heap.size 0 _ _ (0, 0) h4
      have k4 := cell_of_row V (w.heap.size + 2) 0 _ _ (0, 0) h5
      simp only [List.getElem?_toArray, List.getElem?_cons_zero] at k3 k4
      rw [show w.heap.size + 2 = w.heap.size + 1 + 1 by omega] at k4
      have hq1 : q0.pm < w.heap.size := HC.out.lt _ (.inr (.inr ⟨q0, hq0, .inr (.inl rfl)⟩))
      have hd : d + c < 100000000 := by
        have : c * pre.length ≤ 100000 * 100 := Nat.mul_le_mul (by omega) (by have := HPf.out; omega)
        omega
      have hcp := mcopy_any (w.heap.size + 1) q0.pm d c s q0.g.p V.drew (h1.keep (kept_drew V) (fun q => q)) ((hCV.pats q0 hq0).keep (kept_drew V) (fun q => q)) (by omega) hd
      have HCp := Lib.hid (CallsIn.inRound l2 (callsIn_wide (n := m2 - 1).2 hcp))
      have HEnd : Hid (∀ V2, (∀ m, (∀ y, y ∈ m ↔ y ∈ s ∨ y ∈ q0.g.p) → SetAt V2 (w.heap.size + 1) (d + c) m) → V.drew.grownBy V2 (some (w.heap.size + 1)) → bodyF (BeI (gp L) w g c) pre x F1 V .normal { tmps := #[], defers := [] } V2) := fun V2 hs hg => by
        have hk : Kept V V2 (fun b => b = w.heap.size + 1) := ((kept_drew V).more (S' := fun b => b = w.heap.size + 1) (fun b q => q.elim)).trans (Kept.grown (S := fun b => b = w.heap.size + 1) hg (fun b e => by cases e; exact .inl rfl)) (fun b q => .inl q)
        refine ⟨fun b => b = w.heap.size + 1, ⟨d + c, s ++ q0.g.p, hs _ (fun y => List.mem_append), fun y => ?_, ?_, (hk.block _ (Array.getElem?_eq_some_iff.1 h4).1 (by omega)).trans h4, (hk.block _ (Array.getElem?_eq_some_iff.1 h5).1 (by omega)).trans h5, h6.trans (hk.below (fun b q => by omega) h6.size), fun b => Iff.rfl⟩, hk.more (fun b q => .inl ((h7 b).2 q)), fun b q => .inl ((h7 b).2 q)⟩
        · rw [List.mem_append, h2]
          constructor
          · rintro (⟨m, hm, z⟩ | z)
            · exact ⟨m, List.mem_append_left _ hm, z⟩
            · exact ⟨x, by simp, by rw [← e1]; exact z⟩
          · rintro ⟨m, hm, z⟩
            rcases List.mem_append.1 hm with q | q
            · exact .inl ⟨m, q, z⟩
            · rw [List.mem_singleton] at q
              rw [q, ← e1] at z
              exact .inr z
        · rw [List.length_append, List.length_singleton, Nat.mul_add, Nat.mul_one]; omega
      clear h1 h2 h3 h4 h5 h6 h7 hx1 hx2 hxn hCV e1 e2 m1 m2' m3 hd hcp
      generalize q0.b = qb at *
      generalize q0.pm = qm at *
      generalize q0.g.p = qp at *
      gi_wp2
      gi_region_with (refine ⟨wide_depth, ?_⟩; gi_at_call 53; refine HCp.out.mono ?_; rintro e V2 ⟨rfl, hs2, hg2⟩; have HZ := Lib.hid (HEnd.out V2 hs2 hg2); clear hs2 hg2)
      all_goals exact HZ.out
    case done =>
      rintro D xs F' V hD hS ⟨d, s, h1, h2, h3, h4, h5, h6, h7⟩ hK
      have k4 := cell_of_row V (w.heap.size + 2) 0 _ _ (0, 0) h5
      simp only [List.getElem?_toArray, List.getElem?_cons_zero] at k4
      rw [show w.heap.size + 2 = w.heap.size + 1 + 1 by omega] at k4
      have hxl : xs.length = (farE (gp L) es).length := hS.length_eq
      have hd : d < 10000000 := by
        have : c * xs.length ≤ 100000 * 100 := Nat.mul_le_mul (by omega) (by have := HPf.out; omega)
        have : c * xs.length < 10000000 := by
          have h1 : c * xs.length ≤ 99999 * 100 := Nat.mul_le_mul (by omega) (by have := HPf.out; omega)
          omega
        omega
      have hri := rising_any (w.heap.size + 1) d s bh V h1 hd (by rw [HBh.out]; exact behind_rises _) (fun y => by
        rw [HBh.out, mem_behind, h2]
        constructor
        · rintro ⟨m, hm, z⟩; exact ⟨m, hS.mem_iff.2 (by rw [HEs.out]; exact hm), z⟩
        · rintro ⟨m, hm, z⟩; exact ⟨m, by have := hS.mem_iff.1 hm; rwa [HEs.out] at this, z⟩)
      have HRi := Lib.hid (callsIn_wide (n := 5).2 hri)
      have HEnd : Hid (∀ W2 A' c', RowI W2 V.heap.size A' c' bh → Below V.heap.size V W2 → W2.heap[D]? = some (.deferred (some [])) ∧ RowI (W2.putObj D (.deferred none)) w.heap.size A' c' bh ∧ Below w.heap.size w (W2.putObj D (.deferred none))) := fun W2 A' c' hr hb => by
        have hDl := (Array.getElem?_eq_some_iff.1 hK).1
        have hkD := putObj_kept W2 D (.deferred none)
        have hDw : w.heap.size ≤ D := by have := HEs5.out; omega
        refine ⟨(hb.block D hDl).trans hK, (hr.base h6.size).keep hkD (fun b e q => by subst q; have := (hr.lt _ e).1; omega), (h6.trans (hb.mono h6.size)).trans (hkD.below (fun b q => by omega) ?_)⟩
        have := hb.size; have := h6.size; omega
      clear h1 h2 h3 h4 h5 h6 h7 hS hK hri hxl hd
      gi_wp2_with (gi_at_call 42; refine HRi.out.mono ?_; rintro e W2 ⟨A', c', rfl, hr, hb⟩; obtain ⟨z1, z2, z3⟩ := HEnd.out W2 A' c' hr hb; have Z2 := Lib.hid z2; have Z3 := Lib.hid z3; clear hr hb z2 z3)
      refine ⟨by simp, .inl ⟨_, _, rfl, run_takeDeferred z1, ?_⟩⟩
      exact ⟨_, results_tmp rfl _ _ _, A', c', rfl, Z2.out, Z3.out⟩
  refine wpIn_mono (?_ : Code.wpIn _ _ _ _ (NoPanic _) _ _) NoPanic.imp
  gi_region_with_o (first
    | (gi_at_call 26; refine (HEn.out w3.drew HB3d.out).mono ?_; rintro e w4 ⟨A, c4, rfl, hr4, hb4⟩; have HR4 := Lib.hid hr4; have HB4 := Lib.hid hb4; obtain ⟨c04, c05⟩ := HC0.out w4 hb4; clear hr4 hb4)
    | (gi_at_call 41; refine (callsIn_wide (n := 5).2 (walk_any g A es.length c4 w4)).mono ?_; rintro e w5 ⟨rfl, hw5⟩; have HW5 := Lib.hid hw5; clear hw5))
  all_goals
    refine NoPanic.normal ?_
    exact key A c4 w4 w5 HR4 HB4 HW5
end
end Go.Proofs.Ytdndchoghhllmaa
