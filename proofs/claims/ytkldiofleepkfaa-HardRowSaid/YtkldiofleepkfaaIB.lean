/- Flush of an engine that writes together: the units that were written last. -/
import Derived.Test.YtkldiofleepkfaaIA
set_option linter.unusedVariables false
set_option linter.unusedSimpArgs false
namespace Go.Proofs.Ytkldiofleepkfaa.Hd
open Go.RowKit
open Go.Maps (Keyed)
theorem PMap.del {w' : World} {b c : Nat} {ks : List Int} {f : Int → Nat} {D : DataW Value} (m2 : ∀ x, Maps.has D (.int .i64 x) = true ↔ x ∈ ks) (m3 : ∀ x ∈ ks, ∀ z, D.atKey (.int .i64 x) z = .held (ptr (f x))) {n : Int}
    (h : w'.ownsMap Try.prog 3 RV b c (D.del (.int .i64 n))) : PMap w' b c (ks.filter fun y => y != n) f := by
  refine ⟨_, h, fun x => ?_, fun x hx z => ?_⟩
  · rw [has_del, List.mem_filter, Bool.and_eq_true, m2 x]
    by_cases e : x = n
    · subst e; simp [Lit.sameKey]
    · rw [Maps.sameKey_ne (ne_key e)]; simp [e]
  · obtain ⟨h1, h2⟩ := List.mem_filter.1 hx
    rw [Maps.atKey_del_other (ne_key (by simpa using h2))]
    exact m3 x h1 z
theorem PMap.drew {w : World} {b c : Nat} {ks : List Int} {f : Int → Nat} (h : PMap w b c ks f) : PMap w.drew b c ks f := h.keep (S := fun _ => False) (Kept.fresh ((Below.refl _ _).drew)) (fun q => q)
section
variable {ops : Array Oper} {o : Oper} {a : Act} {w : World} {K : Act → World → Prop} {Q : Exit → Act → World → Prop}
theorem wp_delete_ptr (m x : Operand) (t e : TypeId) (hop : o.op = Op.call { callee := Callee.builtin Builtin.delete, args := #[m, x], argTypes := #[t, 3] }) (ht : Try.prog.underlying t = some (.map 3 e)) {b c : Nat} {ks : List Int} {f : Int → Nat}
    (h : PMap w b c ks f) (hm : a.eval m = .map (some b)) {n : Int} (hn : WfI n) (hx : a.eval x = .int .i64 n)
    (hK : ∀ w', PMap w' b c (ks.filter fun y => y != n) f → w.mapTurned w' b → K (a.put o.dst (.tuple #[])) w') : o.wp Try.prog a w K Q := by
  obtain ⟨D, h1, m2, m3⟩ := h
  obtain ⟨w', hrun, r1, r2⟩ := h1.drop lawI ht (keyI hn) o.type
  unfold Oper.wp
  simp [execOp, hop, resolve, invoke, builtin, hm, hx, hrun, Result.andThen]
  exact hK w' (PMap.del m2 m3 r1) r2
theorem wp_delete_ranges (m x : Operand) (t e : TypeId) (hop : o.op = Op.call { callee := Callee.builtin Builtin.delete, args := #[m, x], argTypes := #[t, 3] }) (ht : Try.prog.underlying t = some (.map 3 e)) {b r c cnt : Nat} {D : DataW Value} {left : Lit → Bool}
    (h : w.ranges Try.prog 3 RV b r c D left cnt) (hm : a.eval m = .map (some b)) {n : Int} (hn : WfI n) (hx : a.eval x = .int .i64 n)
    (hK : ∀ w' cnt', w'.ranges Try.prog 3 RV b r c (D.del (.int .i64 n)) (fun z => left z && !z.sameKey (.int .i64 n)) cnt' → cnt' ≤ cnt → w.mapTurned w' b → K (a.put o.dst (.tuple #[])) w') : o.wp Try.prog a w K Q := by
  obtain ⟨w', cnt', hrun, r1, r2, r3⟩ := h.drop lawI ht (keyI hn) o.type
  unfold Oper.wp
  simp [execOp, hop, resolve, invoke, builtin, hm, hx, hrun, Result.andThen]
  exact hK w' cnt' r1 r2 r3
end
theorem units_less {l : List Hw} (h : Ok l) {u x : Int} : x ∈ units (lessU l [u]) ↔ x ∈ units l ∧ x ≠ u := by
  rw [mem_units, mem_units]
  constructor
  · rintro ⟨y, hy, e1, e2⟩
    obtain ⟨h1, h2⟩ := mem_lessU.1 hy
    exact ⟨⟨y, h1, e1, e2⟩, fun e => h2 (by rw [e2, e]; simp)⟩
  · rintro ⟨⟨y, hy, e1, e2⟩, hne⟩
    exact ⟨y, mem_lessU.2 ⟨hy, by rw [e2]; simpa using hne⟩, e1, e2⟩
theorem ofU_less {l : List Hw} {u x : Int} (hne : x ≠ u) : ofU (lessU l [u]) x = ofU l x := by
  unfold ofU lessU
  rw [List.filter_filter]
  refine List.filter_congr fun y _ => ?_
  by_cases e : y.u = x
  · simp [e, hne]
  · simp [e]
theorem ubl_less {l : List Hw} (h : Ok l) {u x : Int} (hx : x ∈ units l) (hne : x ≠ u) : ubl (lessU l [u]) x = ubl l x := by
  obtain ⟨y, hy, e1, e2⟩ := mem_units.1 hx
  rw [← e1, ubl_at h.asc hy, ubl_at (h.less [u]).asc (mem_lessU.2 ⟨hy, by rw [e2]; simpa using hne⟩)]
theorem SentOk.less {l : List Hw} {sent : List Int} (h : SentOk l sent) (u : Int) : SentOk (lessU l [u]) (sent.filter fun v => v != u) := by
  constructor
  · intro v hv
    obtain ⟨h1, h2⟩ := List.mem_filter.1 hv
    obtain ⟨x, hx, e1, e2⟩ := h.is v h1
    exact ⟨x, mem_lessU.2 ⟨hx, by rw [e2]; simpa using h2⟩, e1, e2⟩
  · intro x hx hxu y hy hd
    obtain ⟨h1, h2⟩ := List.mem_filter.1 hxu
    obtain ⟨f1, f2⟩ := h.cl x (mem_lessU.1 hx).1 h1 y (mem_lessU.1 hy).1 hd
    exact ⟨List.mem_filter.2 ⟨f1, by have := (mem_lessU.1 hy).2; simpa using this⟩, f2⟩
/-- a unit is let last: both maps lose what is its own -/
theorem HAt.settled {w w' : World} {g gd n cc : Nat} {S : Nat → Bk} {k jo id : Int} {l : List Hw} {sent : List Int} {m : Lay} {Fd : Nat → Prop} (h : HAt w g gd n S cc k jo id l sent m Fd) {u : Int} (hk : Kept w w' (fun b => b = m.gw ∨ b = m.gu)) {kw ku : List Int}
    (h1 : PMap w' m.gw cc kw m.wp) (hw : ∀ x, x ∈ kw ↔ x ∈ nums l ∧ ∀ y ∈ ofU l u, y.num ≠ x) (h2 : PMap w' m.gu cc ku m.up) (hu : ∀ x, x ∈ ku ↔ x ∈ units l ∧ x ≠ u) :
    HAt w' g gd n S cc k jo id (lessU l [u]) (sent.filter fun v => v != u) m Fd :=
  have hne : ∀ {b : Nat} {cs t fr}, w.heap[b]? = some (.cells cs t fr) → ¬ (b = m.gw ∨ b = m.gu) := fun e q => by
    rcases q with q | q
    · exact h.wmap.not_cells e q
    · exact h.umap.not_cells e q
  have hl : ∀ {x : Hw}, x ∈ lessU l [u] → x ∈ l := fun hx => (mem_lessU.1 hx).1
  { head := by rw [hk.block g h.glt (hne h.head)]; exact h.head
    disk := h.disk.keep hk fun b q1 q2 => by
      rcases q2 with rfl | rfl
      · exact h.gwd q1
      · exact h.gud q1
    wmap := h1.congr (fun x => by
      rw [hw x]
      constructor
      · intro hx
        obtain ⟨y, hy, e⟩ := mem_nums.1 hx
        obtain ⟨q1, q2⟩ := mem_lessU.1 hy
        exact ⟨mem_nums.2 ⟨y, q1, e⟩, fun z hz e2 => q2 (by
          obtain ⟨f1, f2⟩ := mem_ofU.1 hz
          rw [h.ok.asc.inj q1 f1 (by rw [e, e2]), f2]; simp)⟩
      · rintro ⟨hx, hn⟩
        obtain ⟨y, hy, e⟩ := mem_nums.1 hx
        exact mem_nums.2 ⟨y, mem_lessU.2 ⟨hy, fun q => hn y (mem_ofU.2 ⟨hy, by simpa using q⟩) e⟩, e⟩) (fun _ _ => rfl)
    umap := h2.congr (fun x => by rw [hu x, units_less h.ok]) (fun _ _ => rfl)
    ws := fun x hx => by rw [hk.block _ (Array.getElem?_eq_some_iff.1 (h.ws x (hl hx))).1 (hne (h.ws x (hl hx)))]; exact h.ws x (hl hx)
    ahs := fun x hx => hk.row (h.ahs x (hl hx)) fun b hb q => by
      obtain ⟨cs, e⟩ := h.ah_own (hl hx) ((own_eq _ _ _).symm.trans hb)
      exact hne e q
    us := fun v hv => by
      obtain ⟨q1, q2⟩ := (units_less h.ok).1 hv
      rw [hk.block _ (Array.getElem?_eq_some_iff.1 (h.us v q1)).1 (hne (h.us v q1)), h.us v q1, ofU_less q2, ubl_less h.ok q1 q2]
      have : (sent.filter fun v => v != u).contains v = sent.contains v := by
        rw [Bool.eq_iff_iff]; simp [q2]
      rw [this]
    ups := fun v hv => by
      obtain ⟨q1, q2⟩ := (units_less h.ok).1 hv
      rw [ofU_less q2]
      exact hk.row (h.ups v q1) fun b hb q => by
        obtain ⟨cs, e⟩ := h.row_typed q1 ((own_eq _ _ _).symm.trans hb)
        exact hne e q
    ok := h.ok.less _, sok := h.sok.less u, right := fun x hx => h.right x (hl hx), blk := fun x hx => h.blk x (hl hx), lo := h.lo.less _, ah0 := fun x hx => h.ah0 x (hl hx), k0 := h.k0, few := Nat.le_trans (List.length_filter_le _ _) h.few, maps := h.maps, gwd := h.gwd, gud := h.gud }
set_option maxRecDepth 100000 in
set_option maxHeartbeats 2000000 in
theorem settle_any {w : World} {g gd n cc : Nat} {S : Nat → Bk} {k jo id : Int} {l : List Hw} {sent : List Int} {m : Lay} {Fd : Nat → Prop} (h : HAt w g gd n S cc k jo id l sent m Fd) (hk : k ≤ 1000000) {u : Int} (hu : u ∈ units l) {r cnt : Nat} {D : DataW Value} {left : Lit → Bool} (hr : w.ranges Try.prog 3 RV m.gu r cc D left cnt)
    (m2 : ∀ x : Int, Maps.has D (.int .i64 x) = true ↔ x ∈ units l) (m3 : ∀ x ∈ units l, ∀ z, D.atKey (.int .i64 x) z = .held (ptr (m.up x))) :
    Calls Try.prog 44 #[.pointer (some ⟨g, 0, none⟩), .pointer (some ⟨m.up u, 0, none⟩)] w fun e w' => e = .returned (.tuple #[]) ∧ HAt w' g gd n S cc k jo id (lessU l [u]) (sent.filter fun v => v != u) m Fd ∧ Kept w w' (fun b => b = m.gw ∨ b = m.gu) ∧
      ∃ cnt', cnt' ≤ cnt ∧ w'.ranges Try.prog 3 RV m.gu r cc (D.del (.int .i64 u)) (fun z => left z && !z.sameKey (.int .i64 u)) cnt' := by
  have hwf : ∀ x ∈ l, WfI x.num := fun x hx => by have := h.lo x hx; unfold WfI; omega
  have hwu : WfI u := by obtain ⟨x, hx, e, _⟩ := mem_units.1 hu; rw [← e]; exact hwf x hx
  have hrne : r ≠ m.gw := fun e => by
    obtain ⟨es, clock, since, seen, c0, hb, _, _, _, hr, _⟩ := hr
    obtain ⟨es2, cl, q⟩ := h.wmap.isMap
    rw [e, q] at hr; cases hr
  have hge := h.glt
  have hub := h.us u hu
  have hbl := (Array.getElem?_eq_some_iff.1 hub).1
  have hcell : ∀ {b j : Nat} {W : World} {cs t fr v}, w.heap[b]? = some (.cells cs t fr) → Kept w W (fun q => q = m.gw ∨ q = m.gu) → w.cell? ⟨b, j, none⟩ = v → W.cell? ⟨b, j, none⟩ = v := fun {b j W cs t fr v} hb hK e => (World.cell?_of_block (hK.block b (Array.getElem?_eq_some_iff.1 hb).1 (fun q => by
    rcases q with q | q
    · exact h.wmap.not_cells hb q
    · exact h.umap.not_cells hb q))).trans e
  have HCell : Hid (∀ W, Kept w W (fun q => q = m.gw ∨ q = m.gu) → W.cell? ⟨g, 4, none⟩ = some (.map (some m.gw)) ∧ W.cell? ⟨g, 5, none⟩ = some (.map (some m.gu)) ∧ W.cell? ⟨m.up u, 0, none⟩ = some (.int .i64 u) ∧ (∀ x ∈ l, W.cell? ⟨m.wp x.num, 0, none⟩ = some (.int .i64 x.num)) ∧
      W.ownsRow 0 82 1 (.slice (m.UA u) (ofU l u).length (m.UC u)) (ofU l u).length ((ofU l u).map fun x => ptr (m.wp x.num))) := fun W hW =>
    ⟨hcell h.head hW h.c4, hcell h.head hW h.c5, hcell hub hW (cell_of_row w _ 0 _ 62 (0, 0) hub), fun x hx => hcell (h.ws x hx) hW (cell_of_row w _ 0 _ 84 (0, 0) (h.ws x hx)), hW.row (h.ups u hu) fun b hb q => by
      obtain ⟨cs, e⟩ := h.row_typed hu ((own_eq _ _ _).symm.trans hb)
      rcases q with q | q
      · exact h.wmap.not_cells e q
      · exact h.umap.not_cells e q⟩
  have u2 := cell_of_row w _ 2 _ 62 (0, 0) hub
  simp only [ucs] at u2
  have hofl : (ofU l u).length ≤ 200 := Nat.le_trans (List.length_filter_le _ _) h.few
  obtain ⟨L, hL⟩ : ∃ L, L = ofU l u := ⟨_, rfl⟩
  have HLL := Lib.hid hL
  have HLm : Hid (∀ x ∈ L, x ∈ l) := fun x hx => by rw [hL] at hx; exact (mem_ofU.1 hx).1
  rw [← hL] at HCell u2 hofl
  have HE := Lib.hid h
  have HR := Lib.hid hr
  have HM2 := Lib.hid m2
  have HM3 := Lib.hid m3
  have HWf := Lib.hid hwf
  have HWu := Lib.hid hwu
  have Hu := Lib.hid hu
  have hbu := hbl
  clear h hr m2 m3 hwf hwu hcell hub hL hu hk
  go_enter Try.func44, Try.ntmps44
  go_wp2
  go_loopw [11] (fun q wr => ∃ (j : Nat) (ks : List Int), j ≤ L.length ∧ q = .int .i64 j ∧ Hid (PMap wr m.gw cc ks m.wp) ∧ Hid (∀ x, x ∈ ks ↔ x ∈ nums l ∧ ∀ y ∈ L.take j, y.num ≠ x) ∧ Hid (w.grownBy wr (some m.gw)) ∧ wr.heap.size = w.heap.size) (fun q _ => L.length - (intOf q).toNat)
  case atStart => exact ⟨0, nums l, Nat.zero_le _, rfl, HE.out.wmap, fun x => by simp, ⟨rfl, rfl, rfl, Nat.le_refl _, fun _ _ _ => rfl⟩, rfl⟩
  case round =>
    obtain ⟨j, ks, hj, rfl, HP, HKs, HG, hsz⟩ := hrel
    have HK : Hid (Kept w wr (fun q => q = m.gw ∨ q = m.gu)) := Kept.grown HG.out (fun b e => by cases e; exact .inl (.inl rfl))
    by_cases hlt : j < L.length
    · have hlti : (j : Int) < (L.length : Int) := by omega
      have hj0 : (0 : Int) ≤ (j : Int) := by omega
      obtain ⟨x, hx⟩ : ∃ x, x = L[j] := ⟨_, rfl⟩
      have hxl : x ∈ l := HLm.out x (by rw [hx]; exact List.getElem_mem hlt)
      have htk : L.take (j + 1) = L.take j ++ [x] := by rw [hx]; exact List.take_succ_eq_append_getElem hlt
      have Htk := Lib.hid htk
      obtain ⟨ab, hA, h3, h4, hab, hcs, _⟩ := ptr_at (HCell.out wr HK.out).2.2.2.2 hlt
      rw [List.getElem?_map, List.getElem?_eq_getElem hlt, ← hx] at hcs
      simp only [Option.map_some, ptr] at hcs
      unfold maxLen at h4
      have hwl : m.wp x.num < wr.heap.size := by rw [hsz]; exact (Array.getElem?_eq_some_iff.1 (HE.out.ws x hxl)).1
      have X0 : Hid (wr.drew.cell? ⟨g, 4, none⟩ = some (.map (some m.gw)) ∧ wr.drew.cell? ⟨m.wp x.num, 0, none⟩ = some (.int .i64 x.num)) := ⟨(HCell.out wr HK.out).1, (HCell.out wr HK.out).2.2.2.1 x hxl⟩
      have HX5 : Hid (∀ w5, wr.drew.mapTurned w5 m.gw → w5.cell? ⟨g, 4, none⟩ = some (.map (some m.gw)) ∧ w5.cell? ⟨m.wp x.num, 0, none⟩ = some (.int .i64 x.num)) := fun w5 ht => by
        have hK5 : Kept w w5 (fun q => q = m.gw ∨ q = m.gu) := (HK.out.trans (Kept.fresh (S := fun _ => False) ((Below.refl _ _).drew)) (fun _ q => q.elim)).trans (Kept.grown (S := fun q => q = m.gw) ht.grown (fun b e => by cases e; exact .inl rfl)) (fun b q => .inl (.inl q))
        exact ⟨(HCell.out w5 hK5).1, (HCell.out w5 hK5).2.2.2.1 x hxl⟩
      have hg1 : g < wr.heap.size := by rw [hsz]; exact hge
      clear hx htk
      rw [hA] at u2 ⊢
      go_wp2
      refine wp_region_held_drew (S := (fun W => W.cell? ⟨g, 4, none⟩ = some (.map (some m.gw)) ∧ W.cell? ⟨m.wp x.num, 0, none⟩ = some (.int .i64 x.num))) (by kernel_rfl) (X0.out) (fun hHeld => ?_)
      refine takeH (i := 0) (some 15) (v := ?_) rfl rfl (by kernel_rfl) (by kernel_rfl) (by kernel_rfl) (fun _ _ _ h => h) (by rfl) ?_ (by assumption) ?_
      rotate_left
      · (intro w hSw; (try dsimp only at hSw); go_simp; try with_reducible rfl)
      simp only [Act.put, List.setIfInBounds_toArray, List.set_cons_zero, List.set_cons_succ]
      refine takeH (i := 1) (some 16) (v := ?_) rfl rfl (by kernel_rfl) (by kernel_rfl) (by kernel_rfl) (fun _ _ _ h => h) (by rfl) ?_ (by assumption) ?_
      rotate_left
      · (intro w hSw; (try dsimp only at hSw); go_simp; try with_reducible rfl)
      simp only [Act.put, List.setIfInBounds_toArray, List.set_cons_zero, List.set_cons_succ]
      refine takeH (i := 2) (some 17) (v := ?_) rfl rfl (by kernel_rfl) (by kernel_rfl) (by kernel_rfl) (fun _ _ _ h => h) (by rfl) ?_ (by assumption) ?_
      rotate_left
      · (intro w hSw; (try dsimp only at hSw); go_simp; try with_reducible rfl)
      simp only [Act.put, List.setIfInBounds_toArray, List.set_cons_zero, List.set_cons_succ]
      refine takeH (i := 3) (some 18) (v := ?_) rfl rfl (by kernel_rfl) (by kernel_rfl) (by kernel_rfl) (fun _ _ _ h => h) (by rfl) ?_ (by assumption) ?_
      rotate_left
      · (intro w hSw; (try dsimp only at hSw); go_simp; try with_reducible rfl)
      simp only [Act.put, List.setIfInBounds_toArray, List.set_cons_zero, List.set_cons_succ]
      refine takeH (i := 4) (some 19) (v := ?_) rfl rfl (by kernel_rfl) (by kernel_rfl) (by kernel_rfl) (fun _ _ _ h => h) (by rfl) ?_ (by assumption) ?_
      rotate_left
      · (intro w hSw; (try dsimp only at hSw); go_simp; try with_reducible rfl)
      simp only [Act.put, List.setIfInBounds_toArray, List.set_cons_zero, List.set_cons_succ]
      refine takeH (i := 5) (some 20) (v := ?_) rfl rfl (by kernel_rfl) (by kernel_rfl) (by kernel_rfl) (fun _ _ _ h => h) (by rfl) ?_ (by assumption) ?_
      rotate_left
      · (intro w hSw; (try dsimp only at hSw); go_simp; try with_reducible rfl)
      simp only [Act.put, List.setIfInBounds_toArray, List.set_cons_zero, List.set_cons_succ]
      refine takeH (i := 6) (some 21) (v := ?_) rfl rfl (by kernel_rfl) (by kernel_rfl) (by kernel_rfl) (fun _ _ _ h => h) (by rfl) ?_ (by assumption) ?_
      rotate_left
      · (intro w hSw; (try dsimp only at hSw); go_simp; try with_reducible rfl)
      simp only [Act.put, List.setIfInBounds_toArray, List.set_cons_zero, List.set_cons_succ]
      refine takeH (i := 7) (some 22) (v := ?_) rfl rfl (by kernel_rfl) (by kernel_rfl) (by kernel_rfl) (fun _ _ _ h => h) (by rfl) ?_ (by assumption) ?_
      rotate_left
      · (intro w hSw; (try dsimp only at hSw); go_simp; try with_reducible rfl)
      simp only [Act.put, List.setIfInBounds_toArray, List.set_cons_zero, List.set_cons_succ]
      refine wpAnyH_ready (rs := [8]) (by kernel_rfl) (by simp) ?_
      refine AllReadyH.cons rfl (fun K hK => ?_) AllReadyH.nil
      refine step_of rfl (wp_delete_ptr (.tmp 18) (.tmp 22) 42 82 rfl Try.underlying42 (HP.out.drew) rfl (HWf.out _ hxl) rfl ?_)
      intro w5 hp5 ht5
      have HP5 := Lib.hid hp5
      have HT5 := Lib.hid ht5
      clear hp5 ht5
      simp only [Act.put, List.setIfInBounds_toArray, List.set_cons_zero, List.set_cons_succ]
      refine hK _ _ (HX5.out w5 HT5.out) (fun hHeld => ?_)
      clear hK K
      try simp only [Act.put, List.setIfInBounds_toArray, List.set_cons_zero, List.set_cons_succ]
      try simp only [List.getElem_toArray, List.getElem_cons_zero, List.getElem_cons_succ, Act.put, List.setIfInBounds_toArray, List.set_cons_zero, List.set_cons_succ]
      refine wpAnyH_done (by kernel_rfl) ?_ _
      go_wp2
      go_roundw
      case rel =>
        have hgr := HT5.out.grown
        refine ⟨j + 1, _, hlt, rfl, HP5.out, fun y => ?_, ⟨hgr.os.trans HG.out.os, hgr.tape.trans HG.out.tape, hgr.output.trans HG.out.output, Nat.le_trans HG.out.size hgr.size, fun i hi hne => (hgr.block i (Nat.lt_of_lt_of_le hi HG.out.size) hne).trans (HG.out.block i hi hne)⟩, ?_⟩
        · rw [List.mem_filter, HKs.out y, Htk.out]
          simp only [List.mem_append, List.mem_singleton]
          constructor
          · rintro ⟨⟨q1, q2⟩, q3⟩
            refine ⟨q1, fun z hz => ?_⟩
            rcases hz with hz | rfl
            · exact q2 z hz
            · intro e; simp [e] at q3
          · rintro ⟨q1, q2⟩
            exact ⟨⟨q1, fun z hz => q2 z (.inl hz)⟩, by simpa using fun e => q2 x (.inr rfl) e.symm⟩
        · obtain ⟨es, clock, es', clock', hb, rfl⟩ := HT5.out
          simpa [ChangeMaps.setBlock] using hsz
      case measure => simp [intOf]; omega
    · obtain rfl : j = L.length := by omega
      have hlti : ¬ (L.length : Int) < (L.length : Int) := by omega
      have hg1 : g < wr.heap.size := by rw [hsz]; exact hge
      have hu1 : m.up u < wr.heap.size := by rw [hsz]; exact hbu
      have X0 : Hid (wr.drew.cell? ⟨g, 5, none⟩ = some (.map (some m.gu)) ∧ wr.drew.cell? ⟨m.up u, 0, none⟩ = some (.int .i64 u)) := ⟨(HCell.out wr HK.out).2.1, (HCell.out wr HK.out).2.2.1⟩
      have HK5 : Hid (∀ w5, wr.drew.mapTurned w5 m.gu → Kept w w5 (fun q => q = m.gw ∨ q = m.gu)) := fun w5 ht => 
        (HK.out.trans (Kept.fresh (S := fun _ => False) ((Below.refl _ _).drew)) (fun _ q => q.elim)).trans (Kept.grown (S := fun q => q = m.gu) ht.grown (fun b e => by cases e; exact .inl rfl)) (fun b q => .inl (.inr q))
      have HX5 : Hid (∀ w5, wr.drew.mapTurned w5 m.gu → w5.cell? ⟨g, 5, none⟩ = some (.map (some m.gu)) ∧ w5.cell? ⟨m.up u, 0, none⟩ = some (.int .i64 u)) := fun w5 ht => ⟨(HCell.out w5 (HK5.out w5 ht)).2.1, (HCell.out w5 (HK5.out w5 ht)).2.2.1⟩
      have HRg : Hid (wr.drew.ranges Try.prog 3 RV m.gu r cc D left cnt) := (HR.out.kept (w' := wr.drew) (row := some m.gw) ⟨HG.out.os, HG.out.tape, HG.out.output, HG.out.size, HG.out.block⟩ (fun e => HE.out.maps (Option.some.inj e).symm) (fun e => hrne (Option.some.inj e)))
      go_wp2
      refine wp_region_held_drew (S := (fun W => W.cell? ⟨g, 5, none⟩ = some (.map (some m.gu)) ∧ W.cell? ⟨m.up u, 0, none⟩ = some (.int .i64 u))) (by kernel_rfl) (X0.out) (fun hHeld => ?_)
      refine takeH (i := 0) (some 24) (v := ?_) rfl rfl (by kernel_rfl) (by kernel_rfl) (by kernel_rfl) (fun _ _ _ h => h) (by rfl) ?_ (by assumption) ?_
      rotate_left
      · (intro w hSw; (try dsimp only at hSw); go_simp; try with_reducible rfl)
      simp only [Act.put, List.setIfInBounds_toArray, List.set_cons_zero, List.set_cons_succ]
      refine takeH (i := 1) (some 25) (v := ?_) rfl rfl (by kernel_rfl) (by kernel_rfl) (by kernel_rfl) (fun _ _ _ h => h) (by rfl) ?_ (by assumption) ?_
      rotate_left
      · (intro w hSw; (try dsimp only at hSw); go_simp; try with_reducible rfl)
      simp only [Act.put, List.setIfInBounds_toArray, List.set_cons_zero, List.set_cons_succ]
      refine takeH (i := 2) (some 26) (v := ?_) rfl rfl (by kernel_rfl) (by kernel_rfl) (by kernel_rfl) (fun _ _ _ h => h) (by rfl) ?_ (by assumption) ?_
      rotate_left
      · (intro w hSw; (try dsimp only at hSw); go_simp; try with_reducible rfl)
      simp only [Act.put, List.setIfInBounds_toArray, List.set_cons_zero, List.set_cons_succ]
      refine takeH (i := 3) (some 27) (v := ?_) rfl rfl (by kernel_rfl) (by kernel_rfl) (by kernel_rfl) (fun _ _ _ h => h) (by rfl) ?_ (by assumption) ?_
      rotate_left
      · (intro w hSw; (try dsimp only at hSw); go_simp; try with_reducible rfl)
      simp only [Act.put, List.setIfInBounds_toArray, List.set_cons_zero, List.set_cons_succ]
      refine takeH (i := 4) (some 28) (v := ?_) rfl rfl (by kernel_rfl) (by kernel_rfl) (by kernel_rfl) (fun _ _ _ h => h) (by rfl) ?_ (by assumption) ?_
      rotate_left
      · (intro w hSw; (try dsimp only at hSw); go_simp; try with_reducible rfl)
      simp only [Act.put, List.setIfInBounds_toArray, List.set_cons_zero, List.set_cons_succ]
      refine takeH (i := 5) (some 29) (v := ?_) rfl rfl (by kernel_rfl) (by kernel_rfl) (by kernel_rfl) (fun _ _ _ h => h) (by rfl) ?_ (by assumption) ?_
      rotate_left
      · (intro w hSw; (try dsimp only at hSw); go_simp; try with_reducible rfl)
      simp only [Act.put, List.setIfInBounds_toArray, List.set_cons_zero, List.set_cons_succ]
      refine takeH (i := 6) (some 30) (v := ?_) rfl rfl (by kernel_rfl) (by kernel_rfl) (by kernel_rfl) (fun _ _ _ h => h) (by rfl) ?_ (by assumption) ?_
      rotate_left
      · (intro w hSw; (try dsimp only at hSw); go_simp; try with_reducible rfl)
      simp only [Act.put, List.setIfInBounds_toArray, List.set_cons_zero, List.set_cons_succ]
      refine takeH (i := 7) (some 31) (v := ?_) rfl rfl (by kernel_rfl) (by kernel_rfl) (by kernel_rfl) (fun _ _ _ h => h) (by rfl) ?_ (by assumption) ?_
      rotate_left
      · (intro w hSw; (try dsimp only at hSw); go_simp; try with_reducible rfl)
      simp only [Act.put, List.setIfInBounds_toArray, List.set_cons_zero, List.set_cons_succ]
      refine wpAnyH_ready (rs := [8]) (by kernel_rfl) (by simp) ?_
      refine AllReadyH.cons rfl (fun K hK => ?_) AllReadyH.nil
      refine step_of rfl (wp_delete_ranges (.tmp 27) (.tmp 31) 43 59 rfl Try.underlying43 HRg.out rfl HWu.out rfl ?_)
      intro w5 cnt5 hr5 hc5 ht5
      have HR5 := Lib.hid hr5
      have HT5 := Lib.hid ht5
      have HC5 := Lib.hid hc5
      clear hr5 ht5 hc5
      simp only [Act.put, List.setIfInBounds_toArray, List.set_cons_zero, List.set_cons_succ]
      refine hK _ _ (HX5.out w5 HT5.out) (fun hHeld => ?_)
      clear hK K
      try simp only [Act.put, List.setIfInBounds_toArray, List.set_cons_zero, List.set_cons_succ]
      try simp only [List.getElem_toArray, List.getElem_cons_zero, List.getElem_cons_succ, Act.put, List.setIfInBounds_toArray, List.set_cons_zero, List.set_cons_succ]
      refine wpAnyH_done (by kernel_rfl) ?_ _
      go_wp2
      refine bodyPost_end (results_none rfl _ _ _) rfl ?_
      refine ⟨rfl, HE.out.settled (HK5.out w5 HT5.out) (HP.out.drew.keep (S := fun q => q = m.gu) (Kept.grown HT5.out.grown (fun b e => by cases e; exact .inl rfl)) (HE.out.maps)) (fun x => by rw [HKs.out x, List.take_length, HLL.out]) (PMap.del HM2.out HM3.out HR5.out.owns) (fun x => by rw [List.mem_filter]; simp), HK5.out w5 HT5.out, cnt5, HC5.out, HR5.out⟩
theorem lessU_lessU (l : List Hw) (T : List Int) (u : Int) : lessU (lessU l T) [u] = lessU l (T ++ [u]) := by
  unfold lessU
  rw [List.filter_filter]
  refine List.filter_congr fun y _ => ?_
  rw [Bool.eq_iff_iff]
  simp
  exact and_comm
theorem sent_sent (sent T : List Int) (u : Int) : ((sent.filter fun v => !T.contains v).filter fun v => v != u) = sent.filter fun v => !(T ++ [u]).contains v := by
  rw [List.filter_filter]
  refine List.filter_congr fun y _ => ?_
  rw [Bool.eq_iff_iff]
  simp
  exact and_comm
/-- a Flush under way: the units T were let last -/
def FlH (w wr : World) (g gd n cc : Nat) (S : Nat → Bk) (k jo id : Int) (l : List Hw) (sent : List Int) (m : Lay) (Fd : Nat → Prop) (r : Nat) (left : Lit → Bool) (cnt : Nat) (T : List Int) (D : DataW Value) : Prop :=
  wr.ranges Try.prog 3 RV m.gu r cc D left cnt ∧ (∀ x : Int, Maps.has D (.int .i64 x) = true ↔ x ∈ units (lessU l T)) ∧ (∀ x ∈ units (lessU l T), ∀ z, D.atKey (.int .i64 x) z = .held (ptr (m.up x))) ∧
    HAt wr g gd n S cc k jo id (lessU l T) (sent.filter fun v => !T.contains v) m Fd ∧ Kept w wr (fun b => b = m.gw ∨ b = m.gu) ∧ (∀ u ∈ T, u ∈ sent) ∧ (∀ x : Int, left (.int .i64 x) = true → x ∈ units (lessU l T)) ∧ (∀ u ∈ sent, u ∈ T ∨ left (.int .i64 u) = true) ∧ w.heap.size ≤ r
theorem HAt.iter {w w1 : World} {g gd n cc : Nat} {S : Nat → Bk} {k jo id : Int} {l : List Hw} {sent : List Int} {m : Lay} {Fd : Nat → Prop} (h4 : HAt w g gd n S cc k jo id l sent m Fd) {mb r c cnt : Nat} {D : DataW Value} {left : Lit → Bool}
    (h1 : w.ranges Try.prog 3 RV mb r c D left cnt) (hg : w.grownBy w1 (some r)) : HAt w1 g gd n S cc k jo id l sent m Fd := by
  refine h4.keep (G := fun b => b = r) (Kept.grown hg (fun b e => by cases e; exact .inl rfl)) (fun b q e => ?_) (fun b e cs fr => ?_)
  · subst e
    obtain ⟨es, clock, since, seen, c0, _, _, _, _, e, _⟩ := h1
    rcases q with rfl | rfl | rfl | ⟨u, hu, rfl | q⟩ | q
    · rw [h4.head] at e; cases e
    · obtain ⟨es2, cl, e2⟩ := h4.wmap.isMap; rw [e2] at e; cases e
    · obtain ⟨es2, cl, e2⟩ := h4.umap.isMap; rw [e2] at e; cases e
    · rw [h4.us u hu] at e; cases e
    · obtain ⟨cs, e2⟩ := h4.row_typed hu q; rw [e2] at e; cases e
    · rcases Code.kindsH h4.disk b q with ⟨cs, t, fr, e2, _⟩ | ⟨es2, cl, e2⟩
      · rw [e2] at e; cases e
      · rw [e2] at e; cases e
  · subst e
    obtain ⟨es, clock, since, seen, c0, _, _, _, _, e, _⟩ := h1
    rw [e]; simp
theorem FlH.next {w wr w1 : World} {g gd n cc : Nat} {S : Nat → Bk} {k jo id : Int} {l : List Hw} {sent : List Int} {m : Lay} {Fd : Nat → Prop} {r : Nat} {left : Lit → Bool} {cnt cnt1 : Nat} {T : List Int} {D : DataW Value}
    (h : FlH w wr g gd n cc S k jo id l sent m Fd r left cnt T D) {x : Int} (hr : w1.ranges Try.prog 3 RV m.gu r cc D (fun z => left z && !z.sameKey (.int .i64 x)) cnt1) (hg : wr.grownBy w1 (some r)) (hx : x ∉ sent) :
    FlH w w1 g gd n cc S k jo id l sent m Fd r (fun z => left z && !z.sameKey (.int .i64 x)) cnt1 T D := by
  obtain ⟨h1, h2, h3, h4, h5, h6, h7, h8, h9⟩ := h
  exact ⟨hr, h2, h3, h4.iter h1 hg, h5.trans (Kept.grown (S := fun b => b = r) hg (fun b e => by cases e; exact .inl rfl)) (fun b e => by subst e; exact .inr h9), h6, fun y hy => h7 y (by simp only [Bool.and_eq_true] at hy; exact hy.1), fun u hu => (h8 u hu).imp (fun q => q) (fun q => by rw [strike_other left (fun e : u = x => hx (e ▸ hu))]; exact q), h9⟩
theorem FlH.gone {w wr w1 w2 : World} {g gd n cc : Nat} {S : Nat → Bk} {k jo id : Int} {l : List Hw} {sent : List Int} {m : Lay} {Fd : Nat → Prop} {r : Nat} {left : Lit → Bool} {cnt cnt2 : Nat} {T : List Int} {D : DataW Value}
    (h : FlH w wr g gd n cc S k jo id l sent m Fd r left cnt T D) {x : Int} (hx : x ∈ sent) (hg : wr.grownBy w1 (some r))
    (hE : HAt w2 g gd n S cc k jo id (lessU (lessU l T) [x]) ((sent.filter fun v => !T.contains v).filter fun v => v != x) m Fd) (hK : Kept w1 w2 (fun b => b = m.gw ∨ b = m.gu))
    (hr : w2.ranges Try.prog 3 RV m.gu r cc (D.del (.int .i64 x)) (fun z => (left z && !z.sameKey (.int .i64 x)) && !z.sameKey (.int .i64 x)) cnt2) :
    FlH w w2 g gd n cc S k jo id l sent m Fd r (fun z => (left z && !z.sameKey (.int .i64 x)) && !z.sameKey (.int .i64 x)) cnt2 (T ++ [x]) (D.del (.int .i64 x)) := by
  obtain ⟨h1, h2, h3, h4, h5, h6, h7, h8, h9⟩ := h
  have hun : ∀ y, y ∈ units (lessU l (T ++ [x])) ↔ y ∈ units (lessU l T) ∧ y ≠ x := fun y => by rw [← lessU_lessU]; exact units_less h4.ok
  have hlf : ∀ y : Int, y ≠ x → ((left (.int .i64 y) && !(Lit.int .i64 y).sameKey (.int .i64 x)) && !(Lit.int .i64 y).sameKey (.int .i64 x)) = left (.int .i64 y) := fun y hy => by
    have : (Lit.int .i64 y).sameKey (.int .i64 x) = false := Maps.sameKey_ne (ne_key hy)
    simp [this]
  refine ⟨hr, fun y => ?_, fun y hy z => ?_, by rw [← lessU_lessU, ← sent_sent]; exact hE, (h5.trans (Kept.grown (S := fun b => b = r) hg (fun b e => by cases e; exact .inl rfl)) (fun b e => by subst e; exact .inr h9)).trans hK (fun b q => .inl q), fun u hu => ?_, fun y hy => ?_, fun u hu => ?_, h9⟩
  · rw [has_del, hun, Bool.and_eq_true, h2 y]
    by_cases e : y = x
    · subst e; simp [Lit.sameKey]
    · rw [Maps.sameKey_ne (ne_key e)]; simp [e]
  · obtain ⟨q1, q2⟩ := (hun y).1 hy
    rw [Maps.atKey_del_other (ne_key q2)]
    exact h3 y q1 z
  · rcases List.mem_append.1 hu with q | q
    · exact h6 u q
    · rw [List.mem_singleton.1 q]; exact hx
  · by_cases e : y = x
    · subst e; simp [Lit.sameKey] at hy
    · dsimp only at hy
      rw [hlf y e] at hy
      exact (hun y).2 ⟨h7 y hy, e⟩
  · by_cases e : u = x
    · exact .inl (List.mem_append_right _ (by simp [e]))
    · dsimp only
      rw [hlf u e]
      exact (h8 u hu).imp (fun q => List.mem_append_left _ q) (fun q => q)
set_option maxRecDepth 100000 in
set_option maxHeartbeats 2000000 in
theorem hflush {w : World} {g n cc : Nat} {S : Nat → Bk} {k jo id : Int} {l : List Hw} {sent : List Int} {F : Nat → Prop} (h : Eng w g n S cc k jo id l sent F) (hcc : cc < 100000) (hk : k ≤ 1000000) :
    Calls Try.prog 23 #[.pointer (some ⟨g, 0, none⟩)] w fun e w' => e = .returned (.int .i64 0) ∧ Went w w' F (Eng w' g n (fun j => (S j).flushed) cc k jo id (lessU l sent) []) := by
  obtain ⟨gd, m, Fd, h, rfl⟩ := h
  have e0 := h.c0
  have hge := h.glt
  have HFl := Lib.hid (cflush h.disk hcc)
  have HE := Lib.hid h
  have Hk := Lib.hid hk
  clear h hk
  go_enter Try.func23, Try.ntmps23
  go_wp2_with (first
    | (go_at_call 12; refine HFl.out.mono ?_; rintro e w1 ⟨rfl, Fd1, hd1, hk1, hf1⟩; have HE1 : Hid (HAt w1 g gd n _ cc k jo id l sent m Fd1) := HE.out.disked (Nat.le_refl _) hk1 hf1 hd1; have HK1 := Lib.hid hk1; have HF1 := Lib.hid hf1; have g1 := HE1.out.c5; have g2 := HE1.out.glt; obtain ⟨D, hD1, hD2, hD3⟩ := HE1.out.umap; have HD := Lib.hid hD1; have HD2 := Lib.hid hD2; have HD3 := Lib.hid hD3; clear hd1 hk1 hf1 hD1 hD2 hD3 e0 hge)
    | (at_range; refine wpList_range_own _ rfl _ 43 rfl 3 59 lawI Try.underlying43 RV m.gu cc D rfl HD.out ?_; intro w2 hrg hg hs))
  try go_frame
  have HS : Hid (FlH w1 w2 g gd n cc (fun j => (S j).flushed) k jo id l sent m Fd1 w1.heap.size (Maps.has D) (Maps.size D) [] D) := by
    have hB : Below w1.heap.size w1 w2 := (Below.refl _ _).grown hg (Nat.le_refl _) (fun _ q => by cases q)
    have hE2 := HE1.out.fresh hB
    have e1 : lessU l [] = l := by unfold lessU; simp
    have e2 : (sent.filter fun v => !([] : List Int).contains v) = sent := by simp
    refine ⟨hrg, by rw [e1]; exact HD2.out, by rw [e1]; exact HD3.out, by rw [e1, e2]; exact hE2, Kept.fresh hB, by simp, fun x hx => by rw [e1]; exact (HD2.out x).1 hx, fun u hu => .inr ((HD2.out u).2 ?_), Nat.le_refl _⟩
    obtain ⟨x, hx, q1, q2⟩ := HE1.out.sok.is u hu
    exact mem_units.2 ⟨x, hx, q1, q2⟩
  have hg0 : g < w2.heap.size := by have := hg.size; omega
  clear hrg hg hs g1
  go_loopw [] (fun wr => ∃ (left : Lit → Bool) (cnt : Nat) (T : List Int) (D' : DataW Value), FlH w1 wr g gd n cc (fun j => (S j).flushed) k jo id l sent m Fd1 w1.heap.size left cnt T D') (fun wr => wr.rangeLeft m.gu w1.heap.size)
  case atStart => exact ⟨_, _, _, _, HS.out⟩
  case round =>
    obtain ⟨left, cnt, T, D', hF⟩ := hrel
    have HF := Lib.hid hF
    obtain ⟨h1, h2, h3, h4, h5, h6, h7, h8, h9⟩ := hF
    have Hr := Lib.hid h1
    have H7 := Lib.hid h7
    have H3 := Lib.hid h3
    have HL := Lib.hid h1.left_eq
    clear h1 h2 h3 h4 h5 h6 h7 h8 h9
    go_wp2_with (at_next; refine wpList_next_ptr rfl _ rfl 3 lawI Try.underlying3 m.gu w1.heap.size cc D' left cnt rfl Hr.out (units (lessU l T)) m.up H7.out H3.out ?_ ?_)
    · intro hc0 hl0
      go_wp2
      go_ret
      obtain ⟨h1, h2, h3, h4, h5, h6, h7, h8, h9⟩ := HF.out
      have hT : ∀ u, u ∈ T ↔ u ∈ sent := fun u => ⟨h6 u, fun q => (h8 u q).resolve_right (by rw [hl0]; simp)⟩
      have hc : ∀ u, T.contains u = sent.contains u := fun u => by rw [Bool.eq_iff_iff]; simp [hT]
      have e1 : lessU l T = lessU l sent := by unfold lessU; exact List.filter_congr fun y _ => by rw [hc]
      have e2 : (sent.filter fun v => !T.contains v) = [] := by
        rw [List.filter_eq_nil_iff]; intro v hv; rw [hc]; simpa using hv
      rw [e1, e2] at h4
      refine ⟨rfl, footH g (lessU l sent) m Fd1, ⟨gd, m, Fd1, h4, rfl⟩, (HK1.out.more (S' := footH g l m Fd) (fun b q => .inl (.inr (.inr (.inr (.inr q)))))).trans h5 (fun b q => .inl (q.elim (fun e => .inr (.inl e)) (fun e => .inr (.inr (.inl e))))), fun b q => ?_⟩
      rcases q with q | q | q | ⟨u, hu, q⟩ | q
      · exact .inl (.inl q)
      · exact .inl (.inr (.inl q))
      · exact .inl (.inr (.inr (.inl q)))
      · obtain ⟨y, hy, f1, f2⟩ := mem_units.1 hu
        exact .inl (.inr (.inr (.inr (.inl ⟨u, mem_units.2 ⟨y, (mem_lessU.1 hy).1, f1, f2⟩, q⟩))))
      · exact (HF1.out b q).imp (fun q => .inr (.inr (.inr (.inr q)))) (fun q => q)
    · intro x w3 cnt3 hx hlx hrg3 hlt hg3 hs3 hen
      have hE3 : HAt w3 g gd n (fun j => (S j).flushed) cc k jo id (lessU l T) (sent.filter fun v => !T.contains v) m Fd1 := HF.out.2.2.2.1.iter Hr.out hg3
      have hb := hE3.us x hx
      have hbl := (Array.getElem?_eq_some_iff.1 hb).1
      have u3 := cell_of_row w3 _ 3 _ 62 (0, 0) hb
      simp only [ucs] at u3
      have hg4 := hE3.glt
      have hxT : x ∉ T := by
        obtain ⟨y, hy, f1, f2⟩ := mem_units.1 hx
        rw [← f2]; exact (mem_lessU.1 hy).2
      have HLt := Lib.hid hlt
      have Hrg3 := Lib.hid hrg3
      have Hg3 := Lib.hid hg3
      by_cases hxs : x ∈ sent
      · have hc : (sent.filter fun v => !T.contains v).contains x = true := by simp [hxs, hxT]
        simp only [hc] at u3
        have HSe := Lib.hid (settle_any hE3 Hk.out hx hrg3 HF.out.2.1 HF.out.2.2.1)
        have Hxs := Lib.hid hxs
        clear hE3 hb hc hlt hrg3 hg3 hxT hxs hlx hx
        go_wp2_with (go_at_call 44; refine HSe.out.mono ?_; rintro e w5 ⟨rfl, hE5, hK5, cnt5, hc5, hr5⟩; have HE5 := Lib.hid hE5; have HK5 := Lib.hid hK5; have HC5 := Lib.hid hc5; have HR5 := Lib.hid hr5; clear hE5 hK5 hc5 hr5)
        go_roundw
        case rel => exact ⟨_, _, _, _, HF.out.gone Hxs.out Hg3.out HE5.out HK5.out HR5.out⟩
        case measure => 
          have h1 := HR5.out.left_eq
          have h2 := HL.out
          have h3 := HC5.out
          have h4 := HLt.out
          omega
      · have hc : (sent.filter fun v => !T.contains v).contains x = false := by simp [hxs]
        simp only [hc] at u3
        have Hxs := Lib.hid hxs
        clear hE3 hb hc hlt hrg3 hg3 hxT hxs hlx hx
        go_wp2
        go_roundw
        case rel => exact ⟨_, _, _, _, HF.out.next Hrg3.out Hg3.out Hxs.out⟩
        case measure => 
          have h1 := Hrg3.out.left_eq
          have h2 := HL.out
          have h4 := HLt.out
          omega
end Go.Proofs.Ytkldiofleepkfaa.Hd
