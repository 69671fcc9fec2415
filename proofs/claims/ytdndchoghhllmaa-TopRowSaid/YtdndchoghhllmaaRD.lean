/- The document's Fork. -/
import Derived.Test.YtdndchoghhllmaaRC
import Derived.Deep.RegionHeld
set_option linter.unusedVariables false
set_option linter.unusedSimpArgs false
namespace Go.Proofs.Ytdndchoghhllmaa
open Go.RowKit
section
variable {P : Program} {ops : Array Oper} {Q : Exit → Act → World → Prop} {md : Region.Mode} {S : World → Prop}
/-- take one operation of a drawn region, the slot that it fills written out -/
theorem takeR {i : Nat} {oi : Oper} (d : Option Tmp) {v : Value} {fuel : Nat} {listed : Array Bool} {a : Act} {w : World} (hi : ops[i]? = some oi) (hd : oi.dst = d)
    (hs : Region.noSelect ops = true) (hf : Region.free md ops listed i = true) (hr : (Region.ready md ops listed).contains i = true)
    (hQ : ∀ c a w, Q (.panic c) (a.put d v) w → Q (.panic c) a w) (hw : Region.wanted oi (yielded ops a.tmps) = true) (hy : ∀ w, S w → (execOp a.eval oi).run P w = .ok (.value v) w) (hS : S w)
    (h : wpAnyH P md ops Q S fuel (listed.setIfInBounds i true) (a.put d v) w) : wpAnyH P md ops Q S (fuel + 1) listed a w := by
  subst hd
  exact wpAnyH_take hi hs hf hr hQ (Or.inl ⟨hw, hy⟩) hS h
end
theorem grn_set {L : List Gr} {j i : Nat} {q : Gr} (hj : j < L.length) : grn (L.set j q) i = if i = j then q else grn L i := by
  unfold grn
  rw [List.getD_eq_getElem?_getD, List.getD_eq_getElem?_getD, List.getElem?_set]
  by_cases h : j = i
  · subst h; simp [hj]
  · rw [if_neg h, if_neg (fun e => h e.symm)]
/-- a Fork of the document's under way: the first j1 have rows of patches of their own, the first j2 rows of groups ahead -/
structure FkR (w wr : World) (f : Nat) (A : Option Addr) (c : Nat) (G : List Gp) (L : List Gr) (k : Int) (j1 j2 : Nat) : Prop where
  at_ : RefAt 0 wr f A c L k
  gs : gs L = G
  bel : Below w.heap.size w wr
  own : ∀ b, OfR f A b → w.heap.size ≤ b
  ps : ∀ i, i < j1 → RowI wr w.heap.size (grn L i).pa (grn L i).pc (grn L i).g.p
  az : ∀ i, i < j2 → RowI wr w.heap.size (grn L i).aa (grn L i).ac (grn L i).g.a
namespace FkR
variable {w wr w4 : World} {f : Nat} {A A5 : Option Addr} {c c4 b : Nat} {G : List Gp} {L : List Gr} {k : Int} {j : Nat}
theorem len (h : FkR w wr f A c G L k j j) : L.length = G.length := by rw [← h.gs, length_gs]
theorem stepP (h : FkR w wr f A c G L k j j) (hA : A = some ⟨b, 0, none⟩) (hj : j < L.length) (hb : Below wr.heap.size wr w4) (hr : RowI w4 wr.heap.size A5 c4 (grn L j).g.p) :
    w4.cell? ⟨b, j * 4 + 2, none⟩ = some (.slice (grn L j).pa (grn L j).g.p.length (grn L j).pc) ∧ w4.frozen? ⟨b, j * 4 + 2, none⟩ = false ∧ b < w4.heap.size ∧
      FkR w (w4.setCell ⟨b, j * 4 + 2, none⟩ (.slice A5 (grn L j).g.p.length c4)) f A c G (L.set j ⟨(grn L j).g, A5, c4, (grn L j).aa, (grn L j).ac⟩) k (j + 1) j := by
  obtain ⟨y1, y2, y3, z1, z2⟩ := new_nums (q := ⟨(grn L j).g, A5, c4, (grn L j).aa, (grn L j).ac⟩) h.at_ hA hb hr hj (show 2 < 4 by omega) rfl (.inl ⟨rfl, rfl, rfl, (h.at_.nums _ (grn_mem hj)).2⟩) (Nat.zero_le _)
  have hni : ∀ x, OfR f A x → ¬ IntB wr x := h.at_.notInt
  have hbb : OfR f A b := .inr (by rw [hA]; rfl)
  refine ⟨y1, y2, y3, z1, ?_, h.bel.trans (z2.below h.own h.bel.size), h.own, fun i hi => ?_, fun i hi => ?_⟩
  · rw [gs_set, ← h.gs]
    show (_root_.Go.Proofs.Ytdndchoghhllmaa.gs L).set j (grn L j).g = _
    rw [← gs_at hj, List.set_getElem_self]
  · rw [grn_set hj]
    by_cases e : i = j
    · rw [if_pos e]
      refine ownBase (RowI.keep hr (Kept.set w4 b (j * 4 + 2) _) (fun x e2 e3 => ?_)) h.bel.size
      have h1 := (RowI.lt hr x e2).1
      have h2 := h.at_.lt _ hbb
      omega
    · rw [if_neg e]
      have hp := h.ps i (by omega)
      exact hp.keep z2 (fun x e2 e3 => hni x e3 (hp.isInt x e2))
  · rw [grn_set hj, if_neg (by omega)]
    have hp := h.az i hi
    exact hp.keep z2 (fun x e2 e3 => hni x e3 (hp.isInt x e2))
theorem stepA (h : FkR w wr f A c G L k (j + 1) j) (hA : A = some ⟨b, 0, none⟩) (hj : j < L.length) (hb : Below wr.heap.size wr w4) (hr : RowI w4 wr.heap.size A5 c4 (grn L j).g.a) :
    w4.cell? ⟨b, j * 4 + 3, none⟩ = some (.slice (grn L j).aa (grn L j).g.a.length (grn L j).ac) ∧ w4.frozen? ⟨b, j * 4 + 3, none⟩ = false ∧ b < w4.heap.size ∧
      FkR w (w4.setCell ⟨b, j * 4 + 3, none⟩ (.slice A5 (grn L j).g.a.length c4)) f A c G (L.set j ⟨(grn L j).g, (grn L j).pa, (grn L j).pc, A5, c4⟩) k (j + 1) (j + 1) := by
  obtain ⟨y1, y2, y3, z1, z2⟩ := new_nums (q := ⟨(grn L j).g, (grn L j).pa, (grn L j).pc, A5, c4⟩) h.at_ hA hb hr hj (show 3 < 4 by omega) rfl (.inr ⟨(h.at_.nums _ (grn_mem hj)).1, rfl, rfl, rfl⟩) (Nat.zero_le _)
  have hni : ∀ x, OfR f A x → ¬ IntB wr x := h.at_.notInt
  have hbb : OfR f A b := .inr (by rw [hA]; rfl)
  refine ⟨y1, y2, y3, z1, ?_, h.bel.trans (z2.below h.own h.bel.size), h.own, fun i hi => ?_, fun i hi => ?_⟩
  · rw [gs_set, ← h.gs]
    show (_root_.Go.Proofs.Ytdndchoghhllmaa.gs L).set j (grn L j).g = _
    rw [← gs_at hj, List.set_getElem_self]
  · have hp := h.ps i hi
    rw [grn_set hj]
    by_cases e : i = j
    · subst e
      rw [if_pos rfl]
      exact hp.keep z2 (fun x e2 e3 => hni x e3 (hp.isInt x e2))
    · rw [if_neg e]
      exact hp.keep z2 (fun x e2 e3 => hni x e3 (hp.isInt x e2))
  · rw [grn_set hj]
    by_cases e : i = j
    · rw [if_pos e]
      refine ownBase (RowI.keep hr (Kept.set w4 b (j * 4 + 3) _) (fun x e2 e3 => ?_)) h.bel.size
      have h1 := (RowI.lt hr x e2).1
      have h2 := h.at_.lt _ hbb
      omega
    · rw [if_neg e]
      have hp := h.az i (by omega)
      exact hp.keep z2 (fun x e2 e3 => hni x e3 (hp.isInt x e2))
theorem done (h : FkR w wr f A c G L k L.length L.length) : RefAt w.heap.size wr f A c L k := by
  refine ⟨h.at_.head, ⟨h.at_.row.1, ?_⟩, h.own f (.inl rfl), fun q hq => ?_⟩
  · rcases h.at_.row.2 with z | ⟨g, cap, cur, e, _, rest⟩
    · exact .inl z
    · obtain ⟨rfl, _⟩ := Value.slice.inj e
      exact .inr ⟨g, cap, cur, e, h.own g (.inr rfl), rest⟩
  · obtain ⟨i, hi, rfl⟩ := List.mem_iff_getElem.1 hq
    have h1 := h.ps i hi
    have h2 := h.az i hi
    rw [grn_lt hi] at h1 h2
    exact ⟨h1, h2⟩
end FkR
section
variable (B r : Nat) (A : Option Addr) (c : Nat) (L : List Gr) (k : Int) (w : World)
set_option maxRecDepth 100000 in
set_option maxHeartbeats 1000000 in
theorem rfork_any (hC : RefAt B w r A c L k) (hl : L.length ≤ 1000) (hal : ∀ q ∈ L, q.g.a.length ≤ 1000 ∧ q.g.p.length ≤ 1000) :
    Calls Try.prog 29 #[.pointer (some ⟨r, 0, none⟩)] w fun e w' => ∃ f A' c' L2, e = .returned (.pointer (some ⟨f, 0, none⟩)) ∧ RefAt w.heap.size w' f A' c' L2 k ∧ gs L2 = gs L ∧ Below w.heap.size w w' := by
  have hr := hC.glt
  obtain ⟨i0, hi0', hz0, hz1, hz2⟩ := info_parts infoG
  obtain ⟨i1, hi1', hy0, hy1, hy2⟩ := info_parts infoI
  have B0 : Hid (Below w.heap.size w w.drew) := (Below.refl _ _).drew
  have HKeep : Hid (∀ V, Below w.heap.size w V → V.cell? ⟨r, 0, none⟩ = some (.slice A L.length c) ∧ V.cell? ⟨r, 1, none⟩ = some (.int .i64 k)) := fun V hV => (hC.fresh hV).hcells
  have Hsrc : Hid (∀ V, Below w.heap.size w V → ∀ ad, A = some ad → ∀ j u, (flatG L)[j]? = some u → V.cell? (ad.add j) = some u) := fun V hV => (row_srcG (hC.fresh hV).row).1
  have Hnil : Hid (A = none → L.length = 0) := (row_srcG hC.row).2
  have Hfl := Lib.hid (length_flatG L)
  have Hone := Lib.hid (flatG_one L)
  have HNew : Hid (∀ V, Below w.heap.size w V → Below w.heap.size w (V.alloc (.cells #[] 77)) ∧ (V.alloc (.cells #[] 77)).ownsRow w.heap.size 77 4 (.slice (some ⟨V.heap.size, 0, none⟩) 0 0) 0 []) := fun V hV =>
    ⟨hV.alloc hV.size _, World.ownsRow_made V #[] 0 hV.size (by simp) (by simp)⟩
  have HLaid : Hid (∀ V A3 c3, Below w.heap.size w V → V.ownsRow w.heap.size 77 4 (.slice A3 L.length c3) L.length (([] : List Value) ++ flatG L) → FkR w (V.alloc (.cells #[.slice A3 L.length c3, .int .i64 k] 75)) V.heap.size A3 c3 (gs L) L k 0 0) := fun V A3 c3 hV ho => by
    have hV2 : Below w.heap.size w (V.alloc (.cells #[.slice A3 L.length c3, .int .i64 k] 75)) := hV.alloc hV.size _
    refine ⟨⟨heap_alloc_new V _, ownBase (ho.alloc _) (Nat.zero_le _), Nat.zero_le _, fun q hq => ?_⟩, rfl, hV2, fun b hb => ?_, fun i h => absurd h (by omega), fun i h => absurd h (by omega)⟩
    · obtain ⟨a1, a2⟩ := hC.nums q hq
      exact ⟨ownBase (a1.fresh hV2) (Nat.zero_le _), ownBase (a2.fresh hV2) (Nat.zero_le _)⟩
    · rcases hb with e | e
      · rw [e]; exact hV.size
      · exact (World.ownsRow.lt ho b (by rw [own_eq]; exact e)).1
  have HGs : Hid (∀ L2 : List Gr, gs L2 = gs L → L2.length = L.length ∧ ∀ j, j < L2.length → (grn L2 j).g.a.length ≤ 1000 ∧ (grn L2 j).g.p.length ≤ 1000) := fun L2 h => by
    have hlen : L2.length = L.length := by rw [← length_gs, h, length_gs]
    refine ⟨hlen, fun j hj => ?_⟩
    have e1 := gs_at hj
    have hj' : j < L.length := by omega
    have e2 := gs_at hj'
    have : (grn L2 j).g = (grn L j).g := by rw [← e1, ← e2]; simp only [h]
    rw [this]
    exact hal _ (grn_mem hj')
  have X := Lib.hid (HKeep.out _ B0.out)
  clear hC hal
  generalize hfg : flatG L = fl at *
  clear hfg
  obtain ⟨c0, c1⟩ := HKeep.out w (Below.refl _ _)
  generalize hG : gs L = G at *
  clear hG
  generalize hlen : L.length = len at *
  go_enter Try.func29, Try.ntmps29
  go_wp2_with fail
  refine wp_region_held_drew (S := (fun V => V.cell? ⟨r, 0, none⟩ = some (.slice A len c) ∧ V.cell? ⟨r, 1, none⟩ = some (.int .i64 k))) (by kernel_rfl) (X.out) (fun hHeld => ?_)
  generalize w.drew = w0 at *
  refine takeR (i := 1) (some 8) (v := ?_) rfl rfl (by kernel_rfl) (by kernel_rfl) (by kernel_rfl) (fun _ _ _ h => h) (by rfl) ?_ (by assumption) ?_
  rotate_left
  · (intro w hSw; (try dsimp only at hSw); go_simp; try with_reducible rfl)
  simp only [Act.put, List.setIfInBounds_toArray, List.set_cons_zero, List.set_cons_succ]
  refine takeR (i := 2) (some 9) (v := ?_) rfl rfl (by kernel_rfl) (by kernel_rfl) (by kernel_rfl) (fun _ _ _ h => h) (by rfl) ?_ (by assumption) ?_
  rotate_left
  · (intro w hSw; (try dsimp only at hSw); go_simp; try with_reducible rfl)
  simp only [Act.put, List.setIfInBounds_toArray, List.set_cons_zero, List.set_cons_succ]
  refine takeR (i := 3) (some 10) (v := ?_) rfl rfl (by kernel_rfl) (by kernel_rfl) (by kernel_rfl) (fun _ _ _ h => h) (by rfl) ?_ (by assumption) ?_
  rotate_left
  · (intro w hSw; (try dsimp only at hSw); go_simp; try with_reducible rfl)
  simp only [Act.put, List.setIfInBounds_toArray, List.set_cons_zero, List.set_cons_succ]
  refine takeR (i := 4) (some 11) (v := ?_) rfl rfl (by kernel_rfl) (by kernel_rfl) (by kernel_rfl) (fun _ _ _ h => h) (by rfl) ?_ (by assumption) ?_
  rotate_left
  · (intro w hSw; (try dsimp only at hSw); go_simp; try with_reducible rfl)
  simp only [Act.put, List.setIfInBounds_toArray, List.set_cons_zero, List.set_cons_succ]
  refine takeR (i := 6) (some 13) (v := ?_) rfl rfl (by kernel_rfl) (by kernel_rfl) (by kernel_rfl) (fun _ _ _ h => h) (by rfl) ?_ (by assumption) ?_
  rotate_left
  · (intro w hSw; (try dsimp only at hSw); go_simp; try with_reducible rfl)
  simp only [Act.put, List.setIfInBounds_toArray, List.set_cons_zero, List.set_cons_succ]
  refine takeR (i := 7) (some 14) (v := ?_) rfl rfl (by kernel_rfl) (by kernel_rfl) (by kernel_rfl) (fun _ _ _ h => h) (by rfl) ?_ (by assumption) ?_
  rotate_left
  · (intro w hSw; (try dsimp only at hSw); go_simp; try with_reducible rfl)
  simp only [Act.put, List.setIfInBounds_toArray, List.set_cons_zero, List.set_cons_succ]
  refine takeR (i := 8) (some 15) (v := ?_) rfl rfl (by kernel_rfl) (by kernel_rfl) (by kernel_rfl) (fun _ _ _ h => h) (by rfl) ?_ (by assumption) ?_
  rotate_left
  · (intro w hSw; (try dsimp only at hSw); go_simp; try with_reducible rfl)
  simp only [Act.put, List.setIfInBounds_toArray, List.set_cons_zero, List.set_cons_succ]
  refine takeR (i := 9) (some 16) (v := ?_) rfl rfl (by kernel_rfl) (by kernel_rfl) (by kernel_rfl) (fun _ _ _ h => h) (by rfl) ?_ (by assumption) ?_
  rotate_left
  · (intro w hSw; (try dsimp only at hSw); go_simp; try with_reducible rfl)
  simp only [Act.put, List.setIfInBounds_toArray, List.set_cons_zero, List.set_cons_succ]
  refine wpAnyH_ready (rs := [0]) (by kernel_rfl) (by simp) ?_
  refine AllReadyH.cons rfl (fun K hK => ?_) AllReadyH.nil
  go_simp
  obtain ⟨hb1, ho1⟩ := HNew.out w0 B0.out
  generalize hW1 : w0.alloc (.cells #[] 77) = W1 at *
  clear hW1
  have HB1 := Lib.hid hb1
  have HO1 := Lib.hid ho1
  clear hb1 ho1
  refine hK _ _ (HKeep.out _ HB1.out) (fun hHeld => ?_)
  clear hK K
  try simp only [Act.put, List.setIfInBounds_toArray, List.set_cons_zero, List.set_cons_succ]
  refine wpAnyH_ready (rs := [5]) (by kernel_rfl) (by simp) ?_
  refine AllReadyH.cons rfl (fun K hK => ?_) AllReadyH.nil
  refine step_append_src rfl (.tmp 7) (.tmp 11) 73 rfl w.heap.size 77 i0 zeroG 4 64 Try.underlying73 hi0' hz0 hz1 hz2 rfl (by decide) (.slice (some ⟨w0.heap.size, 0, none⟩) 0 0) 0 [] rfl HO1.out A len c fl rfl Hfl.out (Hsrc.out _ HB1.out) Hnil.out Hone.out (by unfold maxLen; omega) (by omega) HB1.out.size len (by omega) ?_
  intro A3 c3 w3 ho3 hg3 hor3
  have HB3 := Lib.hid (HB1.out.grown hg3 HB1.out.size (fun b e => (World.ownsRow.lt HO1.out b e).1))
  have HO3 := Lib.hid ho3
  clear ho3 hg3 hor3
  refine hK _ _ (HKeep.out _ HB3.out) (fun hHeld => ?_)
  clear hK K
  try simp only [Act.put, List.setIfInBounds_toArray, List.set_cons_zero, List.set_cons_succ]
  refine takeR (i := 10) (some 17) (v := ?_) rfl rfl (by kernel_rfl) (by kernel_rfl) (by kernel_rfl) (fun _ _ _ h => h) (by rfl) ?_ (by assumption) ?_
  rotate_left
  · (intro w hSw; (try dsimp only at hSw); go_simp; try with_reducible rfl)
  simp only [Act.put, List.setIfInBounds_toArray, List.set_cons_zero, List.set_cons_succ]
  refine wpAnyH_ready (rs := [11]) (by kernel_rfl) (by simp) ?_
  refine AllReadyH.cons rfl (fun K hK => ?_) AllReadyH.nil
  go_simp
  have HF := Lib.hid (HLaid.out w3 A3 c3 HB3.out HO3.out)
  refine hK _ _ (HKeep.out _ (HB3.out.alloc HB3.out.size _)) (fun hHeld => ?_)
  clear hK K
  try simp only [Act.put, List.setIfInBounds_toArray, List.set_cons_zero, List.set_cons_succ]
  refine takeR (i := 12) (some 3) (v := ?_) rfl rfl (by kernel_rfl) (by kernel_rfl) (by kernel_rfl) (fun _ _ _ h => h) (by rfl) ?_ (by assumption) ?_
  rotate_left
  · (intro w hSw; (try dsimp only at hSw); go_simp; try with_reducible rfl)
  simp only [Act.put, List.setIfInBounds_toArray, List.set_cons_zero, List.set_cons_succ]
  refine wpAnyH_done (by kernel_rfl) ?_ _
  generalize w3.alloc (.cells #[.slice A3 len c3, .int .i64 k] 75) = w9 at *
  generalize w3.heap.size = f at *
  clear HB3 HO3 HB1 HO1 HLaid Hsrc HNew HKeep hHeld X B0 c0 c1
  go_wp2_with fail
  go_loopw [4] (fun x wr => ∃ (j : Nat) (L2 : List Gr), j ≤ len ∧ x = .int .i64 j ∧ Hid (FkR w wr f A3 c3 G L2 k j j)) (fun x _ => len - (intOf x).toNat)
  case atStart => exact ⟨0, L, Nat.zero_le _, rfl, HF.out⟩
  case round =>
    obtain ⟨j, L2, hj, rfl, hE⟩ := hrel
    rename World => wr
    obtain ⟨hl2, hal2⟩ := HGs.out L2 hE.out.gs
    have hj0 : (0 : Int) ≤ (j : Int) := by omega
    obtain ⟨d0, _⟩ := hE.out.at_.hcells
    rw [hl2] at d0
    by_cases hlt : j < len
    · have hji : (j : Int) < (len : Int) := by omega
      have hj2 : j < L2.length := by omega
      have hac := hal2 j hj2
      obtain ⟨b, hA, h1, h2, hb, _, _, d2, d3, _⟩ := hE.out.at_.at_ hj2
      rw [hl2] at h1
      unfold maxLen at h2
      have hfl := hE.out.at_.glt
      have HHead : Hid (∀ V, Below wr.heap.size wr V → V.cell? ⟨f, 0, none⟩ = some (.slice A3 len c3) ∧ V.cell? ⟨b, j * 4 + 2, none⟩ = some (.slice (grn L2 j).pa (grn L2 j).g.p.length (grn L2 j).pc)) := fun V hV => ⟨(hV.cell (p := ⟨f, 0, none⟩) hfl).trans d0, (hV.cell (p := ⟨b, j * 4 + 2, none⟩) hb).trans d2⟩
      have hrp := (hE.out.at_.nums _ (grn_mem hj2)).1
      have Bd : Hid (Below wr.heap.size wr wr.drew) := (Below.refl _ _).drew
      have Hsp : Hid (∀ V, Below wr.heap.size wr V → ∀ ad, (grn L2 j).pa = some ad → ∀ y u, (intsV (grn L2 j).g.p)[y]? = some u → V.cell? (ad.add y) = some u) := fun V hV => (row_srcI (hrp.fresh hV)).1
      have Hnp : Hid ((grn L2 j).pa = none → (grn L2 j).g.p.length = 0) := (row_srcI hrp).2
      have Hlp : Hid ((intsV (grn L2 j).g.p).length = (grn L2 j).g.p.length * 1) := by unfold Hid; rw [length_intsV]; omega
      have Hop := Lib.hid (intsV_one (grn L2 j).g.p)
      have HNw : Hid (∀ V, Below wr.heap.size wr V → Below wr.heap.size wr (V.alloc (.cells #[] 3)) ∧ (V.alloc (.cells #[] 3)).ownsRow wr.heap.size 3 1 (.slice (some ⟨V.heap.size, 0, none⟩) 0 0) 0 []) := fun V hV =>
        ⟨hV.alloc hV.size _, World.ownsRow_made V #[] 0 hV.size (by simp) (by simp)⟩
      have HFin : Hid (∀ V A5 c4, Below wr.heap.size wr V → V.ownsRow wr.heap.size 3 1 (.slice A5 (grn L2 j).g.p.length c4) (grn L2 j).g.p.length (([] : List Value) ++ intsV (grn L2 j).g.p) → _) := fun V A5 c4 hV ho => hE.out.stepP hA hj2 hV ho
      have Xp := Lib.hid (HHead.out _ Bd.out)
      clear hrp d2 d3
      have hbw := Lib.hid hA
      subst hA
      obtain ⟨pl, hpl⟩ : ∃ pl, pl = (grn L2 j).g.p.length := ⟨_, rfl⟩
      obtain ⟨pa, hpa⟩ : ∃ pa, pa = (grn L2 j).pa := ⟨_, rfl⟩
      obtain ⟨pc, hpc⟩ : ∃ pc, pc = (grn L2 j).pc := ⟨_, rfl⟩
      obtain ⟨pv, hpv⟩ : ∃ pv, pv = intsV (grn L2 j).g.p := ⟨_, rfl⟩
      rw [← hpl, ← hpa, ← hpc] at HHead Xp
      rw [← hpl] at HFin
      rw [← hpv] at HFin
      rw [← hpa, ← hpv] at Hsp
      rw [← hpa, ← hpl] at Hnp
      rw [← hpv, ← hpl] at Hlp
      rw [← hpv] at Hop
      have hpl2 : pl ≤ 1000 := by rw [hpl]; exact hac.2
      clear hpl hpa hpc hpv
      go_wp2_with fail
      refine beginZ (fun V => V.cell? ⟨f, 0, none⟩ = some (.slice (some ⟨b, 0, none⟩) len c3) ∧ V.cell? ⟨b, j * 4 + 2, none⟩ = some (.slice pa pl pc)) 17 (by kernel_rfl) (Xp.out) (fun hHeld => ?_)
      generalize wr.drew = w0 at *
      refine takeZ 0 [16, 15, 3, 2, 1, 0] (some 28) (v := ?_) rfl rfl (by kernel_rfl) (by kernel_rfl) (by kernel_rfl) (by kernel_rfl) (by kernel_rfl) (fun _ _ _ h => h) (by rfl) ?_ (by assumption) ?_
      rotate_left
      · (intro w hSw; (try dsimp only at hSw); go_simp; try with_reducible rfl)
      simp only [Act.put, List.setIfInBounds_toArray, List.set_cons_zero, List.set_cons_succ]
      refine takeZ 1 [16, 15, 3, 2, 1, 0] (some 29) (v := ?_) rfl rfl (by kernel_rfl) (by kernel_rfl) (by kernel_rfl) (by kernel_rfl) (by kernel_rfl) (fun _ _ _ h => h) (by rfl) ?_ (by assumption) ?_
      rotate_left
      · (intro w hSw; (try dsimp only at hSw); go_simp; try with_reducible rfl)
      simp only [Act.put, List.setIfInBounds_toArray, List.set_cons_zero, List.set_cons_succ]
      refine takeZ 2 [16, 15, 3, 2, 1, 0] (some 30) (v := ?_) rfl rfl (by kernel_rfl) (by kernel_rfl) (by kernel_rfl) (by kernel_rfl) (by kernel_rfl) (fun _ _ _ h => h) (by rfl) ?_ (by assumption) ?_
      rotate_left
      · (intro w hSw; (try dsimp only at hSw); go_simp; try with_reducible rfl)
      simp only [Act.put, List.setIfInBounds_toArray, List.set_cons_zero, List.set_cons_succ]
      refine takeZ 3 [16, 15, 3, 2, 1, 0] (some 31) (v := ?_) rfl rfl (by kernel_rfl) (by kernel_rfl) (by kernel_rfl) (by kernel_rfl) (by kernel_rfl) (fun _ _ _ h => h) (by rfl) ?_ (by assumption) ?_
      rotate_left
      · (intro w hSw; (try dsimp only at hSw); go_simp; try with_reducible rfl)
      simp only [Act.put, List.setIfInBounds_toArray, List.set_cons_zero, List.set_cons_succ]
      refine takeZ 4 [16, 15, 4] (some 32) (v := ?_) rfl rfl (by kernel_rfl) (by kernel_rfl) (by kernel_rfl) (by kernel_rfl) (by kernel_rfl) (fun _ _ _ h => h) (by rfl) ?_ (by assumption) ?_
      rotate_left
      · (intro w hSw; (try dsimp only at hSw); go_simp; try with_reducible rfl)
      simp only [Act.put, List.setIfInBounds_toArray, List.set_cons_zero, List.set_cons_succ]
      refine takeZ 6 [14, 13, 12, 11, 9, 8, 7, 6] (some 34) (v := ?_) rfl rfl (by kernel_rfl) (by kernel_rfl) (by kernel_rfl) (by kernel_rfl) (by kernel_rfl) (fun _ _ _ h => h) (by rfl) ?_ (by assumption) ?_
      rotate_left
      · (intro w hSw; (try dsimp only at hSw); go_simp; try with_reducible rfl)
      simp only [Act.put, List.setIfInBounds_toArray, List.set_cons_zero, List.set_cons_succ]
      refine takeZ 7 [14, 13, 12, 11, 9, 8, 7, 6] (some 35) (v := ?_) rfl rfl (by kernel_rfl) (by kernel_rfl) (by kernel_rfl) (by kernel_rfl) (by kernel_rfl) (fun _ _ _ h => h) (by rfl) ?_ (by assumption) ?_
      rotate_left
      · (intro w hSw; (try dsimp only at hSw); go_simp; try with_reducible rfl)
      simp only [Act.put, List.setIfInBounds_toArray, List.set_cons_zero, List.set_cons_succ]
      refine takeZ 8 [14, 13, 12, 11, 9, 8, 7, 6] (some 36) (v := ?_) rfl rfl (by kernel_rfl) (by kernel_rfl) (by kernel_rfl) (by kernel_rfl) (by kernel_rfl) (fun _ _ _ h => h) (by rfl) ?_ (by assumption) ?_
      rotate_left
      · (intro w hSw; (try dsimp only at hSw); go_simp; try with_reducible rfl)
      simp only [Act.put, List.setIfInBounds_toArray, List.set_cons_zero, List.set_cons_succ]
      refine takeZ 9 [14, 13, 12, 11, 9, 8, 7, 6] (some 37) (v := ?_) rfl rfl (by kernel_rfl) (by kernel_rfl) (by kernel_rfl) (by kernel_rfl) (by kernel_rfl) (fun _ _ _ h => h) (by rfl) ?_ (by assumption) ?_
      rotate_left
      · (intro w hSw; (try dsimp only at hSw); go_simp; try with_reducible rfl)
      simp only [Act.put, List.setIfInBounds_toArray, List.set_cons_zero, List.set_cons_succ]
      refine takeZ 10 [14, 13, 12, 11, 10] (some 38) (v := ?_) rfl rfl (by kernel_rfl) (by kernel_rfl) (by kernel_rfl) (by kernel_rfl) (by kernel_rfl) (fun _ _ _ h => h) (by rfl) ?_ (by assumption) ?_
      rotate_left
      · (intro w hSw; (try dsimp only at hSw); go_simp; try with_reducible rfl)
      simp only [Act.put, List.setIfInBounds_toArray, List.set_cons_zero, List.set_cons_succ]
      refine takeZ 11 [14, 13, 12, 11, 9, 8, 7, 6] (some 39) (v := ?_) rfl rfl (by kernel_rfl) (by kernel_rfl) (by kernel_rfl) (by kernel_rfl) (by kernel_rfl) (fun _ _ _ h => h) (by rfl) ?_ (by assumption) ?_
      rotate_left
      · (intro w hSw; (try dsimp only at hSw); go_simp; try with_reducible rfl)
      simp only [Act.put, List.setIfInBounds_toArray, List.set_cons_zero, List.set_cons_succ]
      refine takeZ 12 [14, 13, 12, 11, 9, 8, 7, 6] (some 40) (v := ?_) rfl rfl (by kernel_rfl) (by kernel_rfl) (by kernel_rfl) (by kernel_rfl) (by kernel_rfl) (fun _ _ _ h => h) (by rfl) ?_ (by assumption) ?_
      rotate_left
      · (intro w hSw; (try dsimp only at hSw); go_simp; try with_reducible rfl)
      simp only [Act.put, List.setIfInBounds_toArray, List.set_cons_zero, List.set_cons_succ]
      refine takeZ 13 [14, 13, 12, 11, 9, 8, 7, 6] (some 41) (v := ?_) rfl rfl (by kernel_rfl) (by kernel_rfl) (by kernel_rfl) (by kernel_rfl) (by kernel_rfl) (fun _ _ _ h => h) (by rfl) ?_ (by assumption) ?_
      rotate_left
      · (intro w hSw; (try dsimp only at hSw); go_simp; try with_reducible rfl)
      simp only [Act.put, List.setIfInBounds_toArray, List.set_cons_zero, List.set_cons_succ]
      refine readyZ (rs := [5]) (by kernel_rfl) (by simp) ?_
      refine AllZ.cons rfl (fun K hK => ?_) AllZ.nil
      go_simp
      obtain ⟨hb1, ho1⟩ := HNw.out w0 Bd.out
      generalize hW1 : w0.alloc (.cells #[] 3) = W1 at *
      clear hW1
      have HB1 := Lib.hid hb1
      have HO1 := Lib.hid ho1
      clear hb1 ho1
      refine hK _ _ (fun _ => HHead.out _ HB1.out) (fun hHeld => ?_)
      clear hK K
      try simp only [Act.put, List.setIfInBounds_toArray, List.set_cons_zero, List.set_cons_succ]
      replace hHeld := hHeld (by decide)
      refine readyZ (rs := [14]) (by kernel_rfl) (by simp) ?_
      refine AllZ.cons rfl (fun K hK => ?_) AllZ.nil
      refine step_append_src rfl (.tmp 33) (.tmp 41) 30 rfl wr.heap.size 3 i1 (.int .i64 0) 1 8 Try.underlying30 hi1' hy0 hy1 hy2 rfl (by decide) (.slice (some ⟨w0.heap.size, 0, none⟩) 0 0) 0 [] rfl HO1.out pa pl pc pv rfl Hlp.out (Hsp.out _ HB1.out) Hnp.out Hop.out (by unfold maxLen; omega) (by omega) HB1.out.size pl (by omega) ?_
      intro A5 c5 w4 ho4 hg4 hor4
      have HB4 := Lib.hid (HB1.out.grown hg4 HB1.out.size (fun b e => (World.ownsRow.lt HO1.out b e).1))
      have HZ := Lib.hid (HFin.out w4 A5 c5 HB4.out ho4)
      clear ho4 hg4 hor4
      refine hK _ _ (fun _ => HHead.out _ HB4.out) (fun hHeld => ?_)
      clear hK K
      try simp only [Act.put, List.setIfInBounds_toArray, List.set_cons_zero, List.set_cons_succ]
      replace hHeld := hHeld (by decide)
      refine takeZ 15 [16, 15] (some 43) (v := ?_) rfl rfl (by kernel_rfl) (by kernel_rfl) (by kernel_rfl) (by kernel_rfl) (by kernel_rfl) (fun _ _ _ h => h) (by rfl) ?_ (by assumption) ?_
      rotate_left
      · (intro w hSw; (try dsimp only at hSw); go_simp; try with_reducible rfl)
      simp only [Act.put, List.setIfInBounds_toArray, List.set_cons_zero, List.set_cons_succ]
      refine takeZ 16 [16] (some 44) (v := ?_) rfl rfl (by kernel_rfl) (by kernel_rfl) (by kernel_rfl) (by kernel_rfl) (by kernel_rfl) (fun _ _ _ h => h) (by rfl) ?_ (by assumption) ?_
      rotate_left
      · (intro w hSw; (try dsimp only at hSw); go_simp; try with_reducible rfl)
      simp only [Act.put, List.setIfInBounds_toArray, List.set_cons_zero, List.set_cons_succ]
      refine readyZ (rs := [17]) (by kernel_rfl) (by simp) ?_
      refine AllZ.cons rfl (fun K hK => ?_) AllZ.nil
      have d9 := HZ.out.1
      have f9 := HZ.out.2.1
      have l9 := HZ.out.2.2.1
      go_simp
      refine hK _ _ (fun e => absurd rfl e) (fun hHeld => ?_)
      clear hK K
      try simp only [Act.put, List.setIfInBounds_toArray, List.set_cons_zero, List.set_cons_succ]
      refine doneZ (by kernel_rfl) ?_ _
      have hE2 := Lib.hid HZ.out.2.2.2
      clear HZ d9 f9 l9 HB4 HB1 HO1 HFin HHead Hsp Hnp Hlp Hop HNw Bd Xp hHeld d0
      generalize w4.setCell ⟨b, j * 4 + 2, none⟩ (.slice A5 pl c5) = wv at *
      obtain ⟨L3, hL3⟩ : ∃ L3, L3 = L2.set j ⟨(grn L2 j).g, A5, c5, (grn L2 j).aa, (grn L2 j).ac⟩ := ⟨_, rfl⟩
      rw [← hL3] at hE2
      obtain ⟨hl3, hal3⟩ := HGs.out L3 hE2.out.gs
      clear hL3
      have hj3 : j < L3.length := by omega
      have hac3 := hal3 j hj3
      obtain ⟨d0, _⟩ := hE2.out.at_.hcells
      rw [hl3] at d0
      obtain ⟨b2, hA2, h11, h12, hb2, _, _, _, d3, _⟩ := hE2.out.at_.at_ hj3
      obtain rfl : b = b2 := by cases hA2; rfl
      clear hA2
      unfold maxLen at h12
      have hfl3 := hE2.out.at_.glt
      have HHead : Hid (∀ V, Below wv.heap.size wv V → V.cell? ⟨f, 0, none⟩ = some (.slice (some ⟨b, 0, none⟩) len c3) ∧ V.cell? ⟨b, j * 4 + 3, none⟩ = some (.slice (grn L3 j).aa (grn L3 j).g.a.length (grn L3 j).ac)) := fun V hV => ⟨(hV.cell (p := ⟨f, 0, none⟩) hfl3).trans d0, (hV.cell (p := ⟨b, j * 4 + 3, none⟩) hb2).trans d3⟩
      have hrp := (hE2.out.at_.nums _ (grn_mem hj3)).2
      have Bd : Hid (Below wv.heap.size wv wv.drew) := (Below.refl _ _).drew
      have Hsp : Hid (∀ V, Below wv.heap.size wv V → ∀ ad, (grn L3 j).aa = some ad → ∀ y u, (intsV (grn L3 j).g.a)[y]? = some u → V.cell? (ad.add y) = some u) := fun V hV => (row_srcI (hrp.fresh hV)).1
      have Hnp : Hid ((grn L3 j).aa = none → (grn L3 j).g.a.length = 0) := (row_srcI hrp).2
      have Hlp : Hid ((intsV (grn L3 j).g.a).length = (grn L3 j).g.a.length * 1) := by unfold Hid; rw [length_intsV]; omega
      have Hop := Lib.hid (intsV_one (grn L3 j).g.a)
      have HNw : Hid (∀ V, Below wv.heap.size wv V → Below wv.heap.size wv (V.alloc (.cells #[] 3)) ∧ (V.alloc (.cells #[] 3)).ownsRow wv.heap.size 3 1 (.slice (some ⟨V.heap.size, 0, none⟩) 0 0) 0 []) := fun V hV =>
        ⟨hV.alloc hV.size _, World.ownsRow_made V #[] 0 hV.size (by simp) (by simp)⟩
      have HFin : Hid (∀ V A5 c4, Below wv.heap.size wv V → V.ownsRow wv.heap.size 3 1 (.slice A5 (grn L3 j).g.a.length c4) (grn L3 j).g.a.length (([] : List Value) ++ intsV (grn L3 j).g.a) → _) := fun V A5 c4 hV ho => hE2.out.stepA rfl hj3 hV ho
      have Xp := Lib.hid (HHead.out _ Bd.out)
      clear hrp d3
      obtain ⟨al, hpl⟩ : ∃ pl, pl = (grn L3 j).g.a.length := ⟨_, rfl⟩
      obtain ⟨aa, hpa⟩ : ∃ pa, pa = (grn L3 j).aa := ⟨_, rfl⟩
      obtain ⟨ac, hpc⟩ : ∃ pc, pc = (grn L3 j).ac := ⟨_, rfl⟩
      obtain ⟨av, hpv⟩ : ∃ pv, pv = intsV (grn L3 j).g.a := ⟨_, rfl⟩
      rw [← hpl, ← hpa, ← hpc] at HHead Xp
      rw [← hpl] at HFin
      rw [← hpv] at HFin
      rw [← hpa, ← hpv] at Hsp
      rw [← hpa, ← hpl] at Hnp
      rw [← hpv, ← hpl] at Hlp
      rw [← hpv] at Hop
      have hal4 : al ≤ 1000 := by rw [hpl]; exact hac3.1
      clear hpl hpa hpc hpv
      go_wp2_with fail
      refine beginZ (fun V => V.cell? ⟨f, 0, none⟩ = some (.slice (some ⟨b, 0, none⟩) len c3) ∧ V.cell? ⟨b, j * 4 + 3, none⟩ = some (.slice aa al ac)) 17 (by kernel_rfl) (Xp.out) (fun hHeld => ?_)
      generalize wv.drew = w0 at *
      refine takeZ 0 [16, 15, 3, 2, 1, 0] (some 45) (v := ?_) rfl rfl (by kernel_rfl) (by kernel_rfl) (by kernel_rfl) (by kernel_rfl) (by kernel_rfl) (fun _ _ _ h => h) (by rfl) ?_ (by assumption) ?_
      rotate_left
      · (intro w hSw; (try dsimp only at hSw); go_simp; try with_reducible rfl)
      simp only [Act.put, List.setIfInBounds_toArray, List.set_cons_zero, List.set_cons_succ]
      refine takeZ 1 [16, 15, 3, 2, 1, 0] (some 46) (v := ?_) rfl rfl (by kernel_rfl) (by kernel_rfl) (by kernel_rfl) (by kernel_rfl) (by kernel_rfl) (fun _ _ _ h => h) (by rfl) ?_ (by assumption) ?_
      rotate_left
      · (intro w hSw; (try dsimp only at hSw); go_simp; try with_reducible rfl)
      simp only [Act.put, List.setIfInBounds_toArray, List.set_cons_zero, List.set_cons_succ]
      refine takeZ 2 [16, 15, 3, 2, 1, 0] (some 47) (v := ?_) rfl rfl (by kernel_rfl) (by kernel_rfl) (by kernel_rfl) (by kernel_rfl) (by kernel_rfl) (fun _ _ _ h => h) (by rfl) ?_ (by assumption) ?_
      rotate_left
      · (intro w hSw; (try dsimp only at hSw); go_simp; try with_reducible rfl)
      simp only [Act.put, List.setIfInBounds_toArray, List.set_cons_zero, List.set_cons_succ]
      refine takeZ 3 [16, 15, 3, 2, 1, 0] (some 48) (v := ?_) rfl rfl (by kernel_rfl) (by kernel_rfl) (by kernel_rfl) (by kernel_rfl) (by kernel_rfl) (fun _ _ _ h => h) (by rfl) ?_ (by assumption) ?_
      rotate_left
      · (intro w hSw; (try dsimp only at hSw); go_simp; try with_reducible rfl)
      simp only [Act.put, List.setIfInBounds_toArray, List.set_cons_zero, List.set_cons_succ]
      refine takeZ 4 [16, 15, 4] (some 49) (v := ?_) rfl rfl (by kernel_rfl) (by kernel_rfl) (by kernel_rfl) (by kernel_rfl) (by kernel_rfl) (fun _ _ _ h => h) (by rfl) ?_ (by assumption) ?_
      rotate_left
      · (intro w hSw; (try dsimp only at hSw); go_simp; try with_reducible rfl)
      simp only [Act.put, List.setIfInBounds_toArray, List.set_cons_zero, List.set_cons_succ]
      refine takeZ 6 [14, 13, 12, 11, 9, 8, 7, 6] (some 51) (v := ?_) rfl rfl (by kernel_rfl) (by kernel_rfl) (by kernel_rfl) (by kernel_rfl) (by kernel_rfl) (fun _ _ _ h => h) (by rfl) ?_ (by assumption) ?_
      rotate_left
      · (intro w hSw; (try dsimp only at hSw); go_simp; try with_reducible rfl)
      simp only [Act.put, List.setIfInBounds_toArray, List.set_cons_zero, List.set_cons_succ]
      refine takeZ 7 [14, 13, 12, 11, 9, 8, 7, 6] (some 52) (v := ?_) rfl rfl (by kernel_rfl) (by kernel_rfl) (by kernel_rfl) (by kernel_rfl) (by kernel_rfl) (fun _ _ _ h => h) (by rfl) ?_ (by assumption) ?_
      rotate_left
      · (intro w hSw; (try dsimp only at hSw); go_simp; try with_reducible rfl)
      simp only [Act.put, List.setIfInBounds_toArray, List.set_cons_zero, List.set_cons_succ]
      refine takeZ 8 [14, 13, 12, 11, 9, 8, 7, 6] (some 53) (v := ?_) rfl rfl (by kernel_rfl) (by kernel_rfl) (by kernel_rfl) (by kernel_rfl) (by kernel_rfl) (fun _ _ _ h => h) (by rfl) ?_ (by assumption) ?_
      rotate_left
      · (intro w hSw; (try dsimp only at hSw); go_simp; try with_reducible rfl)
      simp only [Act.put, List.setIfInBounds_toArray, List.set_cons_zero, List.set_cons_succ]
      refine takeZ 9 [14, 13, 12, 11, 9, 8, 7, 6] (some 54) (v := ?_) rfl rfl (by kernel_rfl) (by kernel_rfl) (by kernel_rfl) (by kernel_rfl) (by kernel_rfl) (fun _ _ _ h => h) (by rfl) ?_ (by assumption) ?_
      rotate_left
      · (intro w hSw; (try dsimp only at hSw); go_simp; try with_reducible rfl)
      simp only [Act.put, List.setIfInBounds_toArray, List.set_cons_zero, List.set_cons_succ]
      refine takeZ 10 [14, 13, 12, 11, 10] (some 55) (v := ?_) rfl rfl (by kernel_rfl) (by kernel_rfl) (by kernel_rfl) (by kernel_rfl) (by kernel_rfl) (fun _ _ _ h => h) (by rfl) ?_ (by assumption) ?_
      rotate_left
      · (intro w hSw; (try dsimp only at hSw); go_simp; try with_reducible rfl)
      simp only [Act.put, List.setIfInBounds_toArray, List.set_cons_zero, List.set_cons_succ]
      refine takeZ 11 [14, 13, 12, 11, 9, 8, 7, 6] (some 56) (v := ?_) rfl rfl (by kernel_rfl) (by kernel_rfl) (by kernel_rfl) (by kernel_rfl) (by kernel_rfl) (fun _ _ _ h => h) (by rfl) ?_ (by assumption) ?_
      rotate_left
      · (intro w hSw; (try dsimp only at hSw); go_simp; try with_reducible rfl)
      simp only [Act.put, List.setIfInBounds_toArray, List.set_cons_zero, List.set_cons_succ]
      refine takeZ 12 [14, 13, 12, 11, 9, 8, 7, 6] (some 57) (v := ?_) rfl rfl (by kernel_rfl) (by kernel_rfl) (by kernel_rfl) (by kernel_rfl) (by kernel_rfl) (fun _ _ _ h => h) (by rfl) ?_ (by assumption) ?_
      rotate_left
      · (intro w hSw; (try dsimp only at hSw); go_simp; try with_reducible rfl)
      simp only [Act.put, List.setIfInBounds_toArray, List.set_cons_zero, List.set_cons_succ]
      refine takeZ 13 [14, 13, 12, 11, 9, 8, 7, 6] (some 58) (v := ?_) rfl rfl (by kernel_rfl) (by kernel_rfl) (by kernel_rfl) (by kernel_rfl) (by kernel_rfl) (fun _ _ _ h => h) (by rfl) ?_ (by assumption) ?_
      rotate_left
      · (intro w hSw; (try dsimp only at hSw); go_simp; try with_reducible rfl)
      simp only [Act.put, List.setIfInBounds_toArray, List.set_cons_zero, List.set_cons_succ]
      refine readyZ (rs := [5]) (by kernel_rfl) (by simp) ?_
      refine AllZ.cons rfl (fun K hK => ?_) AllZ.nil
      go_simp
      obtain ⟨hb1, ho1⟩ := HNw.out w0 Bd.out
      generalize hW1 : w0.alloc (.cells #[] 3) = W1 at *
      clear hW1
      have HB1 := Lib.hid hb1
      have HO1 := Lib.hid ho1
      clear hb1 ho1
      refine hK _ _ (fun _ => HHead.out _ HB1.out) (fun hHeld => ?_)
      clear hK K
      try simp only [Act.put, List.setIfInBounds_toArray, List.set_cons_zero, List.set_cons_succ]
      replace hHeld := hHeld (by decide)
      refine readyZ (rs := [14]) (by kernel_rfl) (by simp) ?_
      refine AllZ.cons rfl (fun K hK => ?_) AllZ.nil
      refine step_append_src rfl (.tmp 50) (.tmp 58) 30 rfl wv.heap.size 3 i1 (.int .i64 0) 1 8 Try.underlying30 hi1' hy0 hy1 hy2 rfl (by decide) (.slice (some ⟨w0.heap.size, 0, none⟩) 0 0) 0 [] rfl HO1.out aa al ac av rfl Hlp.out (Hsp.out _ HB1.out) Hnp.out Hop.out (by unfold maxLen; omega) (by omega) HB1.out.size al (by omega) ?_
      intro A7 c7 w4 ho4 hg4 hor4
      have HB4 := Lib.hid (HB1.out.grown hg4 HB1.out.size (fun b e => (World.ownsRow.lt HO1.out b e).1))
      have HZ := Lib.hid (HFin.out w4 A7 c7 HB4.out ho4)
      clear ho4 hg4 hor4
      refine hK _ _ (fun _ => HHead.out _ HB4.out) (fun hHeld => ?_)
      clear hK K
      try simp only [Act.put, List.setIfInBounds_toArray, List.set_cons_zero, List.set_cons_succ]
      replace hHeld := hHeld (by decide)
      refine takeZ 15 [16, 15] (some 60) (v := ?_) rfl rfl (by kernel_rfl) (by kernel_rfl) (by kernel_rfl) (by kernel_rfl) (by kernel_rfl) (fun _ _ _ h => h) (by rfl) ?_ (by assumption) ?_
      rotate_left
      · (intro w hSw; (try dsimp only at hSw); go_simp; try with_reducible rfl)
      simp only [Act.put, List.setIfInBounds_toArray, List.set_cons_zero, List.set_cons_succ]
      refine takeZ 16 [16] (some 61) (v := ?_) rfl rfl (by kernel_rfl) (by kernel_rfl) (by kernel_rfl) (by kernel_rfl) (by kernel_rfl) (fun _ _ _ h => h) (by rfl) ?_ (by assumption) ?_
      rotate_left
      · (intro w hSw; (try dsimp only at hSw); go_simp; try with_reducible rfl)
      simp only [Act.put, List.setIfInBounds_toArray, List.set_cons_zero, List.set_cons_succ]
      refine readyZ (rs := [17]) (by kernel_rfl) (by simp) ?_
      refine AllZ.cons rfl (fun K hK => ?_) AllZ.nil
      have d9 := HZ.out.1
      have f9 := HZ.out.2.1
      have l9 := HZ.out.2.2.1
      go_simp
      refine hK _ _ (fun e => absurd rfl e) (fun hHeld => ?_)
      clear hK K
      try simp only [Act.put, List.setIfInBounds_toArray, List.set_cons_zero, List.set_cons_succ]
      refine doneZ (by kernel_rfl) ?_ _
      have hE3 := Lib.hid HZ.out.2.2.2
      clear HZ d9 f9 l9 HB4 HB1 HO1 HFin HHead Hsp Hnp Hlp Hop HNw Bd Xp hHeld d0
      generalize w4.setCell ⟨b, j * 4 + 3, none⟩ (.slice A7 al c7) = wu at *
      go_wp2_with fail
      go_roundw
      case rel => exact ⟨j + 1, _, by omega, by go_num, hE3.out⟩
      case measure => simp [intOf]; omega
    · obtain rfl : j = len := by omega
      have hji : ¬ (j : Int) < (j : Int) := by omega
      have h9 := hE.out
      have HZ1 := Lib.hid h9.gs
      have HZ2 := Lib.hid h9.bel
      rw [← hl2] at h9
      have HZ := Lib.hid h9.done
      clear h9
      clear hE hal2
      go_wp2_with fail
      go_ret
      first
        | exact ⟨f, rfl, A3, c3, L2, HZ.out, HZ1.out, HZ2.out⟩
        | exact ⟨f, rfl, ⟨A3, c3, L2, HZ.out, HZ1.out⟩, HZ2.out⟩
end
end Go.Proofs.Ytdndchoghhllmaa
