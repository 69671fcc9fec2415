/- The document's stack written: New, Settle. -/
import Derived.Test.YtibkipdadpidnaaH
set_option linter.unusedVariables false
set_option linter.unusedSimpArgs false
namespace Go.Proofs.Ytibkipdadpidnaa
open Go.RowKit
open Pat (Pt AllB undoP nth)
def Rf (B : Nat) (w : World) (r : Nat) (s : Sk) : Prop := ∃ bA bc A c, RefAt B w r bA bc A c s
/-- what a call that writes to the document's stack leaves -/
def RW (B : Nat) (w : World) (r : Nat) (s : Sk) (w' : World) : Prop := Rf B w' r s ∧ Kept w w' (fun b => b = r)
theorem RefAt.rw {B : Nat} {w w' : World} {r : Nat} {bA A : Option Addr} {bc c : Nat} {s : Sk} (h : RefAt B w r bA bc A c s) (hb : Below w.heap.size w w') : RW B w r s w' := ⟨⟨_, _, _, _, h.fresh hb⟩, Kept.fresh hb⟩
theorem new_row {B b0 : Nat} {w w4 : World} {r n : Nat} {bA A A5 : Option Addr} {bc c c4 : Nat} {s : Sk} {l2 : List On} (h : RefAt B w r bA bc A c s) (hb : Below w.heap.size w w4) (hr : w4.ownsRow b0 97 4 (.slice A5 n c4) n (flatO l2)) (hn : l2.length = n) :
    RefAt B (w4.setCell ⟨r, 1, none⟩ (.slice A5 n c4)) r bA bc A5 c4 ⟨s.f, l2, s.k⟩ ∧ Kept w (w4.setCell ⟨r, 1, none⟩ (.slice A5 n c4)) (fun b => b = r) := by
  subst hn
  have h4 := h.fresh hb
  have hk := Kept.set w4 r 1 (.slice A5 l2.length c4)
  have hH : ∀ b, b = r → HeadB w4 b := fun b e => by rw [e]; exact h4.isHead
  refine ⟨⟨?_, hk.row h4.base (fun b e s => own_notHead h4.base ⟨by decide, by decide⟩ b (by rw [← own_eq bA 32 bc]; exact e) (hH b s)), hk.row (Pat.base_le hr (Nat.zero_le _)) (fun b e s => own_notHead hr ⟨by decide, by decide⟩ b (by rw [← own_eq A5 l2.length c4]; exact e) (hH b s)), h.lo, h.all⟩, (Kept.fresh hb).trans hk (fun b e => .inl e)⟩
  rw [heap_setCell_same w4 r 1 _ 95 _ h4.head]
  rfl
theorem new_base {B b0 : Nat} {w w4 : World} {r : Nat} {bA A A5 : Option Addr} {bc c c4 : Nat} {s : Sk} {f2 : List Int} (h : RefAt B w r bA bc A c s) (hb : Below w.heap.size w w4) (hr : w4.ownsRow b0 5 1 (.slice A5 32 c4) 32 (Pat.bytesV f2)) (ha : AllB f2) :
    RefAt B (w4.setCell ⟨r, 0, none⟩ (.slice A5 32 c4)) r A5 c4 A c ⟨f2, s.l, s.k⟩ ∧ Kept w (w4.setCell ⟨r, 0, none⟩ (.slice A5 32 c4)) (fun b => b = r) := by
  have h4 := h.fresh hb
  have hk := Kept.set w4 r 0 (.slice A5 32 c4)
  have hH : ∀ b, b = r → HeadB w4 b := fun b e => by rw [e]; exact h4.isHead
  refine ⟨⟨?_, hk.row (Pat.base_le hr (Nat.zero_le _)) (fun b e s => own_notHead hr ⟨by decide, by decide⟩ b (by rw [← own_eq A5 32 c4]; exact e) (hH b s)), hk.row h4.row (fun b e s => own_notHead h4.row ⟨by decide, by decide⟩ b (by rw [← own_eq A _ c]; exact e) (hH b s)), h.lo, ha⟩, (Kept.fresh hb).trans hk (fun b e => .inl e)⟩
  rw [heap_setCell_same w4 r 0 _ 95 _ h4.head]
  rfl
theorem new_next {B : Nat} {w : World} {r : Nat} {bA A : Option Addr} {bc c : Nat} {s : Sk} {k : Int} (h : RefAt B w r bA bc A c s) :
    RefAt B (w.setCell ⟨r, 2, none⟩ (.int .i64 k)) r bA bc A c ⟨s.f, s.l, k⟩ ∧ Kept w (w.setCell ⟨r, 2, none⟩ (.int .i64 k)) (fun b => b = r) := by
  have hk := Kept.set w r 2 (.int .i64 k)
  have hH : ∀ b, b = r → HeadB w b := fun b e => by rw [e]; exact h.isHead
  refine ⟨⟨?_, hk.row h.base (fun b e s => own_notHead h.base ⟨by decide, by decide⟩ b (by rw [← own_eq bA 32 bc]; exact e) (hH b s)), hk.row h.row (fun b e s => own_notHead h.row ⟨by decide, by decide⟩ b (by rw [← own_eq A _ c]; exact e) (hH b s)), h.lo, h.all⟩, hk⟩
  rw [heap_setCell_same w r 2 _ 95 _ h.head]
  rfl
def zeroO : Value := .agg #[.int .i64 0, .int .i64 0, .int .i64 0, .string ⟨#[]⟩]
theorem infoO : (Try.prog.info? 97).map (fun i => (i.zero, i.size, i.bytes)) = some (some zeroO, 4, 40) := by kernel_rfl
def RowO (w : World) (B : Nat) (A : Option Addr) (c : Nat) (l : List On) : Prop := w.ownsRow B 97 4 (.slice A l.length c) l.length (flatO l)
def On.cell (x : On) : Obj := .cells #[.int .i64 x.n, .int .i64 x.p.b, .int .i64 x.p.o, .string x.p.s] 97
theorem ao_row {w6 : World} {B c : Nat} {A : Option Addr} {o : List On} (x : On) (h : RowO w6 B A c o) : (w6.alloc x.cell).ownsRow B 97 4 (.slice A o.length c) o.length (flatO o) := World.ownsRow.alloc h _
theorem ao_src (w6 : World) (x : On) (ad : Addr) (e : some (⟨w6.heap.size, 0, none⟩ : Addr) = some ad) : ∀ j u, [Value.int .i64 x.n, .int .i64 x.p.b, .int .i64 x.p.o, .string x.p.s][j]? = some u → (w6.alloc x.cell).cell? (ad.add j) = some u := fun j u hu => by
  cases e
  exact World.news_of_block (heap_alloc_new w6 x.cell) j u hu
theorem ao_one (x : On) : ∀ u ∈ [Value.int .i64 x.n, .int .i64 x.p.b, .int .i64 x.p.o, .string x.p.s], u.oneCell' = true := by
  intro u hu; simp at hu; rcases hu with rfl | rfl | rfl | rfl <;> rfl
theorem ao_new {w w6 w7 : World} {A A7 : Option Addr} {c c7 : Nat} {o : List On} {x : On} (h : RowO w6 w.heap.size A c o) (hb : Below w.heap.size w w6) (h7 : w7.ownsRow w.heap.size 97 4 (.slice A7 (o.length + 1) c7) (o.length + 1) (flatO o ++ [Value.int .i64 x.n, .int .i64 x.p.b, .int .i64 x.p.o, .string x.p.s])) (hg : (w6.alloc x.cell).grownBy w7 (Value.slice A o.length c).ownBlock) :
    RowO w7 w.heap.size A7 c7 (o ++ [x]) ∧ Below w.heap.size w w7 :=
  ⟨by unfold RowO; rw [List.length_append, flatO_append]; exact h7, (hb.alloc hb.size _).grown hg (by simp; have := hb.size; omega) (fun j e => (World.ownsRow.lt h j e).1)⟩
theorem RowO.fresh {w w' : World} {B c : Nat} {A : Option Addr} {o : List On} (h : RowO w B A c o) (hb : Below w.heap.size w w') : RowO w' B A c o := (Kept.fresh (S := fun _ => False) hb).row h (fun _ _ q => q)
theorem below_set {w w' : World} {r j : Nat} {v : Value} (h : Kept w w' (fun b => b = r)) (V : World) : True := trivial
set_option maxRecDepth 100000 in
set_option maxHeartbeats 1000000 in
theorem rnew_any (A : Option Addr) (c : Nat) (f : List Int) (w : World) (hf : f.length = 32) (hb : Pat.Bts w w.heap.size A f) :
    Calls Try.prog 33 #[.slice A 32 c] w fun e w' => ∃ r, e = .returned (.pointer (some ⟨r, 0, none⟩)) ∧ Rf w.heap.size w' r ⟨f, [], 0⟩ ∧ Below w.heap.size w w' := by
  have hbt : Pat.Bts (w.alloc (.cells #[] 5)) w.heap.size A f := hb.below (Pat.below_alloc1 w _)
  have HA := Lib.hid hb.1
  have HF := Lib.hid hf
  clear hb hf
  go_enter Try.func33, Try.ntmps33
  go_wp2_with (at_builtin; refine Pat.wpList_append_bytes rfl (.tmp 6) (.tmp 7) rfl w.heap.size _ 0 [] rfl (Pat.own_empty w) w.heap.size A f c 32 HF.out.symm rfl hbt (by omega) (by simp) ?_; intro v' w2 hown hgrow; simp only [Nat.zero_add, List.nil_append] at hown; have hB2 := Lib.hid (Pat.below_copy hgrow); obtain ⟨g, cap, rfl, hg1, hg2⟩ := hown.form (by omega); clear hgrow; have Hown := Lib.hid hown; clear hown hbt)
  have HR : Hid (Rf w.heap.size (w2.alloc (.cells #[.slice (some ⟨g, 0, none⟩) 32 cap, .slice none 0 0, .int .i64 0] 95)) w2.heap.size ⟨f, [], 0⟩) :=
    ⟨_, _, none, 0, heap_alloc_new w2 _, Pat.base_le (World.ownsRow.alloc Hown.out _) (Nat.zero_le _), World.ownsRow_nil _ _ _ _, hB2.out.size, HA.out⟩
  have HB : Hid (Below w.heap.size w (w2.alloc (.cells #[.slice (some ⟨g, 0, none⟩) 32 cap, .slice none 0 0, .int .i64 0] 95))) := hB2.out.alloc hB2.out.size _
  go_ret
  exact ⟨w2.heap.size, rfl, HR.out, HB.out⟩
theorem rnew_short (A : Option Addr) (n c : Nat) (w : World) (hn : n ≠ 32) :
    Calls Try.prog 33 #[.slice A n c] w fun e w' => e = .returned (.pointer none) ∧ w = w' := by
  have h0 : ((n : Int) != 32) = true := by simp; omega
  go_enter Try.func33, Try.ntmps33
  go_wp2
  go_ret
  exact ⟨rfl, rfl⟩
def settleS (s : Sk) (m : List Int) : Sk := ⟨withL (fun n => decide (n ∈ m)) s.f s.l, s.l.filter (fun x => !decide (x.n ∈ m)), s.k⟩
theorem offF_next {l : List On} {m : List Int} {k : Nat} (h : k < l.length) : (l.take (k + 1)).filter (fun x => !decide (x.n ∈ m)) = (l.take k).filter (fun x => !decide (x.n ∈ m)) ++ (if decide ((onn l k).n ∈ m) = true then [] else [onn l k]) := by
  rw [take_onn h, List.filter_append]
  congr 1
  by_cases q : (onn l k).n ∈ m
  · rw [List.filter_cons_of_neg (by simpa using q), if_pos (by simpa using q)]; rfl
  · rw [List.filter_cons_of_pos (by simpa using q), if_neg (by simpa using q)]; rfl
section
variable (B r : Nat) (bA A : Option Addr) (bc c : Nat) (s : Sk) (w : World)
set_option maxRecDepth 100000 in
set_option maxHeartbeats 1000000 in
theorem rsettle_any (A0 : Option Addr) (c0 : Nat) (m : List Int) (hC : RefAt B w r bA bc A c s) (hr0 : Rights s.l) (hl : s.l.length ≤ 900) (hm : m.length ≤ 1000) (hI : Ints w w.heap.size A0 m) (hr0' : ∀ V, Kept w V (fun b => b = r) → Ints V V.heap.size A0 m) : Calls Try.prog 61 #[.pointer (some ⟨r, 0, none⟩), .slice A0 m.length c0] w fun e w' => e = .returned (.int .i64 (mayE s.l m)) ∧ RW B w r (if mayE s.l m = 0 then settleS s m else s) w' := by
  have HM := Lib.hid (rmay_any B r bA A bc c s w A0 c0 m hC hr0 hl hm hI)
  by_cases hE : mayE s.l m = 0
  · rw [hE] at HM
    rw [if_pos hE, hE]
    have HW := Lib.hid (fun W (hW : Below w.heap.size w W) => rwith_any B r bA A bc c s W A0 c0 m (hC.fresh hW) hr0 (by omega) hm ((hI.below hW).more hW.size))
    have HC := Lib.hid hC
    have hr := hC.glt
    have HI := Lib.hid hr0'
    have HAl := Lib.hid (withL_all (k := fun n => decide (n ∈ m)) (l := s.l) hC.all)
    obtain ⟨i0, hi0, hz0, hz1, hz2⟩ := info_parts infoO
    clear hC hI hE hr0'
    go_enter Try.func61, Try.ntmps61
    go_wp2_with (first
      | (go_at_call 44; refine HM.out.mono ?_; rintro e w1 ⟨rfl, hb1⟩; have B1 := Lib.hid hb1; clear hb1)
      | (go_at_call 45; refine (HW.out _ B1.out).mono ?_; rintro e w2 ⟨g, c', rfl, h2, hb2⟩; have B2 := Lib.hid (Below.trans B1.out (Below.mono hb2 B1.out.size)); have NB := new_base HC.out B2.out h2 HAl.out; have C2 := Lib.hid NB.1; have K2 := Lib.hid NB.2; have z2 := (HC.out.fresh B2.out).hcells.1; have f2 := (HC.out.fresh B2.out).free 0; have l2 := (HC.out.fresh B2.out).glt; clear h2 hb2 NB))
    obtain ⟨W, hW⟩ : ∃ W, W = w2.setCell ⟨r, 0, none⟩ (.slice (some ⟨g, 0, none⟩) 32 c') := ⟨_, rfl⟩
    rw [← hW] at C2 K2 ⊢
    clear hW z2 f2 l2
    obtain ⟨_, c1, _⟩ := C2.out.hcells
    have hrW := C2.out.glt
    have IW := Lib.hid (HI.out W K2.out)
    simp only at c1
    go_loopw [6, 7] (fun s0 i wr => ∃ (k : Nat) (A' : Option Addr) (c' : Nat), k ≤ s.l.length ∧ i = .int .i64 k ∧ s0 = .slice A' ((s.l.take k).filter (fun x => !decide (x.n ∈ m))).length c' ∧ Hid (RowO wr W.heap.size A' c' ((s.l.take k).filter (fun x => !decide (x.n ∈ m)))) ∧ Hid (Below W.heap.size W wr)) (fun _ i _ => s.l.length - (intOf i).toNat)
    case atStart => exact ⟨0, none, 0, Nat.zero_le _, rfl, rfl, World.ownsRow_nil _ _ _ _, Below.refl _ _⟩
    case round =>
      obtain ⟨k, A', c', hk, rfl, rfl, hrow, hB⟩ := hrel
      rename World => wr
      have hk0 : (0 : Int) ≤ (k : Int) := by omega
      have hwz := hB.out.size
      have HC3 := Lib.hid (C2.out.fresh hB.out)
      clear c1
      obtain ⟨_, c1, _⟩ := HC3.out.hcells
      simp only at c1
      have hrz : r < wr.heap.size := by omega
      by_cases hlt : k < s.l.length
      · have hki : (k : Int) < (s.l.length : Int) := by omega
        obtain ⟨b, rfl, h1, h2, hb, d0, d1, d2, d3⟩ := HC3.out.at_ hlt
        unfold maxLen at h2
        simp only at d0 d1 d2 d3
        have HH := Lib.hid (has_any A0 c0 m (onn s.l k).n wr hm ((IW.out.below hB.out).more hB.out.size))
        have Hs := Lib.hid (offF_next (m := m) hlt)
        have hol : ((s.l.take k).filter (fun x => !decide (x.n ∈ m))).length ≤ 1000 := by
          have := List.length_filter_le (fun x : On => !decide (x.n ∈ m)) (s.l.take k)
          have := List.length_take_le k s.l
          omega
        generalize (s.l.take k).filter (fun x => !decide (x.n ∈ m)) = o at *
        generalize onn s.l k = x at *
        obtain ⟨y, bk, ok, sk⟩ := x
        simp only at d0 d1 d2 d3
        cases hy : decide (y ∈ m) with
        | true =>
          simp only at HH Hs
          rw [hy] at HH Hs
          have Hs2 := Lib.hid (Hs.out.trans (by rw [if_pos rfl, List.append_nil]))
          clear hy Hs
          go_wp2_with (go_at_call 68; refine HH.out.mono ?_; rintro e w5 ⟨rfl, rfl⟩)
          go_roundw
          case rel => exact ⟨k + 1, A', c', by omega, by go_num, by rw [Hs2.out], by rw [Hs2.out]; exact hrow.out, hB.out⟩
          case measure => simp [intOf]; omega
        | false =>
          simp only at HH Hs
          rw [hy] at HH Hs
          have Hs2 := Lib.hid (Hs.out.trans (by rw [if_neg (by decide)]))
          have hlo : (o ++ [(⟨y, ⟨bk, ok, sk⟩⟩ : On)]).length = o.length + 1 := by simp
          clear hy Hs
          go_wp2_with (first
            | (go_at_call 68; refine HH.out.mono ?_; rintro e w5 ⟨rfl, rfl⟩)
            | (at_builtin; refine wpList_append_src rfl (.tmp 40) (.tmp 48) 93 rfl W.heap.size 97 i0 zeroO 4 40 Try.underlying93 hi0 hz0 hz1 hz2 rfl (by decide) (.slice A' o.length c') o.length (flatO o) rfl (ao_row ⟨y, ⟨bk, ok, sk⟩⟩ hrow.out) (some ⟨wr.heap.size, 0, none⟩) 1 1 [.int .i64 y, .int .i64 bk, .int .i64 ok, .string sk] rfl rfl (ao_src wr ⟨y, ⟨bk, ok, sk⟩⟩) (by intro h; cases h) (ao_one ⟨y, ⟨bk, ok, sk⟩⟩) (by unfold maxLen; omega) (by omega) (by simp; omega) (o.length + 1) rfl ?_; intro A7 c7 w7 ho7 hg7 hor7; have G1 := Lib.hid (ao_new (x := ⟨y, ⟨bk, ok, sk⟩⟩) hrow.out hB.out ho7 hg7).1; have G2 := Lib.hid (ao_new (x := ⟨y, ⟨bk, ok, sk⟩⟩) hrow.out hB.out ho7 hg7).2; clear ho7 hg7 hor7))
          go_roundw
          case rel => exact ⟨k + 1, A7, c7, by omega, by go_num, by rw [Hs2.out, hlo], by rw [Hs2.out]; exact G1.out, G2.out⟩
          case measure => simp [intOf]; omega
      · obtain rfl : k = s.l.length := by omega
        have hki : ¬ (s.l.length : Int) < (s.l.length : Int) := by omega
        rw [List.take_length] at *
        have NR := new_row C2.out hB.out hrow.out rfl
        have hfr := HC3.out.free 1
        have HF : Hid (RW B w r (settleS s m) (wr.setCell ⟨r, 1, none⟩ (.slice A' (s.l.filter (fun x => !decide (x.n ∈ m))).length c'))) := ⟨⟨_, _, _, _, NR.1⟩, K2.out.trans NR.2 (fun b e => .inl e)⟩
        clear NR
        go_wp2
        go_ret
        exact ⟨rfl, HF.out⟩
  · have HF : Hid (∀ w', Below w.heap.size w w' → RW B w r s w') := fun w' h => hC.rw h
    rw [if_neg hE]
    generalize mayE s.l m = E at *
    have hne : (E != 0) = true := by simpa using hE
    clear hC hI hE hr0'
    go_enter Try.func61, Try.ntmps61
    go_wp2_with (go_at_call 44; refine HM.out.mono ?_; rintro e w1 ⟨rfl, hb1⟩; have B1 := Lib.hid (HF.out w1 hb1); clear hb1)
    go_ret
    exact ⟨rfl, B1.out⟩
end
end Go.Proofs.Ytibkipdadpidnaa
