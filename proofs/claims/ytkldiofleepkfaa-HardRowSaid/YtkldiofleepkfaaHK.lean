/- The units that wait on a block, rising: on. -/
import Derived.Test.YtkldiofleepkfaaHJ
set_option linter.unusedVariables false
set_option linter.unusedSimpArgs false
namespace Go.Proofs.Ytkldiofleepkfaa.Hd
open Go.RowKit
open Go.Maps (Keyed)
theorem ptrsU_src (W : World) (b : Nat) : ∀ ad, some (⟨W.heap.size, 0, none⟩ : Addr) = some ad → ∀ j u, ([.pointer (some ⟨b, 0, none⟩)] : List Value)[j]? = some u → (W.alloc (.cells #[.pointer (some ⟨b, 0, none⟩)] 59)).cell? (ad.add j) = some u := fun ad e j u hu => by
  cases e
  exact World.news_of_block (heap_alloc_new W _) j u hu
theorem OnS.skip {w wr w1 : World} {gu r cc : Nat} {D : DataW Value} {ks : List Int} {p : Int → Prop} {f : Int → Nat} {left : Lit → Bool} {cnt cnt1 : Nat} {T : List Int} {A : Option Addr} {c : Nat} (h : OnS w wr gu r cc D ks p f left cnt T A c) (hr : r ≤ w.heap.size) {x : Int} (hn : ¬ p x)
    (hrg : w1.ranges Try.prog 3 RV gu r cc D (fun z => left z && !z.sameKey (.int .i64 x)) cnt1) (hlt : cnt1 < cnt) (hg : wr.grownBy w1 (some r)) (hs : w1.heap.size = wr.heap.size) : OnS w w1 gu r cc D ks p f (fun z => left z && !z.sameKey (.int .i64 x)) cnt1 T A c := by
  obtain ⟨_, hX, hB, hrl, hrow, hnd, hcn, hm⟩ := h
  refine ⟨hrg, fun y hy => hX y (by simp only [Bool.and_eq_true] at hy; exact hy.1), hB.trans (grown_below hg (Nat.le_refl _) (by omega)), by omega, ?_, hnd, by omega, fun y => ?_⟩
  · refine (Kept.grown (S := fun b => b = r) hg (fun b e => by cases e; exact .inl rfl)).row hrow fun b hb q => ?_
    have := (hrow.lt b hb).1
    omega
  · rw [hm]
    by_cases e : y = x
    · subst e
      constructor
      · rintro ⟨⟨_, q⟩, _⟩; exact absurd q hn
      · rintro ⟨⟨_, q⟩, _⟩; exact absurd q hn
    · rw [strike_other left e]
theorem OnS.took {w wr w1 w3 : World} {gu r cc : Nat} {D : DataW Value} {ks : List Int} {p : Int → Prop} {f : Int → Nat} {left : Lit → Bool} {cnt cnt1 : Nat} {T : List Int} {A A2 : Option Addr} {c c2 : Nat} (h : OnS w wr gu r cc D ks p f left cnt T A c) (hr : r ≤ w.heap.size) (hgu : gu < r) {x : Int} (hx : x ∈ ks) (hp : p x) (hl : left (.int .i64 x) = true)
    (hrg : w1.ranges Try.prog 3 RV gu r cc D (fun z => left z && !z.sameKey (.int .i64 x)) cnt1) (hlt : cnt1 < cnt) (hg : wr.grownBy w1 (some r)) (hs : w1.heap.size = wr.heap.size) (o : Obj) (hg3 : (w1.alloc o).grownBy w3 (Value.slice A T.length c).ownBlock)
    (hrow3 : w3.ownsRow (r + 1) 59 1 (.slice A2 (T.length + 1) c2) (T.length + 1) (ptrsU f T ++ [.pointer (some ⟨f x, 0, none⟩)])) : OnS w w3 gu r cc D ks p f (fun z => left z && !z.sameKey (.int .i64 x)) cnt1 (T ++ [x]) A2 c2 := by
  obtain ⟨_, hX, hB, hrl, hrow, hnd, hcn, hm⟩ := h
  have hB1 : Below r w w1 := hB.trans (grown_below hg (Nat.le_refl _) (by omega))
  have hne : ∀ b, (Value.slice A T.length c).ownBlock = some b → r + 1 ≤ b := fun b hb => (hrow.lt b hb).1
  have hB3 : Below r w w3 := (hB1.alloc (by omega) o).grown hg3 (by simp; omega) (fun b e => by have := hne b e; omega)
  have h5 : (w1.alloc o).ranges Try.prog 3 RV gu r cc D (fun z => left z && !z.sameKey (.int .i64 x)) cnt1 := hrg.kept (below_grown (below_alloc1 w1 o)) (by simp) (by simp)
  refine ⟨h5.kept hg3 (fun e => by have := hne gu e.symm; omega) (fun e => by have := hne r e.symm; omega), fun y hy => hX y (by simp only [Bool.and_eq_true] at hy; exact hy.1), hB3, ?_, ?_, ?_, ?_, fun y => ?_⟩
  · have := hg3.size; simp at this; omega
  · have : ptrsU f (T ++ [x]) = ptrsU f T ++ [.pointer (some ⟨f x, 0, none⟩)] := by simp [ptrsU, ptr]
    rw [this, List.length_append]
    exact hrow3
  · rw [List.nodup_append]
    refine ⟨hnd, by simp, fun a ha b hb e => ?_⟩
    rw [List.mem_singleton] at hb
    subst hb; subst e
    have := ((hm a).1 ha).2
    rw [hl] at this; cases this
  · rw [List.length_append]; simp; omega
  · rw [List.mem_append, List.mem_singleton, hm]
    by_cases e : y = x
    · subst e
      have := strike_self left y
      exact ⟨fun _ => ⟨⟨hx, hp⟩, this⟩, fun _ => .inr rfl⟩
    · rw [strike_other left e]
      simp [e]
set_option maxRecDepth 100000 in
set_option maxHeartbeats 2000000 in
theorem on_any {w : World} {g gd n cc : Nat} {S : Nat → Bk} {k jo id : Int} {l : List Hw} {sent : List Int} {m : Lay} {Fd : Nat → Prop} (h : HAt w g gd n S cc k jo id l sent m Fd) (hcc : cc ≤ 100000) (i : Int) :
    Calls Try.prog 29 #[.pointer (some ⟨g, 0, none⟩), .int .i64 i] w fun e w' => ∃ A c, e = .returned (.slice A (onU l i).length c) ∧ w'.ownsRow w.heap.size 59 1 (.slice A (onU l i).length c) (onU l i).length (ptrsU m.up (onU l i)) ∧ Below w.heap.size w w' := by
  have e5 := h.c5
  have hge := h.glt
  have HH := Lib.hid h
  obtain ⟨D, h1, h2, h3⟩ := h.umap
  have H1 := Lib.hid h1
  have H3 := Lib.hid h3
  have hsz : Maps.size D ≤ 200 := by rw [keys_sizeH (nodup_rise (units_rise h.ok.asc)) h1 h2]; have := units_len l; have := h.few; omega
  have hgu := h1.lt
  have Hin : Hid (∀ w0, w0.ranges Try.prog 3 RV m.gu w.heap.size cc D (Maps.has D) (Maps.size D) → w.grownBy w0 none → w0.heap.size = w.heap.size + 1 → OnS w w0 m.gu w.heap.size cc D (units l) (fun u => ubl l u = i) m.up (Maps.has D) (Maps.size D) [] none 0) := fun w0 r0 g0 s0 =>
    ⟨r0, fun x hx => (h2 x).1 hx, ⟨g0.os, g0.tape, g0.output, g0.size, fun k hk => g0.block k hk (by simp)⟩, by omega, World.ownsRow_nil _ _ _ _, List.nodup_nil, by simp, fun x => by
      constructor
      · intro q; cases q
      · rintro ⟨⟨q, _⟩, q2⟩
        have := (h2 x).2 q
        rw [this] at q2; cases q2⟩
  obtain ⟨i0, hi0, hz0, hz1, hz2⟩ := info_parts infoPU
  clear h h1 h2 h3
  go_enter Try.func29, Try.ntmps29
  go_wp2_with (at_range; refine wpList_range_own _ rfl _ 43 rfl 3 59 lawI Try.underlying43 RV m.gu cc D rfl H1.out ?_; intro w0 hrg0 hg0 hs0; have HE := Lib.hid (Hin.out w0 hrg0 hg0 hs0); clear hrg0 hg0 hs0)
  go_frame
  clear e5
  go_loopw [5] (fun s wr => ∃ (left : Lit → Bool) (cnt : Nat) (T : List Int) (A : Option Addr) (c : Nat), s = .slice A T.length c ∧ Hid (OnS w wr m.gu w.heap.size cc D (units l) (fun u => ubl l u = i) m.up left cnt T A c)) (fun _ wr => wr.rangeLeft m.gu w.heap.size)
  case atStart => exact ⟨_, _, [], none, 0, rfl, HE.out⟩
  case round =>
    obtain ⟨left, cnt, T, A, c, rfl, hE⟩ := hrel
    rename World => wr
    have HrgL := Lib.hid hE.out.1
    have hTl : T.length ≤ 900 := by have := hE.out.2.2.2.2.2.2.1; omega
    go_wp2_with (at_next; refine wpList_next_ptr rfl _ rfl 3 lawI Try.underlying3 m.gu w.heap.size cc D left cnt rfl HrgL.out (units l) m.up hE.out.2.1 H3.out ?_ ?_)
    · intro hc0 hl0
      obtain ⟨_, _, hB, hrl, hrow, hnd, _, hm⟩ := hE.out
      have hok := HH.out.ok
      have hperm : T.Perm (onU l i) := (List.perm_ext_iff_of_nodup hnd ((onU_rises hok.asc i).imp (fun q e => by omega))).2 fun x => by
        rw [hm, mem_onU' hok.asc]
        exact ⟨fun q => q.1, fun q => ⟨q, hl0 _⟩⟩
      have HS := Lib.hid (sortU_any m.up T (onU l i) _ A c wr hperm (onU_rises hok.asc i) hrow (fun u hu => by
        have hu' := ((mem_onU' hok.asc).1 hu).1
        have hb := HH.out.us u hu'
        have hlt := (Array.getElem?_eq_some_iff.1 hb).1
        refine ⟨by omega, (hB.cell (p := ⟨m.up u, 0, none⟩) hlt).trans (cell_of_row w _ 0 _ 62 (0, 0) hb), fun e => ?_⟩
        have := (hrow.lt (m.up u) ((own_eq _ _ _).trans e)).1
        omega) (by omega))
      have HT := Lib.hid hperm.length_eq
      have HB := Lib.hid hB
      have Hrl := Lib.hid hrl
      have Hlt : Hid (∀ b, (Value.slice A T.length c).ownBlock = some b → w.heap.size ≤ b) := fun b hb => by have := (hrow.lt b hb).1; omega
      clear hB hrow hnd hm hl0 hc0 hperm hrl hE HrgL
      go_wp2_with (go_at_call 46; refine HS.out.mono ?_; rintro e w' ⟨rfl, hr', hg'⟩; have HR' := Lib.hid hr'; have HG' := Lib.hid hg'; clear hr' hg')
      go_ret
      rw [← HT.out]
      exact ⟨A, c, rfl, (HR'.out).mono (by omega), HB.out.grown HG'.out (by have := Hrl.out; omega) (fun b e => Hlt.out b e)⟩
    · intro x w1 cnt1 hx hlx hrg1 hlt hg1 hs1 hen
      have hB1 : Below w.heap.size w w1 := hE.out.2.2.1.trans (grown_below hg1 (Nat.le_refl _) (by have := hE.out.2.2.2.1; omega))
      have hb := HH.out.us x hx
      have hul := (Array.getElem?_eq_some_iff.1 hb).1
      have hul1 : m.up x < w1.heap.size := by have := hB1.size; omega
      have u1 : w1.cell? ⟨m.up x, 1, none⟩ = some (.int .i64 (ubl l x)) := (hB1.cell (p := ⟨m.up x, 1, none⟩) hul).trans (cell_of_row w _ 1 _ 62 (0, 0) hb)
      have HLt := Lib.hid hlt
      have HrgO := Lib.hid hE.out.1
      by_cases es : ubl l x = i
      · have HTk := Lib.hid (fun (w3 : World) A2 c2 o hg3 hr3 => hE.out.took (w3 := w3) (A2 := A2) (c2 := c2) (Nat.le_refl _) hgu hx es hlx hrg1 hlt hg1 hs1 o hg3 hr3)
        rw [es] at u1
        have Hrow : Hid (∀ W, Below w1.heap.size w1 W → (W.alloc (.cells #[.pointer (some ⟨m.up x, 0, none⟩)] 59)).ownsRow (w.heap.size + 1) 59 1 (.slice A T.length c) T.length (ptrsU m.up T)) := fun W hW => by
          obtain ⟨_, _, _, hrl, hrow, _⟩ := hE.out
          have hr1 : w1.ownsRow (w.heap.size + 1) 59 1 (.slice A T.length c) T.length (ptrsU m.up T) := (Kept.grown (S := fun b => b = w.heap.size) hg1 (fun b e => by cases e; exact .inl rfl)).row hrow fun b hb q => by
            have := (hrow.lt b hb).1
            omega
          exact ((Kept.fresh (S := fun _ => False) hW).row hr1 (fun _ _ q => q)).alloc _
        have Hsr := Lib.hid (ptrsU_src w1 (m.up x))
        have hs2 : w.heap.size + 1 ≤ w1.heap.size := by have := hE.out.2.2.2.1; omega
        generalize m.up x = xb at *
        clear hrg1 hg1 hs1 hE HrgL hb hul hB1 hlx
        go_wp2_with (at_builtin; refine wpList_append_src rfl (.tmp 23) (.tmp 25) 56 rfl (w.heap.size + 1) 59 i0 _ 1 8 Try.underlying56 hi0 hz0 hz1 hz2 rfl (by decide) (.slice A T.length c) T.length (ptrsU m.up T) rfl (Hrow.out _ (Below.refl _ _)) (some ⟨w1.heap.size, 0, none⟩) 1 1 [.pointer (some ⟨xb, 0, none⟩)] rfl rfl (by simpa using Hsr.out) (fun e => by cases e) (by intro u hu; rw [List.mem_singleton] at hu; rw [hu]; rfl) (by unfold maxLen; omega) (by omega) (by simp; omega) (T.length + 1) rfl ?_; intro A2 c2 w3 ho2 hg2 hor2; have HO2 := Lib.hid ho2; have HG2 := Lib.hid hg2; clear ho2 hg2 hor2)
        have HZ := Lib.hid (HTk.out w3 A2 c2 _ HG2.out HO2.out)
        go_roundw
        case rel => exact ⟨_, cnt1, T ++ [x], A2, c2, by simp, HZ.out⟩
        case measure => have := HLt.out; rw [HZ.out.1.left_eq, HrgO.out.left_eq]; omega
      · have HZ := Lib.hid (hE.out.skip (Nat.le_refl _) es hrg1 hlt hg1 hs1)
        have hx2 : (ubl l x == i) = false := by simpa using es
        generalize m.up x = xb at *
        clear hrg1 hg1 hs1 hE HrgL hb hul hB1 hlx
        go_wp2
        go_roundw
        case rel => exact ⟨_, cnt1, T, A, c, rfl, HZ.out⟩
        case measure => have := HLt.out; rw [HZ.out.1.left_eq, HrgO.out.left_eq]; omega
end Go.Proofs.Ytkldiofleepkfaa.Hd
