/- The blocks on which patches wait: Dirty of an engine. -/
import Derived.Test.YthibnnllecdpaaaNH
import Derived.Test.YthibnnllecdpaaaSh
import Derived.Sort.OwnSortedInts
import Derived.Lib.OwnBridge
import Derived.Lib.RowBridge
namespace Go.Proofs.Ythibnnllecdpaaa
open Go.RowKit Go.Sort

theorem mem_compact {zs : List Int} {z : Int} (h : z ∈ Lib.compact zs) : z ∈ zs := by
  unfold Lib.compact Lib.compactUpTo at h
  rw [List.mem_map] at h
  obtain ⟨j, hj, rfl⟩ := h
  have hl := List.mem_range.1 (List.mem_filter.1 hj).1
  rw [getElem!_pos _ j (by simpa using hl)]
  simp
theorem compact_ne {zs : List Int} (h : zs ≠ []) : Lib.compact zs ≠ [] := by
  intro e
  unfold Lib.compact Lib.compactUpTo at e
  rw [List.map_eq_nil_iff, List.filter_eq_nil_iff] at e
  have hl : 0 < zs.length := List.length_pos_iff.2 h
  exact e 0 (List.mem_range.2 hl) (Lib.keeps_lt_one _ 0 (by omega))
def srt (l : List Int) : List Int := l.mergeSort fun x y => decide (x ≤ y)
theorem length_srt (l : List Int) : (srt l).length = l.length := List.length_mergeSort l
theorem mem_srt {l : List Int} {x : Int} : x ∈ srt l ↔ x ∈ l := List.mem_mergeSort
theorem sort_any (B : Nat) (A : Option Addr) (n c : Nat) (zs : List Int) (w : World) (h : w.ownsRow B 3 1 (.slice A n c) n (intsV zs)) (hn : n ≤ 1000) :
    Calls Try.prog 52 #[.slice A n c] w fun e w' => e = .returned (.tuple #[]) ∧ w'.ownsRow B 3 1 (.slice A n c) n (intsV (srt zs)) ∧ w.grownBy w' (Value.slice A n c).ownBlock := by
  have hz : zs.length = n := by have := h.1; simpa [intsV] using this
  rcases h.2 with ⟨q, h0⟩ | ⟨g, cap, cur, q, hB, hb, h1, h2, h3, h4⟩
  · obtain ⟨rfl, rfl, rfl⟩ := Value.slice.inj q
    refine (Any.slices_Sort_int_none Try.lays189 none 0 w).mono ?_
    rintro e w' ⟨rfl, rfl⟩
    have : zs = [] := List.eq_nil_of_length_eq_zero hz
    subst this
    exact ⟨rfl, by simpa [srt] using h, World.grownBy.refl _ _⟩
  · obtain ⟨rfl, _, rfl⟩ := Value.slice.inj q
    subst hz
    rw [Nat.mul_one] at h4
    have hH := holds_of_blockI hb h4
    refine (Any.slices_Sort_int Try.lays189 g 0 c zs w hH (Array.getElem?_eq_some_iff.1 hb).1 (by omega)).mono ?_
    rintro e w' ⟨rfl, m, os, rfl⟩
    exact ⟨rfl, ownsRow_sortedI (length_srt zs) hB hb h1 h2 h3, grownBy_sortedI _⟩
theorem compact_any (B : Nat) (A : Option Addr) (n c : Nat) (zs : List Int) (w : World) (h : w.ownsRow B 3 1 (.slice A n c) n (intsV zs)) (hn : n ≤ 1000) :
    Calls Try.prog 53 #[.slice A n c] w fun e w' => e = .returned (.slice A (Lib.compact zs).length c) ∧ w'.ownsRow B 3 1 (.slice A (Lib.compact zs).length c) (Lib.compact zs).length (intsV (Lib.compact zs)) ∧ w.grownBy w' (Value.slice A n c).ownBlock := by
  have hz : zs.length = n := by have := h.1; simpa [intsV] using this
  rcases h.2 with ⟨q, h0⟩ | ⟨g, cap, cur, q, hB, hb, h1, h2, h3, h4⟩
  · obtain ⟨rfl, rfl, rfl⟩ := Value.slice.inj q
    refine (Any.slices_Compact_int_empty Try.laysNm220 none 0 w).mono ?_
    rintro e w' ⟨rfl, rfl⟩
    have : zs = [] := List.eq_nil_of_length_eq_zero hz
    subst this
    exact ⟨rfl, by simpa [Lib.compact, Lib.compactUpTo] using h, World.grownBy.refl _ _⟩
  · obtain ⟨rfl, _, rfl⟩ := Value.slice.inj q
    subst hz
    have h4' := h4
    rw [Nat.mul_one] at h4'
    have hH := holds_of_blockI hb h4'
    have hle := Lib.compact_length_le zs
    refine (Any.slices_Compact_int Try.laysNm220 g 0 c zs w hH (by omega) (by omega)).mono ?_
    rintro e w' ⟨rfl, m, rfl⟩
    have hc := Lib.ownsRow_putRow (q := m) (k := (Lib.compact zs).length) (ys := Lib.compact zs ++ List.replicate (zs.length - (Lib.compact zs).length) 0) (zs := zs) (enc := Value.int .i64) h (by simp; omega) (by omega)
    rw [List.take_left] at hc
    have hg := grownBy_sortedI (w := w) (g := g) (n := m) (os := #[]) (Lib.compact zs ++ List.replicate (zs.length - (Lib.compact zs).length) 0).toArray
    rw [grow_empty] at hg
    exact ⟨rfl, hc, hg⟩
def bl (l : List Wt) : List Int := l.map Wt.b
theorem bl_step {l : List Wt} {k : Nat} (hk : k < l.length) : intsV ((bl l).take k) ++ [.int .i64 (wn l k).b] = intsV ((bl l).take (k + 1)) := by
  have hb : k < (bl l).length := by simpa [bl] using hk
  rw [List.take_succ_eq_append_getElem hb]
  unfold intsV
  rw [List.map_append, wn_lt hk]
  simp [bl]
def Dirties (w : World) (bs : List Int) (e : Ending) (w' : World) : Prop := ∃ A c zs, e = .returned (.slice A zs.length c) ∧ w'.ownsRow w.heap.size 3 1 (.slice A zs.length c) zs.length (intsV zs) ∧ (∀ z ∈ zs, z ∈ bs) ∧ (bs ≠ [] → zs ≠ []) ∧ zs.length ≤ bs.length ∧ Below w.heap.size w w'
set_option maxRecDepth 100000 in
set_option maxHeartbeats 2000000 in
theorem edirty_any (B ge gd : Nat) (k : Int) (A : Option Addr) (cap : Nat) (l : List Wt) (w : World) (hE : EngAt B w ge gd k (.slice A l.length cap) l) (hl : l.length ≤ 100) :
    Calls Try.prog 29 #[.pointer (some ⟨ge, 0, none⟩)] w (Dirties w (bl l)) := by
  obtain ⟨i0, hi0, hz0, hz1, hz2⟩ := info_parts info3
  have e2 := hE.c2
  have hge := hE.glt
  have HE := Lib.hid hE
  clear hE
  have hbl : Hid ((bl l).length = l.length) := by simp [bl, Hid]
  go_enter Try.func29, Try.ntmps29
  go_wp2
  go_loopw [3, 14] (fun s i wr => ∃ (k : Nat) (A' : Option Addr) (c' : Nat), k ≤ l.length ∧ i = .int .i64 k ∧ s = .slice A' k c' ∧ wr.ownsRow w.heap.size 3 1 (.slice A' k c') k (intsV ((bl l).take k)) ∧ Below w.heap.size w wr) (fun _ i _ => l.length - (intOf i).toNat)
  case atStart => exact ⟨0, none, 0, Nat.zero_le _, rfl, rfl, World.ownsRow_nil _ _ _ _, Below.refl _ _⟩
  case round =>
    obtain ⟨q, A', c', hq, rfl, rfl, hrow, hB⟩ := hrel
    rename World => wr
    have HR := Lib.hid hrow
    have HB := Lib.hid hB
    by_cases hlt : q < l.length
    · have hlti : (q : Int) < (l.length : Int) := by omega
      have hk0 : (0 : Int) ≤ (q : Int) := by omega
      have hz := hB.size
      obtain ⟨ab, cap', hv, h1, h2, hab, hcs⟩ := wrow_at (HE.out.fresh hB).row hlt
      cases hv
      have Hst := Lib.hid (bl_step hlt)
      have d0 : wr.cell? ⟨ab, q * 6, none⟩ = some (.int .i64 (wn l q).num) := hcs 0 (by omega)
      have d1 : wr.cell? ⟨ab, q * 6 + 1, none⟩ = some (.int .i64 (wn l q).b) := hcs 1 (by omega)
      have d2 : wr.cell? ⟨ab, q * 6 + 2, none⟩ = some (.int .i64 0) := hcs 2 (by omega)
      have d3 : wr.cell? ⟨ab, q * 6 + 3, none⟩ = some (.string lx) := hcs 3 (by omega)
      have d4 : wr.cell? ⟨ab, q * 6 + 4, none⟩ = some (.slice (wn l q).A (wn l q).n (wn l q).c) := hcs 4 (by omega)
      have d5 : wr.cell? ⟨ab, q * 6 + 5, none⟩ = some (.bool false) := hcs 5 (by omega)
      generalize lx = s at d3
      generalize (wn l q).b = y at d1 Hst
      generalize (wn l q).num = ny at d0
      generalize (wn l q).A = a4 at d4
      generalize (wn l q).n = n4 at d4
      generalize (wn l q).c = c4 at d4
      have Hrow : Hid (∀ W, Below wr.heap.size wr W → (W.alloc (.cells #[.int .i64 y] 3)).ownsRow w.heap.size 3 1 (.slice A' q c') q (intsV ((bl l).take q))) := fun W hW => (((Kept.fresh (S := fun _ => False) hW).row hrow (fun _ _ q => q))).alloc _
      have Hnew : Hid (∀ W : World, ∀ ad, some (⟨W.heap.size, 0, none⟩ : Addr) = some ad → ∀ j u, [Value.int .i64 y][j]? = some u → (W.alloc (.cells #[.int .i64 y] 3)).cell? (ad.add j) = some u) := fun W ad e j u hu => by
        cases e
        exact World.news_of_block (heap_alloc_new W _) j u hu
      have Hold := Lib.hid hrow.lt
      have HBa : Hid (Below wr.heap.size wr (wr.alloc (.cells #[.int .i64 ny, .int .i64 y, .int .i64 0, .string s, .slice a4 n4 c4, .bool false] 98))) := (Below.refl _ _).alloc (Nat.le_refl _) _
      clear hrow hB hcs
      go_wp2_with (at_builtin; refine wpList_append_src rfl (.tmp 18) (.tmp 22) 38 rfl w.heap.size 3 i0 (.int .i64 0) 1 8 Try.underlying38 hi0 hz0 hz1 hz2 rfl (by decide) (.slice A' q c') q (intsV ((bl l).take q)) rfl (Hrow.out _ HBa.out) (some ⟨wr.heap.size + 1, 0, none⟩) 1 1 [.int .i64 y] rfl rfl (by have := Hnew.out (wr.alloc (.cells #[.int .i64 ny, .int .i64 y, .int .i64 0, .string s, .slice a4 n4 c4, .bool false] 98)); simpa using this) (fun e => by cases e) (by intro u hu; rw [List.mem_singleton] at hu; rw [hu]; rfl) (by unfold maxLen; omega) (by omega) (by simp; omega) (q + 1) rfl ?_; intro A2 c2 w2 ho2 hg2 hor2; have HO2 := Lib.hid ho2; have HG2 := Lib.hid hg2; clear ho2 hg2 hor2)
      go_roundw
      case rel =>
        refine ⟨q + 1, A2, c2, by omega, by go_num, rfl, by have := HO2.out; rw [Hst.out] at this; exact this, ?_⟩
        exact ((HB.out.trans (HBa.out.mono hz)).alloc (by simp; omega) _).grown HG2.out (by simp; omega) (fun j e => (Hold.out j e).1)
      case measure => simp [intOf]; omega
    · obtain rfl : q = l.length := by omega
      have hlti : ¬ (l.length : Int) < (l.length : Int) := by omega
      have hr := HR.out
      rw [List.take_of_length_le (by rw [hbl.out]; exact Nat.le_refl _)] at hr
      have HS := Lib.hid (sort_any w.heap.size A' l.length c' (bl l) wr hr (by omega))
      have Hlt := Lib.hid hr.lt
      clear hrow hB hr
      go_wp2_with (first
        | (go_at_call 52; refine HS.out.mono ?_; rintro e w3 ⟨rfl, ho3, hg3⟩; have HB3 := Lib.hid (HB.out.grown hg3 HB.out.size (fun j e => (Hlt.out j e).1)); have HC := Lib.hid (compact_any w.heap.size A' l.length c' (srt (bl l)) w3 ho3 (by omega)); clear ho3 hg3)
        | (go_at_call 53; refine HC.out.mono ?_; rintro e w4 ⟨rfl, ho4, hg4⟩; have HB4 := Lib.hid (HB3.out.grown hg4 HB3.out.size (fun j e => (Hlt.out j e).1)); have HO4 := Lib.hid ho4; clear ho4 hg4))
      go_ret
      have h1 := Lib.compact_length_le (srt (bl l))
      rw [length_srt] at h1
      refine ⟨_, _, Lib.compact (srt (bl l)), rfl, HO4.out, fun z hz => mem_srt.1 (mem_compact hz), fun hne => compact_ne (fun e => hne (List.eq_nil_of_length_eq_zero (by rw [← length_srt, e]; rfl))), h1, HB4.out⟩
end Go.Proofs.Ythibnnllecdpaaa
