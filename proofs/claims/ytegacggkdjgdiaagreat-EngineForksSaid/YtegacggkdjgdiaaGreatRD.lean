/- Dirty of both engines. -/
import Derived.Test.YtegacggkdjgdiaaGreatRC
import Derived.Test.YtegacggkdjgdiaaGreatRB
import Derived.Test.YtegacggkdjgdiaaGreatSh2
import Derived.Sort.OwnSortedInts
import Derived.Lib.OwnBridge
import Derived.Lib.RowBridge
set_option linter.unusedVariables false
set_option linter.unusedSimpArgs false
namespace Go.Proofs.YtegacggkdjgdiaaGreat
open Go.RowKit Go.Sort

theorem asc_ext : ∀ {a b : List Int}, a.Pairwise (· < ·) → b.Pairwise (· < ·) → (∀ x, x ∈ a ↔ x ∈ b) → a = b
  | [], [], _, _, _ => rfl
  | [], y :: b, _, _, h => by have := (h y).2 List.mem_cons_self; cases this
  | x :: a, [], _, _, h => by have := (h x).1 List.mem_cons_self; cases this
  | x :: a, y :: b, ha, hb, h => by
    obtain ⟨ha1, ha2⟩ := List.pairwise_cons.1 ha
    obtain ⟨hb1, hb2⟩ := List.pairwise_cons.1 hb
    have hxy : x = y := by
      rcases List.mem_cons.1 ((h x).1 List.mem_cons_self) with q | q
      · exact q
      · rcases List.mem_cons.1 ((h y).2 List.mem_cons_self) with q2 | q2
        · exact q2.symm
        · have := hb1 x q; have := ha1 y q2; omega
    subst hxy
    rw [asc_ext ha2 hb2 (fun z => ⟨fun hz => by
      rcases List.mem_cons.1 ((h z).1 (List.mem_cons_of_mem _ hz)) with q | q
      · subst q; have := ha1 z hz; omega
      · exact q, fun hz => by
      rcases List.mem_cons.1 ((h z).2 (List.mem_cons_of_mem _ hz)) with q | q
      · subst q; have := hb1 z hz; omega
      · exact q⟩)]
def srt (l : List Int) : List Int := l.mergeSort fun x y => decide (x ≤ y)
theorem length_srt (l : List Int) : (srt l).length = l.length := List.length_mergeSort l
theorem mem_srt {l : List Int} {x : Int} : x ∈ srt l ↔ x ∈ l := List.mem_mergeSort
theorem srt_le (l : List Int) : (srt l).Pairwise (· ≤ ·) := by
  have := List.pairwise_mergeSort (le := fun x y : Int => decide (x ≤ y)) (fun a b c h1 h2 => by simp at *; omega) (fun a b => by simp; omega) l
  unfold srt
  exact this.imp (fun h => by simpa using h)
theorem upto_asc (d : Array Int) (hs : ∀ i j, i < j → j < d.size → d[i]! ≤ d[j]!) : ∀ m, m ≤ d.size → (Lib.compactUpTo d m).Pairwise (· < ·) ∧ ∀ x, x ∈ Lib.compactUpTo d m ↔ ∃ j, j < m ∧ d[j]! = x := by
  intro m
  induction m with
  | zero => intro _; exact ⟨by simp [Lib.compactUpTo], fun x => by simp [Lib.compactUpTo]⟩
  | succ m ih =>
    intro hm
    obtain ⟨h1, h2⟩ := ih (by omega)
    rw [Lib.compactUpTo_succ]
    by_cases hk : Lib.keeps d m = true
    · rw [if_pos hk]
      have hk' : m = 0 ∨ d[m]! ≠ d[m - 1]! := by simpa [Lib.keeps] using hk
      refine ⟨List.pairwise_append.2 ⟨h1, List.pairwise_singleton _ _, fun a ha b hb => ?_⟩, fun x => ?_⟩
      · rw [List.mem_singleton] at hb
        subst hb
        obtain ⟨j, hj, rfl⟩ := (h2 a).1 ha
        rcases hk' with rfl | hne
        · omega
        · have e1 := hs (m - 1) m (by omega) (by omega)
          rcases Nat.lt_or_ge j (m - 1) with q | q
          · have := hs j (m - 1) q (by omega); omega
          · obtain rfl : j = m - 1 := by omega
            omega
      · rw [List.mem_append, List.mem_singleton, h2]
        constructor
        · rintro (⟨j, hj, e⟩ | e)
          · exact ⟨j, by omega, e⟩
          · exact ⟨m, by omega, e.symm⟩
        · rintro ⟨j, hj, e⟩
          by_cases q : j = m
          · subst q; exact .inr e.symm
          · exact .inl ⟨j, by omega, e⟩
    · rw [if_neg hk, List.append_nil]
      have hk' : ¬ (m = 0 ∨ d[m]! ≠ d[m - 1]!) := by simpa [Lib.keeps] using hk
      have hm0 : m ≠ 0 := fun e => hk' (.inl e)
      have he : d[m]! = d[m - 1]! := by
        apply Classical.byContradiction
        exact fun e => hk' (.inr e)
      refine ⟨h1, fun x => ?_⟩
      rw [h2]
      constructor
      · rintro ⟨j, hj, e⟩; exact ⟨j, by omega, e⟩
      · rintro ⟨j, hj, e⟩
        by_cases q : j = m
        · subst q; exact ⟨j - 1, by omega, by rw [← he]; exact e⟩
        · exact ⟨j, by omega, e⟩
theorem compact_spec {zs : List Int} (h : zs.Pairwise (· ≤ ·)) : (Lib.compact zs).Pairwise (· < ·) ∧ ∀ x, x ∈ Lib.compact zs ↔ x ∈ zs := by
  have hs : ∀ i j, i < j → j < zs.toArray.size → zs.toArray[i]! ≤ zs.toArray[j]! := fun i j hij hj => by
    have hj' : j < zs.length := by simpa using hj
    rw [getElem!_pos _ i (by simp; omega), getElem!_pos _ j hj]
    simpa using (List.pairwise_iff_getElem.1 h) i j (by omega) hj' hij
  obtain ⟨h1, h2⟩ := upto_asc zs.toArray hs zs.length (by simp)
  refine ⟨h1, fun x => (h2 x).trans ⟨?_, fun hx => ?_⟩⟩
  · rintro ⟨j, hj, rfl⟩
    rw [getElem!_pos _ j (by simpa using hj)]
    simp
  · obtain ⟨j, hj, rfl⟩ := List.mem_iff_getElem.1 hx
    exact ⟨j, hj, by rw [getElem!_pos _ j (by simpa using hj)]; simp⟩
/-- the blocks on which something waits -/
def dirI (n : Nat) (p : Nat → Bool) : List Int := ((List.range n).filter p).map fun i : Nat => (i : Int)
theorem dirI_asc (n : Nat) (p : Nat → Bool) : (dirI n p).Pairwise (· < ·) := by
  unfold dirI
  rw [List.pairwise_map]
  exact (List.Pairwise.filter _ List.pairwise_lt_range).imp (fun h => by omega)
def bl (l : List Wr) : List Int := l.map fun x => x.p.b
theorem bl_dir {n : Nat} {l : List Wr} (h : ∀ x ∈ l, 0 ≤ x.p.b ∧ x.p.b < n) : Lib.compact (srt (bl l)) = dirI n fun i => l.any fun x => x.p.b == (i : Int) := by
  obtain ⟨h1, h2⟩ := compact_spec (srt_le (bl l))
  refine asc_ext h1 (dirI_asc _ _) (fun x => ?_)
  rw [h2, mem_srt]
  unfold bl dirI
  constructor
  · intro hx
    obtain ⟨y, hy, rfl⟩ := List.mem_map.1 hx
    have := h y hy
    refine List.mem_map.2 ⟨y.p.b.toNat, List.mem_filter.2 ⟨List.mem_range.2 (by omega), List.any_eq_true.2 ⟨y, hy, ?_⟩⟩, by omega⟩
    rw [beq_iff_eq]; omega
  · intro hx
    obtain ⟨i, hi, rfl⟩ := List.mem_map.1 hx
    obtain ⟨y, hy, e⟩ := List.any_eq_true.1 (List.mem_filter.1 hi).2
    exact List.mem_map.2 ⟨y, hy, by simpa using e⟩
theorem sort_any (B : Nat) (A : Option Addr) (n c : Nat) (zs : List Int) (w : World) (h : w.ownsRow B 3 1 (.slice A n c) n (intsI zs)) (hn : n ≤ 1000) :
    Calls Tryz.prog 48 #[.slice A n c] w fun e w' => e = .returned (.tuple #[]) ∧ w'.ownsRow B 3 1 (.slice A n c) n (intsI (srt zs)) ∧ w.grownBy w' (Value.slice A n c).ownBlock := by
  have hz : zs.length = n := by have := h.1; simpa [intsI] using this
  rcases h.2 with ⟨q, h0⟩ | ⟨g, cap, cur, q, hB, hb, h1, h2, h3, h4⟩
  · obtain ⟨rfl, rfl, rfl⟩ := Value.slice.inj q
    refine (AnyM.slices_Sort_int_none Tryz.sort48 none 0 w).mono ?_
    rintro e w' ⟨rfl, rfl⟩
    have : zs = [] := List.eq_nil_of_length_eq_zero hz
    subst this
    exact ⟨rfl, by simpa [srt] using h, World.grownBy.refl _ _⟩
  · obtain ⟨rfl, _, rfl⟩ := Value.slice.inj q
    subst hz
    rw [Nat.mul_one] at h4
    have hH := holds_of_blockI hb h4
    refine (AnyM.slices_Sort_int Tryz.sort48 g 0 c zs w hH (Array.getElem?_eq_some_iff.1 hb).1 (by omega)).mono ?_
    rintro e w' ⟨rfl, m, os, rfl⟩
    exact ⟨rfl, ownsRow_sortedI (length_srt zs) hB hb h1 h2 h3, grownBy_sortedI _⟩
theorem compact_any (B : Nat) (A : Option Addr) (n c : Nat) (zs : List Int) (w : World) (h : w.ownsRow B 3 1 (.slice A n c) n (intsI zs)) (hn : n ≤ 1000) :
    Calls Tryz.prog 49 #[.slice A n c] w fun e w' => e = .returned (.slice A (Lib.compact zs).length c) ∧ w'.ownsRow B 3 1 (.slice A (Lib.compact zs).length c) (Lib.compact zs).length (intsI (Lib.compact zs)) ∧ w.grownBy w' (Value.slice A n c).ownBlock := by
  have hz : zs.length = n := by have := h.1; simpa [intsI] using this
  rcases h.2 with ⟨q, h0⟩ | ⟨g, cap, cur, q, hB, hb, h1, h2, h3, h4⟩
  · obtain ⟨rfl, rfl, rfl⟩ := Value.slice.inj q
    refine (Any.slices_Compact_int_empty Tryz.laysC none 0 w).mono ?_
    rintro e w' ⟨rfl, rfl⟩
    have : zs = [] := List.eq_nil_of_length_eq_zero hz
    subst this
    exact ⟨rfl, by simpa [Lib.compact, Lib.compactUpTo] using h, World.grownBy.refl _ _⟩
  · obtain ⟨rfl, _, rfl⟩ := Value.slice.inj q
    subst hz
    have h4' := h4
    rw [Nat.mul_one] at h4'
    have hH := holds_of_blockI hb h4'
    have hle := Lib.compact_length_le zs
    refine (Any.slices_Compact_int Tryz.laysC g 0 c zs w hH (by omega) (by omega)).mono ?_
    rintro e w' ⟨rfl, m, rfl⟩
    have hc := Lib.ownsRow_putRow (q := m) (k := (Lib.compact zs).length) (ys := Lib.compact zs ++ List.replicate (zs.length - (Lib.compact zs).length) 0) (zs := zs) (enc := Value.int .i64) h (by simp; omega) (by omega)
    rw [List.take_left] at hc
    have hg := grownBy_sortedI (w := w) (g := g) (n := m) (os := #[]) (Lib.compact zs ++ List.replicate (zs.length - (Lib.compact zs).length) 0).toArray
    rw [grow_empty] at hg
    exact ⟨rfl, hc, hg⟩
theorem bl_step {l : List Wr} {k : Nat} (hk : k < l.length) : intsI ((bl l).take k) ++ [.int .i64 (wn l k).p.b] = intsI ((bl l).take (k + 1)) := by
  have hb : k < (bl l).length := by simpa [bl] using hk
  rw [List.take_succ_eq_append_getElem hb]
  unfold intsI
  rw [List.map_append, wn_lt hk]
  simp [bl]
set_option maxRecDepth 100000 in
set_option maxHeartbeats 2000000 in
theorem edirty {w : World} {ge n cc : Nat} {S : Nat → Bk} {k : Int} {l : List Wr} {F : Nat → Prop} (h : Eng w ge n S cc k l F) :
    Calls Tryz.prog 16 #[.pointer (some ⟨ge, 0, none⟩)] w (Says w (Lib.compact (srt (bl l)))) := by
  obtain ⟨gd, A, cap, Fd, hE, rfl⟩ := h
  obtain ⟨i0, hi0, hz0, hz1, hz2⟩ := info_parts infoI
  have e2 := hE.head.c2
  have hge := hE.head.lt
  have hl : l.length ≤ 200 := hE.few
  have HE := Lib.hid hE
  clear hE
  have hbl : Hid ((bl l).length = l.length) := by simp [bl, Hid]
  go_enter Tryz.func16, Tryz.ntmps16
  go_wp2
  go_loopw [3, 14] (fun s i wr => ∃ (k : Nat) (A' : Option Addr) (c' : Nat), k ≤ l.length ∧ i = .int .i64 k ∧ s = .slice A' k c' ∧ wr.ownsRow w.heap.size 3 1 (.slice A' k c') k (intsI ((bl l).take k)) ∧ Below w.heap.size w wr) (fun _ i _ => l.length - (intOf i).toNat)
  case atStart => exact ⟨0, none, 0, Nat.zero_le _, rfl, rfl, World.ownsRow_nil _ _ _ _, Below.refl _ _⟩
  case round =>
    obtain ⟨q, A', c', hq, rfl, rfl, hrow, hB⟩ := hrel
    rename World => wr
    have HR := Lib.hid hrow
    have HB := Lib.hid hB
    by_cases hlt : q < l.length
    · have hlti : (q : Int) < (l.length : Int) := by omega
      have hk0 : (0 : Int) ≤ (q : Int) := by omega
      have hz := hB.size
      obtain ⟨ab, hA, h1, h2, hab, hcs, _⟩ := (HE.out.fresh hB).row.at_ hlt
      subst hA
      unfold maxLen at h2
      have Hst := Lib.hid (bl_step hlt)
      have d0 := hcs 0 (by omega)
      have d1 := hcs 1 (by omega)
      have d2 := hcs 2 (by omega)
      have d3 := hcs 3 (by omega)
      have d4 := hcs 4 (by omega)
      have d5 := hcs 5 (by omega)
      clear hcs
      obtain ⟨x, hx⟩ : ∃ x, x = wn l q := ⟨_, rfl⟩
      rw [← hx] at d0 d1 d2 d3 d4 d5 Hst
      clear hx
      obtain ⟨ny, ⟨y, o, s⟩, ah, a4, c4, f5⟩ := x
      simp [Wr.cs] at d0 d1 d2 d3 d4 d5
      dsimp only at Hst
      generalize ah.length = n4 at d4
      have Hrow : Hid (∀ W, Below wr.heap.size wr W → (W.alloc (.cells #[.int .i64 y] 3)).ownsRow w.heap.size 3 1 (.slice A' q c') q (intsI ((bl l).take q))) := fun W hW => (((Kept.fresh (S := fun _ => False) hW).row hrow (fun _ _ q => q))).alloc _
      have Hnew : Hid (∀ W : World, ∀ ad, some (⟨W.heap.size, 0, none⟩ : Addr) = some ad → ∀ j u, [Value.int .i64 y][j]? = some u → (W.alloc (.cells #[.int .i64 y] 3)).cell? (ad.add j) = some u) := fun W ad e j u hu => by
        cases e
        exact World.news_of_block (heap_alloc_new W _) j u hu
      have Hold := Lib.hid hrow.lt
      have HBa : Hid (Below wr.heap.size wr (wr.alloc (.cells #[.int .i64 ny, .int .i64 y, .int .i64 o, .string s, .slice a4 n4 c4, .bool f5] 91))) := (Below.refl _ _).alloc (Nat.le_refl _) _
      clear hrow hB
      go_wp2_with (at_builtin; refine wpList_append_src rfl (.tmp 18) (.tmp 22) 23 rfl w.heap.size 3 i0 (.int .i64 0) 1 8 Tryz.underlying23 hi0 hz0 hz1 hz2 rfl (by decide) (.slice A' q c') q (intsI ((bl l).take q)) rfl (Hrow.out _ HBa.out) (some ⟨wr.heap.size + 1, 0, none⟩) 1 1 [.int .i64 y] rfl rfl (by have := Hnew.out (wr.alloc (.cells #[.int .i64 ny, .int .i64 y, .int .i64 o, .string s, .slice a4 n4 c4, .bool f5] 91)); simpa using this) (fun e => by cases e) (by intro u hu; rw [List.mem_singleton] at hu; rw [hu]; rfl) (by unfold maxLen; omega) (by omega) (by simp; omega) (q + 1) rfl ?_; intro A2 c2 w2 ho2 hg2 hor2; have HO2 := Lib.hid ho2; have HG2 := Lib.hid hg2; clear ho2 hg2 hor2)
      go_roundw
      case rel =>
        refine ⟨q + 1, A2, c2, by omega, by go_num, rfl, by have := HO2.out; rw [Hst.out] at this; exact this, ?_⟩
        exact ((HB.out.trans (HBa.out.mono hz)).alloc (by simp; omega) _).grown HG2.out (by simp; omega) (fun j e => (Hold.out j e).1)
      case measure => simp [intOf]; omega
    · obtain rfl : q = l.length := by omega
      have hlti : ¬ (l.length : Int) < (l.length : Int) := by omega
      have hr := HR.out
      rw [List.take_of_length_le (by rw [hbl.out]; exact Nat.le_refl _)] at hr
      have HS := Lib.hid (sort_any w.heap.size A' l.length c' (bl l) wr hr (by omega))
      have Hlt := Lib.hid hr.lt
      clear hrow hB hr
      go_wp2_with (first
        | (go_at_call 48; refine HS.out.mono ?_; rintro e w3 ⟨rfl, ho3, hg3⟩; have HB3 := Lib.hid (HB.out.grown hg3 HB.out.size (fun j e => (Hlt.out j e).1)); have HC := Lib.hid (compact_any w.heap.size A' l.length c' (srt (bl l)) w3 ho3 (by omega)); clear ho3 hg3)
        | (go_at_call 49; refine HC.out.mono ?_; rintro e w4 ⟨rfl, ho4, hg4⟩; have HB4 := Lib.hid (HB3.out.grown hg4 HB3.out.size (fun j e => (Hlt.out j e).1)); have HO4 := Lib.hid ho4; clear ho4 hg4))
      go_ret
      exact ⟨A', c', rfl, HO4.out, HB4.out⟩
theorem dirI_step (n : Nat) (p : Nat → Bool) : dirI (n + 1) p = if p n = true then dirI n p ++ [(n : Int)] else dirI n p := by
  unfold dirI
  rw [List.range_succ, List.filter_append]
  cases h : p n <;> simp [h]
theorem dirI_len (n : Nat) (p : Nat → Bool) : (dirI n p).length ≤ n := by
  unfold dirI
  rw [List.length_map]
  have := List.length_filter_le p (List.range n)
  rw [List.length_range] at this
  exact this
def anyV (l : List Vr) (i : Nat) : Bool := l.any fun x => x.p.b == (i : Int)
theorem anyV_take {l : List Vr} {m : Nat} (h : m < l.length) (i : Nat) : anyV (l.take (m + 1)) i = (anyV (l.take m) i || ((vn l m).p.b == (i : Int))) := by
  unfold anyV; rw [take_vn h]; simp
theorem Tw.any {l0 r : List Wr} {rv : List Vr} (h : Tw l0 r rv) (i : Nat) : anyV rv i = r.any fun x => x.p.b == (i : Int) := by
  induction h with
  | nil => rfl
  | cons hn hp hd h ih => unfold anyV at *; simp only [List.any_cons]; rw [ih, hp]
set_option maxRecDepth 100000 in
set_option maxHeartbeats 2000000 in
theorem qdirty {w : World} {g n cc : Nat} {S : Nat → Bk} {k : Int} {l : List Vr} {t : List Tr} {F : Nat → Prop} (h : Qe w g n S cc k l t F) (hl : l.length ≤ 1000) (hn : n ≤ 96) : Calls Tryz.prog 38 #[.pointer (some ⟨g, 0, none⟩)] w (Says w (dirI n (anyV l))) := by
  obtain ⟨d, A, c, A2, c2, Fd, h, rfl⟩ := h
  have HQ := Lib.hid h
  obtain ⟨j0, hj0i, hj0z, hj01, hj02⟩ := info_parts infoI
  clear h
  go_enter Tryz.func38, Tryz.ntmps38
  go_wp2
  go_loopw [3, 4, 5, 6] (fun v q _ _ wr => ∃ (i m : Nat) (A5 : Option Addr) (c5 : Nat), i ≤ n ∧ q = .int .i64 i ∧ v = .slice A5 m c5 ∧ m ≤ i ∧ Hid ((dirI i (anyV l)).length = m) ∧ Hid (wr.ownsRow w.heap.size 3 1 (.slice A5 m c5) m (intsI (dirI i (anyV l)))) ∧ Hid (Below w.heap.size w wr)) (fun _ q _ _ _ => n - (intOf q).toNat)
  case atStart => exact ⟨0, 0, none, 0, Nat.zero_le _, rfl, rfl, Nat.le_refl _, rfl, World.ownsRow_nil _ _ _ _, Below.refl _ _⟩
  case round =>
    obtain ⟨i, m, A5, c5, hi, rfl, rfl, hmi, hm, hrow, hB⟩ := hrel
    rename World => wr
    have hsz := hB.out.size
    have HQr := Lib.hid (HQ.out.fresh hB.out)
    have e0 := HQr.out.head.c0
    have hgl := HQr.out.head.lt
    have HSz := Lib.hid (rsize HQr.out.disk)
    have Hst := Lib.hid (dirI_step i (anyV l))
    by_cases hlt : i < n
    · have hlti : (i : Int) < (n : Int) := by omega
      have hi0 : (0 : Int) ≤ (i : Int) := by omega
      go_wp2_with (go_at_call 68; refine HSz.out.mono ?_; rintro e w' ⟨rfl, rfl⟩)
      go_loopw [5, 6] (fun v q wq => ∃ j : Nat, j ≤ l.length ∧ q = .int .i64 j ∧ v = .bool (anyV (l.take j) i) ∧ wq = wr) (fun _ q _ => l.length - (intOf q).toNat)
      case atStart => exact ⟨0, Nat.zero_le _, rfl, by simp [anyV], rfl⟩
      case round =>
        obtain ⟨j, hj, rfl, rfl, hwq⟩ := hrel
        rename World => wq
        have e1 := HQr.out.head.c1
        rw [← hwq] at e1 hgl
        by_cases hjl : j < l.length
        · have hjli : (j : Int) < (l.length : Int) := by omega
          have hj0 : (0 : Int) ≤ (j : Int) := by omega
          obtain ⟨ab, hA, h3, h4, hb, hcs, _⟩ := HQr.out.row.at_ hjl
          subst hA
          unfold maxLen at h4
          have d1 := hcs 1 (by omega)
          rw [← hwq] at d1 hb
          have Hs2 := Lib.hid (anyV_take hjl i)
          have Hwq := Lib.hid hwq
          clear hwq hcs
          obtain ⟨x, hx⟩ : ∃ x, x = vn l j := ⟨_, rfl⟩
          rw [← hx] at d1 Hs2
          clear hx
          obtain ⟨num, ⟨b, o, s⟩, ds, a4, c4⟩ := x
          simp [Vr.cs] at d1
          dsimp only at Hs2
          obtain ⟨u, hu⟩ : ∃ u, u = anyV (l.take j) i := ⟨_, rfl⟩
          rw [← hu] at Hs2 ⊢
          clear hu
          cases u with
          | true =>
            go_wp2
            go_roundw
            case rel => exact ⟨j + 1, by omega, by go_num, by rw [Hs2.out]; rfl, Hwq.out⟩
            case measure => simp [intOf]; omega
          | false =>
            by_cases hbi : b = (i : Int)
            · have hv : Hid (anyV (l.take (j + 1)) i = true) := by unfold Hid; rw [Hs2.out, hbi]; simp
              go_wp2
              go_roundw
              case rel => exact ⟨j + 1, by omega, by go_num, by rw [hv.out], Hwq.out⟩
              case measure => simp [intOf]; omega
            · have hv : Hid (anyV (l.take (j + 1)) i = false) := by unfold Hid; rw [Hs2.out]; simp [hbi]
              go_wp2
              go_roundw
              case rel => exact ⟨j + 1, by omega, by go_num, by rw [hv.out]; simp [hbi], Hwq.out⟩
              case measure => simp [intOf]; omega
        · obtain rfl : j = l.length := by omega
          have hjli : ¬ (l.length : Int) < (l.length : Int) := by omega
          rw [List.take_length]
          obtain ⟨u, hu⟩ : ∃ u, u = anyV l i := ⟨_, rfl⟩
          rw [← hu] at Hst ⊢
          clear hu
          have hB' : Hid (Below w.heap.size w wq) := by rw [hwq]; exact hB.out
          have hrow' : Hid (wq.ownsRow w.heap.size 3 1 (.slice A5 m c5) m (intsI (dirI i (anyV l)))) := by rw [hwq]; exact hrow.out
          have hszq : w.heap.size ≤ wq.heap.size := hB'.out.size
          clear hwq
          cases u with
          | true =>
            have Hd : Hid (dirI (i + 1) (anyV l) = dirI i (anyV l) ++ [(i : Int)]) := by unfold Hid; rw [Hst.out]; rfl
            have Hys : Hid (intsI (dirI i (anyV l)) ++ [.int .i64 (i : Int)] = intsI (dirI (i + 1) (anyV l))) := by unfold Hid; rw [Hd.out]; simp [intsI]
            have Hrow : Hid ((wq.alloc (.cells #[.int .i64 (i : Int)] 3)).ownsRow w.heap.size 3 1 (.slice A5 m c5) m (intsI (dirI i (anyV l)))) := hrow'.out.alloc _
            have Hnew : Hid (∀ ad, some (⟨wq.heap.size, 0, none⟩ : Addr) = some ad → ∀ q x, ([.int .i64 (i : Int)] : List Value)[q]? = some x → (wq.alloc (.cells #[.int .i64 (i : Int)] 3)).cell? (ad.add q) = some x) := fun ad e q x hx => by
              cases e
              exact World.news_of_block (heap_alloc_new wq _) q x hx
            have Hold : Hid (∀ q, (Value.slice A5 m c5).ownBlock = some q → w.heap.size ≤ q) := fun q e => (hrow'.out.lt q e).1
            clear Hst
            go_wp2_with (at_builtin; go_loud (refine wpList_append_src rfl (.tmp 44) (.tmp 46) 23 rfl w.heap.size 3 j0 (.int .i64 0) 1 8 Tryz.underlying23 hj0i hj0z hj01 hj02 rfl (by decide) (.slice A5 m c5) m (intsI (dirI i (anyV l))) rfl Hrow.out (some ⟨wq.heap.size, 0, none⟩) 1 1 _ rfl rfl Hnew.out (fun e => by cases e) (by intro u hu; rw [List.mem_singleton] at hu; rw [hu]; rfl) (by unfold maxLen; omega) (by omega) (by simp; omega) (m + 1) rfl ?_; intro A7 c7 w7 ho7 hg7 hor7; have HB7 : Hid (Below w.heap.size w w7) := (hB'.out.alloc hszq _).grown hg7 (by simp; omega) Hold.out; have HO7 := Lib.hid ho7; clear ho7 hg7 hor7))
            go_roundw
            case rel => exact ⟨i + 1, m + 1, A7, c7, by omega, by go_num, rfl, by omega, by unfold Hid; rw [Hd.out, List.length_append, hm.out]; rfl, by have h := HO7.out; rw [Hys.out] at h; exact h, HB7.out⟩
            case measure => simp [intOf]; omega
          | false =>
            have Hd : Hid (dirI (i + 1) (anyV l) = dirI i (anyV l)) := by unfold Hid; rw [Hst.out]; rfl
            clear Hst
            go_wp2
            go_roundw
            case rel => exact ⟨i + 1, m, A5, c5, by omega, by go_num, rfl, by omega, by unfold Hid; rw [Hd.out]; exact hm.out, by unfold Hid; rw [Hd.out]; exact hrow'.out, hB'.out⟩
            case measure => simp [intOf]; omega
    · obtain rfl : i = n := by omega
      have hlti : ¬ (i : Int) < (i : Int) := by omega
      clear Hst
      go_wp2_with (go_at_call 68; refine HSz.out.mono ?_; rintro e w' ⟨rfl, rfl⟩)
      go_ret
      refine ⟨A5, c5, by rw [hm.out]; rfl, ?_, hB.out⟩
      rw [hm.out]
      exact hrow.out
end Go.Proofs.YtegacggkdjgdiaaGreat
