/- The document's Has, Waiting, with, meet. -/
import Derived.Test.YtibkipdadpidnaaD
set_option linter.unusedVariables false
set_option linter.unusedSimpArgs false
namespace Go.Proofs.Ytibkipdadpidnaa
open Go.RowKit
open Pat (Pt AllB undoP nth)
set_option maxRecDepth 100000 in
set_option maxHeartbeats 1000000 in
theorem has_any (A : Option Addr) (c : Nat) (l : List Int) (n : Int) (w : World) (hl : l.length ≤ 1000) (hI : Ints w w.heap.size A l) :
    Calls Try.prog 68 #[.slice A l.length c, .int .i64 n] w fun e w' => e = .returned (.bool (decide (n ∈ l))) ∧ w = w' := by
  have HI := Lib.hid hI
  clear hI
  go_enter Try.func68, Try.ntmps68
  go_wp2
  go_loopw [5] (fun i wr => ∃ j : Nat, j ≤ l.length ∧ i = .int .i64 j ∧ w = wr ∧ Hid (∀ q, q < j → inn l q ≠ n)) (fun i _ => l.length - (intOf i).toNat)
  case atStart => exact ⟨0, Nat.zero_le _, rfl, rfl, fun q h => absurd h (by omega)⟩
  case round =>
    obtain ⟨j, hj, rfl, rfl, hno⟩ := hrel
    have hj0 : (0 : Int) ≤ (j : Int) := by omega
    by_cases hlt : j < l.length
    · have hji : (j : Int) < (l.length : Int) := by omega
      obtain ⟨b, off, rfl, hb, d0⟩ := HI.out.at_ hlt
      by_cases he : inn l j = n
      · have Hi : Hid (decide (n ∈ l) = true) := decide_eq_true (by rw [← he]; exact inn_mem hlt)
        have heq : (inn l j == n) = true := by simpa using he
        generalize inn l j = y at *
        clear hno he
        go_wp2
        go_ret
        exact ⟨by rw [Hi.out]; rfl, rfl⟩
      · have Hs : Hid (∀ q, q < j + 1 → inn l q ≠ n) := fun q hq => by
          by_cases e : q = j
          · rw [e]; exact he
          · exact hno.out q (by omega)
        have heq : (inn l j == n) = false := by simpa using he
        generalize inn l j = y at *
        clear hno he
        go_wp2
        go_roundw
        case rel => exact ⟨j + 1, by omega, by go_num, trivial, Hs.out⟩
        case measure => simp [intOf]; omega
    · obtain rfl : j = l.length := by omega
      have hji : ¬ (l.length : Int) < (l.length : Int) := by omega
      have Hi : Hid (decide (n ∈ l) = false) := decide_eq_false (fun h => by
        obtain ⟨q, hq, e⟩ := mem_inn h
        exact hno.out q hq e)
      clear hno
      go_wp2
      go_ret
      exact ⟨by rw [Hi.out]; rfl, rfl⟩
def nums (l : List On) : List Int := l.map (·.n)
theorem length_nums (l : List On) : (nums l).length = l.length := by simp [nums]
theorem nums_take (l : List On) (k : Nat) : (nums l).take k = nums (l.take k) := by simp [nums, List.map_take]
theorem nums_next {l : List On} {k : Nat} (h : k < l.length) : nums (l.take (k + 1)) = nums (l.take k) ++ [(onn l k).n] := by
  rw [take_onn h]; simp [nums]
/-- the pieces of an append of one number to a row of one's own -/
theorem ai_row {w6 : World} {B c : Nat} {A : Option Addr} {o : List Int} (v : Int) (h : RowI w6 B A c o) : (w6.alloc (.cells #[.int .i64 v] 3)).ownsRow B 3 1 (.slice A o.length c) o.length (intsV o) := World.ownsRow.alloc h _
theorem ai_src (w6 : World) (v : Int) (ad : Addr) (e : some (⟨w6.heap.size, 0, none⟩ : Addr) = some ad) : ∀ j u, [Value.int .i64 v][j]? = some u → (w6.alloc (.cells #[.int .i64 v] 3)).cell? (ad.add j) = some u := fun j u hu => by
  cases e
  exact World.news_of_block (heap_alloc_new w6 (.cells #[.int .i64 v] 3)) j u hu
theorem ai_new {w w6 w7 : World} {A A7 : Option Addr} {c c7 : Nat} {o : List Int} {v : Int} (h : RowI w6 w.heap.size A c o) (hb : Below w.heap.size w w6) (h7 : w7.ownsRow w.heap.size 3 1 (.slice A7 (o.length + 1) c7) (o.length + 1) (intsV o ++ [.int .i64 v])) (hg : (w6.alloc (.cells #[.int .i64 v] 3)).grownBy w7 (Value.slice A o.length c).ownBlock) :
    RowI w7 w.heap.size A7 c7 (o ++ [v]) ∧ Below w.heap.size w w7 :=
  ⟨by unfold RowI; rw [List.length_append, intsV_append]; exact h7, (hb.alloc hb.size _).grown hg (by simp; have := hb.size; omega) (fun j e => (h.lt j (by rw [← own_eq A o.length c]; exact e)).1)⟩
section
variable (B r : Nat) (bA A : Option Addr) (bc c : Nat) (s : Sk) (w : World)
set_option maxRecDepth 100000 in
set_option maxHeartbeats 1000000 in
theorem rwaiting_any (hC : RefAt B w r bA bc A c s) (hl : s.l.length ≤ 1000) : Calls Try.prog 34 #[.pointer (some ⟨r, 0, none⟩)] w fun e w' => ∃ A' c', e = .returned (.slice A' (nums s.l).length c') ∧ RowI w' w.heap.size A' c' (nums s.l) ∧ Below w.heap.size w w' := by
  have hr := hC.glt
  have HC := Lib.hid hC
  obtain ⟨i0, hi0, hz0, hz1, hz2⟩ := info_parts infoI
  clear hC
  go_enter Try.func34, Try.ntmps34
  go_wp2
  go_loopw [3, 4] (fun s0 i wr => ∃ (k : Nat) (A' : Option Addr) (c' : Nat), k ≤ s.l.length ∧ i = .int .i64 k ∧ s0 = .slice A' (nums (s.l.take k)).length c' ∧ Hid (RowI wr w.heap.size A' c' (nums (s.l.take k))) ∧ Hid (Below w.heap.size w wr)) (fun _ i _ => s.l.length - (intOf i).toNat)
  case atStart => exact ⟨0, none, 0, Nat.zero_le _, rfl, rfl, World.ownsRow_nil _ _ _ _, Below.refl _ _⟩
  case round =>
    obtain ⟨k, A', c', hk, rfl, rfl, hrow, hB⟩ := hrel
    rename World => wr
    have hk0 : (0 : Int) ≤ (k : Int) := by omega
    have hwz := hB.out.size
    have HC2 := Lib.hid (HC.out.fresh hB.out)
    obtain ⟨_, c1, _⟩ := HC2.out.hcells
    have hol : (nums (s.l.take k)).length = k := by rw [length_nums, List.length_take]; omega
    by_cases hlt : k < s.l.length
    · have hki : (k : Int) < (s.l.length : Int) := by omega
      obtain ⟨b, rfl, h1, h2, hb, d0, _⟩ := HC2.out.at_ hlt
      unfold maxLen at h2
      have Hs := Lib.hid (nums_next hlt)
      have Hol := Lib.hid hol
      clear hol
      generalize nums (s.l.take k) = o at *
      generalize (onn s.l k).n = y at *
      have hol : o.length ≤ 1000 := by have := Hol.out; omega
      go_wp2_with (at_builtin; refine wpList_append_src rfl (.tmp 18) (.tmp 27) 31 rfl w.heap.size 3 i0 (.int .i64 0) 1 8 Try.underlying31 hi0 hz0 hz1 hz2 rfl (by decide) (.slice A' o.length c') o.length (intsV o) rfl (ai_row y hrow.out) (some ⟨wr.heap.size, 0, none⟩) 1 1 [.int .i64 y] rfl rfl (ai_src wr y) (by intro h; cases h) (by intro u hu; simp at hu; subst hu; rfl) (by unfold maxLen; omega) (by omega) (by simp; omega) (o.length + 1) rfl ?_; intro A7 c7 w7 ho7 hg7 hor7; have G1 := Lib.hid (ai_new hrow.out hB.out ho7 hg7).1; have G2 := Lib.hid (ai_new hrow.out hB.out ho7 hg7).2; clear ho7 hg7 hor7)
      go_roundw
      case rel => exact ⟨k + 1, A7, c7, by omega, by go_num, by rw [Hs.out, List.length_append]; rfl, by rw [Hs.out]; exact G1.out, G2.out⟩
      case measure => simp [intOf]; omega
    · obtain rfl : k = s.l.length := by omega
      have hki : ¬ (s.l.length : Int) < (s.l.length : Int) := by omega
      rw [List.take_length] at *
      go_wp2
      go_ret
      exact ⟨A', c', rfl, hrow.out, hB.out⟩
set_option maxRecDepth 100000 in
set_option maxHeartbeats 1000000 in
theorem rwith_any (A0 : Option Addr) (c0 : Nat) (l0 : List Int) (hC : RefAt B w r bA bc A c s) (hr0 : Rights s.l) (hl : s.l.length ≤ 1000) (hl0 : l0.length ≤ 1000) (hI : Ints w w.heap.size A0 l0) :
    Calls Try.prog 45 #[.pointer (some ⟨r, 0, none⟩), .slice A0 l0.length c0] w fun e w' => ∃ g c', e = .returned (.slice (some ⟨g, 0, none⟩) 32 c') ∧ w'.ownsRow w.heap.size 5 1 (.slice (some ⟨g, 0, none⟩) 32 c') 32 (Pat.bytesV (withL (fun n => decide (n ∈ l0)) s.f s.l)) ∧ Below w.heap.size w w' := by
  have hr := hC.glt
  have HC := Lib.hid hC
  have HF := Lib.hid hC.len
  obtain ⟨q0, q1, _⟩ := hC.hcells
  have HR := Lib.hid hr0
  have HI := Lib.hid hI
  have hbt : Pat.Bts (w.alloc (.cells #[] 5)) w.heap.size bA s.f := by
    obtain ⟨b, cap, q, _, hb⟩ := hC.base.form (by omega)
    obtain ⟨rfl, _, rfl⟩ := Value.slice.inj q
    exact (Pat.info_own hC.base hC.all).1.below (Pat.below_alloc1 w _)
  clear hC hr0 hI
  go_enter Try.func45, Try.ntmps45
  go_wp2_with (at_builtin; refine Pat.wpList_append_bytes rfl (.tmp 7) (.tmp 11) rfl w.heap.size _ 0 [] rfl (Pat.own_empty w) w.heap.size bA s.f bc 32 HF.out.symm rfl hbt (by omega) (by simp) ?_; intro v' w2 hown hgrow)
  simp only [Nat.zero_add] at hown
  have hB2 := Lib.hid (Pat.below_copy hgrow)
  obtain ⟨g, cap, rfl, hg1, hg2⟩ := hown.form (by omega)
  have Hown : Hid (w2.ownsRow w.heap.size 5 1 (.slice (some ⟨g, 0, none⟩) 32 cap) 32 (Pat.bytesV (withL (fun n => decide (n ∈ l0)) s.f (s.l.take 0)))) := by
    unfold Hid; simpa [withL] using hown
  clear hown hgrow hbt hg1 hg2
  go_wp2
  go_loopw [5, 6] (fun s0 i wr => ∃ (k : Nat) (g c' : Nat), k ≤ s.l.length ∧ i = .int .i64 k ∧ s0 = .slice (some ⟨g, 0, none⟩) 32 c' ∧ Hid (wr.ownsRow w.heap.size 5 1 (.slice (some ⟨g, 0, none⟩) 32 c') 32 (Pat.bytesV (withL (fun n => decide (n ∈ l0)) s.f (s.l.take k)))) ∧ Hid (Below w.heap.size w wr)) (fun _ i _ => s.l.length - (intOf i).toNat)
  case atStart => exact ⟨0, _, _, Nat.zero_le _, rfl, rfl, Hown.out, hB2.out⟩
  case round =>
    obtain ⟨k, g, c', hk, rfl, rfl, hrow, hB⟩ := hrel
    rename World => wr
    have hk0 : (0 : Int) ≤ (k : Int) := by omega
    have HC2 := Lib.hid (HC.out.fresh hB.out)
    obtain ⟨_, c1, _⟩ := HC2.out.hcells
    have hrz : r < wr.heap.size := Nat.lt_of_lt_of_le hr hB.out.size
    by_cases hlt : k < s.l.length
    · have hki : (k : Int) < (s.l.length : Int) := by omega
      obtain ⟨b, rfl, h1, h2, hb, d0, d1, d2, d3⟩ := HC2.out.at_ hlt
      unfold maxLen at h2
      have HH := Lib.hid (has_any A0 c0 l0 (onn s.l k).n wr hl0 ((HI.out.below hB.out).more hB.out.size))
      have hx := HR.out _ (onn_mem hlt)
      have hTk : Rights (s.l.take k) := fun x hx => HR.out x (List.mem_of_mem_take hx)
      have hlen := withL_len (k := fun n => decide (n ∈ l0)) hTk HF.out
      have hall := withL_all (k := fun n => decide (n ∈ l0)) (l := s.l.take k) HC.out.all
      have HA := Lib.hid (Pat.ref_own (some ⟨g, 0, none⟩) c' _ (onn s.l k).p wr (Pat.info_own hrow.out hall).1 hlen hx)
      have Hs : Hid (withL (fun n => decide (n ∈ l0)) s.f (s.l.take (k + 1)) = if decide ((onn s.l k).n ∈ l0) = true then Pat.put (withL (fun n => decide (n ∈ l0)) s.f (s.l.take k)) (onn s.l k).p else withL (fun n => decide (n ∈ l0)) s.f (s.l.take k)) := by
        unfold Hid; rw [take_onn hlt, withL_append]; rfl
      generalize (onn s.l k).p = pk at *
      obtain ⟨bk, ok, sk⟩ := pk
      unfold Pat.Pt.v at HA
      simp only at d1 d2 d3
      generalize (onn s.l k).n = y at *
      generalize withL (fun n => decide (n ∈ l0)) s.f (s.l.take k) = cur at *
      clear hx hTk hlen hall
      cases hy : decide (y ∈ l0) with
      | true =>
        rw [hy] at HH Hs
        have Hs2 := Lib.hid (Hs.out.trans (if_pos rfl))
        clear hy Hs
        go_wp2_with (first
          | (go_at_call 68; refine HH.out.mono ?_; rintro e w5 ⟨rfl, rfl⟩)
          | (go_at_call 69; refine HA.out.mono ?_; rintro e w6 ⟨g6, c6, rfl, ho6, hb6⟩; have O6 := Lib.hid (Pat.base_le ho6 hB.out.size); have B6 := Lib.hid (hB.out.trans (hb6.mono hB.out.size)); clear ho6 hb6))
        go_roundw
        case rel => exact ⟨k + 1, g6, c6, by omega, by go_num, rfl, by rw [Hs2.out]; exact O6.out, B6.out⟩
        case measure => simp [intOf]; omega
      | false =>
        rw [hy] at HH Hs
        have Hs2 := Lib.hid (Hs.out.trans (if_neg (by decide)))
        clear hy Hs
        go_wp2_with (go_at_call 68; refine HH.out.mono ?_; rintro e w5 ⟨rfl, rfl⟩)
        go_roundw
        case rel => exact ⟨k + 1, g, c', by omega, by go_num, rfl, by rw [Hs2.out]; exact hrow.out, hB.out⟩
        case measure => simp [intOf]; omega
    · obtain rfl : k = s.l.length := by omega
      have hki : ¬ (s.l.length : Int) < (s.l.length : Int) := by omega
      rw [List.take_length] at *
      go_wp2
      go_ret
      exact ⟨g, c', rfl, hrow.out, hB.out⟩
end
set_option maxRecDepth 100000 in
set_option maxHeartbeats 1000000 in
theorem rmeet_any (p q : Pt) (w : World) (hp : p.ok) (hq : q.ok) : Calls Try.prog 64 #[p.v, q.v] w fun e w' => e = .returned (.bool (p.over ⟨p.b, q.o, q.s⟩)) ∧ Below w.heap.size w w' := by
  have HO := Lib.hid (fun W => Pat.refoverlap_any p ⟨p.b, q.o, q.s⟩ W hp ⟨hp.1, hq.2⟩)
  have HB : Hid (Below w.heap.size w ((w.alloc (.cells #[.int .i64 p.b, .int .i64 p.o, .string p.s] 38)).alloc (.cells #[.int .i64 p.b, .int .i64 q.o, .string q.s] 38))) := Pat.below_alloc2 w _ _
  have h2 := Pat.boxed2 w p q
  obtain ⟨c0, c1, c2⟩ := h2.1.cells
  obtain ⟨d0, d1, d2⟩ := h2.2.cells
  clear hp hq h2
  obtain ⟨b, o, s⟩ := p
  obtain ⟨b', o', s'⟩ := q
  unfold Pat.Pt.v at *
  simp only [Pat.Pt.cs] at *
  go_enter Try.func64, Try.ntmps64
  go_wp2_with (refine (HO.out _).mono ?_; rintro e w5 ⟨rfl, hb5⟩)
  go_ret
  exact ⟨rfl, Below.trans HB.out (Below.mono hb5 HB.out.size)⟩
end Go.Proofs.Ytibkipdadpidnaa
