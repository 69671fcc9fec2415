/- New, List, Fork of a cache; calls of a nil one. -/
import Derived.Test.YthibnnllecdpaaaG
import Derived.Laws.AppendOwnNone
namespace Go.Proofs.Ythibnnllecdpaaa
open Go.RowKit

def nth (l : List Int) (k : Nat) : Int := l.getD k 0
theorem nth_lt {l : List Int} {k : Nat} (h : k < l.length) : nth l k = l[k] := by
  unfold nth; rw [List.getD_eq_getElem?_getD, List.getElem?_eq_getElem h]; rfl
/-- a slice's address under which the cells are the ints l -/
def Ints (w : World) (A : Option Addr) (l : List Int) : Prop :=
  0 < l.length → ∃ b off, A = some ⟨b, off, none⟩ ∧ b < w.heap.size ∧ ∀ j, j < l.length → w.cell? ⟨b, off + j, none⟩ = some (.int .i64 (nth l j))
theorem Ints.at_ {w : World} {A : Option Addr} {l : List Int} (h : Ints w A l) {k : Nat} (hk : k < l.length) : ∃ b off, A = some ⟨b, off, none⟩ ∧ b < w.heap.size ∧ w.cell? ⟨b, off + k, none⟩ = some (.int .i64 (nth l k)) := by
  obtain ⟨b, off, e, hb, hc⟩ := h (by omega)
  exact ⟨b, off, e, hb, hc k hk⟩
theorem Ints.next {w w' : World} {A : Option Addr} {l : List Int} (h : Ints w A l) (hb : Below w.heap.size w w') : Ints w' A l := fun hn => by
  obtain ⟨b, off, e, hlt, hc⟩ := h hn
  exact ⟨b, off, e, Nat.lt_of_lt_of_le hlt hb.size, fun j hj => (hb.cell (p := ⟨b, off + j, none⟩) hlt).trans (hc j hj)⟩
def intsV (l : List Int) : List Value := l.map fun i => .int .i64 i
theorem length_intsV (l : List Int) : (intsV l).length = l.length := by simp [intsV]
theorem own_ints {w : World} {B : Nat} {v : Value} {n : Nat} {l : List Int} (h : w.ownsRow B 3 1 v n (intsV l)) : ∃ A c, v = .slice A l.length c ∧ Ints w A l := by
  have hn : l.length = n := by have := h.1; simpa [intsV] using this
  subst hn
  rcases h.2 with ⟨rfl, hn⟩ | ⟨g, cap, cur, rfl, _, hg, hnc, hcm, _⟩
  · have hl : l = [] := List.eq_nil_of_length_eq_zero hn
    subst hl
    exact ⟨none, 0, rfl, fun h => absurd h (by simp)⟩
  · refine ⟨some ⟨g, 0, none⟩, cap, rfl, fun _ => ⟨g, 0, rfl, (h.lt g rfl).2, fun j hj => ?_⟩⟩
    rw [Nat.zero_add, h.cellAt j (by omega), intsV, List.getElem?_map, List.getElem?_eq_getElem hj, nth_lt hj]; rfl
theorem info3 : (Try.prog.info? 3).map (fun i => (i.zero, i.size, i.bytes)) = some (some (.int .i64 0), 1, 8) := by kernel_rfl
theorem made_ints (n : Nat) : (madeCells #[Value.int .i64 0] n).toList = intsV (List.replicate n 0) := by
  apply List.ext_getElem
  · simp [madeCells, intsV]
  · intro i h1 h2
    simp [madeCells, intsV, Nat.mod_one]
theorem make_ints (n : Nat) (hn : n ≤ 1000) : ∃ M : Array Value, M.toList = intsV (List.replicate n 0) ∧ ∀ W : World, (Instr.makeSlice 38 (.int .i64 (n : Int)) (.int .i64 (n : Int))).run Try.prog W = .ok (.slice (some ⟨W.heap.size, 0, none⟩) n n) (W.alloc (.cells M 3)) := by
  obtain ⟨i0, hi0, hz0, hz1, hz2⟩ := info_parts info3
  refine ⟨madeCells #[Value.int .i64 0] n, made_ints n, fun W => ?_⟩
  have := run_makeSlice (P := Try.prog) W 38 3 i0 (.int .i64 0) Try.underlying38 hi0 hz0 .i64 .i64 n n (by omega) (Int.le_refl _) (by rw [hz1]; omega) (by rw [hz2]; omega) (by omega)
  rw [hz1] at this
  simpa [Value.cells] using this

theorem new_yes (n : Int) (w : World) (h1 : 1 ≤ n) (h2 : n ≤ 96) : Calls Try.prog 21 #[.int .i64 n] w fun e w' => e = .returned (.pointer (some ⟨w.heap.size, 0, none⟩)) ∧ CacheAt 69 66 w.heap.size w' w.heap.size (.slice none 0 0) n [] ∧ Below w.heap.size w w' := by
  have a1 : ¬ n < 1 := by omega
  have a2 : ¬ 96 < n := by omega
  go_enter Try.func21, Try.ntmps21
  go_wp2
  go_ret
  exact ⟨rfl, ⟨heap_alloc_new w _, World.ownsRow_nil _ _ _ _, by decide, Nat.le_refl _⟩, (Below.refl _ _).alloc (Nat.le_refl _) _⟩
theorem new_no (n : Int) (w : World) (h : n < 1 ∨ 96 < n) : Calls Try.prog 21 #[.int .i64 n] w fun e w' => e = .returned (.pointer none) ∧ w = w' := by
  by_cases h1 : n < 1
  · go_enter Try.func21, Try.ntmps21
    go_wp2
    go_ret
    exact ⟨rfl, rfl⟩
  · have h2 : 96 < n := by omega
    go_enter Try.func21, Try.ntmps21
    go_wp2
    go_ret
    exact ⟨rfl, rfl⟩
theorem use_nil (x : Int) (w : World) : Calls Try.prog 14 #[.pointer none, .int .i64 x] w fun e w' => e = .returned (.tuple #[.int .i64 (-1), .int .i64 1]) ∧ w = w' := by
  go_enter Try.func14, Try.ntmps14
  go_wp2
  go_ret2
  exact ⟨rfl, rfl⟩
theorem has_nil (x : Int) (w : World) : Calls Try.prog 15 #[.pointer none, .int .i64 x] w fun e w' => e = .returned (.bool false) ∧ w = w' := by
  go_enter Try.func15, Try.ntmps15
  go_wp2_with (refine (ask_nil _ _).mono ?_; rintro e w' ⟨rfl, rfl⟩)
  go_ret
  exact ⟨rfl, rfl⟩
theorem pin_nil (x : Int) (on : Bool) (w : World) : Calls Try.prog 16 #[.pointer none, .int .i64 x, .bool on] w fun e w' => e = .returned (.int .i64 1) ∧ w = w' := by
  go_enter Try.func16, Try.ntmps16
  go_wp2_with (refine (ask_nil _ _).mono ?_; rintro e w' ⟨rfl, rfl⟩)
  go_ret
  exact ⟨rfl, rfl⟩
theorem dirty_nil (x : Int) (on : Bool) (w : World) : Calls Try.prog 17 #[.pointer none, .int .i64 x, .bool on] w fun e w' => e = .returned (.int .i64 1) ∧ w = w' := by
  go_enter Try.func17, Try.ntmps17
  go_wp2_with (refine (ask_nil _ _).mono ?_; rintro e w' ⟨rfl, rfl⟩)
  go_ret
  exact ⟨rfl, rfl⟩
theorem drop_nil (x : Int) (w : World) : Calls Try.prog 18 #[.pointer none, .int .i64 x] w fun e w' => e = .returned (.int .i64 1) ∧ w = w' := by
  go_enter Try.func18, Try.ntmps18
  go_wp2_with (refine (ask_nil _ _).mono ?_; rintro e w' ⟨rfl, rfl⟩)
  go_ret
  exact ⟨rfl, rfl⟩
theorem pins_nil (x : Int) (w : World) : Calls Try.prog 22 #[.pointer none, .int .i64 x] w fun e w' => e = .returned (.int .i64 0) ∧ w = w' := by
  go_enter Try.func22, Try.ntmps22
  go_wp2_with (refine (ask_nil _ _).mono ?_; rintro e w' ⟨rfl, rfl⟩)
  go_ret
  exact ⟨rfl, rfl⟩
theorem list_nil (w : World) : Calls Try.prog 19 #[.pointer none] w fun e w' => e = .returned (.slice none 0 0) ∧ w = w' := by
  go_enter Try.func19, Try.ntmps19
  go_wp2
  go_ret
  exact ⟨rfl, rfl⟩
theorem fork_nil (w : World) : Calls Try.prog 23 #[.pointer none] w fun e w' => e = .returned (.pointer none) ∧ w = w' := by
  go_enter Try.func23, Try.ntmps23
  go_wp2
  go_ret
  exact ⟨rfl, rfl⟩

theorem list_step {l : List H} {k : Nat} (hk : k < l.length) : (intsV ((blocks l).take k ++ List.replicate (l.length - k) 0)).set k (.int .i64 (nthH l k).b) = intsV ((blocks l).take (k + 1) ++ List.replicate (l.length - (k + 1)) 0) := by
  have hb : k < (blocks l).length := by simpa [blocks] using hk
  have hlen : ((blocks l).take k).length = k := by rw [List.length_take]; omega
  unfold intsV
  rw [← List.map_set (f := fun i => Value.int .i64 i)]
  congr 1
  rw [List.set_append_right _ _ (by omega), hlen, Nat.sub_self, show l.length - k = (l.length - (k + 1)) + 1 by omega, List.replicate_succ, List.set_cons_zero, List.take_succ_eq_append_getElem hb, List.append_assoc]
  congr 2
  rw [nthH_lt hk]; simp [blocks]
set_option maxRecDepth 100000 in
set_option maxHeartbeats 1000000 in
theorem list_any (B g : Nat) (v : Value) (m : Int) (l : List H) (w : World) (hC : CacheAt 69 66 B w g v m l) (hl : l.length ≤ 1000) :
    Calls Try.prog 19 #[.pointer (some ⟨g, 0, none⟩)] w fun e w' => ∃ A c, e = .returned (.slice A l.length c) ∧ Ints w' A (blocks l) ∧ Below w.heap.size w w' := by
  have hs := hC.slot
  have hg := hC.glt
  obtain ⟨M, hMl, hmk⟩ := make_ints l.length hl
  obtain ⟨A, cap, rfl, hc1, hc2⟩ := hC.form
  unfold maxLen at hc2
  have HMl := Lib.hid hMl
  have HC := Lib.hid hC
  clear hMl hC
  have hbl : Hid ((blocks l).length = l.length) := by simp [blocks, Hid]
  go_enter Try.func19, Try.ntmps19
  go_wp2
  clear hmk
  go_loopw [19] (fun i wr => ∃ k : Nat, k ≤ l.length ∧ i = .int .i64 k ∧ wr.ownsRow w.heap.size 3 1 (.slice (some ⟨w.heap.size, 0, none⟩) l.length l.length) l.length (intsV ((blocks l).take k ++ List.replicate (l.length - k) 0)) ∧ Below w.heap.size w wr) (fun i _ => l.length - (intOf i).toNat)
  case atStart =>
    refine ⟨0, Nat.zero_le _, rfl, ?_, (Below.refl _ _).alloc (Nat.le_refl _) _⟩
    have := World.ownsRow_lit (size := 1) (e := 3) (base := w.heap.size) w M l.length (Nat.le_refl _) (by unfold maxLen; omega) (by have := congrArg List.length HMl.out; simpa [intsV] using this)
    rw [HMl.out] at this
    simpa using this
  case round =>
    obtain ⟨k, hk, rfl, hrow, hB⟩ := hrel
    rename World => wr
    have HR := Lib.hid hrow
    have HB := Lib.hid hB
    by_cases hlt : k < l.length
    · have hlti : (k : Int) < (l.length : Int) := by omega
      have hk0 : (0 : Int) ≤ (k : Int) := by omega
      have hz := hB.size
      have hblt : w.heap.size < wr.heap.size := (hrow.lt _ rfl).2
      have hcr := (hrow.cellAt k (by omega)).trans (List.getElem?_eq_getElem (by rw [hrow.1]; omega))
      have hfr := hrow.frozenAt k
      generalize (intsV ((blocks l).take k ++ List.replicate (l.length - k) 0))[k]'(by rw [hrow.1]; omega) = u0 at hcr
      obtain ⟨b, cap', hv, h1, h2, hb, _, c0, c1, c2, c3, _⟩ := row_at ((HC.out.fresh hB).row) hlt
      cases hv
      clear hrow hB
      unfold maxLen at h2
      have Hst := Lib.hid (list_step hlt)
      generalize nthH l k = h at c0 c1 c2 c3 Hst
      obtain ⟨hb', hp', hd', ht'⟩ := h
      have hbn : w.heap.size ≠ wr.heap.size := by omega
      have hbn2 : w.heap.size ≠ wr.heap.size + 1 := by omega
      go_wp2
      go_roundw
      case rel =>
        refine ⟨k + 1, by omega, by go_num, ?_, ?_⟩
        · have := (HR.out.stored k (.int .i64 hb')).1.alloc (.cells #[.int .i64 hb', .int .i64 hp', .bool hd', .bool ht'] 66)
          rw [Hst.out] at this
          exact this
        · exact (HB.out.setCell (Nat.le_refl _) _).alloc (by have := HB.out.size; simpa using this) _
      case measure => simp [intOf]; omega
    · obtain rfl : k = l.length := by omega
      go_wp2
      go_ret
      have hr := HR.out
      rw [Nat.sub_self, List.replicate_zero, List.append_nil, List.take_of_length_le (by rw [hbl.out]; omega)] at hr
      obtain ⟨A', c', e, hI⟩ := own_ints hr
      obtain ⟨rfl, _, _⟩ := Value.slice.inj e
      exact ⟨_, _, rfl, hI, HB.out⟩

set_option maxRecDepth 100000 in
/-- slices.Clone: a row of its own -/
theorem clone_any (B : Nat) (v : Value) (l : List H) (w : World) (hrow : w.ownsRow B 66 4 v l.length (flat l)) (hl : l.length ≤ 1000) :
    Calls Try.prog 43 #[v] w fun e w' => ∃ v', e = .returned v' ∧ w'.ownsRow w.heap.size 66 4 v' l.length (flat l) ∧ Below w.heap.size w w' := by
  rcases hrow.2 with ⟨rfl, h0⟩ | ⟨b, cap, cur, rfl, hb, hgg, hnc, hcm, hcs, htk⟩
  · have hl0 : l = [] := List.eq_nil_of_length_eq_zero h0
    subst hl0
    have hn := fun (w : World) (a : Option Addr) (n c n' c' : Nat) => Lib.run_eql_slice_nil (P := Try.prog) w 67 66 a n c n' c' Try.underlying67
    go_enter Try.func43, Try.ntmps43
    go_wp2
    go_ret
    exact ⟨_, rfl, World.ownsRow_nil _ _ _ _, Below.refl _ _⟩
  · obtain ⟨i0, hi0, hz0, hz1, hz2⟩ := info_parts info66
    have hb : b < w.heap.size := (Array.getElem?_eq_some_iff.1 hgg).1
    have hnews : Hid (∀ j u, (flat l)[j]? = some u → (w.alloc (.cells #[] 66)).cell? ((⟨b, 0, none⟩ : Addr).add j) = some u) := fun j u hj => by
      have hlt := (List.getElem?_eq_some_iff.1 hj).1
      rw [length_flat] at hlt
      rw [Addr.add_lit, Nat.zero_add, (hrow.alloc _).cellAt j hlt]
      exact hj
    have Hm : Hid ((w.alloc (.cells #[] 66)).ownsRow w.heap.size 66 4 (.slice (some ⟨w.heap.size, 0, none⟩) 0 0) 0 []) := World.ownsRow_made w #[] 0 (Nat.le_refl _) (by simp) (by simp)
    have Hlf := Lib.hid (length_flat l)
    have Hone := Lib.hid (flat_one l)
    clear hrow
    have hn := fun (w : World) (a : Option Addr) (n c n' c' : Nat) => Lib.run_eql_slice_nil (P := Try.prog) w 67 66 a n c n' c' Try.underlying67
    go_enter Try.func43, Try.ntmps43
    go_wp2_with (at_builtin; refine wpList_append_own _ rfl (.tmp 5) (.tmp 6) 67 rfl w.heap.size 66 i0 zeroH 4 24 Try.underlying67 hi0 hz0 hz1 hz2 rfl (by decide) _ 0 [] rfl Hm.out ⟨b, 0, none⟩ l.length cap (flat l) rfl Hlf.out hnews.out Hone.out (by unfold maxLen; omega) (by omega) (by simp) ?_; intro v' w1 ho hg _; have HO := Lib.hid ho; have HG := Lib.hid hg; clear ho hg)
    go_ret
    refine ⟨_, rfl, by have := HO.out; rw [Nat.zero_add, List.nil_append] at this; exact this, ?_⟩
    exact ((Below.refl _ w).alloc (Nat.le_refl _) _).grown HG.out (by simp) (fun j e => by cases e; exact Nat.le_refl _)
end Go.Proofs.Ythibnnllecdpaaa
