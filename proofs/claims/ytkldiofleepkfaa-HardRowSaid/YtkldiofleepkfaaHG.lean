/- A unit's numbers; Of. -/
import Derived.Test.YtkldiofleepkfaaHF
set_option linter.unusedVariables false
set_option linter.unusedSimpArgs false
namespace Go.Proofs.Ytkldiofleepkfaa.Hd
open Go.RowKit
open Go.Maps (Keyed)
theorem infoI : (Try.prog.info? 3).map (fun i => (i.zero, i.size, i.bytes)) = some (some (.int .i64 0), 1, 8) := by kernel_rfl
/-- a row of pointers: where it lies, what its cells hold -/
theorem ptr_at {w : World} {B E : Nat} {A : Option Addr} {n c : Nat} {ps : List Value} (h : w.ownsRow B E 1 (.slice A n c) n ps) {q : Nat} (hq : q < n) :
    ∃ ab, A = some ⟨ab, 0, none⟩ ∧ n ≤ c ∧ c ≤ maxLen ∧ ab < w.heap.size ∧ w.cell? ⟨ab, q, none⟩ = ps[q]? ∧ ∀ j, w.frozen? ⟨ab, j, none⟩ = false := by
  obtain ⟨ab, cap, hv, hB, hb⟩ := h.form (by omega)
  obtain ⟨rfl, _, rfl⟩ := Value.slice.inj hv
  refine ⟨ab, rfl, ?_, ?_, hb, ?_, fun j => h.frozenAt j⟩
  · rcases h.2 with ⟨q, _⟩ | ⟨_, _, _, q, _, _, h1, _⟩
    · cases q
    · cases q; exact h1
  · rcases h.2 with ⟨q, _⟩ | ⟨_, _, _, q, _, _, _, h1, _⟩
    · cases q
    · cases q; exact h1
  · exact h.cellAt q (by omega)
def hn (l : List Hw) (k : Nat) : Hw := l.getD k ⟨0, ⟨0, 0, ByteArray.empty⟩, [], 0⟩
theorem hn_lt {l : List Hw} {k : Nat} (h : k < l.length) : hn l k = l[k] := by
  unfold hn; rw [List.getD_eq_getElem?_getD, List.getElem?_eq_getElem h]; rfl
theorem hn_mem {l : List Hw} {k : Nat} (h : k < l.length) : hn l k ∈ l := by rw [hn_lt h]; exact List.getElem_mem h
theorem take_hn {l : List Hw} {k : Nat} (h : k < l.length) : l.take (k + 1) = l.take k ++ [hn l k] := by
  rw [List.take_succ_eq_append_getElem h, hn_lt h]
theorem nums_take {l : List Hw} {k : Nat} (h : k < l.length) : intsI (nums (l.take k)) ++ [.int .i64 (hn l k).num] = intsI (nums (l.take (k + 1))) := by
  rw [take_hn h]; simp [intsI, nums]
def ptrsH (f : Int → Nat) (l : List Hw) : List Value := l.map fun x => ptr (f x.num)
theorem ptrsH_at (f : Int → Nat) {l : List Hw} {k : Nat} (h : k < l.length) : (ptrsH f l)[k]? = some (.pointer (some ⟨f (hn l k).num, 0, none⟩)) := by
  unfold ptrsH; rw [List.getElem?_map, List.getElem?_eq_getElem h, hn_lt h]; rfl
set_option maxRecDepth 100000 in
set_option maxHeartbeats 1000000 in
theorem numbers_any (ub : Nat) (u b : Int) (A : Option Addr) (c : Nat) (s : Bool) (L : List Hw) (f : Int → Nat) (w : World) (hu : w.heap[ub]? = some (.cells (ucs u b A L.length c s) 62 (0, 0)))
    (hr : w.ownsRow 0 82 1 (.slice A L.length c) L.length (ptrsH f L)) (hw : ∀ x ∈ L, f x.num < w.heap.size ∧ w.cell? ⟨f x.num, 0, none⟩ = some (.int .i64 x.num)) (hl : L.length ≤ 1000) :
    Calls Try.prog 26 #[.pointer (some ⟨ub, 0, none⟩)] w (Says w (nums L)) := by
  have hub := (Array.getElem?_eq_some_iff.1 hu).1
  have e2 : w.cell? ⟨ub, 2, none⟩ = some (.slice A L.length c) := cell_of_row w ub 2 _ 62 (0, 0) hu
  have HR := Lib.hid hr
  have HW := Lib.hid hw
  obtain ⟨i0, hi0, hz0, hz1, hz2⟩ := info_parts infoI
  clear hu hr hw
  go_enter Try.func26, Try.ntmps26
  go_wp2
  go_loopw [3, 11] (fun s q wr => ∃ (j : Nat) (A' : Option Addr) (c' : Nat), j ≤ L.length ∧ q = .int .i64 j ∧ s = .slice A' j c' ∧ Hid (wr.ownsRow w.heap.size 3 1 (.slice A' j c') j (intsI (nums (L.take j)))) ∧ Below w.heap.size w wr) (fun _ q _ => L.length - (intOf q).toNat)
  case atStart => exact ⟨0, none, 0, Nat.zero_le _, rfl, rfl, World.ownsRow_nil _ _ _ _, Below.refl _ _⟩
  case round =>
    obtain ⟨j, A', c', hj, rfl, rfl, hrow, hB⟩ := hrel
    rename World => wr
    have HB := Lib.hid hB
    have hsz := hB.size
    by_cases hlt : j < L.length
    · have hlti : (j : Int) < (L.length : Int) := by omega
      have hj0 : (0 : Int) ≤ (j : Int) := by omega
      obtain ⟨ab, hA, h3, h4, hb, hcs, _⟩ := ptr_at ((Kept.fresh (S := fun _ => False) hB).row HR.out (fun _ _ q => q)) hlt
      rw [ptrsH_at f hlt] at hcs
      obtain ⟨hfl, hfc⟩ := HW.out _ (hn_mem hlt)
      have hfc2 : wr.cell? ⟨f (hn L j).num, 0, none⟩ = some (.int .i64 (hn L j).num) := (hB.cell (p := ⟨f (hn L j).num, 0, none⟩) hfl).trans hfc
      have hfl2 : f (hn L j).num < wr.heap.size := by omega
      have Hst := Lib.hid (nums_take hlt)
      subst hA
      unfold maxLen at h4
      clear hB hfl hfc
      generalize f (hn L j).num = xb at *
      generalize (hn L j).num = num at *
      have Hrow : Hid (∀ W, Below wr.heap.size wr W → (W.alloc (.cells #[.int .i64 num] 3)).ownsRow w.heap.size 3 1 (.slice A' j c') j (intsI (nums (L.take j)))) := fun W hW => ((Kept.fresh (S := fun _ => False) hW).row hrow.out (fun _ _ q => q)).alloc _
      have Hsr : Hid (∀ W : World, ∀ ad, some (⟨W.heap.size, 0, none⟩ : Addr) = some ad → ∀ j u, ([.int .i64 num] : List Value)[j]? = some u → (W.alloc (.cells #[.int .i64 num] 3)).cell? (ad.add j) = some u) := fun W ad e j u hu => by
        cases e
        exact World.news_of_block (heap_alloc_new W _) j u hu
      have Hold := Lib.hid hrow.out.lt
      go_wp2_with (at_builtin; refine wpList_append_src rfl (.tmp 15) (.tmp 20) 33 rfl w.heap.size 3 i0 _ 1 8 Try.underlying33 hi0 hz0 hz1 hz2 rfl (by decide) (.slice A' j c') j (intsI (nums (L.take j))) rfl (Hrow.out _ (Below.refl _ _)) (some ⟨wr.heap.size, 0, none⟩) 1 1 [.int .i64 num] rfl rfl (by have := Hsr.out wr; simpa using this) (fun e => by cases e) (by intro u hu; rw [List.mem_singleton] at hu; rw [hu]; rfl) (by unfold maxLen; omega) (by omega) (by simp; omega) (j + 1) rfl ?_; intro A2 c2 w3 ho2 hg2 hor2; have HO2 := Lib.hid ho2; have HG2 := Lib.hid hg2; clear ho2 hg2 hor2)
      go_roundw
      case rel =>
        refine ⟨j + 1, A2, c2, by omega, by go_num, rfl, ?_, (HB.out.alloc (by omega) _).grown HG2.out (by simp; omega) (fun j e => (Hold.out j e).1)⟩
        have := HO2.out
        rw [Hst.out] at this
        exact this
      case measure => simp [intOf]; omega
    · obtain rfl : j = L.length := by omega
      have hlti : ¬ (L.length : Int) < (L.length : Int) := by omega
      rw [List.take_length] at hrow
      have Hln : Hid ((nums L).length = L.length) := by simp [nums, Hid]
      clear hB
      go_wp2
      go_ret
      unfold Says
      rw [Hln.out]
      exact ⟨A', c', rfl, hrow.out, HB.out⟩
theorem ofU_none {l : List Hw} (h : Ok l) {u : Int} (hu : u ∉ units l) : ofU l u = [] := by
  unfold ofU
  rw [List.filter_eq_nil_iff]
  intro x hx e
  obtain ⟨y, hy, e1, e2, _⟩ := h.head x hx
  simp at e
  exact hu (mem_units.2 ⟨y, hy, by rw [e1, e], by rw [e2, e]⟩)
theorem HAt.wcell {w : World} {g gd n cc : Nat} {S : Nat → Bk} {k jo id : Int} {l : List Hw} {sent : List Int} {m : Lay} {Fd : Nat → Prop} (h : HAt w g gd n S cc k jo id l sent m Fd) {x : Hw} (hx : x ∈ l) :
    m.wp x.num < w.heap.size ∧ w.cell? ⟨m.wp x.num, 0, none⟩ = some (.int .i64 x.num) :=
  ⟨(Array.getElem?_eq_some_iff.1 (h.ws x hx)).1, cell_of_row w _ 0 _ 84 (0, 0) (h.ws x hx)⟩
theorem zeroU (w : World) : (zeroValue 59).run Try.prog w = .ok (.pointer none) w := by
  have := (by kernel_rfl : (Try.prog.info? 59).map (·.zero) = some (some (.pointer none)))
  cases hq : Try.prog.info? 59 with
  | none => simp [hq] at this
  | some i => simp [hq] at this; simp [zeroValue, typeInfo, hq, this]
/-- a number of the kind int -/
def WfI (n : Int) : Prop := -9223372036854775808 ≤ n ∧ n ≤ 9223372036854775807
theorem keyI {n : Int} (h : WfI n) : keyOf Try.prog 3 (.int .i64 n) = some (.int .i64 n) := Go.Maps.keyOf_int_mk Try.underlying3 (WalkArith.wf_i64 h)
set_option maxRecDepth 100000 in
set_option maxHeartbeats 1000000 in
theorem hof {w : World} {g n cc : Nat} {S : Nat → Bk} {k jo id : Int} {l : List Hw} {sent : List Int} {F : Nat → Prop} (h : Eng w g n S cc k jo id l sent F) (u : Int) (hu : WfI u) : Calls Try.prog 10 #[.pointer (some ⟨g, 0, none⟩), .int .i64 u] w (Says w (nums (ofU l u))) := by
  obtain ⟨gd, m, Fd, h, rfl⟩ := h
  have e5 := h.c5
  have hge := h.glt
  have HK := Lib.hid (keyI hu)
  by_cases hin : u ∈ units l
  · have hlen : (ofU l u).length ≤ 1000 := by have := List.length_filter_le (fun x : Hw => x.u == u) l; have := h.few; unfold ofU; omega
    have HN := Lib.hid (numbers_any (m.up u) u (ubl l u) (m.UA u) (m.UC u) (sent.contains u) (ofU l u) m.wp w (h.us u hin) (h.ups u hin) (fun x hx => h.wcell (mem_ofU.1 hx).1) hlen)
    obtain ⟨D, h1, h2, h3⟩ := h.umap
    have H1 := Lib.hid h1
    have Hh : Hid (Maps.has D (.int .i64 u) = true) := (h2 u).2 hin
    have Hat : Hid (∀ v ps, RV v = some (D.atKey (.int .i64 u) (.held (.pointer none)), ps) → v = .pointer (some ⟨m.up u, 0, none⟩)) := fun v ps hv => by
      rw [h3 u hin (.held (.pointer none))] at hv
      unfold RV at hv
      injection hv with hv
      injection hv with hv _
      injection hv
    generalize m.up u = ub at *
    generalize nums (ofU l u) = xs at *
    clear h h1 h2 h3 hlen
    go_enter Try.func10, Try.ntmps10
    go_wp2_with (first
      | (at_lookup; refine wpList_lookup_own_ok _ rfl _ _ 43 rfl 3 59 lawI Try.underlying43 RV (zeroU _) (.held (.pointer none)) [] rfl m.gu cc D rfl H1.out _ _ rfl HK.out ?_; intro v ps hv; rw [Hh.out]; obtain rfl := Hat.out v ps hv; clear hv)
      | (go_at_call 26; refine HN.out.mono ?_; rintro e w2 hq; have HQ := Lib.hid hq; obtain ⟨A1, c1, rfl, _, _⟩ := hq))
    go_ret
    exact HQ.out
  · have HO := Lib.hid (ofU_none h.ok hin)
    obtain ⟨D, h1, h2, h3⟩ := h.umap
    have H1 := Lib.hid h1
    have Hh : Hid (Maps.has D (.int .i64 u) = false) := by
      unfold Hid
      cases q : Maps.has D (.int .i64 u) with
      | false => rfl
      | true => exact absurd ((h2 u).1 q) hin
    clear h h1 h2 h3 hin
    go_enter Try.func10, Try.ntmps10
    go_wp2_with (at_lookup; refine wpList_lookup_own_ok _ rfl _ _ 43 rfl 3 59 lawI Try.underlying43 RV (zeroU _) (.held (.pointer none)) [] rfl m.gu cc D rfl H1.out _ _ rfl HK.out ?_; intro v ps hv; rw [Hh.out]; clear hv)
    go_ret
    rw [HO.out]
    exact ⟨none, 0, rfl, World.ownsRow_nil _ _ _ _, Below.refl _ _⟩
end Go.Proofs.Ytkldiofleepkfaa.Hd
