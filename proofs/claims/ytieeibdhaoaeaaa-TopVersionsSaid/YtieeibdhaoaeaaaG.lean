/- The contracts of 'All' and 'Apply'. -/
import Derived.Test.YtieeibdhaoaeaaaF
namespace Go.Proofs.Ytieeibdhaoaeaaa
open Go.RowKit

theorem made_bytes (n : Nat) : madeCells #[Value.int .u8 0] n = (bytesV (List.replicate n 0)).toArray := by
  apply Array.ext
  · simp [size_madeCells, bytesV]
  · intro i h1 h2; simp [madeCells, bytesV, Nat.mod_one, byteV]
theorem splice_whole {α : Type} (L cs : List α) (h : cs.length = L.length) : splice L 0 cs = cs := by simp [splice, h]
theorem BlkIs.bts {w : World} {g B : Nat} {l : List Int} (h : BlkIs w g 5 (bytesV l)) (hl : AllB l) (hB : g < B) : Bts w B (some ⟨g, 0, none⟩) l :=
  ⟨hl, fun _ => ⟨g, 0, rfl, hB, fun j hj => by
    rw [Nat.zero_add, h.cell j, bytesV, List.getElem?_map, List.getElem?_eq_getElem hj, nth_lt hj]; rfl⟩⟩
/-- the cells of bytes that lie there -/
theorem Bts.src {w : World} {B b off : Nat} {l : List Int} (h : Bts w B (some ⟨b, off, none⟩) l) : ∀ j v, (bytesV l)[j]? = some v → w.cell? ⟨b, off + j, none⟩ = some v := by
  intro j v hj
  rw [bytesV, List.getElem?_map] at hj
  obtain ⟨x, hx, rfl⟩ := Option.map_eq_some_iff.1 hj
  have hj' : j < l.length := by
    rcases Nat.lt_or_ge j l.length with h | h
    · exact h
    · rw [List.getElem?_eq_none h] at hx; cases hx
  obtain ⟨b2, off2, e2, _, hc2⟩ := h.at_ hj'
  injection e2 with e2; injection e2 with e3 e4; subst e3; subst e4
  rw [hc2, nth_lt hj']
  rw [List.getElem?_eq_getElem hj'] at hx
  injection hx with hx
  rw [hx]; rfl

theorem all_short (A A2 : Option Addr) (n c m c2 : Nat) (w : World) (h : n ≠ 32) :
    Calls Try.prog 31 #[.slice A n c, .slice A2 m c2] w fun e w' => e = .returned (.tuple #[.slice none 0 0, .int .i64 3]) ∧ w = w' := by
  have h0 : ((n : Int) == 32) = false := by rw [beq_eq_false_iff_ne]; omega
  have h1 : (n == 32) = false := by rw [beq_eq_false_iff_ne]; exact h
  go_enter Try.func31, Try.ntmps31
  go_wp2
  go_ret2
  exact ⟨rfl, rfl⟩

set_option maxRecDepth 100000 in
set_option maxHeartbeats 2000000 in
theorem all_any (A A2 : Option Addr) (c c2 : Nat) (l : List Int) (ps : List Pt) (w : World) (hb : Bts w w.heap.size A l) (hl : l.length = 32) (hP : Pats w w.heap.size A2 ps) (hn : ps.length ≤ 1000) (hok : ∀ k, k < ps.length → (pn ps k).ok) :
    Calls Try.prog 31 #[.slice A 32 c, .slice A2 ps.length c2] w (Ans w (allP l ps)) := by
  obtain ⟨b, off, rfl, hbb, _⟩ := hb.at_ (show 0 < l.length by omega)
  have hmk : ∀ W, (Instr.makeSlice 50 (.int .i64 32) (.int .i64 32)).run Try.prog W = .ok (.slice (some ⟨W.heap.size, 0, none⟩) 32 32) (W.alloc (.cells (madeCells #[Value.int .u8 0] 32) 5)) := fun W => run_make_row' (P := Try.prog) 50 5 (.int .u8 0) 1 Try.underlying50 info5 rfl .i64 .i64 32 (by omega) (by omega) W
  rw [made_bytes] at hmk
  obtain ⟨L0, hL0⟩ : ∃ L0, L0 = bytesV (List.replicate 32 0) := ⟨_, rfl⟩
  rw [← hL0] at hmk
  have hL0l : Hid (L0.length = 32) := by unfold Hid; rw [hL0]; simp [bytesV]
  clear hL0
  obtain ⟨L1, hL1⟩ : ∃ L1, L1 = bytesV l := ⟨_, rfl⟩
  have HL1 := Lib.hid hL1
  have hL1l : Hid (L1.length = 32) := by unfold Hid; rw [hL1, length_bytesV, hl]
  have Hsrc : Hid (∀ j v, L1[j]? = some v → w.cell? ⟨b, off + j, none⟩ = some v) := by
    unfold Hid; rw [hL1]; exact hb.src
  have H1c : Hid (∀ v ∈ L1, v.oneCell' = true) := by unfold Hid; rw [hL1]; exact bytesV_one l
  have HP := Lib.hid hP
  have Hok := Lib.hid hok
  have Hl := Lib.hid hl
  have Hall := Lib.hid hb.1
  clear hL1 hP hok hl hb
  go_enter Try.func31, Try.ntmps31
  go_wp2_with (with_reducible refine wpList_copy_splice rfl (.tmp 13) (.tmp 14) 50 50 rfl 5 Try.underlying50 size5 (some ⟨w.heap.size, 0, none⟩) (some ⟨b, off, none⟩) 32 32 32 c rfl rfl w.heap.size 0 L0 5 ?c1 L1 ?c2 ?c3 ?c4 ?c5 w.heap.size w ?c6 (Nat.le_refl _) ?_)
  case c1 => exact heap_alloc_new _ _
  case c2 => rw [hL1l.out]; rfl
  case c3 => intro _; exact Hsrc.out
  case c4 => have := hL1l.out; have := hL0l.out; omega
  case c5 => exact H1c.out
  case c6 => exact (Below.refl _ _).alloc (Nat.le_refl _) _
  rintro w2 hg2 hb2
  rw [splice_whole _ _ (by rw [hL1l.out, hL0l.out])] at hg2
  have hg3 : BlkIs w2 w.heap.size 5 (bytesV ((ps.take 0).foldl put l)) := by rw [List.take_zero]; show BlkIs w2 _ 5 (bytesV l); rw [← HL1.out]; exact hg2.out
  have G3 := Lib.hid hg3
  clear hg2 hg3 hL1l hL0l Hsrc H1c hmk HL1
  go_wp2
  go_loopw [18] (fun i wr => ∃ k : Nat, k ≤ ps.length ∧ i = .int .i64 k ∧ BlkIs wr w.heap.size 5 (bytesV ((ps.take k).foldl put l)) ∧ Below w.heap.size w wr ∧ (ps.take k).all Pt.right = true) (fun i _ => ps.length - (intOf i).toNat)
  case atStart => exact ⟨0, Nat.zero_le _, rfl, G3.out, hb2, by simp⟩
  case round =>
    obtain ⟨k, hk, rfl, hblk, hB, hall⟩ := hrel
    rename World => wr
    have hAll := Lib.hid hall
    have HB := Lib.hid hblk
    clear hall hblk G3 hb2
    by_cases hlt : k < ps.length
    · have hlti : (k : Int) < (ps.length : Int) := by omega
      have hk0 : (0 : Int) ≤ (k : Int) := by omega
      obtain ⟨b2, o2, rfl, hb2, hcs⟩ := (HP.out.below hB) (by omega)
      obtain ⟨c0, c1, c3⟩ := hcs k hlt
      have hpk := Hok.out k hlt
      have hst := take_step ps k hlt
      obtain ⟨p, hp⟩ : ∃ p, p = pn ps k := ⟨_, rfl⟩
      rw [← hp] at c0 c1 c3 hpk hst
      have Hst := Lib.hid hst
      have Hp := Lib.hid hp
      clear hcs hst hp
      have hT := Lib.hid (fun W hW => @St1.next wr _ W p (St1.start wr p) hW)
      have hBx := Lib.hid (boxed1 wr p)
      have Hal := Lib.hid (fun x => (HB.out).below (below_alloc1 wr x) (HB.out).lt)
      cases hr : p.right with
      | false =>
        have hpk' := Lib.hid (fun W => right_no p W hpk hr)
        have hnone : Hid (allP l ps = none) := by
          unfold Hid allP
          rw [if_neg]
          intro h
          rw [List.all_eq_true] at h
          have := h _ (List.getElem_mem hlt)
          rw [← pn_lt hlt, ← Hp.out, hr] at this
          cases this
        clear hr hpk
        obtain ⟨pb, po, psx⟩ := p
        unfold Pt.v at *
        simp only [Pt.cs] at *
        go_wp2_with fail
        refine (hpk'.out _).mono ?_
        rintro e w3 ⟨rfl, hB3⟩
        go_wp2
        go_ret2
        rw [hnone.out]
        exact ⟨hB.trans ((hT.out _ hB3).1.mono hB.size), rfl⟩
      | true =>
        have hlen : ((ps.take k).foldl put l).length = 32 := length_putAll Hl.out _ hAll.out
        have hpk' := Lib.hid (fun W => right_yes p W hr)
        have hwr := Lib.hid (fun W hg => write_any w.heap.size 32 ((ps.take k).foldl put l) p W hg hlen hr ⟨by omega, by omega⟩)
        have hAll' : Hid ((ps.take (k + 1)).all Pt.right = true) := by
          unfold Hid
          rw [Hst.out, List.all_append, hAll.out]
          simp [hr]
        have HS := Lib.hid hB
        clear hr hpk hlen hB
        have hC : Hid (∀ W, St1 wr p W → W.cell? ⟨wr.heap.size, 0, none⟩ = some (.int .i64 p.b) ∧ W.cell? ⟨wr.heap.size, 1, none⟩ = some (.int .i64 p.o) ∧ W.cell? ⟨wr.heap.size, 2, none⟩ = some (.string p.s)) := fun W h => h.cells
        have hput : Hid ((ps.take (k + 1)).foldl put l = put ((ps.take k).foldl put l) p) := by unfold Hid; rw [Hst.out, List.foldl_append]; rfl
        obtain ⟨m, hm⟩ : ∃ m, m = (ps.take k).foldl put l := ⟨_, rfl⟩
        rw [← hm] at hwr HB hput Hal
        clear hm
        obtain ⟨pb, po, psx⟩ := p
        unfold Pt.v at *
        simp only [Pt.cs] at *
        go_wp2_with fail
        refine (hpk'.out _).mono ?_
        rintro e w3 ⟨rfl, hB3⟩
        have t3 := Lib.hid (hT.out _ hB3)
        obtain ⟨d0, d1, d2⟩ := hC.out _ t3.out
        have g3 := Lib.hid (HB.out.below t3.out.1 HB.out.lt)
        clear hB3
        go_wp2_with fail
        refine (hwr.out _ g3.out).mono ?_
        rintro e w4 ⟨rfl, hb4, hg4⟩
        have hB4 : Below w.heap.size w w4 := (HS.out.trans (t3.out.1.mono HS.out.size)).grown hg4 (by have := HS.out.size; have := t3.out.1.size; omega) (fun j e => by injection e with e; omega)
        have Hb4 := Lib.hid hb4
        clear hb4 hg4
        go_wp2
        go_roundw
        case rel => exact ⟨k + 1, by omega, by go_num, by rw [hput.out]; exact Hb4.out, hB4, hAll'.out⟩
        case measure => simp [intOf]; omega
    · have hlti : ¬ (k : Int) < (ps.length : Int) := by omega
      obtain rfl : k = ps.length := by omega
      rw [List.take_length] at hAll HB
      have hans : Hid (allP l ps = some (ps.foldl put l)) := by unfold Hid allP; rw [if_pos hAll.out]
      go_wp2
      go_ret2
      rw [hans.out]
      exact ⟨hB, _, _, rfl, by omega, by unfold maxLen; omega, HB.out.bts (putAll_all Hall.out _) HB.out.lt, length_putAll Hl.out _ hAll.out⟩

theorem apply_any (A : Option Addr) (c : Nat) (l : List Int) (p : Pt) (w : World) (hb : Bts w w.heap.size A l) (hl : l.length = 32) (hp : p.ok) :
    Calls Try.prog 30 #[.slice A 32 c, p.v] w (Ans w (allP l [p])) := by
  have hb1 : Bts (w.alloc (.cells p.cs.toArray 66)) w.heap.size A l := hb.below (below_alloc1 w _)
  have hb2 : Bts ((w.alloc (.cells p.cs.toArray 66)).alloc (.cells p.cs.toArray 66)) (w.heap.size + 1 + 1) A l := (hb.below (below_alloc2 w _ _)).more (by omega)
  have hP : Pats ((w.alloc (.cells p.cs.toArray 66)).alloc (.cells p.cs.toArray 66)) (w.heap.size + 1 + 1) (some ⟨w.heap.size + 1, 0, none⟩) [p] := by
    intro _
    refine ⟨_, _, rfl, by omega, fun j hj => ?_⟩
    obtain rfl : j = 0 := by simpa using hj
    exact (boxed2 w p p).2.cells
  have C := all_any A (some ⟨w.heap.size + 1, 0, none⟩) c 1 l [p] ((w.alloc (.cells p.cs.toArray 66)).alloc (.cells p.cs.toArray 66)) (by simpa using hb2) hl (by simpa using hP) (by simp) (fun k hk => by
    have e : k = 0 := by simpa using hk
    subst e
    exact hp)
  have HC := Lib.hid C
  have HB : Hid (Below w.heap.size w ((w.alloc (.cells p.cs.toArray 66)).alloc (.cells p.cs.toArray 66))) := below_alloc2 w _ _
  obtain ⟨r, hr⟩ : ∃ r, r = allP l [p] := ⟨_, rfl⟩
  rw [← hr] at HC ⊢
  clear hb hb1 hb2 hP C hl hp hr
  obtain ⟨b, o, s⟩ := p
  unfold Pt.v at *
  simp only [Pt.cs] at *
  go_enter Try.func30, Try.ntmps30
  go_wp2_with fail
  refine HC.out.mono ?_
  rintro e w1 ⟨hB1, h1⟩
  have hB : Below w.heap.size w w1 := HB.out.trans (hB1.mono (by simp; omega))
  cases r with
  | none =>
    subst h1
    go_wp2
    go_ret2
    exact ⟨hB, rfl⟩
  | some m =>
    obtain ⟨A1, c1, rfl, h1, h2, h3, h4⟩ := h1
    have H := Lib.hid (show 32 ≤ c1 ∧ c1 ≤ maxLen ∧ Bts w1 w1.heap.size A1 m ∧ m.length = 32 from ⟨h1, h2, h3, h4⟩)
    clear h1 h2 h3 h4
    go_wp2
    go_ret2
    exact ⟨hB, A1, c1, rfl, H.out⟩
theorem apply_short (A : Option Addr) (n c : Nat) (p : Pt) (w : World) (h : n ≠ 32) :
    Calls Try.prog 30 #[.slice A n c, p.v] w fun e w' => e = .returned (.tuple #[.slice none 0 0, .int .i64 3]) ∧ Below w.heap.size w w' := by
  have HC := Lib.hid (fun W m c2 A2 => all_short A A2 n c m c2 W h)
  have HB : Hid (Below w.heap.size w ((w.alloc (.cells p.cs.toArray 66)).alloc (.cells p.cs.toArray 66))) := below_alloc2 w _ _
  clear h
  obtain ⟨b, o, s⟩ := p
  unfold Pt.v at *
  simp only [Pt.cs] at *
  go_enter Try.func30, Try.ntmps30
  go_wp2_with fail
  refine (HC.out _ _ _ _).mono ?_
  rintro e w1 ⟨rfl, rfl⟩
  go_wp2
  go_ret2
  exact ⟨rfl, HB.out⟩
end Go.Proofs.Ytieeibdhaoaeaaa
