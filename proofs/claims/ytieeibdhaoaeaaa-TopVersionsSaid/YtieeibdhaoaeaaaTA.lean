/- Apply of a patch, whose answer is a block of the call's own; patches that came in. -/
import Derived.Test.YtieeibdhaoaeaaaLQ
set_option linter.unusedVariables false
set_option linter.unusedSimpArgs false
namespace Go.Proofs.Ytieeibdhaoaeaaa
open Go.RowKit Go.ChangeShapes Go.WideShapes Go.ChangeAt

def AnsO (w : World) (r : Option (List Int)) (e : Ending) (w' : World) : Prop := Below w.heap.size w w' ∧ match r with
  | none => e = .returned (.tuple #[.slice none 0 0, .int .i64 3])
  | some m => ∃ x c, e = .returned (.tuple #[.slice (some ⟨x, 0, none⟩) 32 c, .int .i64 0]) ∧ w.heap.size ≤ x ∧ BlkIs w' x 5 (bytesV m) ∧ AllB m ∧ m.length = 32
set_option maxRecDepth 100000 in
set_option maxHeartbeats 2000000 in
theorem all_own (A A2 : Option Addr) (c c2 : Nat) (l : List Int) (ps : List Pt) (w : World) (hb : Bts w w.heap.size A l) (hl : l.length = 32) (hP : Pats w w.heap.size A2 ps) (hn : ps.length ≤ 1000) (hok : ∀ k, k < ps.length → (pn ps k).ok) :
    Calls Try.prog 31 #[.slice A 32 c, .slice A2 ps.length c2] w (AnsO w (allP l ps)) := by
  obtain ⟨b, off, rfl, hbb, _⟩ := hb.at_ (show 0 < l.length by omega)
  have hmk : ∀ W, (Instr.makeSlice 50 (.int .i64 32) (.int .i64 32)).run Try.prog W = .ok (.slice (some ⟨W.heap.size, 0, none⟩) 32 32) (W.alloc (.cells (madeCells #[Value.int .u8 0] 32) 5)) := fun W => run_make_row' (P := Try.prog) 50 5 (.int .u8 0) 1 Try.underlying50 info5 rfl .i64 .i64 32 (by omega) (by omega) W
  rw [made_bytes] at hmk
  obtain ⟨L0, hL0⟩ : ∃ L0, L0 = bytesV (List.replicate 32 0) := ⟨_, rfl⟩
  rw [← hL0] at hmk
  have hL0l : Hid (L0.length = 32) := by unfold Hid; rw [hL0]; simp [bytesV]
  clear hL0
  obtain ⟨L1, hL1⟩ : ∃ L1, L1 = bytesV l := ⟨_, rfl⟩
  have HL1 := Lib.hid hL1
  have hL1l : Hid (L1.length = 32) := by unfold Hid; rw [hL1, length_bytesV, hl]
  have Hsrc : Hid (∀ j v, L1[j]? = some v → w.cell? ⟨b, off + j, none⟩ = some v) := by
    unfold Hid; rw [hL1]; exact hb.src
  have H1c : Hid (∀ v ∈ L1, v.oneCell' = true) := by unfold Hid; rw [hL1]; exact bytesV_one l
  have HP := Lib.hid hP
  have Hok := Lib.hid hok
  have Hl := Lib.hid hl
  have Hall := Lib.hid hb.1
  clear hL1 hP hok hl hb
  go_enter Try.func31, Try.ntmps31
  go_wp2_with (with_reducible refine wpList_copy_splice rfl (.tmp 13) (.tmp 14) 50 50 rfl 5 Try.underlying50 size5 (some ⟨w.heap.size, 0, none⟩) (some ⟨b, off, none⟩) 32 32 32 c rfl rfl w.heap.size 0 L0 5 ?c1 L1 ?c2 ?c3 ?c4 ?c5 w.heap.size w ?c6 (Nat.le_refl _) ?_)
  case c1 => exact heap_alloc_new _ _
  case c2 => rw [hL1l.out]; rfl
  case c3 => intro _; exact Hsrc.out
  case c4 => have := hL1l.out; have := hL0l.out; omega
  case c5 => exact H1c.out
  case c6 => exact (Below.refl _ _).alloc (Nat.le_refl _) _
  rintro w2 hg2 hb2
  rw [splice_whole _ _ (by rw [hL1l.out, hL0l.out])] at hg2
  have hg3 : BlkIs w2 w.heap.size 5 (bytesV ((ps.take 0).foldl put l)) := by rw [List.take_zero]; show BlkIs w2 _ 5 (bytesV l); rw [← HL1.out]; exact hg2.out
  have G3 := Lib.hid hg3
  clear hg2 hg3 hL1l hL0l Hsrc H1c hmk HL1
  go_wp2
  go_loopw [18] (fun i wr => ∃ k : Nat, k ≤ ps.length ∧ i = .int .i64 k ∧ BlkIs wr w.heap.size 5 (bytesV ((ps.take k).foldl put l)) ∧ Below w.heap.size w wr ∧ (ps.take k).all Pt.right = true) (fun i _ => ps.length - (intOf i).toNat)
  case atStart => exact ⟨0, Nat.zero_le _, rfl, G3.out, hb2, by simp⟩
  case round =>
    obtain ⟨k, hk, rfl, hblk, hB, hall⟩ := hrel
    rename World => wr
    have hAll := Lib.hid hall
    have HB := Lib.hid hblk
    clear hall hblk G3 hb2
    by_cases hlt : k < ps.length
    · have hlti : (k : Int) < (ps.length : Int) := by omega
      have hk0 : (0 : Int) ≤ (k : Int) := by omega
      obtain ⟨b2, o2, rfl, hb2, hcs⟩ := (HP.out.below hB) (by omega)
      obtain ⟨c0, c1, c3⟩ := hcs k hlt
      have hpk := Hok.out k hlt
      have hst := take_step ps k hlt
      obtain ⟨p, hp⟩ : ∃ p, p = pn ps k := ⟨_, rfl⟩
      rw [← hp] at c0 c1 c3 hpk hst
      have Hst := Lib.hid hst
      have Hp := Lib.hid hp
      clear hcs hst hp
      have hT := Lib.hid (fun W hW => @St1.next wr _ W p (St1.start wr p) hW)
      have hBx := Lib.hid (boxed1 wr p)
      have Hal := Lib.hid (fun x => (HB.out).below (below_alloc1 wr x) (HB.out).lt)
      cases hr : p.right with
      | false =>
        have hpk' := Lib.hid (fun W => right_no p W hpk hr)
        have hnone : Hid (allP l ps = none) := by
          unfold Hid allP
          rw [if_neg]
          intro h
          rw [List.all_eq_true] at h
          have := h _ (List.getElem_mem hlt)
          rw [← pn_lt hlt, ← Hp.out, hr] at this
          cases this
        clear hr hpk
        obtain ⟨pb, po, psx⟩ := p
        unfold Pt.v at *
        simp only [Pt.cs] at *
        go_wp2_with fail
        refine (hpk'.out _).mono ?_
        rintro e w3 ⟨rfl, hB3⟩
        go_wp2
        go_ret2
        rw [hnone.out]
        exact ⟨hB.trans ((hT.out _ hB3).1.mono hB.size), rfl⟩
      | true =>
        have hlen : ((ps.take k).foldl put l).length = 32 := length_putAll Hl.out _ hAll.out
        have hpk' := Lib.hid (fun W => right_yes p W hr)
        have hwr := Lib.hid (fun W hg => write_any w.heap.size 32 ((ps.take k).foldl put l) p W hg hlen hr ⟨by omega, by omega⟩)
        have hAll' : Hid ((ps.take (k + 1)).all Pt.right = true) := by
          unfold Hid
          rw [Hst.out, List.all_append, hAll.out]
          simp [hr]
        have HS := Lib.hid hB
        clear hr hpk hlen hB
        have hC : Hid (∀ W, St1 wr p W → W.cell? ⟨wr.heap.size, 0, none⟩ = some (.int .i64 p.b) ∧ W.cell? ⟨wr.heap.size, 1, none⟩ = some (.int .i64 p.o) ∧ W.cell? ⟨wr.heap.size, 2, none⟩ = some (.string p.s)) := fun W h => h.cells
        have hput : Hid ((ps.take (k + 1)).foldl put l = put ((ps.take k).foldl put l) p) := by unfold Hid; rw [Hst.out, List.foldl_append]; rfl
        obtain ⟨m, hm⟩ : ∃ m, m = (ps.take k).foldl put l := ⟨_, rfl⟩
        rw [← hm] at hwr HB hput Hal
        clear hm
        obtain ⟨pb, po, psx⟩ := p
        unfold Pt.v at *
        simp only [Pt.cs] at *
        go_wp2_with fail
        refine (hpk'.out _).mono ?_
        rintro e w3 ⟨rfl, hB3⟩
        have t3 := Lib.hid (hT.out _ hB3)
        obtain ⟨d0, d1, d2⟩ := hC.out _ t3.out
        have g3 := Lib.hid (HB.out.below t3.out.1 HB.out.lt)
        clear hB3
        go_wp2_with fail
        refine (hwr.out _ g3.out).mono ?_
        rintro e w4 ⟨rfl, hb4, hg4⟩
        have hB4 : Below w.heap.size w w4 := (HS.out.trans (t3.out.1.mono HS.out.size)).grown hg4 (by have := HS.out.size; have := t3.out.1.size; omega) (fun j e => by injection e with e; omega)
        have Hb4 := Lib.hid hb4
        clear hb4 hg4
        go_wp2
        go_roundw
        case rel => exact ⟨k + 1, by omega, by go_num, by rw [hput.out]; exact Hb4.out, hB4, hAll'.out⟩
        case measure => simp [intOf]; omega
    · have hlti : ¬ (k : Int) < (ps.length : Int) := by omega
      obtain rfl : k = ps.length := by omega
      rw [List.take_length] at hAll HB
      have hans : Hid (allP l ps = some (ps.foldl put l)) := by unfold Hid allP; rw [if_pos hAll.out]
      go_wp2
      go_ret2
      rw [hans.out]
      exact ⟨hB, _, _, rfl, Nat.le_refl _, HB.out, putAll_all Hall.out _, length_putAll Hl.out _ hAll.out⟩

theorem apply_own (A : Option Addr) (c : Nat) (l : List Int) (p : Pt) (w : World) (hb : Bts w w.heap.size A l) (hl : l.length = 32) (hp : p.ok) :
    Calls Try.prog 30 #[.slice A 32 c, p.v] w (AnsO w (allP l [p])) := by
  have hb1 : Bts (w.alloc (.cells p.cs.toArray 66)) w.heap.size A l := hb.below (below_alloc1 w _)
  have hb2 : Bts ((w.alloc (.cells p.cs.toArray 66)).alloc (.cells p.cs.toArray 66)) (w.heap.size + 1 + 1) A l := (hb.below (below_alloc2 w _ _)).more (by omega)
  have hP : Pats ((w.alloc (.cells p.cs.toArray 66)).alloc (.cells p.cs.toArray 66)) (w.heap.size + 1 + 1) (some ⟨w.heap.size + 1, 0, none⟩) [p] := by
    intro _
    refine ⟨_, _, rfl, by omega, fun j hj => ?_⟩
    obtain rfl : j = 0 := by simpa using hj
    exact (boxed2 w p p).2.cells
  have C := all_own A (some ⟨w.heap.size + 1, 0, none⟩) c 1 l [p] ((w.alloc (.cells p.cs.toArray 66)).alloc (.cells p.cs.toArray 66)) (by simpa using hb2) hl (by simpa using hP) (by simp) (fun k hk => by
    have e : k = 0 := by simpa using hk
    subst e
    exact hp)
  have HC := Lib.hid C
  have HB : Hid (Below w.heap.size w ((w.alloc (.cells p.cs.toArray 66)).alloc (.cells p.cs.toArray 66))) := below_alloc2 w _ _
  obtain ⟨r, hr⟩ : ∃ r, r = allP l [p] := ⟨_, rfl⟩
  rw [← hr] at HC ⊢
  clear hb hb1 hb2 hP C hl hp hr
  obtain ⟨b, o, s⟩ := p
  unfold Pt.v at *
  simp only [Pt.cs] at *
  go_enter Try.func30, Try.ntmps30
  go_wp2_with fail
  refine HC.out.mono ?_
  rintro e w1 ⟨hB1, h1⟩
  have hB : Below w.heap.size w w1 := HB.out.trans (hB1.mono (by simp; omega))
  cases r with
  | none =>
    subst h1
    go_wp2
    go_ret2
    exact ⟨hB, rfl⟩
  | some m =>
    obtain ⟨x1, c1, rfl, h1, h2, h3, h4⟩ := h1
    have H := Lib.hid (show w.heap.size ≤ x1 ∧ BlkIs w1 x1 5 (bytesV m) ∧ AllB m ∧ m.length = 32 from ⟨Nat.le_trans (by simp; omega) h1, h2, h3, h4⟩)
    clear h1 h2 h3 h4
    go_wp2
    go_ret2
    exact ⟨hB, x1, c1, rfl, H.out⟩
theorem cells66 : Try.prog.cellsOf 66 = 3 := by kernel_rfl
theorem cells9 : Try.prog.cellsOf 9 = 1 := by kernel_rfl
section
variable {H' : Type} {enc : TypeId × Value → H'} {w : World} {base : Nat} {spare : Nat → Bool} {held : Bool}
set_option maxRecDepth 100000 in
theorem cells_patch {fuel : Nat} {cs : List Value} {x : DataW H' × List MemPlace} (h : DataW.trod enc Try.prog w base spare held fuel 66 cs = some x) : ∃ p : Pt, cs = p.cs ∧ p.ok := by
  obtain ⟨y0, y1, y2, n, _, hl, h0, h1, h2⟩ := Deep.trod_struct3 Try.underlying66 h
  rw [cells66] at hl
  obtain ⟨c0, c1, c2, rfl⟩ : ∃ a b c, cs = [a, b, c] := by
    match cs, hl with
    | [a, b, c], _ => exact ⟨a, b, c, rfl⟩
  simp only [cells3, cells9] at h0 h1 h2
  obtain ⟨b, e0, _, wb⟩ := DataW.trod_int Try.underlying3 h0
  obtain ⟨o, e1, _, wo⟩ := DataW.trod_int Try.underlying3 h1
  obtain ⟨s, e2, _, ws⟩ := DataW.trod_string Try.underlying9 h2
  simp at e0 e1 e2
  subst e0 e1 e2
  exact ⟨⟨b, o, s⟩, rfl, bounds_i64 wb, bounds_i64 wo, ws⟩
theorem open_patch {v : Value} {d : DataW H'} {ps : List MemPlace} (hv : ∃ cs, v = .agg cs) (h : DataW.Trod enc Try.prog w base spare held 66 v d ps) : ∃ p : Pt, v = p.v ∧ p.ok := by
  obtain ⟨cs, rfl⟩ := hv
  obtain ⟨fuel, hf⟩ := h
  obtain ⟨p, e, hp⟩ := cells_patch hf
  refine ⟨p, ?_, hp⟩
  simp only [Value.cells] at e
  have : cs = p.cs.toArray := by rw [← e]
  rw [this]
  rfl

/-- A slice of patches that came in. -/
def IsPats (w : World) (a : Option Addr) (len cap : Nat) (ps : List Pt) : Prop :=
  ps.length = len ∧ len ≤ cap ∧ cap ≤ maxLen ∧ Pats w w.heap.size a ps ∧ ∀ k, k < ps.length → (pn ps k).ok
theorem open_pats {a : Option Addr} {len cap : Nat} {d : DataW H'} {pl : List MemPlace} (h : DataW.Trod enc Try.prog w base spare held 62 (.slice a len cap) d pl) : ∃ ps, IsPats w a len cap ps := by
  obtain ⟨fuel, hf⟩ := h
  rcases Deep.open_slice Try.underlying62 hf with ⟨e, _⟩ | ⟨x, l, c, m, n, D, Pl, e, _, hl, hm, hmm, _, hx⟩
  · simp [Value.cells] at e
    obtain ⟨rfl, rfl, rfl⟩ := e
    exact ⟨[], rfl, Nat.le_refl _, Nat.zero_le _, Pats.nil, by simp⟩
  · simp [Value.cells] at e
    obtain ⟨rfl, rfl, rfl⟩ := e
    rw [cells66] at hx
    have hlm : len ≤ m := by rw [hmm]; split <;> omega
    have hg : ∀ i, i < len → ∃ p : Pt, p.ok ∧ ∀ j, j < 3 → w.cell? ((x.add (i * 3)).add j) = p.cs[j]? := fun i hi => by
      obtain ⟨cs, h1, h2⟩ := hx i (by omega)
      obtain ⟨p, rfl, hp⟩ := cells_patch h2
      exact ⟨p, hp, (World.cells?_some h1).2.2⟩
    obtain ⟨f, hf⟩ : ∃ f : Nat → Pt, ∀ i, i < len → (f i).ok ∧ ∀ j, j < 3 → w.cell? ((x.add (i * 3)).add j) = (f i).cs[j]? := by
      classical
      exact ⟨fun i => if h : i < len then (hg i h).choose else ⟨0, 0, ByteArray.empty⟩, fun i hi => by simp only [dif_pos hi]; exact (hg i hi).choose_spec⟩
    have hpn : ∀ i, i < len → pn ((List.range len).map f) i = f i := fun i hi => by
      rw [pn_lt (by simpa using hi)]; simp
    refine ⟨(List.range len).map f, by simp, hl, hm, fun hn => ?_, fun k hk => ?_⟩
    · have hn' : 0 < len := by simpa using hn
      obtain ⟨b, off, spot⟩ := x
      have h0 := (hf 0 hn').2 0 (by omega)
      have hspot : spot = none := by
        have : w.cell? ⟨b, off, spot⟩ = some (.int .i64 (f 0).b) := by simpa [Addr.add, Pt.cs] using h0
        exact World.cell?_spot this
      subst hspot
      refine ⟨b, off, rfl, lt_of_cell (v := .int .i64 (f 0).b) (by simpa [Addr.add, Pt.cs] using h0), fun j hj => ?_⟩
      have hj' : j < len := by simpa using hj
      rw [hpn j hj']
      have a0 := (hf j hj').2 0 (by omega)
      have a1 := (hf j hj').2 1 (by omega)
      have a2 := (hf j hj').2 2 (by omega)
      rw [add_plain', add_plain'] at a0 a1 a2
      exact ⟨by simpa [Pt.cs] using a0, by simpa [Pt.cs] using a1, by simpa [Pt.cs] using a2⟩
    · have hk' : k < len := by simpa using hk
      rw [hpn k hk']
      exact (hf k hk').1
end

/-- a disk of one block on which Im waits, a row of the sectors Jm, and what lies beside them -/
def TvS (w wr : World) (d k : Nat) (v6 : Value) (Im Jm : List (List Int)) (Y : List (Nat × Obj)) : Prop :=
  ∃ F, Code wr d 1 (fun _ => ⟨noSec, Im, false⟩) k F ∧ (∀ b, F b → w.heap.size ≤ b) ∧ wr.ownsRow w.heap.size 36 32 v6 Jm.length (secsV Jm) ∧ (∀ b, v6.ownBlock = some b → ¬ F b) ∧
    (∀ p ∈ Y, wr.heap[p.1]? = some p.2 ∧ ¬ F p.1 ∧ v6.ownBlock ≠ some p.1) ∧ Below w.heap.size w wr
section
variable {w w1 w2 : World} {d k : Nat} {v6 : Value} {Im Jm : List (List Int)} {Y : List (Nat × Obj)}
theorem TvS.below (H : TvS w w1 d k v6 Im Jm Y) : Below w.heap.size w w1 := by
  obtain ⟨F, h1, h2, h3, h4, h5, h6⟩ := H
  exact h6
theorem TvS.side (H : TvS w w1 d k v6 Im Jm Y) {p : Nat × Obj} (hp : p ∈ Y) : w1.heap[p.1]? = some p.2 := by
  obtain ⟨F, h1, h2, h3, h4, h5, h6⟩ := H
  exact (h5 p hp).1
theorem TvS.row (H : TvS w w1 d k v6 Im Jm Y) : w1.ownsRow w.heap.size 36 32 v6 Jm.length (secsV Jm) := by
  obtain ⟨F, h1, h2, h3, h4, h5, h6⟩ := H
  exact h3
theorem TvS.next (H : TvS w w1 d k v6 Im Jm Y) (hB : Below w1.heap.size w1 w2) : TvS w w2 d k v6 Im Jm Y := by
  obtain ⟨F, h1, h2, h3, h4, h5, h6⟩ := H
  exact ⟨F, h1.fresh hB, h2, row_fresh h3 hB, h4, fun p hp => ⟨(hB.block _ (Array.getElem?_eq_some_iff.1 (h5 p hp).1).1).trans (h5 p hp).1, (h5 p hp).2⟩, h6.trans (hB.mono h6.size)⟩
theorem TvS.add (H : TvS w w1 d k v6 Im Jm Y) (hB : Below w1.heap.size w1 w2) {b : Nat} {o : Obj} (hb : w1.heap.size ≤ b) (ho : w2.heap[b]? = some o) : TvS w w2 d k v6 Im Jm ((b, o) :: Y) := by
  obtain ⟨F, h1, h2, h3, h4, h5, h6⟩ := H
  refine ⟨F, h1.fresh hB, h2, row_fresh h3 hB, h4, fun p hp => ?_, h6.trans (hB.mono h6.size)⟩
  rcases List.mem_cons.1 hp with rfl | hp
  · exact ⟨ho, fun q => by have := h1.lt _ q; simp at this; omega, fun q => by have := (h3.lt _ q).2; simp at this; omega⟩
  · exact ⟨(hB.block _ (Array.getElem?_eq_some_iff.1 (h5 p hp).1).1).trans (h5 p hp).1, (h5 p hp).2⟩
theorem TvS.few (H : TvS w w1 d k v6 Im Jm Y) {Y' : List (Nat × Obj)} (h : ∀ p ∈ Y', p ∈ Y) {k' : Nat} (hk : k ≤ k') : TvS w w1 d k' v6 Im Jm Y' := by
  obtain ⟨F, h1, h2, h3, h4, h5, h6⟩ := H
  exact ⟨F, h1.mono hk, h2, h3, h4, fun p hp => h5 p (h p hp), h6⟩
theorem TvS.write (H : TvS w w1 d k v6 Im Jm Y) (hk : k < 50000) {s : List Int} (hs : OkS s) :
    Calls Try.prog 17 #[.pointer (some ⟨d, 0, none⟩), .int .i64 0, secV s] w1 fun e w' => e = .returned (.int .i64 0) ∧ TvS w w' d (k + 1) v6 (Im ++ [s]) Jm Y := by
  obtain ⟨F, h1, h2, h3, h4, h5, h6⟩ := H
  refine (cwrite (i := 0) h1 (by decide) rfl hs (by omega)).mono ?_
  rintro e w' ⟨rfl, F', q, hk, hf⟩
  have e0 : ∀ j, j < 1 → upd (fun _ => (⟨noSec, Im, false⟩ : Bk)) 0 ⟨noSec, Im ++ [s], false⟩ j = (⟨noSec, Im ++ [s], false⟩ : Bk) := fun j hj => by
    obtain rfl : j = 0 := by omega
    rw [upd_same]
  have q' : Code w' d 1 (fun _ => ⟨noSec, Im ++ [s], false⟩) (k + 1) F' := by
    obtain ⟨L, B, mb, kk, D, V, A, C, q, rfl⟩ := q
    exact ⟨L, B, mb, kk, D, V, A, C, q.congr e0, rfl⟩
  have hF : ∀ b, F' b → F b ∨ w1.heap.size ≤ b := hf
  refine ⟨rfl, F', q', fun b p => ?_, hk.row h3 h4, fun b p p' => ?_, fun p hp => ?_, h6.trans (hk.below h2 h6.size)⟩
  · rcases hF b p with q | q
    · exact h2 b q
    · exact Nat.le_trans h6.size q
  · rcases hF b p' with q | q
    · exact h4 b p q
    · have := (h3.lt b p).2
      omega
  · have hlt := (Array.getElem?_eq_some_iff.1 (h5 p hp).1).1
    refine ⟨(hk.block _ hlt (h5 p hp).2.1).trans (h5 p hp).1, fun q => ?_, (h5 p hp).2.2⟩
    rcases hF _ q with q | q
    · exact (h5 p hp).2.1 q
    · omega
theorem TvS.append (H : TvS w w1 d k v6 Im Jm Y) {v' : Value} {s : List Int} (ho : w2.ownsRow w.heap.size 36 32 v' (Jm.length + 1) (secsV Jm ++ bytesV s)) (hg : w1.grownBy w2 v6.ownBlock) (hor : v'.ownBlock = v6.ownBlock ∨ v'.ownBlock = some w1.heap.size) : TvS w w2 d k v' Im (Jm ++ [s]) Y := by
  obtain ⟨F, h1, h2, h3, h4, h5, h6⟩ := H
  have hK : Kept w1 w2 (fun b => v6.ownBlock = some b) := Kept.grown hg (fun k e => .inl e)
  refine ⟨F, h1.keep hK (fun b p q => h4 b q p), h2, ?_, fun b p q => ?_, fun p hp => ?_, h6.grown hg h6.size (fun j e => (h3.lt j e).1)⟩
  · rw [List.length_append, List.length_singleton]
    have : secsV (Jm ++ [s]) = secsV Jm ++ bytesV s := by unfold secsV; rw [List.flatMap_append, List.flatMap_cons, List.flatMap_nil, List.append_nil]
    rw [this]; exact ho
  · rcases hor with e | e
    · exact h4 b (e ▸ p) q
    · rw [e] at p
      have := h1.lt b q
      simp at p
      omega
  · have hlt := (Array.getElem?_eq_some_iff.1 (h5 p hp).1).1
    refine ⟨(hK.block _ hlt (h5 p hp).2.2).trans (h5 p hp).1, (h5 p hp).2.1, fun q => ?_⟩
    rcases hor with e | e
    · exact (h5 p hp).2.2 (e ▸ q)
    · rw [e] at q
      simp at q
      omega
/-- what the crash leaves -/
def leftT (Im : List (List Int)) (q : Nat) : List Int := if q = 0 then noSec else Im.getD (q - 1) noSec
def TvE (w wr : World) (d k : Nat) (v6 : Value) (Im : List (List Int)) (N : List Int) : Prop :=
  ∃ F S, Code wr d 1 S k F ∧ (S 0).now = N ∧ wr.ownsRow w.heap.size 36 32 v6 Im.length (secsV Im) ∧ Below w.heap.size w wr
theorem left_one (Im : List (List Int)) (q : Nat) (hq : q ≤ Im.length) : (crashed 1 (fun _ => (⟨noSec, Im, false⟩ : Bk)) [(q : Int)] 0).now = leftT Im q := by
  have h0 : (waits 1 (fun _ => (⟨noSec, Im, false⟩ : Bk))).idxOf 0 = 0 := by
    unfold waits
    cases Im <;> rfl
  show ((Option.bind [(q : Int)][(waits 1 (fun _ => (⟨noSec, Im, false⟩ : Bk))).idxOf 0]? (pickAt Im)).getD noSec) = _
  rw [h0]
  show ((pickAt Im (q : Int)).getD noSec) = _
  unfold pickAt leftT
  by_cases e : q = 0
  · subst e; rfl
  · rw [if_pos (by omega), if_neg e, show ((q : Int) - 1).toNat = q - 1 by omega, List.getD_eq_getElem?_getD]
theorem TvS.crash (H : TvS w w1 d k v6 Im Im Y) (hk : k < 50000) {q pb : Nat} (hq : q ≤ Im.length) (hl : q ≤ 1000) (hp : (pb, Obj.cells #[.int .i64 (q : Int)] 3) ∈ Y) :
    Calls Try.prog 19 #[.pointer (some ⟨d, 0, none⟩), .slice (some ⟨pb, 0, none⟩) 1 1] w1 fun e w' => e = .returned (.int .i64 0) ∧ TvE w w' d k v6 Im (leftT Im q) := by
  have hs := H.side hp
  obtain ⟨F, h1, h2, h3, h4, h5, h6⟩ := H
  have hpk : PickAt w1 F (some ⟨pb, 0, none⟩) [(q : Int)] := .inr ⟨pb, 0, rfl, (Array.getElem?_eq_some_iff.1 hs).1, (h5 _ hp).2.1, fun j u hj => by
    have hs' : w1.heap[pb]? = some (.cells #[.int .i64 (q : Int)] 3 (0, 0)) := hs
    rw [Nat.zero_add, cell_of_row w1 pb j _ 3 (0, 0) hs']
    rw [← hj]
    cases j with
    | zero => rfl
    | succ j => simp⟩
  refine (ccrash h1 (by omega) [(q : Int)] (fun x hx => by
    have e : x = (q : Int) := (by simpa using hx)
    subst e
    omega) _ 1 hpk).mono ?_
  rintro e w' ⟨rfl, F', g, hk, hf⟩
  exact ⟨rfl, F', _, g, left_one Im q hq, hk.row h3 h4, h6.trans (hk.below h2 h6.size)⟩
theorem TvE.read {N : List Int} (H : TvE w w1 d k v6 Im N) (hk : k < 50000) :
    Calls Try.prog 20 #[.pointer (some ⟨d, 0, none⟩), .int .i64 0] w1 fun e w' => e = .returned (.tuple #[secV N, .int .i64 0]) ∧ w'.ownsRow w.heap.size 36 32 v6 Im.length (secsV Im) ∧ Below w.heap.size w w' := by
  obtain ⟨F, S, h1, h2, h3, h4⟩ := H
  refine (cread (i := 0) h1 (by decide) (by omega)).mono ?_
  rintro e w' ⟨rfl, hB⟩
  rw [h2]
  exact ⟨rfl, row_fresh h3 hB, h4.trans (hB.mono h4.size)⟩
end

end Go.Proofs.Ytieeibdhaoaeaaa
