/- Patch's All and Apply. -/
import Derived.Test.YtkfjkhacchbkeaaQO
import Derived.Laws.IdiomStrings
namespace Go.Proofs.Ytkfjkhacchbkeaa.Pat
set_option linter.unusedVariables false
set_option linter.unusedSimpArgs false
open Go.RowKit



/-- a text's bytes -/
def sb (s : ByteArray) : List Int := s.data.toList.map fun b => (b.toNat : Int)
theorem length_sb (s : ByteArray) : (sb s).length = s.size := by simp [sb]
theorem sb_all (s : ByteArray) : AllB (sb s) := by
  intro x hx
  obtain ⟨b, _, rfl⟩ := List.mem_map.1 hx
  have := b.toNat_lt
  omega
theorem strOf_sb (s : ByteArray) : strOfNums (sb s) = s := by
  unfold strOfNums sb
  rw [List.map_map]
  have : (fun n : Int => UInt8.ofNat n.toNat) ∘ (fun b : UInt8 => (b.toNat : Int)) = id := by funext b; simp
  rw [this]
  simp
theorem sb_strOf (l : List Int) (h : AllB l) : sb (strOfNums l) = l := by
  unfold sb
  rw [strOfNums_data, List.map_map]
  conv => rhs; rw [← List.map_id l]
  apply List.map_congr_left
  intro x hx
  obtain ⟨h0, h1⟩ := h x hx
  simp
  omega
theorem sb_inj {s t : ByteArray} (h : sb s = sb t) : s = t := by rw [← strOf_sb s, ← strOf_sb t, h]

def byteV (x : Int) : Value := .int .u8 x
def bytesV (l : List Int) : List Value := l.map byteV
theorem bytes_of_str (s : ByteArray) : (s.data.map fun b => Value.int .u8 b.toNat).toList = bytesV (sb s) := by simp [bytesV, sb, byteV]
theorem length_bytesV (l : List Int) : (bytesV l).length = l.length := by simp [bytesV]
theorem bytesV_one (l : List Int) : ∀ v ∈ bytesV l, v.oneCell' = true := by intro v hv; obtain ⟨x, _, rfl⟩ := List.mem_map.1 hv; rfl
theorem info5 : (Try.prog.info? 5).map (fun i => (i.zero, i.size, i.bytes)) = some (some (.int .u8 0), 1, 1) := by kernel_rfl
theorem size5 : (Try.prog.info? 5).map (·.size) = some 1 := by kernel_rfl

theorem splice_bytes (l m : List Int) (o : Nat) : splice (bytesV l) o (bytesV m) = bytesV (splice l o m) := by
  simp [splice, bytesV, List.map_take, List.map_drop]
theorem splice_all {l m : List Int} (hl : AllB l) (hm : AllB m) (o : Nat) : AllB (splice l o m) := by
  intro x hx
  simp only [splice, List.mem_append] at hx
  rcases hx with h | h | h
  · exact hl x (List.mem_of_mem_take h)
  · exact hm x h
  · exact hl x (List.mem_of_mem_drop h)
/-- a block behind a patch -/
def put (l : List Int) (p : Pt) : List Int := splice l p.o.toNat (sb p.s)
theorem put_all {l : List Int} (hl : AllB l) (p : Pt) : AllB (put l p) := splice_all hl (sb_all _) _
theorem length_put {l : List Int} {p : Pt} (hp : p.right = true) (hl : l.length = 32) : (put l p).length = 32 := by
  obtain ⟨_, _, h3, h4, h5, h6⟩ := Pt.right_out hp
  unfold put
  rw [length_splice _ _ _ (by rw [length_sb]; omega), hl]

/-- 'copy(row[o:], text)', the text no longer than what is there of the row -/
theorem run_copy_text (w : World) (dT sT ty elem : TypeId) (g o dLen dCap : Nat) (s : ByteArray) (cur : List Value) (t : TypeId)
    (hu : Try.prog.underlying dT = some (.slice elem)) (hs : (Try.prog.info? elem).map (·.size) = some 1)
    (hg : BlkIs w g t cur) (hn : s.size = dLen) (hfit : o + s.size ≤ cur.length) :
    (Builtin.copy_ #[dT, sT] ty #[.slice (some ⟨g, o, none⟩) dLen dCap, .string s]).run Try.prog w =
      .ok (goInt s.size) (w.setRow g (splice cur o (bytesV (sb s))).toArray) := by
  subst hn
  have hst := run_storeCells_at Try.prog g o t (bytesV (sb s)) 0 cur.toArray w hg (by rw [length_bytesV, length_sb]; simpa using hfit) (bytesV_one _)
  cases hq : Try.prog.info? elem with
  | none => simp [hq] at hs
  | some i =>
    have hi : i.size = 1 := by simpa [hq] using hs
    have hb := bytes_of_str s
    have hst' : (storeCells ⟨g, o, none⟩ (s.data.map fun b => Value.int .u8 b.toNat).toList).run Try.prog w = .ok () (w.setRow g (splice cur o (bytesV (sb s))).toArray) := by
      rw [hb]
      simpa [splice] using hst
    simp [Builtin.copy_, run_underlying hu, Builtin.lenOf, Builtin.firstCells, sizeOf, typeInfo, hq]
    simp at hst'
    rw [List.take_of_length_le (by simp), hst']
    rfl

/-- one step of a drawn region: 'copy' of a text -/
theorem step_copy_text {ops : Array Oper} {o : Oper} {a : Act} {w : World} {K : Act → World → Prop} {Q : Exit → Act → World → Prop} {E : Prop} (hgd : o.guard = none) (d s : Operand)
    (ho : o.op = .call { callee := .builtin .copy, args := #[d, s], argTypes := #[53, 9] })
    (g off dLen dCap : Nat) (t : ByteArray) (hd : a.eval d = .slice (some ⟨g, off, none⟩) dLen dCap) (hs : a.eval s = .string t)
    (cur : List Value) (ty : TypeId) (hg : BlkIs w g ty cur) (hn : t.size = dLen) (hfit : off + t.size ≤ cur.length)
    (h : K (a.put o.dst (goInt t.size)) (w.setRow g (splice cur off (bytesV (sb t))).toArray)) :
    if Region.wanted o (yielded ops a.tmps) = true then Oper.wp Try.prog o a w K Q else E := by
  have hw : Region.wanted o (yielded ops a.tmps) = true := by simp [Region.wanted, hgd]
  rw [if_pos hw]
  have hrun := run_copy_text w 53 9 o.type 5 g off dLen dCap t cur ty Try.underlying53 size5 hg hn hfit
  unfold Oper.wp
  simp [execOp, ho, resolve, invoke, builtin, hd, hs, hrun, Result.andThen]
  exact h

/-- one patch laid at the call's head, and nothing older turned -/
def St1 (w : World) (p : Pt) (W : World) : Prop := Below w.heap.size w W ∧ Boxed W w.heap.size p
theorem St1.cells {w W : World} {p : Pt} (h : St1 w p W) : W.cell? ⟨w.heap.size, 0, none⟩ = some (.int .i64 p.b) ∧ W.cell? ⟨w.heap.size, 1, none⟩ = some (.int .i64 p.o) ∧ W.cell? ⟨w.heap.size, 2, none⟩ = some (.string p.s) := h.2.cells
theorem St1.next {w W W' : World} {p : Pt} (h : St1 w p W) (hB : Below W.heap.size W W') : St1 w p W' := ⟨h.1.trans (hB.mono h.1.size), h.2.below hB (BlkIs.lt h.2)⟩
theorem St1.drew {w W : World} {p : Pt} (h : St1 w p W) : St1 w p W.drew := ⟨h.1.drew, h.2⟩
theorem St1.start (w : World) (p : Pt) : St1 w p (w.alloc (.cells p.cs.toArray 44)) := ⟨below_alloc1 w _, boxed1 w p⟩
theorem BlkIs.other {W : World} {g k : Nat} {t : TypeId} {l : List Value} (h : BlkIs W k t l) (hk : k ≠ g) (cs : Array Value) : BlkIs (W.setRow g cs) k t l := by
  unfold BlkIs at *
  rw [setRow_other W g k cs hk]; exact h

set_option maxRecDepth 100000 in
set_option linter.unusedSimpArgs false in
set_option maxHeartbeats 1000000 in
theorem write_any (g c : Nat) (l : List Int) (p : Pt) (w : World) (hg : BlkIs w g 5 (bytesV l)) (hl : l.length = 32) (hp : p.right = true) (hc : 32 ≤ c ∧ c ≤ 1000) :
    Calls Try.prog 74 #[.slice (some ⟨g, 0, none⟩) 32 c, p.v] w fun e w' => e = .returned (.tuple #[]) ∧ BlkIs w' g 5 (bytesV (put l p)) ∧ w.grownBy w' (some g) := by
  obtain ⟨p1, p2, p3, p4, p5, p6⟩ := Pt.right_out hp
  have hps : p.s.size ≤ 1000 := by omega
  have E := Lib.hid (fun W => end_any p W p3 p4 hps)
  have HS := Lib.hid (St1.start w p).drew
  have HC := Lib.hid (fun W => @St1.cells w W p)
  have HN := Lib.hid (fun W W' => @St1.next w W W' p)
  have hgl : g < w.heap.size := hg.lt
  have HG : Hid (∀ W, St1 w p W → BlkIs W g 5 (bytesV l)) := fun W h => hg.below h.1 hgl
  have HF : Hid (p.o.toNat + p.s.size ≤ (bytesV l).length) := by unfold Hid; rw [length_bytesV, hl]; omega
  have HP : Hid (put l p = splice l p.o.toNat (sb p.s)) := rfl
  have HL : Hid (∀ W, St1 w p W → (W.setRow g (splice (bytesV l) p.o.toNat (bytesV (sb p.s))).toArray).cell? ⟨w.heap.size, 0, none⟩ = some (.int .i64 p.b) ∧ (W.setRow g (splice (bytesV l) p.o.toNat (bytesV (sb p.s))).toArray).cell? ⟨w.heap.size, 1, none⟩ = some (.int .i64 p.o) ∧ (W.setRow g (splice (bytesV l) p.o.toNat (bytesV (sb p.s))).toArray).cell? ⟨w.heap.size, 2, none⟩ = some (.string p.s)) := by
    intro W h
    have hk : Boxed (W.setRow g (splice (bytesV l) p.o.toNat (bytesV (sb p.s))).toArray) w.heap.size p := BlkIs.other h.2 (by omega) _
    exact hk.cells
  clear hg hp hl
  obtain ⟨b, o, s⟩ := p
  obtain ⟨n, rfl⟩ := Int.eq_ofNat_of_zero_le p3
  simp only [Int.toNat_natCast] at *
  unfold Pt.v at *
  simp only [Pt.cs] at *
  have X := Lib.hid (HC.out _ HS.out)
  have hn0 : (0 : Int) ≤ (n : Int) := by omega
  have hns : (n : Int) + (s.size : Int) ≤ (c : Int) := by omega
  have hnn : (n : Int) ≤ (n : Int) + (s.size : Int) := by omega
  have hx : ((n : Int) + (s.size : Int)).toNat = n + s.size := by omega
  have h0 : ¬ s.size = 0 := by omega
  go_enter Try.func74, Try.ntmps74
  go_wp2_with fail
  refine wp_region_held_drew (S := (fun W => W.cell? ⟨w.heap.size, 0, none⟩ = some (.int .i64 b) ∧ W.cell? ⟨w.heap.size, 1, none⟩ = some (.int .i64 (n : Int)) ∧ W.cell? ⟨w.heap.size, 2, none⟩ = some (.string s))) (by kernel_rfl) (X.out) (fun hHeld => ?_)
  refine takeH (i := 0) (some 4) (v := ?_) rfl rfl (by kernel_rfl) (by kernel_rfl) (by kernel_rfl) (fun _ _ _ h => h) (by rfl) ?_ (by assumption) ?_
  rotate_left
  · (intro w hSw; (try dsimp only at hSw); go_simp; try with_reducible rfl)
  simp only [Act.put, List.setIfInBounds_toArray, List.set_cons_zero, List.set_cons_succ]
  refine takeH (i := 1) (some 5) (v := ?_) rfl rfl (by kernel_rfl) (by kernel_rfl) (by kernel_rfl) (fun _ _ _ h => h) (by rfl) ?_ (by assumption) ?_
  rotate_left
  · (intro w hSw; (try dsimp only at hSw); go_simp; try with_reducible rfl)
  simp only [Act.put, List.setIfInBounds_toArray, List.set_cons_zero, List.set_cons_succ]
  refine takeH (i := 2) (some 6) (v := ?_) rfl rfl (by kernel_rfl) (by kernel_rfl) (by kernel_rfl) (fun _ _ _ h => h) (by rfl) ?_ (by assumption) ?_
  rotate_left
  · (intro w hSw; (try dsimp only at hSw); go_simp; try with_reducible rfl)
  simp only [Act.put, List.setIfInBounds_toArray, List.set_cons_zero, List.set_cons_succ]
  refine takeH (i := 3) (some 7) (v := ?_) rfl rfl (by kernel_rfl) (by kernel_rfl) (by kernel_rfl) (fun _ _ _ h => h) (by rfl) ?_ (by assumption) ?_
  rotate_left
  · (intro w hSw; (try dsimp only at hSw); go_simp; try with_reducible rfl)
  simp only [Act.put, List.setIfInBounds_toArray, List.set_cons_zero, List.set_cons_succ]
  refine takeH (i := 5) (some 9) (v := ?_) rfl rfl (by kernel_rfl) (by kernel_rfl) (by kernel_rfl) (fun _ _ _ h => h) (by rfl) ?_ (by assumption) ?_
  rotate_left
  · (intro w hSw; (try dsimp only at hSw); go_simp; try with_reducible rfl)
  simp only [Act.put, List.setIfInBounds_toArray, List.set_cons_zero, List.set_cons_succ]
  refine takeH (i := 8) (some 12) (v := ?_) rfl rfl (by kernel_rfl) (by kernel_rfl) (by kernel_rfl) (fun _ _ _ h => h) (by rfl) ?_ (by assumption) ?_
  rotate_left
  · (intro w hSw; (try dsimp only at hSw); go_simp; try with_reducible rfl)
  simp only [Act.put, List.setIfInBounds_toArray, List.set_cons_zero, List.set_cons_succ]
  refine takeH (i := 9) (some 13) (v := ?_) rfl rfl (by kernel_rfl) (by kernel_rfl) (by kernel_rfl) (fun _ _ _ h => h) (by rfl) ?_ (by assumption) ?_
  rotate_left
  · (intro w hSw; (try dsimp only at hSw); go_simp; try with_reducible rfl)
  simp only [Act.put, List.setIfInBounds_toArray, List.set_cons_zero, List.set_cons_succ]
  refine wpAnyH_ready (rs := [4]) (by kernel_rfl) (by simp) ?_
  refine AllReadyH.cons rfl (fun K hK => ?_) AllReadyH.nil
  go_simp
  ((with_reducible refine (E.out _).mono ?_); rintro e w3 ⟨rfl, hB3⟩; replace HS := Lib.hid (HN.out _ _ HS.out hB3); replace X := Lib.hid (HC.out _ HS.out))
  refine hK _ _ (X.out) (fun hHeld => ?_)
  clear hK K
  try simp only [Act.put, List.setIfInBounds_toArray, List.set_cons_zero, List.set_cons_succ]
  refine wpAnyH_ready (rs := [6]) (by kernel_rfl) (by simp) ?_
  refine AllReadyH.cons rfl (fun K hK => ?_) AllReadyH.nil
  go_simp
  ((with_reducible refine (E.out _).mono ?_); rintro e w3 ⟨rfl, hB3⟩; replace HS := Lib.hid (HN.out _ _ HS.out hB3); replace X := Lib.hid (HC.out _ HS.out))
  refine hK _ _ (X.out) (fun hHeld => ?_)
  clear hK K
  try simp only [Act.put, List.setIfInBounds_toArray, List.set_cons_zero, List.set_cons_succ]
  refine takeH (i := 7) (some 11) (v := ?_) rfl rfl (by kernel_rfl) (by kernel_rfl) (by kernel_rfl) (fun _ _ _ h => h) (by rfl) ?_ (by assumption) ?_
  rotate_left
  · (intro w hSw; (try dsimp only at hSw); go_simp; try with_reducible rfl)
  simp only [Act.put, List.setIfInBounds_toArray, List.set_cons_zero, List.set_cons_succ]
  refine wpAnyH_ready (rs := [10]) (by kernel_rfl) (by simp) ?_
  refine AllReadyH.cons rfl (fun K hK => ?_) AllReadyH.nil
  refine step_copy_text rfl (.tmp 11) (.tmp 13) rfl g n s.size s.size s rfl rfl (bytesV l) 5 (HG.out _ HS.out) rfl HF.out ?_
  refine hK _ _ (HL.out _ HS.out) (fun hHeld => ?_)
  clear hK K
  try simp only [Act.put, List.setIfInBounds_toArray, List.set_cons_zero, List.set_cons_succ]
  refine wpAnyH_done (by kernel_rfl) ?_ _
  go_wp2
  go_end0
  rw [HP.out]
  refine ⟨rfl, ?_, ?_⟩
  · have := setRow_heap _ g _ (splice (bytesV l) n (bytesV (sb s))).toArray 5 (0, 0) (HG.out _ HS.out)
    rw [← splice_bytes]
    exact this
  · have h1 := HS.out.1
    exact ⟨h1.os, h1.tape, h1.output, by simpa [World.setRow] using h1.size, fun k hk hne => by
      rw [setRow_other _ g k _ (by intro e; subst e; exact hne rfl)]
      exact h1.block k hk⟩
/-- a block behind some patches, or none -/
def allP (b : List Int) (l : List Pt) : Option (List Int) := if l.all Pt.right then some (l.foldl put b) else none
theorem putAll_all {b : List Int} (hb : AllB b) (l : List Pt) : AllB (l.foldl put b) := by
  induction l generalizing b with
  | nil => exact hb
  | cons p l ih => exact ih (put_all hb p)
theorem length_putAll {b : List Int} (hb : b.length = 32) (l : List Pt) (h : l.all Pt.right = true) : (l.foldl put b).length = 32 := by
  induction l generalizing b with
  | nil => exact hb
  | cons p l ih =>
    simp only [List.all_cons, Bool.and_eq_true] at h
    exact ih (length_put h.1 hb) h.2
theorem take_step (l : List Pt) (k : Nat) (h : k < l.length) : l.take (k + 1) = l.take k ++ [pn l k] := by
  rw [pn_lt h, List.take_add_one, List.getElem?_eq_getElem h]; rfl
/-- what All and Apply answer -/
def Ans (w : World) (r : Option (List Int)) (e : Ending) (w' : World) : Prop :=
  Below w.heap.size w w' ∧ match r with
    | some m => ∃ A c, e = .returned (.tuple #[.slice A 32 c, .int .i64 0]) ∧ 32 ≤ c ∧ c ≤ maxLen ∧ Bts w' w'.heap.size A m ∧ m.length = 32 ∧ ∃ g, A = some ⟨g, 0, none⟩ ∧ w.heap.size ≤ g
    | none => e = .returned (.tuple #[.slice none 0 0, .int .i64 3])


theorem made_bytes (n : Nat) : madeCells #[Value.int .u8 0] n = (bytesV (List.replicate n 0)).toArray := by
  apply Array.ext
  · simp [size_madeCells, bytesV]
  · intro i h1 h2; simp [madeCells, bytesV, Nat.mod_one, byteV]
theorem splice_whole {α : Type} (L cs : List α) (h : cs.length = L.length) : splice L 0 cs = cs := by simp [splice, h]
theorem BlkIs.bts {w : World} {g B : Nat} {l : List Int} (h : BlkIs w g 5 (bytesV l)) (hl : AllB l) (hB : g < B) : Bts w B (some ⟨g, 0, none⟩) l :=
  ⟨hl, fun _ => ⟨g, 0, rfl, hB, fun j hj => by
    rw [Nat.zero_add, h.cell j, bytesV, List.getElem?_map, List.getElem?_eq_getElem hj, nth_lt hj]; rfl⟩⟩
/-- the cells of bytes that lie there -/
theorem Bts.src {w : World} {B b off : Nat} {l : List Int} (h : Bts w B (some ⟨b, off, none⟩) l) : ∀ j v, (bytesV l)[j]? = some v → w.cell? ⟨b, off + j, none⟩ = some v := by
  intro j v hj
  rw [bytesV, List.getElem?_map] at hj
  obtain ⟨x, hx, rfl⟩ := Option.map_eq_some_iff.1 hj
  have hj' : j < l.length := by
    rcases Nat.lt_or_ge j l.length with h | h
    · exact h
    · rw [List.getElem?_eq_none h] at hx; cases hx
  obtain ⟨b2, off2, e2, _, hc2⟩ := h.at_ hj'
  injection e2 with e2; injection e2 with e3 e4; subst e3; subst e4
  rw [hc2, nth_lt hj']
  rw [List.getElem?_eq_getElem hj'] at hx
  injection hx with hx
  rw [hx]; rfl

theorem all_short (A A2 : Option Addr) (n c m c2 : Nat) (w : World) (h : n ≠ 32) :
    Calls Try.prog 69 #[.slice A n c, .slice A2 m c2] w fun e w' => e = .returned (.tuple #[.slice none 0 0, .int .i64 3]) ∧ w = w' := by
  have h0 : ((n : Int) == 32) = false := by rw [beq_eq_false_iff_ne]; omega
  have h1 : (n == 32) = false := by rw [beq_eq_false_iff_ne]; exact h
  go_enter Try.func69, Try.ntmps69
  go_wp2
  go_ret2
  exact ⟨rfl, rfl⟩

set_option maxRecDepth 100000 in
set_option maxHeartbeats 2000000 in
theorem all_any (A A2 : Option Addr) (c c2 : Nat) (l : List Int) (ps : List Pt) (w : World) (hb : Bts w w.heap.size A l) (hl : l.length = 32) (hP : Pats w w.heap.size A2 ps) (hn : ps.length ≤ 1000) (hok : ∀ k, k < ps.length → (pn ps k).ok) :
    Calls Try.prog 69 #[.slice A 32 c, .slice A2 ps.length c2] w (Ans w (allP l ps)) := by
  obtain ⟨b, off, rfl, hbb, _⟩ := hb.at_ (show 0 < l.length by omega)
  have hmk : ∀ W, (Instr.makeSlice 53 (.int .i64 32) (.int .i64 32)).run Try.prog W = .ok (.slice (some ⟨W.heap.size, 0, none⟩) 32 32) (W.alloc (.cells (madeCells #[Value.int .u8 0] 32) 5)) := fun W => run_make_row' (P := Try.prog) 53 5 (.int .u8 0) 1 Try.underlying53 info5 rfl .i64 .i64 32 (by omega) (by omega) W
  rw [made_bytes] at hmk
  obtain ⟨L0, hL0⟩ : ∃ L0, L0 = bytesV (List.replicate 32 0) := ⟨_, rfl⟩
  rw [← hL0] at hmk
  have hL0l : Hid (L0.length = 32) := by unfold Hid; rw [hL0]; simp [bytesV]
  clear hL0
  obtain ⟨L1, hL1⟩ : ∃ L1, L1 = bytesV l := ⟨_, rfl⟩
  have HL1 := Lib.hid hL1
  have hL1l : Hid (L1.length = 32) := by unfold Hid; rw [hL1, length_bytesV, hl]
  have Hsrc : Hid (∀ j v, L1[j]? = some v → w.cell? ⟨b, off + j, none⟩ = some v) := by
    unfold Hid; rw [hL1]; exact hb.src
  have H1c : Hid (∀ v ∈ L1, v.oneCell' = true) := by unfold Hid; rw [hL1]; exact bytesV_one l
  have HP := Lib.hid hP
  have Hok := Lib.hid hok
  have Hl := Lib.hid hl
  have Hall := Lib.hid hb.1
  clear hL1 hP hok hl hb
  go_enter Try.func69, Try.ntmps69
  go_wp2_with (with_reducible refine wpList_copy_splice rfl (.tmp 13) (.tmp 14) 53 53 rfl 5 Try.underlying53 size5 (some ⟨w.heap.size, 0, none⟩) (some ⟨b, off, none⟩) 32 32 32 c rfl rfl w.heap.size 0 L0 5 ?c1 L1 ?c2 ?c3 ?c4 ?c5 w.heap.size w ?c6 (Nat.le_refl _) ?_)
  case c1 => exact heap_alloc_new _ _
  case c2 => rw [hL1l.out]; rfl
  case c3 => intro _; exact Hsrc.out
  case c4 => have := hL1l.out; have := hL0l.out; omega
  case c5 => exact H1c.out
  case c6 => exact (Below.refl _ _).alloc (Nat.le_refl _) _
  rintro w2 hg2 hb2
  rw [splice_whole _ _ (by rw [hL1l.out, hL0l.out])] at hg2
  have hg3 : BlkIs w2 w.heap.size 5 (bytesV ((ps.take 0).foldl put l)) := by rw [List.take_zero]; show BlkIs w2 _ 5 (bytesV l); rw [← HL1.out]; exact hg2.out
  have G3 := Lib.hid hg3
  clear hg2 hg3 hL1l hL0l Hsrc H1c hmk HL1
  go_wp2
  go_loopw [18] (fun i wr => ∃ k : Nat, k ≤ ps.length ∧ i = .int .i64 k ∧ BlkIs wr w.heap.size 5 (bytesV ((ps.take k).foldl put l)) ∧ Below w.heap.size w wr ∧ (ps.take k).all Pt.right = true) (fun i _ => ps.length - (intOf i).toNat)
  case atStart => exact ⟨0, Nat.zero_le _, rfl, G3.out, hb2, by simp⟩
  case round =>
    obtain ⟨k, hk, rfl, hblk, hB, hall⟩ := hrel
    rename World => wr
    have hAll := Lib.hid hall
    have HB := Lib.hid hblk
    clear hall hblk G3 hb2
    by_cases hlt : k < ps.length
    · have hlti : (k : Int) < (ps.length : Int) := by omega
      have hk0 : (0 : Int) ≤ (k : Int) := by omega
      obtain ⟨b2, o2, rfl, hb2, hcs⟩ := (HP.out.below hB) (by omega)
      obtain ⟨c0, c1, c3⟩ := hcs k hlt
      have hpk := Hok.out k hlt
      have hst := take_step ps k hlt
      obtain ⟨p, hp⟩ : ∃ p, p = pn ps k := ⟨_, rfl⟩
      rw [← hp] at c0 c1 c3 hpk hst
      have Hst := Lib.hid hst
      have Hp := Lib.hid hp
      clear hcs hst hp
      have hT := Lib.hid (fun W hW => @St1.next wr _ W p (St1.start wr p) hW)
      have hBx := Lib.hid (boxed1 wr p)
      have Hal := Lib.hid (fun x => (HB.out).below (below_alloc1 wr x) (HB.out).lt)
      cases hr : p.right with
      | false =>
        have hpk' := Lib.hid (fun W => right_no p W hpk hr)
        have hnone : Hid (allP l ps = none) := by
          unfold Hid allP
          rw [if_neg]
          intro h
          rw [List.all_eq_true] at h
          have := h _ (List.getElem_mem hlt)
          rw [← pn_lt hlt, ← Hp.out, hr] at this
          cases this
        clear hr hpk
        obtain ⟨pb, po, psx⟩ := p
        unfold Pt.v at *
        simp only [Pt.cs] at *
        go_wp2_with fail
        refine (hpk'.out _).mono ?_
        rintro e w3 ⟨rfl, hB3⟩
        go_wp2
        go_ret2
        rw [hnone.out]
        exact ⟨hB.trans ((hT.out _ hB3).1.mono hB.size), rfl⟩
      | true =>
        have hlen : ((ps.take k).foldl put l).length = 32 := length_putAll Hl.out _ hAll.out
        have hpk' := Lib.hid (fun W => right_yes p W hr)
        have hwr := Lib.hid (fun W hg => write_any w.heap.size 32 ((ps.take k).foldl put l) p W hg hlen hr ⟨by omega, by omega⟩)
        have hAll' : Hid ((ps.take (k + 1)).all Pt.right = true) := by
          unfold Hid
          rw [Hst.out, List.all_append, hAll.out]
          simp [hr]
        have HS := Lib.hid hB
        clear hr hpk hlen hB
        have hC : Hid (∀ W, St1 wr p W → W.cell? ⟨wr.heap.size, 0, none⟩ = some (.int .i64 p.b) ∧ W.cell? ⟨wr.heap.size, 1, none⟩ = some (.int .i64 p.o) ∧ W.cell? ⟨wr.heap.size, 2, none⟩ = some (.string p.s)) := fun W h => h.cells
        have hput : Hid ((ps.take (k + 1)).foldl put l = put ((ps.take k).foldl put l) p) := by unfold Hid; rw [Hst.out, List.foldl_append]; rfl
        obtain ⟨m, hm⟩ : ∃ m, m = (ps.take k).foldl put l := ⟨_, rfl⟩
        rw [← hm] at hwr HB hput Hal
        clear hm
        obtain ⟨pb, po, psx⟩ := p
        unfold Pt.v at *
        simp only [Pt.cs] at *
        go_wp2_with fail
        refine (hpk'.out _).mono ?_
        rintro e w3 ⟨rfl, hB3⟩
        have t3 := Lib.hid (hT.out _ hB3)
        obtain ⟨d0, d1, d2⟩ := hC.out _ t3.out
        have g3 := Lib.hid (HB.out.below t3.out.1 HB.out.lt)
        clear hB3
        go_wp2_with fail
        refine (hwr.out _ g3.out).mono ?_
        rintro e w4 ⟨rfl, hb4, hg4⟩
        have hB4 : Below w.heap.size w w4 := (HS.out.trans (t3.out.1.mono HS.out.size)).grown hg4 (by have := HS.out.size; have := t3.out.1.size; omega) (fun j e => by injection e with e; omega)
        have Hb4 := Lib.hid hb4
        clear hb4 hg4
        go_wp2
        go_roundw
        case rel => exact ⟨k + 1, by omega, by go_num, by rw [hput.out]; exact Hb4.out, hB4, hAll'.out⟩
        case measure => simp [intOf]; omega
    · have hlti : ¬ (k : Int) < (ps.length : Int) := by omega
      obtain rfl : k = ps.length := by omega
      rw [List.take_length] at hAll HB
      have hans : Hid (allP l ps = some (ps.foldl put l)) := by unfold Hid allP; rw [if_pos hAll.out]
      go_wp2
      go_ret2
      rw [hans.out]
      exact ⟨hB, _, _, rfl, by omega, by unfold maxLen; omega, HB.out.bts (putAll_all Hall.out _) HB.out.lt, length_putAll Hl.out _ hAll.out, _, rfl, Nat.le_refl _⟩

theorem apply_any (A : Option Addr) (c : Nat) (l : List Int) (p : Pt) (w : World) (hb : Bts w w.heap.size A l) (hl : l.length = 32) (hp : p.ok) :
    Calls Try.prog 54 #[.slice A 32 c, p.v] w (Ans w (allP l [p])) := by
  have hb1 : Bts (w.alloc (.cells p.cs.toArray 44)) w.heap.size A l := hb.below (below_alloc1 w _)
  have hb2 : Bts ((w.alloc (.cells p.cs.toArray 44)).alloc (.cells p.cs.toArray 44)) (w.heap.size + 1 + 1) A l := (hb.below (below_alloc2 w _ _)).more (by omega)
  have hP : Pats ((w.alloc (.cells p.cs.toArray 44)).alloc (.cells p.cs.toArray 44)) (w.heap.size + 1 + 1) (some ⟨w.heap.size + 1, 0, none⟩) [p] := by
    intro _
    refine ⟨_, _, rfl, by omega, fun j hj => ?_⟩
    obtain rfl : j = 0 := by simpa using hj
    exact (boxed2 w p p).2.cells
  have C := all_any A (some ⟨w.heap.size + 1, 0, none⟩) c 1 l [p] ((w.alloc (.cells p.cs.toArray 44)).alloc (.cells p.cs.toArray 44)) (by simpa using hb2) hl (by simpa using hP) (by simp) (fun k hk => by
    have e : k = 0 := by simpa using hk
    subst e
    exact hp)
  have HC := Lib.hid C
  have HB : Hid (Below w.heap.size w ((w.alloc (.cells p.cs.toArray 44)).alloc (.cells p.cs.toArray 44))) := below_alloc2 w _ _
  obtain ⟨r, hr⟩ : ∃ r, r = allP l [p] := ⟨_, rfl⟩
  rw [← hr] at HC ⊢
  clear hb hb1 hb2 hP C hl hp hr
  obtain ⟨b, o, s⟩ := p
  unfold Pt.v at *
  simp only [Pt.cs] at *
  go_enter Try.func54, Try.ntmps54
  go_wp2_with fail
  refine HC.out.mono ?_
  rintro e w1 ⟨hB1, h1⟩
  have hB : Below w.heap.size w w1 := HB.out.trans (hB1.mono (by simp; omega))
  cases r with
  | none =>
    subst h1
    go_wp2
    go_ret2
    exact ⟨hB, rfl⟩
  | some m =>
    obtain ⟨A1, c1, rfl, h1, h2, h3, h4, g1, h5, h6⟩ := h1
    have h7 : w.heap.size ≤ g1 := by have := h6; simp at this; omega
    have H := Lib.hid (show 32 ≤ c1 ∧ c1 ≤ maxLen ∧ Bts w1 w1.heap.size A1 m ∧ m.length = 32 ∧ ∃ g, A1 = some ⟨g, 0, none⟩ ∧ w.heap.size ≤ g from ⟨h1, h2, h3, h4, g1, h5, h7⟩)
    clear h1 h2 h3 h4 h5 h6 h7
    go_wp2
    go_ret2
    exact ⟨hB, A1, c1, rfl, H.out⟩
theorem apply_short (A : Option Addr) (n c : Nat) (p : Pt) (w : World) (h : n ≠ 32) :
    Calls Try.prog 54 #[.slice A n c, p.v] w fun e w' => e = .returned (.tuple #[.slice none 0 0, .int .i64 3]) ∧ Below w.heap.size w w' := by
  have HC := Lib.hid (fun W m c2 A2 => all_short A A2 n c m c2 W h)
  have HB : Hid (Below w.heap.size w ((w.alloc (.cells p.cs.toArray 44)).alloc (.cells p.cs.toArray 44))) := below_alloc2 w _ _
  clear h
  obtain ⟨b, o, s⟩ := p
  unfold Pt.v at *
  simp only [Pt.cs] at *
  go_enter Try.func54, Try.ntmps54
  go_wp2_with fail
  refine (HC.out _ _ _ _).mono ?_
  rintro e w1 ⟨rfl, rfl⟩
  go_wp2
  go_ret2
  exact ⟨rfl, HB.out⟩
end Go.Proofs.Ytkfjkhacchbkeaa.Pat
