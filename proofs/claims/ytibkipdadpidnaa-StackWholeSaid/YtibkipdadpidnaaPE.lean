/- What a patch writes: a block behind it; the law of a copy from a text; the contracts of 'write' and 'cut'. -/
import Derived.Test.YtibkipdadpidnaaPD
import Derived.Laws.IdiomStrings
namespace Go.Proofs.Ytibkipdadpidnaa.Pat
set_option linter.unusedVariables false
set_option linter.unusedSimpArgs false
set_option maxRecDepth 100000
open Go.RowKit

/-- a text's bytes -/
def sb (s : ByteArray) : List Int := s.data.toList.map fun b => (b.toNat : Int)
theorem length_sb (s : ByteArray) : (sb s).length = s.size := by simp [sb]
theorem sb_all (s : ByteArray) : AllB (sb s) := by
  intro x hx
  obtain ⟨b, _, rfl⟩ := List.mem_map.1 hx
  have := b.toNat_lt
  omega
theorem strOf_sb (s : ByteArray) : strOfNums (sb s) = s := by
  unfold strOfNums sb
  rw [List.map_map]
  have : (fun n : Int => UInt8.ofNat n.toNat) ∘ (fun b : UInt8 => (b.toNat : Int)) = id := by funext b; simp
  rw [this]
  simp
theorem sb_strOf (l : List Int) (h : AllB l) : sb (strOfNums l) = l := by
  unfold sb
  rw [strOfNums_data, List.map_map]
  conv => rhs; rw [← List.map_id l]
  apply List.map_congr_left
  intro x hx
  obtain ⟨h0, h1⟩ := h x hx
  simp
  omega
theorem sb_inj {s t : ByteArray} (h : sb s = sb t) : s = t := by rw [← strOf_sb s, ← strOf_sb t, h]

def byteV (x : Int) : Value := .int .u8 x
def bytesV (l : List Int) : List Value := l.map byteV
theorem bytes_of_str (s : ByteArray) : (s.data.map fun b => Value.int .u8 b.toNat).toList = bytesV (sb s) := by simp [bytesV, sb, byteV]
theorem length_bytesV (l : List Int) : (bytesV l).length = l.length := by simp [bytesV]
theorem bytesV_one (l : List Int) : ∀ v ∈ bytesV l, v.oneCell' = true := by intro v hv; obtain ⟨x, _, rfl⟩ := List.mem_map.1 hv; rfl
theorem info5 : (Try.prog.info? 5).map (fun i => (i.zero, i.size, i.bytes)) = some (some (.int .u8 0), 1, 1) := by kernel_rfl
theorem size5 : (Try.prog.info? 5).map (·.size) = some 1 := by kernel_rfl

theorem splice_bytes (l m : List Int) (o : Nat) : splice (bytesV l) o (bytesV m) = bytesV (splice l o m) := by
  simp [splice, bytesV, List.map_take, List.map_drop]
theorem splice_all {l m : List Int} (hl : AllB l) (hm : AllB m) (o : Nat) : AllB (splice l o m) := by
  intro x hx
  simp only [splice, List.mem_append] at hx
  rcases hx with h | h | h
  · exact hl x (List.mem_of_mem_take h)
  · exact hm x h
  · exact hl x (List.mem_of_mem_drop h)
/-- a block behind a patch -/
def put (l : List Int) (p : Pt) : List Int := splice l p.o.toNat (sb p.s)
theorem put_all {l : List Int} (hl : AllB l) (p : Pt) : AllB (put l p) := splice_all hl (sb_all _) _
theorem length_put {l : List Int} {p : Pt} (hp : p.right = true) (hl : l.length = 32) : (put l p).length = 32 := by
  obtain ⟨_, _, h3, h4, h5, h6⟩ := Pt.right_out hp
  unfold put
  rw [length_splice _ _ _ (by rw [length_sb]; omega), hl]

/-- 'copy(row[o:], text)', the text no longer than what is there of the row -/
theorem run_copy_text (w : World) (dT sT ty elem : TypeId) (g o dLen dCap : Nat) (s : ByteArray) (cur : List Value) (t : TypeId)
    (hu : Try.prog.underlying dT = some (.slice elem)) (hs : (Try.prog.info? elem).map (·.size) = some 1)
    (hg : BlkIs w g t cur) (hn : s.size = dLen) (hfit : o + s.size ≤ cur.length) :
    (Builtin.copy_ #[dT, sT] ty #[.slice (some ⟨g, o, none⟩) dLen dCap, .string s]).run Try.prog w =
      .ok (goInt s.size) (w.setRow g (splice cur o (bytesV (sb s))).toArray) := by
  subst hn
  have hst := run_storeCells_at Try.prog g o t (bytesV (sb s)) 0 cur.toArray w hg (by rw [length_bytesV, length_sb]; simpa using hfit) (bytesV_one _)
  cases hq : Try.prog.info? elem with
  | none => simp [hq] at hs
  | some i =>
    have hi : i.size = 1 := by simpa [hq] using hs
    have hb := bytes_of_str s
    have hst' : (storeCells ⟨g, o, none⟩ (s.data.map fun b => Value.int .u8 b.toNat).toList).run Try.prog w = .ok () (w.setRow g (splice cur o (bytesV (sb s))).toArray) := by
      rw [hb]
      simpa [splice] using hst
    simp [Builtin.copy_, run_underlying hu, Builtin.lenOf, Builtin.firstCells, sizeOf, typeInfo, hq]
    simp at hst'
    rw [List.take_of_length_le (by simp), hst']
    rfl

/-- one step of a drawn region: 'copy' of a text -/
theorem step_copy_text {ops : Array Oper} {o : Oper} {a : Act} {w : World} {K : Act → World → Prop} {Q : Exit → Act → World → Prop} {E : Prop} (hgd : o.guard = none) (d s : Operand)
    (ho : o.op = .call { callee := .builtin .copy, args := #[d, s], argTypes := #[22, 9] })
    (g off dLen dCap : Nat) (t : ByteArray) (hd : a.eval d = .slice (some ⟨g, off, none⟩) dLen dCap) (hs : a.eval s = .string t)
    (cur : List Value) (ty : TypeId) (hg : BlkIs w g ty cur) (hn : t.size = dLen) (hfit : off + t.size ≤ cur.length)
    (h : K (a.put o.dst (goInt t.size)) (w.setRow g (splice cur off (bytesV (sb t))).toArray)) :
    if Region.wanted o (yielded ops a.tmps) = true then Oper.wp Try.prog o a w K Q else E := by
  have hw : Region.wanted o (yielded ops a.tmps) = true := by simp [Region.wanted, hgd]
  rw [if_pos hw]
  have hrun := run_copy_text w 22 9 o.type 5 g off dLen dCap t cur ty Try.underlying22 size5 hg hn hfit
  unfold Oper.wp
  simp [execOp, ho, resolve, invoke, builtin, hd, hs, hrun, Result.andThen]
  exact h

/-- one patch laid at the call's head, and nothing older turned -/
def St1 (w : World) (p : Pt) (W : World) : Prop := Below w.heap.size w W ∧ Boxed W w.heap.size p
theorem St1.cells {w W : World} {p : Pt} (h : St1 w p W) : W.cell? ⟨w.heap.size, 0, none⟩ = some (.int .i64 p.b) ∧ W.cell? ⟨w.heap.size, 1, none⟩ = some (.int .i64 p.o) ∧ W.cell? ⟨w.heap.size, 2, none⟩ = some (.string p.s) := h.2.cells
theorem St1.next {w W W' : World} {p : Pt} (h : St1 w p W) (hB : Below W.heap.size W W') : St1 w p W' := ⟨h.1.trans (hB.mono h.1.size), h.2.below hB (BlkIs.lt h.2)⟩
theorem St1.drew {w W : World} {p : Pt} (h : St1 w p W) : St1 w p W.drew := ⟨h.1.drew, h.2⟩
theorem St1.start (w : World) (p : Pt) : St1 w p (w.alloc (.cells p.cs.toArray 38)) := ⟨below_alloc1 w _, boxed1 w p⟩
theorem BlkIs.other {W : World} {g k : Nat} {t : TypeId} {l : List Value} (h : BlkIs W k t l) (hk : k ≠ g) (cs : Array Value) : BlkIs (W.setRow g cs) k t l := by
  unfold BlkIs at *
  rw [setRow_other W g k cs hk]; exact h

set_option maxRecDepth 100000 in
set_option linter.unusedSimpArgs false in
set_option maxHeartbeats 1000000 in
theorem write_any (g c : Nat) (l : List Int) (p : Pt) (w : World) (hg : BlkIs w g 5 (bytesV l)) (hl : l.length = 32) (hp : p.right = true) (hc : 32 ≤ c ∧ c ≤ 1000) :
    Calls Try.prog 76 #[.slice (some ⟨g, 0, none⟩) 32 c, p.v] w fun e w' => e = .returned (.tuple #[]) ∧ BlkIs w' g 5 (bytesV (put l p)) ∧ w.grownBy w' (some g) := by
  obtain ⟨p1, p2, p3, p4, p5, p6⟩ := Pt.right_out hp
  have hps : p.s.size ≤ 1000 := by omega
  have E := Lib.hid (fun W => end_any p W p3 p4 hps)
  have HS := Lib.hid (St1.start w p).drew
  have HC := Lib.hid (fun W => @St1.cells w W p)
  have HN := Lib.hid (fun W W' => @St1.next w W W' p)
  have hgl : g < w.heap.size := hg.lt
  have HG : Hid (∀ W, St1 w p W → BlkIs W g 5 (bytesV l)) := fun W h => hg.below h.1 hgl
  have HF : Hid (p.o.toNat + p.s.size ≤ (bytesV l).length) := by unfold Hid; rw [length_bytesV, hl]; omega
  have HP : Hid (put l p = splice l p.o.toNat (sb p.s)) := rfl
  have HL : Hid (∀ W, St1 w p W → (W.setRow g (splice (bytesV l) p.o.toNat (bytesV (sb p.s))).toArray).cell? ⟨w.heap.size, 0, none⟩ = some (.int .i64 p.b) ∧ (W.setRow g (splice (bytesV l) p.o.toNat (bytesV (sb p.s))).toArray).cell? ⟨w.heap.size, 1, none⟩ = some (.int .i64 p.o) ∧ (W.setRow g (splice (bytesV l) p.o.toNat (bytesV (sb p.s))).toArray).cell? ⟨w.heap.size, 2, none⟩ = some (.string p.s)) := by
    intro W h
    have hk : Boxed (W.setRow g (splice (bytesV l) p.o.toNat (bytesV (sb p.s))).toArray) w.heap.size p := BlkIs.other h.2 (by omega) _
    exact hk.cells
  clear hg hp hl
  obtain ⟨b, o, s⟩ := p
  obtain ⟨n, rfl⟩ := Int.eq_ofNat_of_zero_le p3
  simp only [Int.toNat_natCast] at *
  unfold Pt.v at *
  simp only [Pt.cs] at *
  have X := Lib.hid (HC.out _ HS.out)
  have hn0 : (0 : Int) ≤ (n : Int) := by omega
  have hns : (n : Int) + (s.size : Int) ≤ (c : Int) := by omega
  have hnn : (n : Int) ≤ (n : Int) + (s.size : Int) := by omega
  have hx : ((n : Int) + (s.size : Int)).toNat = n + s.size := by omega
  have h0 : ¬ s.size = 0 := by omega
  go_enter Try.func76, Try.ntmps76
  go_wp2_with fail
  refine wp_region_held_drew (S := (fun W => W.cell? ⟨w.heap.size, 0, none⟩ = some (.int .i64 b) ∧ W.cell? ⟨w.heap.size, 1, none⟩ = some (.int .i64 (n : Int)) ∧ W.cell? ⟨w.heap.size, 2, none⟩ = some (.string s))) (by kernel_rfl) (X.out) (fun hHeld => ?_)
  refine takeH (i := 0) (some 4) (v := ?_) rfl rfl (by kernel_rfl) (by kernel_rfl) (by kernel_rfl) (fun _ _ _ h => h) (by rfl) ?_ (by assumption) ?_
  rotate_left
  · (intro w hSw; (try dsimp only at hSw); go_simp; try with_reducible rfl)
  simp only [Act.put, List.setIfInBounds_toArray, List.set_cons_zero, List.set_cons_succ]
  refine takeH (i := 1) (some 5) (v := ?_) rfl rfl (by kernel_rfl) (by kernel_rfl) (by kernel_rfl) (fun _ _ _ h => h) (by rfl) ?_ (by assumption) ?_
  rotate_left
  · (intro w hSw; (try dsimp only at hSw); go_simp; try with_reducible rfl)
  simp only [Act.put, List.setIfInBounds_toArray, List.set_cons_zero, List.set_cons_succ]
  refine takeH (i := 2) (some 6) (v := ?_) rfl rfl (by kernel_rfl) (by kernel_rfl) (by kernel_rfl) (fun _ _ _ h => h) (by rfl) ?_ (by assumption) ?_
  rotate_left
  · (intro w hSw; (try dsimp only at hSw); go_simp; try with_reducible rfl)
  simp only [Act.put, List.setIfInBounds_toArray, List.set_cons_zero, List.set_cons_succ]
  refine takeH (i := 3) (some 7) (v := ?_) rfl rfl (by kernel_rfl) (by kernel_rfl) (by kernel_rfl) (fun _ _ _ h => h) (by rfl) ?_ (by assumption) ?_
  rotate_left
  · (intro w hSw; (try dsimp only at hSw); go_simp; try with_reducible rfl)
  simp only [Act.put, List.setIfInBounds_toArray, List.set_cons_zero, List.set_cons_succ]
  refine takeH (i := 5) (some 9) (v := ?_) rfl rfl (by kernel_rfl) (by kernel_rfl) (by kernel_rfl) (fun _ _ _ h => h) (by rfl) ?_ (by assumption) ?_
  rotate_left
  · (intro w hSw; (try dsimp only at hSw); go_simp; try with_reducible rfl)
  simp only [Act.put, List.setIfInBounds_toArray, List.set_cons_zero, List.set_cons_succ]
  refine takeH (i := 8) (some 12) (v := ?_) rfl rfl (by kernel_rfl) (by kernel_rfl) (by kernel_rfl) (fun _ _ _ h => h) (by rfl) ?_ (by assumption) ?_
  rotate_left
  · (intro w hSw; (try dsimp only at hSw); go_simp; try with_reducible rfl)
  simp only [Act.put, List.setIfInBounds_toArray, List.set_cons_zero, List.set_cons_succ]
  refine takeH (i := 9) (some 13) (v := ?_) rfl rfl (by kernel_rfl) (by kernel_rfl) (by kernel_rfl) (fun _ _ _ h => h) (by rfl) ?_ (by assumption) ?_
  rotate_left
  · (intro w hSw; (try dsimp only at hSw); go_simp; try with_reducible rfl)
  simp only [Act.put, List.setIfInBounds_toArray, List.set_cons_zero, List.set_cons_succ]
  refine wpAnyH_ready (rs := [4]) (by kernel_rfl) (by simp) ?_
  refine AllReadyH.cons rfl (fun K hK => ?_) AllReadyH.nil
  go_simp
  ((with_reducible refine (E.out _).mono ?_); rintro e w3 ⟨rfl, hB3⟩; replace HS := Lib.hid (HN.out _ _ HS.out hB3); replace X := Lib.hid (HC.out _ HS.out))
  refine hK _ _ (X.out) (fun hHeld => ?_)
  clear hK K
  try simp only [Act.put, List.setIfInBounds_toArray, List.set_cons_zero, List.set_cons_succ]
  refine wpAnyH_ready (rs := [6]) (by kernel_rfl) (by simp) ?_
  refine AllReadyH.cons rfl (fun K hK => ?_) AllReadyH.nil
  go_simp
  ((with_reducible refine (E.out _).mono ?_); rintro e w3 ⟨rfl, hB3⟩; replace HS := Lib.hid (HN.out _ _ HS.out hB3); replace X := Lib.hid (HC.out _ HS.out))
  refine hK _ _ (X.out) (fun hHeld => ?_)
  clear hK K
  try simp only [Act.put, List.setIfInBounds_toArray, List.set_cons_zero, List.set_cons_succ]
  refine takeH (i := 7) (some 11) (v := ?_) rfl rfl (by kernel_rfl) (by kernel_rfl) (by kernel_rfl) (fun _ _ _ h => h) (by rfl) ?_ (by assumption) ?_
  rotate_left
  · (intro w hSw; (try dsimp only at hSw); go_simp; try with_reducible rfl)
  simp only [Act.put, List.setIfInBounds_toArray, List.set_cons_zero, List.set_cons_succ]
  refine wpAnyH_ready (rs := [10]) (by kernel_rfl) (by simp) ?_
  refine AllReadyH.cons rfl (fun K hK => ?_) AllReadyH.nil
  refine step_copy_text rfl (.tmp 11) (.tmp 13) rfl g n s.size s.size s rfl rfl (bytesV l) 5 (HG.out _ HS.out) rfl HF.out ?_
  refine hK _ _ (HL.out _ HS.out) (fun hHeld => ?_)
  clear hK K
  try simp only [Act.put, List.setIfInBounds_toArray, List.set_cons_zero, List.set_cons_succ]
  refine wpAnyH_done (by kernel_rfl) ?_ _
  go_wp2
  go_end0
  rw [HP.out]
  refine ⟨rfl, ?_, ?_⟩
  · have := setRow_heap _ g _ (splice (bytesV l) n (bytesV (sb s))).toArray 5 (0, 0) (HG.out _ HS.out)
    rw [← splice_bytes]
    exact this
  · have h1 := HS.out.1
    exact ⟨h1.os, h1.tape, h1.output, by simpa [World.setRow] using h1.size, fun k hk hne => by
      rw [setRow_other _ g k _ (by intro e; subst e; exact hne rfl)]
      exact h1.block k hk⟩
end Go.Proofs.Ytibkipdadpidnaa.Pat
