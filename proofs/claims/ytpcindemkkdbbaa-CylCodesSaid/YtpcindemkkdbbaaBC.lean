/- What Take answers, plainly; contract of Take where there is something to look for. -/
import Derived.Test.YtpcindemkkdbbaaBB
import Derived.Test.YtpcindemkkdbbaaBD
import Derived.Test.YtpcindemkkdbbaaAA
import Derived.RangeFuncCalls
namespace Go.Proofs.Ytpcindemkkdbbaa
set_option linter.unusedVariables false
set_option linter.unusedSimpArgs false
open Go.RowKit Go.Shelf

attribute [local go_sem] Oper.semAt_some
def freeIn (x : Cy) (f : Nat) : Option (Fin x.bl.toNat) := (wayN x.bl.toNat f x.bl.toNat).find? fun b => !x.us.contains (b.1 : Int)
def frm (l : List Cy) (ng nb g : Nat) : Nat := if g = ng then nb else (cyN l g).ro.toNat
def takeAt (l : List Cy) (ng nb : Nat) : Option (Nat × Nat) := (wayN l.length ng l.length).findSome? fun g => (freeIn (cyN l g.1) (frm l ng nb g.1)).map fun b => (g.1, b.1)
def takeG (l : List Cy) (ng nb : Nat) : An := match takeAt l ng nb with
  | some (g, b) => ⟨l.set g (useC (cyN l g) b), g, b, 0⟩
  | none => ⟨[], 0, 0, 4⟩
def takeL (l : List Cy) (ng nb : Int) : An := if wholeL l then (if isBlk l ng nb then takeG l ng.toNat nb.toNat else ⟨[], 0, 0, 2⟩) else ⟨[], 0, 0, 3⟩
theorem find_pre {α : Type} {L p : List α} {x : α} {P : α → Bool} (h : p ++ [x] <+: L) (hp : ∀ y ∈ p, P y = false) (hx : P x = true) : L.find? P = some x := by
  obtain ⟨t, rfl⟩ := h
  rw [List.append_assoc, List.find?_append, List.find?_eq_none.2 (fun y hy => by simp [hp y hy])]
  simp [hx]
theorem findSome_pre {α β : Type} {L p : List α} {x : α} {f : α → Option β} {v : β} (h : p ++ [x] <+: L) (hp : ∀ y ∈ p, f y = none) (hx : f x = some v) : L.findSome? f = some v := by
  obtain ⟨t, rfl⟩ := h
  rw [List.append_assoc, List.findSome?_append, List.findSome?_eq_none_iff.2 hp]
  simp [hx]
/-- the five boxes of Take's call -/
structure Box5 (w : World) (A : Option Addr) (n c : Nat) (g b : Int) (W : World) : Prop where
  b0 : Blk W w.heap.size 39 #[.slice A n c]
  b1 : Blk W (w.heap.size + 1) 41 #[.int .i64 g, .int .i64 b]
  b2 : Blk W (w.heap.size + 1 + 1) 39 #[.slice none 0 0]
  b3 : Blk W (w.heap.size + 1 + 1 + 1) 41 #[.int .i64 0, .int .i64 0]
  b4 : Blk W (w.heap.size + 1 + 1 + 1 + 1) 28 #[.int .i64 0]
theorem Box5.same {w : World} {A : Option Addr} {n c : Nat} {g b : Int} {W W' : World} (h : Box5 w A n c g b W) (hs : Same W W') : Box5 w A n c g b W' := ⟨h.b0.same hs, h.b1.same hs, h.b2.same hs, h.b3.same hs, h.b4.same hs⟩
/-- the answer lies in the boxes -/
def DoneT (w : World) (r : An) (W : World) : Prop := ∃ A c, Blk W (w.heap.size + 1 + 1) 39 #[.slice A r.l.length c] ∧ Blk W (w.heap.size + 1 + 1 + 1) 41 #[.int .i64 r.g, .int .i64 r.b] ∧ Blk W (w.heap.size + 1 + 1 + 1 + 1) 28 #[.int .i64 r.e] ∧ GrpO W w.heap.size A c r.l
theorem RowI.same {W W' : World} {B c : Nat} {A : Option Addr} {l : List Int} (h : RowI W B A c l) (hs : Same W W') : RowI W' B A c l := by
  refine ⟨h.1, ?_⟩
  rcases h.2 with q | ⟨g, cap, cur, e, hb, hg, rest⟩
  · exact .inl q
  · exact .inr ⟨g, cap, cur, e, hb, hs _ _ _ _ hg, rest⟩
theorem GrpO.same {W W' : World} {B c : Nat} {A : Option Addr} {l : List Cy} (h : GrpO W B A c l) (hs : Same W W') : GrpO W' B A c l := by
  rcases h with q | ⟨g, R, C, e, ec, h⟩
  · exact .inl q
  · exact .inr ⟨g, R, C, e, ec, hs _ _ _ _ h.blk, h.low, ⟨fun t ht => (h.rows.row t ht).same hs, h.rows.apart⟩⟩
theorem DoneT.same {w : World} {r : An} {W W' : World} (h : DoneT w r W) (hs : Same W W') : DoneT w r W' := by
  obtain ⟨A, c, h1, h2, h3, h4⟩ := h
  exact ⟨A, c, h1.same hs, h2.same hs, h3.same hs, h4.same hs⟩
theorem Box5.keep {w : World} {A : Option Addr} {n c : Nat} {g b : Int} {W W' : World} (h : Box5 w A n c g b W) (hB : Below W.heap.size W W') : Box5 w A n c g b W' :=
  ⟨h.b0.keep (S := fun _ => False) (Kept.fresh hB) (fun q => q), h.b1.keep (S := fun _ => False) (Kept.fresh hB) (fun q => q), h.b2.keep (S := fun _ => False) (Kept.fresh hB) (fun q => q), h.b3.keep (S := fun _ => False) (Kept.fresh hB) (fun q => q), h.b4.keep (S := fun _ => False) (Kept.fresh hB) (fun q => q)⟩
/-- a round has found a block, and left -/
def OutT (w : World) (l : List Cy) (ng nb : Nat) {m : Nat} (cd : Code) (pre : List (Fin m)) (W : World) : Prop :=
  cd = .ret ∧ ∃ (p : List (Fin m)) (g : Fin m) (b : Fin (cyN l g.1).bl.toNat), pre = p ++ [g] ∧ (∀ y ∈ p, freeIn (cyN l y.1) (frm l ng nb y.1) = none) ∧ freeIn (cyN l g.1) (frm l ng nb g.1) = some b ∧ DoneT w ⟨l.set g.1 (useC (cyN l g.1) b.1), g.1, b.1, 0⟩ W
theorem OutT.same {w : World} {l : List Cy} {ng nb m : Nat} {cd : Code} {pre : List (Fin m)} {W W' : World} (h : OutT w l ng nb cd pre W) (hs : Same W W') : OutT w l ng nb cd pre W' := by
  obtain ⟨h0, p, g, b, h1, h2, h3, h4⟩ := h
  exact ⟨h0, p, g, b, h1, h2, h3, h4.same hs⟩
theorem freeIn_none {x : Cy} {f bn : Nat} (e : bn = x.bl.toNat) (h : ∀ y ∈ wayN bn f bn, x.us.contains ((y.1 : Nat) : Int) = true) : freeIn x f = none := by
  subst e
  unfold freeIn
  rw [List.find?_eq_none]
  intro y hy
  simp only [h y hy]; decide
theorem freeIn_some {x : Cy} {f bn : Nat} (e : bn = x.bl.toNat) {p : List (Fin bn)} {b : Fin bn} (h : p ++ [b] <+: wayN bn f bn) (hp : ∀ y ∈ p, x.us.contains ((y.1 : Nat) : Int) = true) (hb : x.us.contains ((b.1 : Nat) : Int) = false) : ∃ b' : Fin x.bl.toNat, b'.1 = b.1 ∧ freeIn x f = some b' := by
  subst e
  exact ⟨b, rfl, find_pre h (fun y hy => by simp only [hp y hy]; rfl) (by simp only [hb]; rfl)⟩
theorem takeG_none {l : List Cy} {ng nb m : Nat} (e : m = l.length) (h : ∀ g ∈ wayN m ng m, freeIn (cyN l g.1) (frm l ng nb g.1) = none) : takeG l ng nb = ⟨[], 0, 0, 4⟩ := by
  subst e
  have : takeAt l ng nb = none := by
    unfold takeAt
    rw [List.findSome?_eq_none_iff]
    intro g hg
    rw [h g hg]; rfl
  unfold takeG; rw [this]
theorem takeG_some {l : List Cy} {ng nb m : Nat} (e : m = l.length) {p : List (Fin m)} {g : Fin m} {b : Fin (cyN l g.1).bl.toNat} (h : p ++ [g] <+: wayN m ng m) (hp : ∀ y ∈ p, freeIn (cyN l y.1) (frm l ng nb y.1) = none) (hb : freeIn (cyN l g.1) (frm l ng nb g.1) = some b) : takeG l ng nb = ⟨l.set g.1 (useC (cyN l g.1) b.1), g.1, b.1, 0⟩ := by
  subst e
  have : takeAt l ng nb = some (g.1, b.1) := findSome_pre h (fun y hy => by rw [hp y hy]; rfl) (by rw [hb]; rfl)
  unfold takeG; rw [this]
/-- a round within a round has found a block, and left -/
def OutI (w : World) (x : Cy) (r : Nat → An) {bn : Nat} (cd : Code) (pre : List (Fin bn)) (W : World) : Prop :=
  cd = .ret ∧ ∃ (p : List (Fin bn)) (b : Fin bn), pre = p ++ [b] ∧ (∀ y ∈ p, x.us.contains ((y.1 : Nat) : Int) = true) ∧ x.us.contains ((b.1 : Nat) : Int) = false ∧ DoneT w (r b.1) W
theorem OutI.same {w : World} {x : Cy} {r : Nat → An} {bn : Nat} {cd : Code} {pre : List (Fin bn)} {W W' : World} (h : OutI w x r cd pre W) (hs : Same W W') : OutI w x r cd pre W' := by
  obtain ⟨h0, p, b, h1, h2, h3, h4⟩ := h
  exact ⟨h0, p, b, h1, h2, h3, h4.same hs⟩
theorem keeps_below {W W' : World} (h : Below W.heap.size W W') : KeepsOthers W W' := ⟨h.size, fun k o hk _ => (h.block k (Array.getElem?_eq_some_iff.1 hk).1).trans hk⟩
theorem GrpO.keep {W W' : World} {B c : Nat} {A : Option Addr} {l : List Cy} {S : Nat → Prop} (h : GrpO W B A c l) (hk : Kept W W' S) (hS : ∀ b, S b → b < B) : GrpO W' B A c l := by
  rcases h with q | ⟨g, R, C, e, ec, h⟩
  · exact .inl q
  · exact .inr ⟨g, R, C, e, ec, h.keep hk hS⟩
theorem GrpO.more {W : World} {B B' c : Nat} {A : Option Addr} {l : List Cy} (h : GrpO W B A c l) (hB : B' ≤ B) : GrpO W B' A c l := by
  rcases h with q | ⟨g, R, C, e, ec, h⟩
  · exact .inl q
  · exact .inr ⟨g, R, C, e, ec, h.more hB⟩

set_option maxRecDepth 100000 in
set_option maxHeartbeats 4000000 in
theorem take_in (n : Nat) (hn : 8 ≤ n) (A : Option Addr) (c m : Nat) (l : List Cy) (ng nb : Nat) (hm : m = l.length) (w : World) (hs : SmallL l) (hI : Cyls w w.heap.size A l) (hW : Whole l) (hg : ng < l.length) (hb : (nb : Int) < (cyN l ng).bl) :
    CallsIn Fence.wide n Try.prog 26 #[.slice A m c, .agg #[.int .i64 ng, .int .i64 nb]] w (AnSays w (takeG l ng nb)) := by
  have h1 : 1 ≤ n := by omega
  have hm16 : l.length ≤ 16 := hW.n2
  have hm1 : 0 < l.length := hW.n1
  have HWh : Hid (∀ W, Below w.heap.size w W → Calls Try.prog 31 #[.slice A m c] W fun e w' => e = .returned (.bool true) ∧ Below W.heap.size W w') := fun W hB => by
    have := whole_any A c m l hm W hs (hI.next hB)
    rw [(wholeL_iff l).2 hW] at this; exact this
  have HBl : Hid (∀ W, Below w.heap.size w W → Calls Try.prog 53 #[.slice A m c, .agg #[.int .i64 ng, .int .i64 nb]] W fun e w' => e = .returned (.bool true) ∧ Below W.heap.size W w') := fun W hB => by
    have := isBlock_any A c m l ng nb hm W (by omega) (hI.next hB)
    have e : isBlk l ng nb = true := by
      unfold isBlk; rw [amongB_iff.2 ⟨by omega, by omega⟩]; simp only [Int.toNat_natCast, Bool.true_and]; exact amongB_iff.2 ⟨by omega, hb⟩
    rw [e] at this; exact this
  have HU : Hid (∀ W (g b : Nat), Below w.heap.size w W → g < l.length → (b : Int) < (cyN l g).bl → Calls Try.prog 56 #[.slice A m c, .int .i64 g, .int .i64 b] W (AnSays W ⟨l.set g (useC (cyN l g) b), g, b, 0⟩)) := fun W g b hB hg' hb' => use_any A c m l g b hm W hs (hI.next hB) hg' (hW.ok g hg') hb'
  refine callsIn_of_wp_marks Try.func26 rfl trivial ?_ rfl
  simp only [Try.ntmps26, List.size_toArray, List.length_cons, List.length_nil, Nat.reduceAdd, Nat.reduceSub, Array.replicate_succ, Array.replicate_zero, List.push_toArray, List.append_toArray, List.nil_append, List.cons_append]
  have Hm := Lib.hid hm
  have HI := Lib.hid hI
  have Hs := Lib.hid hs
  have HWo := Lib.hid hW
  have Hb := Lib.hid hb
  clear hI hs hW hb hm
  gi_wp2
  have hB0 : Below w.heap.size w (((((w.alloc (.cells #[.slice A m c] 39)).alloc (.cells #[.int .i64 ng, .int .i64 nb] 41)).alloc (.cells #[.slice none 0 0] 39)).alloc (.cells #[.int .i64 0, .int .i64 0] 41)).alloc (.cells #[.int .i64 0] 28)) :=
    (((((Below.refl _ w).alloc (Nat.le_refl _) _).alloc (by simp) _).alloc (by simp; omega) _).alloc (by simp; omega) _).alloc (by simp; omega) _
  have hX0 : Box5 w A m c ng nb (((((w.alloc (.cells #[.slice A m c] 39)).alloc (.cells #[.int .i64 ng, .int .i64 nb] 41)).alloc (.cells #[.slice none 0 0] 39)).alloc (.cells #[.int .i64 0, .int .i64 0] 41)).alloc (.cells #[.int .i64 0] 28)) := by
    have al : ∀ (W : World) (o : Obj) (b : Nat) (t : TypeId) (cs : Array Value), Blk W b t cs → Blk (W.alloc o) b t cs := fun W o b t cs h => (Below.heap_alloc W o b (Array.getElem?_eq_some_iff.1 h).1).trans h
    have nw : ∀ (W : World) (t : TypeId) (cs : Array Value) (k : Nat), W.heap.size = k → Blk (W.alloc (.cells cs t)) k t cs := fun W t cs k e => by rw [← e]; exact Go.heap_alloc_new W _
    exact ⟨al _ _ _ _ _ (al _ _ _ _ _ (al _ _ _ _ _ (al _ _ _ _ _ (nw _ _ _ _ rfl)))), al _ _ _ _ _ (al _ _ _ _ _ (al _ _ _ _ _ (nw _ _ _ _ (by simp)))), al _ _ _ _ _ (al _ _ _ _ _ (nw _ _ _ _ (by simp))), al _ _ _ _ _ (nw _ _ _ _ (by simp)), nw _ _ _ _ (by simp)⟩
  have hs0 : (((((w.alloc (.cells #[.slice A m c] 39)).alloc (.cells #[.int .i64 ng, .int .i64 nb] 41)).alloc (.cells #[.slice none 0 0] 39)).alloc (.cells #[.int .i64 0, .int .i64 0] 41)).alloc (.cells #[.int .i64 0] 28)).heap.size = w.heap.size + 5 := by simp
  generalize (((((w.alloc (.cells #[.slice A m c] 39)).alloc (.cells #[.int .i64 ng, .int .i64 nb] 41)).alloc (.cells #[.slice none 0 0] 39)).alloc (.cells #[.int .i64 0, .int .i64 0] 41)).alloc (.cells #[.int .i64 0] 28)) = Wa at hB0 hX0 hs0 ⊢
  refine ⟨trivial, (callsIn_wide.2 (HWh.out _ hB0)).mono ?_⟩
  rintro e Wb ⟨rfl, hBb⟩
  have hXb : Box5 w A m c ng nb Wb := ⟨hX0.b0.keep (S := fun _ => False) (Kept.fresh hBb) (fun q => q), hX0.b1.keep (S := fun _ => False) (Kept.fresh hBb) (fun q => q), hX0.b2.keep (S := fun _ => False) (Kept.fresh hBb) (fun q => q), hX0.b3.keep (S := fun _ => False) (Kept.fresh hBb) (fun q => q), hX0.b4.keep (S := fun _ => False) (Kept.fresh hBb) (fun q => q)⟩
  have hBb0 : Below w.heap.size w Wb := hB0.trans (hBb.mono (by omega))
  have hsb : w.heap.size + 5 ≤ Wb.heap.size := by have := hBb.size; omega
  have c0 := cellAt_of hXb.b0 0
  have c10 := cellAt_of hXb.b1 0
  have c11 := cellAt_of hXb.b1 1
  simp only [List.getElem?_toArray, List.getElem?_cons_zero, List.getElem?_cons_succ] at c0 c10 c11
  clear hBb hB0 hs0 hX0
  gi_wp2
  refine ⟨trivial, (callsIn_wide.2 (HBl.out _ hBb0)).mono ?_⟩
  rintro e Wc ⟨rfl, hBc⟩
  have hXc : Box5 w A m c ng nb Wc := ⟨hXb.b0.keep (S := fun _ => False) (Kept.fresh hBc) (fun q => q), hXb.b1.keep (S := fun _ => False) (Kept.fresh hBc) (fun q => q), hXb.b2.keep (S := fun _ => False) (Kept.fresh hBc) (fun q => q), hXb.b3.keep (S := fun _ => False) (Kept.fresh hBc) (fun q => q), hXb.b4.keep (S := fun _ => False) (Kept.fresh hBc) (fun q => q)⟩
  have hBc0 : Below w.heap.size w Wc := hBb0.trans (hBc.mono (by omega))
  have hsc : w.heap.size + 5 ≤ Wc.heap.size := by have := hBc.size; omega
  clear c0 c10 c11
  have c0 := cellAt_of hXc.b0 0
  have c10 := cellAt_of hXc.b1 0
  have c11 := cellAt_of hXc.b1 1
  simp only [List.getElem?_toArray, List.getElem?_cons_zero, List.getElem?_cons_succ] at c0 c10 c11
  clear hBc hXb hBb0 hsb
  gi_wp2_with (refine ⟨trivial, ?_⟩; gi_at_call 54; refine (round_in Fence.wide (n - 1) trivial rfl _ _ _).mono ?_; rintro e w' ⟨rfl, rfl⟩)
  have hX0 : Box5 w A m c ng nb ((Wc.alloc (.cells #[.int .i64 ng] 3)).alloc (.cells #[.int .i64 m] 3)) := by
    have hB : Below Wc.heap.size Wc ((Wc.alloc (.cells #[.int .i64 ng] 3)).alloc (.cells #[.int .i64 m] 3)) := ((Below.refl _ Wc).alloc (Nat.le_refl _) _).alloc (by simp) _
    exact hXc.keep hB
  have hB0 : Below w.heap.size w ((Wc.alloc (.cells #[.int .i64 ng] 3)).alloc (.cells #[.int .i64 m] 3)) := (hBc0.alloc (by omega) _).alloc (by simp; omega) _
  have bF : Boxed ((Wc.alloc (.cells #[.int .i64 ng] 3)).alloc (.cells #[.int .i64 m] 3)) Wc.heap.size 3 (.int .i64 ng) := (Boxed.new Wc 3 _).alloc _
  have bM := Boxed.new (Wc.alloc (.cells #[.int .i64 ng] 3)) 3 (.int .i64 m)
  simp only [World.size_alloc] at bM
  have hsz : ((Wc.alloc (.cells #[.int .i64 ng] 3)).alloc (.cells #[.int .i64 m] 3)).heap.size = Wc.heap.size + 2 := by simp
  obtain ⟨W0, hW0⟩ : ∃ W0, (Wc.alloc (.cells #[.int .i64 ng] 3)).alloc (.cells #[.int .i64 m] 3) = W0 := ⟨_, rfl⟩
  rw [hW0] at hX0 hB0 bF bM hsz ⊢
  clear hW0 c0 c10 c11 hXc hBc0
  have hml : m = l.length := Hm.out
  have hseq := round_stops Fence.wide (n - 1) trivial rfl (by omega) (Wc.heap.size + 1) Wc.heap.size (Wc.heap.size + 2) m ng (by omega) (by omega) (by omega) W0 (by omega) (by omega) (by omega) bM.cell bF.cell
  have Hml := Lib.hid hml
  clear hml
  refine wpIn_rangeFunc_ownH rfl h1 (gf := 70) (lb := #[.pointer (some ⟨Wc.heap.size + 1, 0, none⟩), .pointer (some ⟨Wc.heap.size, 0, none⟩)]) rfl trivial (enters_of Try.func70 (by kernel_rfl) rfl)
    hseq belowK_t (belowK_b (by omega)) (Below.refl _ _) (fun _ => rfl)
    (fun pre W => (((∀ g ∈ pre, freeIn (cyN l g.1) (frm l ng nb g.1) = none) ∧ Box5 w A m c ng nb W) ∧ Boxed W (Wc.heap.size + 1) 3 (.int .i64 m)) ∧ Below w.heap.size w W)
    (fun cd pre W => OutT w l ng nb cd pre W ∧ Below w.heap.size w W)
    (OwnFrom.and (OwnFrom.and (OwnFrom.and (ownFrom_pure _ _) (Own.from (own_same fun _ _ _ hs _ h => Box5.same h hs) _)) (Own.from (boxed_own _ _ _) _)) (ownFrom_below (Nat.le_refl _) (by omega)))
    (fun cd => OwnFrom.and (Own.from (own_same (I := fun pre W => OutT w l ng nb cd pre W) fun _ _ _ hs _ h => OutT.same h hs) _) (ownFrom_below (Nat.le_refl _) (by omega)))
    ⟨⟨⟨by simp, hX0⟩, bM⟩, hB0⟩
    (fun x a' W => ∃ Bx, W0.heap.size ≤ Bx ∧ Boxed W Bx 3 (.int .i64 (x.1 : Nat)) ∧ a' = { tmps := (.slice A m c :: .agg #[.int .i64 ng, .int .i64 nb] :: .pointer (some ⟨w.heap.size, 0, none⟩) :: .pointer (some ⟨w.heap.size + 1, 0, none⟩) :: .pointer (some ⟨w.heap.size + 1 + 1, 0, none⟩) :: .pointer (some ⟨w.heap.size + 1 + 1 + 1, 0, none⟩) :: .pointer (some ⟨w.heap.size + 1 + 1 + 1 + 1, 0, none⟩) :: .pointer (some ⟨Bx, 0, none⟩) :: undef :: undef :: undef :: .slice A m c :: .bool true :: .bool false :: undef :: .slice A m c :: .agg #[.int .i64 ng, .int .i64 nb] :: .bool true :: .bool false :: undef :: .pointer (some ⟨w.heap.size + 1, 0, none⟩) :: .int .i64 ng :: .slice A m c :: .int .i64 m :: .func (.func 70) #[] #[.pointer (some ⟨Wc.heap.size + 1, 0, none⟩), .pointer (some ⟨Wc.heap.size, 0, none⟩)] :: .int .i64 (x.1 : Nat) :: undef :: undef :: undef :: undef :: undef :: undef :: undef :: undef :: undef :: undef :: undef :: undef :: undef :: undef :: undef :: undef :: undef :: undef :: undef :: undef :: undef :: undef :: undef :: undef :: undef :: undef :: undef :: undef :: undef :: undef :: []).toArray, defers := [] })
    (fun x a' _ X Y row hs hg hr => by obtain ⟨Bx, e1, e2, e3⟩ := hs; exact ⟨Bx, e1, boxed_own Bx 3 (fun (_ : Unit) => Value.int .i64 (x.1 : Nat)) () X Y row e2 hg (fun r e => (hr r e).2), e3⟩)
    ?assign ?body ?done ?stop
  case assign =>
    rintro ln pre x W K ⟨⟨⟨hp, hX⟩, hM⟩, hB⟩ hK
    have hsW := hB.size
    have hMl := hM.lt
    gi_wp2
    exact hK _ _ ((KeepsOthers.alloc _ _).from _) ((Below.refl _ W).alloc (by omega) _) ⟨⟨⟨hp, hX.keep ((Below.refl _ W).alloc (Nat.le_refl _) _)⟩, hM.alloc _⟩, hB.alloc hsW _⟩ ⟨W.heap.size, by omega, Boxed.new W 3 _, rfl⟩
  case body =>
    rintro ln pre x a' W hl ⟨r, hr⟩ ⟨⟨⟨hp, hX⟩, hM⟩, hB⟩ ⟨Bx, hBx, bX, rfl⟩ hlt
    have h1' : 1 ≤ n - 1 - 1 := by omega
    have hMl := hM.lt
    have hxl : x.1 < l.length := by rw [← Hml.out]; exact x.2
    have hxm : ((x.1 : Nat) : Int) < (m : Int) := by have := x.2; omega
    have hx0 : (0 : Int) ≤ ((x.1 : Nat) : Int) := by omega
    have hbX := bX.lt
    have cX := bX.cell
    have c0 := cellAt_of hX.b0 0
    have c10 := cellAt_of hX.b1 0
    have c11 := cellAt_of hX.b1 1
    simp only [List.getElem?_toArray, List.getElem?_cons_zero, List.getElem?_cons_succ] at c0 c10 c11
    have HX := Lib.hid hX
    have HP := Lib.hid hp
    have HMb := Lib.hid hM
    have hRx := HWo.out.ok x.1 hxl
    obtain ⟨rn, hrn⟩ : ∃ rn : Nat, (cyN l x.1).ro = rn := ⟨(cyN l x.1).ro.toNat, by have := hRx.ro.1; omega⟩
    obtain ⟨bn, hbne⟩ : ∃ bn : Nat, bn = (cyN l x.1).bl.toNat := ⟨_, rfl⟩
    have hbn : (cyN l x.1).bl = bn := by have := hRx.bl.1; omega
    have hbn1 : 1 ≤ bn := by have := hRx.bl.1; omega
    have hbn2 : bn ≤ 64 := by have := hRx.bl.2; omega
    have hrn2 : rn ≤ 64 := by have := hRx.ro.2; omega
    obtain ⟨bb, off, Ak, ck, A2k, c2k, hA, hbb, hcy⟩ := HI.out.at_ hxl
    have hb64 : (nb : Int) < 64 := by have := Hb.out; have := (HWo.out.ok ng hg).bl.2; omega
    replace hcy := (hcy.keep (w' := W) hbb (fun p hp => hB.cell hp))
    have HH : Hid (∀ W' (y : Int), Below w.heap.size w W' → Calls Try.prog 55 #[.slice Ak (cyN l x.1).us.length ck, .int .i64 y] W' fun e w' => e = .returned (.bool ((cyN l x.1).us.contains y)) ∧ ∃ q, w' = W'.drewN q) := fun W' y hB' => has_any Ak ck (cyN l x.1).us y W' ((Hs.out.2 x.1 hxl).1) (by
      obtain ⟨_, _, _, _, _, _, hA2, hbb2, hcy2⟩ := HI.out.at_ hxl
      rw [hA] at hA2
      cases hA2
      have := hcy.c5.symm.trans ((hB.cell (p := ⟨bb, off + x.1 * 7 + 5, none⟩) hbb).trans hcy2.c5)
      simp only [Option.some.injEq, Value.slice.injEq] at this
      rw [this.1]
      exact hcy2.us.next hB') hRx.us.2
    obtain ⟨c70, c71, c72, c73, c74, c75, c76, _, _⟩ := hcy
    rw [hrn] at c74
    rw [hbn] at c71
    subst hA
    have hsW := hB.size
    have hl4 : w.heap.size + 1 + 1 + 1 + 1 < W.heap.size := (Array.getElem?_eq_some_iff.1 HX.out.b4).1
    have hl1 : w.heap.size + 1 < W.heap.size := by omega
    have hl0 : w.heap.size < W.heap.size := by omega
    have HB := Lib.hid hB
    have Hr := Lib.hid hr
    have HbX := Lib.hid bX
    have Hrn := Lib.hid hrn
    have Hbn := Lib.hid hbn
    have Hbne := Lib.hid hbne
    clear hX hp hM hRx hB hr hrn hbn bX hbne
    by_cases hxe : x.1 = ng
    · have hxe' : (((x.1 : Nat) : Int) == (ng : Int)) = true := by rw [hxe]; simp
      have Hfr : Hid (frm l ng nb x.1 = nb) := by unfold Hid frm; rw [if_pos hxe]
      clear hxe
      gi_wp2_with (first | (gi_at_call 54; refine (CallsIn.inRound ln (round_in Fence.wide (n - 1 - 1 - 1) trivial rfl _ _ _)).mono ?_; rintro e w' ⟨rfl, rfl⟩) | (refine ⟨trivial, ?_⟩; gi_at_call 54; refine (CallsIn.inRound ln (round_in Fence.wide (n - 1 - 1 - 1) trivial rfl _ _ _)).mono ?_; rintro e w' ⟨rfl, rfl⟩))
      generalize hbx : Obj.cells #[.int .i64 (cyN l x.1).ix, .int .i64 bn, .int .i64 (cyN l x.1).fb, .int .i64 (cyN l x.1).fi, .int .i64 rn, .slice Ak (cyN l x.1).us.length ck, .slice A2k (cyN l x.1).is.length c2k] 24 = bx
      have hB1 : Below W.heap.size W (((W.alloc bx).alloc (.cells #[.int .i64 nb] 3)).alloc (.cells #[.int .i64 bn] 3)) := (((Below.refl _ W).alloc (Nat.le_refl _) _).alloc (by simp) _).alloc (by simp; omega) _
      have hK1 : Blk (((W.alloc bx).alloc (.cells #[.int .i64 nb] 3)).alloc (.cells #[.int .i64 bn] 3)) W.heap.size 24 #[.int .i64 (cyN l x.1).ix, .int .i64 bn, .int .i64 (cyN l x.1).fb, .int .i64 (cyN l x.1).fi, .int .i64 rn, .slice Ak (cyN l x.1).us.length ck, .slice A2k (cyN l x.1).is.length c2k] := by
        have h0 : (W.alloc bx).heap[W.heap.size]? = some bx := Go.heap_alloc_new W bx
        have h1 := (Below.heap_alloc (W.alloc bx) (.cells #[.int .i64 nb] 3) W.heap.size (by simp)).trans h0
        have h2 := (Below.heap_alloc ((W.alloc bx).alloc (.cells #[.int .i64 nb] 3)) (.cells #[.int .i64 bn] 3) W.heap.size (by simp; omega)).trans h1
        rw [← hbx] at h2
        rw [← hbx]
        exact h2
      have bF2 : Boxed (((W.alloc bx).alloc (.cells #[.int .i64 nb] 3)).alloc (.cells #[.int .i64 bn] 3)) (W.heap.size + 1) 3 (.int .i64 nb) := by
        have := (Boxed.new (W.alloc bx) 3 (.int .i64 nb)).alloc (.cells #[.int .i64 bn] 3); rwa [World.size_alloc] at this
      have bM2 : Boxed (((W.alloc bx).alloc (.cells #[.int .i64 nb] 3)).alloc (.cells #[.int .i64 bn] 3)) (W.heap.size + 1 + 1) 3 (.int .i64 bn) := by
        have := Boxed.new ((W.alloc bx).alloc (.cells #[.int .i64 nb] 3)) 3 (.int .i64 bn); rwa [World.size_alloc, World.size_alloc] at this
      have hs1 : (((W.alloc bx).alloc (.cells #[.int .i64 nb] 3)).alloc (.cells #[.int .i64 bn] 3)).heap.size = W.heap.size + 3 := by simp
      have hr' : (((W.alloc bx).alloc (.cells #[.int .i64 nb] 3)).alloc (.cells #[.int .i64 bn] 3)).heap[ln]? = some (.loop r) := (hB1.block ln (Array.getElem?_eq_some_iff.1 Hr.out).1).trans Hr.out
      generalize ((W.alloc bx).alloc (.cells #[.int .i64 nb] 3)).alloc (.cells #[.int .i64 bn] 3) = W1 at hB1 hK1 bF2 bM2 hs1 hr' ⊢
      clear hbx
      have hseq2 := (round_stops Fence.wide (n - 1 - 1 - 1) trivial rfl (by omega) (W.heap.size + 1 + 1) (W.heap.size + 1) (W.heap.size + 3) bn nb (by omega) (by omega) (by omega) W1 (by omega) (by omega) (by omega) bM2.cell bF2.cell).inRound ln
      refine wpIn_rangeFunc_ownN (l₀ := ln) (r₀ := r) rfl hr' h1' (gf := 70) (lb := #[.pointer (some ⟨W.heap.size + 1 + 1, 0, none⟩), .pointer (some ⟨W.heap.size + 1, 0, none⟩)]) rfl trivial (enters_of Try.func70 (by kernel_rfl) rfl)
        hseq2 belowK_t (belowK_b (by omega)) (Below.refl _ _) (fun _ => rfl)
        (fun pre' W' => ((∀ y ∈ pre', (cyN l x.1).us.contains ((y.1 : Nat) : Int) = true) ∧ Blk W' W.heap.size 24 #[.int .i64 (cyN l x.1).ix, .int .i64 bn, .int .i64 (cyN l x.1).fb, .int .i64 (cyN l x.1).fi, .int .i64 rn, .slice Ak (cyN l x.1).us.length ck, .slice A2k (cyN l x.1).is.length c2k]) ∧ Below W.heap.size W W')
        (fun cd pre' W' => OutI w (cyN l x.1) (fun b => ⟨l.set x.1 (useC (cyN l x.1) b), x.1, b, 0⟩) cd pre' W' ∧ (Below w.heap.size W W' ∧ KeepsFrom W0.heap.size W W'))
        (OwnFrom.and (OwnFrom.and (ownFrom_pure _ _) (Own.from (own_same fun _ _ _ hs _ h => Blk.same h hs) _)) (ownFrom_below (Nat.le_refl _) (by omega)))
        (fun cd => OwnFrom.and (Own.from (own_same (I := fun pre' W' => OutI w (cyN l x.1) (fun b => ⟨l.set x.1 (useC (cyN l x.1) b), x.1, b, 0⟩) cd pre' W') fun _ _ _ hs _ h => OutI.same h hs) _) (OwnFrom.and (ownFrom_below (by omega) (by omega)) (ownFrom_keepsFrom (by omega))))
        ⟨⟨by simp, hK1⟩, hB1⟩
        (fun y a'' _ => a'' = { tmps := (.slice (some ⟨bb, off, none⟩) m c :: .agg #[.int .i64 ng, .int .i64 nb] :: .pointer (some ⟨w.heap.size, 0, none⟩) :: .pointer (some ⟨w.heap.size + 1, 0, none⟩) :: .pointer (some ⟨w.heap.size + 1 + 1, 0, none⟩) :: .pointer (some ⟨w.heap.size + 1 + 1 + 1, 0, none⟩) :: .pointer (some ⟨w.heap.size + 1 + 1 + 1 + 1, 0, none⟩) :: .pointer (some ⟨Bx, 0, none⟩) :: .pointer (some ⟨W.heap.size, 0, none⟩) :: .int .i64 nb :: .int .i64 (y.1 : Nat) :: .slice (some ⟨bb, off, none⟩) m c :: .bool true :: .bool false :: undef :: .slice (some ⟨bb, off, none⟩) m c :: .agg #[.int .i64 ng, .int .i64 nb] :: .bool true :: .bool false :: undef :: .pointer (some ⟨w.heap.size + 1, 0, none⟩) :: .int .i64 ng :: .slice (some ⟨bb, off, none⟩) m c :: .int .i64 m :: .func (.func 70) #[] #[.pointer (some ⟨Wc.heap.size + 1, 0, none⟩), .pointer (some ⟨Wc.heap.size, 0, none⟩)] :: .int .i64 (x.1 : Nat) :: .slice (some ⟨bb, off, none⟩) m c :: .int .i64 (x.1 : Nat) :: .pointer (some ⟨bb, off + x.1 * 7, none⟩) :: .agg #[.int .i64 (cyN l x.1).ix, .int .i64 bn, .int .i64 (cyN l x.1).fb, .int .i64 (cyN l x.1).fi, .int .i64 rn, .slice Ak (cyN l x.1).us.length ck, .slice A2k (cyN l x.1).is.length c2k] :: .pointer (some ⟨W.heap.size, 4, none⟩) :: .int .i64 rn :: .int .i64 (x.1 : Nat) :: .pointer (some ⟨w.heap.size + 1, 0, none⟩) :: .int .i64 ng :: .bool true :: .pointer (some ⟨w.heap.size + 1, 1, none⟩) :: .int .i64 nb :: .int .i64 nb :: .pointer (some ⟨W.heap.size, 1, none⟩) :: .int .i64 bn :: .func (.func 70) #[] #[.pointer (some ⟨W.heap.size + 1 + 1, 0, none⟩), .pointer (some ⟨W.heap.size + 1, 0, none⟩)] :: .int .i64 (y.1 : Nat) :: undef :: undef :: undef :: undef :: undef :: undef :: undef :: undef :: undef :: undef :: undef :: undef :: undef :: []).toArray, defers := [] })
        (fun _ _ _ _ _ _ hs _ _ => hs)
        ?assign2 ?body2 ?done2 ?stop2
      case assign2 =>
        rintro l2 pre' y W' K hi hK
        gi_wp2
        exact hK _ _ (KeepsFrom.refl _ _) (Below.refl _ _) hi rfl
      case body2 =>
        rintro l2 pre' y a'' W' _ _ ⟨⟨hq, hK2⟩, hBW⟩ rfl _
        have c5 := cellAt_of hK2 5
        simp only [List.getElem?_toArray, List.getElem?_cons_zero, List.getElem?_cons_succ] at c5
        have hBw' : Below w.heap.size w W' := HB.out.trans (hBW.mono (by omega))
        have HHy := Lib.hid (HH.out W' ((y.1 : Nat) : Int) hBw')
        have Hq := Lib.hid hq
        obtain ⟨cc, hcc⟩ : ∃ cc, cc = (cyN l x.1).us.contains ((y.1 : Nat) : Int) := ⟨_, rfl⟩
        have Hcc := Lib.hid hcc
        rw [← hcc] at HHy
        have hszW := hBW.size
        have cc0 := cellAt_of (HX.out.keep hBW).b0 0
        simp only [List.getElem?_toArray, List.getElem?_cons_zero, List.getElem?_cons_succ] at cc0
        have ccX : W'.cell? ⟨Bx, 0, none⟩ = some (.int .i64 (x.1 : Nat)) := (hBW.cell (p := ⟨Bx, 0, none⟩) hbX).trans cX
        have hy0 : ((y.1 : Nat) : Int) < (cyN l x.1).bl := by have := y.2; have := Hbn.out; omega
        have HUy := Lib.hid (fun q => HU.out (W'.drewN q) x.1 y.1 (bdn hBw' q) hxl hy0)
        clear hy0
        have h1'' : 1 ≤ n - 1 - 1 - 1 - 1 := by omega
        clear hq hcc
        cases cc with
        | true =>
          gi_wp2_with (first | (gi_at_call 55; refine (CallsIn.inRound l2 (CallsIn.inRound ln (callsIn_wide.2 HHy.out))).mono ?_; rintro e w' ⟨rfl, q, rfl⟩) | (refine ⟨trivial, ?_⟩; gi_at_call 55; refine (CallsIn.inRound l2 (CallsIn.inRound ln (callsIn_wide.2 HHy.out))).mono ?_; rintro e w' ⟨rfl, q, rfl⟩))
          refine ⟨((keeps_below (bdn (Below.refl _ _) _)).from _), bdn (Below.refl _ _) _, ⟨fun z hz => (List.mem_append.1 hz).elim (Hq.out z) (fun e => by rw [List.mem_singleton] at e; subst e; exact Hcc.out.symm), hK2⟩, bdn hBW _⟩
        | false =>
          gi_wp2_with (first | (gi_at_call 55; refine (CallsIn.inRound l2 (CallsIn.inRound ln (callsIn_wide.2 HHy.out))).mono ?_; rintro e w' ⟨rfl, q, rfl⟩) | (refine ⟨trivial, ?_⟩; gi_at_call 55; refine (CallsIn.inRound l2 (CallsIn.inRound ln (callsIn_wide.2 HHy.out))).mono ?_; rintro e w' ⟨rfl, q, rfl⟩))
          first | refine (CallsIn.inRound l2 (CallsIn.inRound ln (callsIn_wide.2 (HUy.out q)))).mono ?_ | refine ⟨trivial, (CallsIn.inRound l2 (CallsIn.inRound ln (callsIn_wide.2 (HUy.out q)))).mono ?_⟩
          rintro e w3 ⟨A3, c3, rfl, hGO, hB3⟩
          dsimp only at hGO ⊢
          have hBall : Below W'.heap.size W' w3 := (bdn (Below.refl _ _) q).trans hB3
          have hX3 := (HX.out.keep hBW).keep hBall
          have hsz3 : W'.heap.size ≤ w3.heap.size := hB3.size
          have d2 := cellAt_of hX3.b2 0
          have d30 := cellAt_of hX3.b3 0
          have d31 := cellAt_of hX3.b3 1
          have d4 := cellAt_of hX3.b4 0
          simp only [List.getElem?_toArray, List.getElem?_cons_zero, List.getElem?_cons_succ] at d2 d30 d31 d4
          have f2 := frozen_of_row w3 _ 0 _ 39 hX3.b2
          have f30 := frozen_of_row w3 _ 0 _ 41 hX3.b3
          have f31 := frozen_of_row w3 _ 1 _ 41 hX3.b3
          have f4 := frozen_of_row w3 _ 0 _ 28 hX3.b4
          have HX3 := Lib.hid hX3
          have HGO := Lib.hid hGO
          have HBall := Lib.hid hBall
          clear hX3 hGO hBall hB3
          gi_wp2
          have e2 : ∀ (v0 v1 v2 v3 : Value), Blk ((((w3.setCell ⟨w.heap.size + 1 + 1, 0, none⟩ v0).setCell ⟨w.heap.size + 1 + 1 + 1, 0, none⟩ v1).setCell ⟨w.heap.size + 1 + 1 + 1, 1, none⟩ v2).setCell ⟨w.heap.size + 1 + 1 + 1 + 1, 0, none⟩ v3) (w.heap.size + 1 + 1) 39 #[v0] := fun v0 v1 v2 v3 =>
            (set_other (by omega) _).trans ((set_other (by omega) _).trans ((set_other (by omega) _).trans (set_heap HX3.out.b2 v0)))
          have e3 : ∀ (v0 v1 v2 v3 : Value), Blk ((((w3.setCell ⟨w.heap.size + 1 + 1, 0, none⟩ v0).setCell ⟨w.heap.size + 1 + 1 + 1, 0, none⟩ v1).setCell ⟨w.heap.size + 1 + 1 + 1, 1, none⟩ v2).setCell ⟨w.heap.size + 1 + 1 + 1 + 1, 0, none⟩ v3) (w.heap.size + 1 + 1 + 1) 41 #[v1, v2] := fun v0 v1 v2 v3 =>
            (set_other (by omega) _).trans (set_heap (set_heap ((set_other (by omega) _).trans HX3.out.b3) v1) v2)
          have e4 : ∀ (v0 v1 v2 v3 : Value), Blk ((((w3.setCell ⟨w.heap.size + 1 + 1, 0, none⟩ v0).setCell ⟨w.heap.size + 1 + 1 + 1, 0, none⟩ v1).setCell ⟨w.heap.size + 1 + 1 + 1, 1, none⟩ v2).setCell ⟨w.heap.size + 1 + 1 + 1 + 1, 0, none⟩ v3) (w.heap.size + 1 + 1 + 1 + 1) 28 #[v3] := fun v0 v1 v2 v3 =>
            set_heap ((set_other (by omega) _).trans ((set_other (by omega) _).trans ((set_other (by omega) _).trans HX3.out.b4))) v3
          have ek : ∀ (v0 v1 v2 v3 : Value), Kept w3 ((((w3.setCell ⟨w.heap.size + 1 + 1, 0, none⟩ v0).setCell ⟨w.heap.size + 1 + 1 + 1, 0, none⟩ v1).setCell ⟨w.heap.size + 1 + 1 + 1, 1, none⟩ v2).setCell ⟨w.heap.size + 1 + 1 + 1 + 1, 0, none⟩ v3) (fun b => w.heap.size ≤ b ∧ b < W'.heap.size) := fun v0 v1 v2 v3 =>
            ((((Kept.refl w3 _).set (.inl ⟨by omega, by omega⟩)).set (.inl ⟨by omega, by omega⟩)).set (.inl ⟨by omega, by omega⟩)).set (.inl ⟨by omega, by omega⟩)
          have ko : ∀ (v0 v1 v2 v3 : Value), KeepsOthers W' ((((w3.setCell ⟨w.heap.size + 1 + 1, 0, none⟩ v0).setCell ⟨w.heap.size + 1 + 1 + 1, 0, none⟩ v1).setCell ⟨w.heap.size + 1 + 1 + 1, 1, none⟩ v2).setCell ⟨w.heap.size + 1 + 1 + 1 + 1, 0, none⟩ v3) := fun v0 v1 v2 v3 =>
            ((((keeps_below HBall.out).trans (KeepsOthers.setCell _ _ _)).trans (KeepsOthers.setCell _ _ _)).trans (KeepsOthers.setCell _ _ _)).trans (KeepsOthers.setCell _ _ _)
          refine ⟨(ko _ _ _ _).from _, ⟨rfl, pre', y, rfl, Hq.out, Hcc.out.symm, A3, c3, (by simp only [List.length_set]; exact e2 _ _ _ _), e3 _ _ _ _, e4 _ _ _ _, (HGO.out.keep (ek _ _ _ _) (fun b q => q.2)).more (by show w.heap.size ≤ W'.heap.size; omega)⟩, ?_, ?_⟩
          · exact ((hBW.mono (by omega)).trans (HBall.out.mono (by omega))).trans ((ek _ _ _ _).below (fun b q => q.1) (by have := HBall.out.size; omega))
          · exact ((keeps_below hBW).trans (ko _ _ _ _)).from _
      case done2 =>
        rintro ys' W' rfl ⟨⟨hq, hK2⟩, hBW⟩
        gi_wp2
        have hB2 : Below w.heap.size W W' := hBW.mono (by omega)
        exact ⟨(keeps_below hBW).from _, hBW.mono (by omega), ⟨⟨fun z hz => (List.mem_append.1 hz).elim (HP.out z) (fun e => by rw [List.mem_singleton] at e; subst e; rw [Hfr.out]; exact freeIn_none Hbne.out hq), HX.out.keep hBW⟩, HMb.out.kept (row := none) ⟨hBW.os, hBW.tape, hBW.output, hBW.size, fun k hk _ => hBW.block k hk⟩ (by simp)⟩, HB.out.trans hB2⟩
      case stop2 =>
        rintro cd pre' W' hpre ⟨⟨rfl, p, b, rfl, hp1, hp2, hD⟩, hBW, hKF⟩
        gi_wp2
        obtain ⟨b', hb1, hb2⟩ := freeIn_some Hbne.out hpre hp1 hp2
        refine ⟨by rw [← hsz]; exact hKF, ⟨rfl, pre, x, b', rfl, HP.out, by rw [Hfr.out]; exact hb2, by rw [hb1]; exact hD⟩, HB.out.trans hBW⟩
    · have hxe' : (((x.1 : Nat) : Int) == (ng : Int)) = false := by simp; omega
      have Hfr : Hid (frm l ng nb x.1 = rn) := by unfold Hid frm; rw [if_neg hxe, Hrn.out]; simp
      clear hxe
      gi_wp2_with (first | (gi_at_call 54; refine (CallsIn.inRound ln (round_in Fence.wide (n - 1 - 1 - 1) trivial rfl _ _ _)).mono ?_; rintro e w' ⟨rfl, rfl⟩) | (refine ⟨trivial, ?_⟩; gi_at_call 54; refine (CallsIn.inRound ln (round_in Fence.wide (n - 1 - 1 - 1) trivial rfl _ _ _)).mono ?_; rintro e w' ⟨rfl, rfl⟩))
      generalize hbx : Obj.cells #[.int .i64 (cyN l x.1).ix, .int .i64 bn, .int .i64 (cyN l x.1).fb, .int .i64 (cyN l x.1).fi, .int .i64 rn, .slice Ak (cyN l x.1).us.length ck, .slice A2k (cyN l x.1).is.length c2k] 24 = bx
      have hB1 : Below W.heap.size W (((W.alloc bx).alloc (.cells #[.int .i64 rn] 3)).alloc (.cells #[.int .i64 bn] 3)) := (((Below.refl _ W).alloc (Nat.le_refl _) _).alloc (by simp) _).alloc (by simp; omega) _
      have hK1 : Blk (((W.alloc bx).alloc (.cells #[.int .i64 rn] 3)).alloc (.cells #[.int .i64 bn] 3)) W.heap.size 24 #[.int .i64 (cyN l x.1).ix, .int .i64 bn, .int .i64 (cyN l x.1).fb, .int .i64 (cyN l x.1).fi, .int .i64 rn, .slice Ak (cyN l x.1).us.length ck, .slice A2k (cyN l x.1).is.length c2k] := by
        have h0 : (W.alloc bx).heap[W.heap.size]? = some bx := Go.heap_alloc_new W bx
        have h1 := (Below.heap_alloc (W.alloc bx) (.cells #[.int .i64 rn] 3) W.heap.size (by simp)).trans h0
        have h2 := (Below.heap_alloc ((W.alloc bx).alloc (.cells #[.int .i64 rn] 3)) (.cells #[.int .i64 bn] 3) W.heap.size (by simp; omega)).trans h1
        rw [← hbx] at h2
        rw [← hbx]
        exact h2
      have bF2 : Boxed (((W.alloc bx).alloc (.cells #[.int .i64 rn] 3)).alloc (.cells #[.int .i64 bn] 3)) (W.heap.size + 1) 3 (.int .i64 rn) := by
        have := (Boxed.new (W.alloc bx) 3 (.int .i64 rn)).alloc (.cells #[.int .i64 bn] 3); rwa [World.size_alloc] at this
      have bM2 : Boxed (((W.alloc bx).alloc (.cells #[.int .i64 rn] 3)).alloc (.cells #[.int .i64 bn] 3)) (W.heap.size + 1 + 1) 3 (.int .i64 bn) := by
        have := Boxed.new ((W.alloc bx).alloc (.cells #[.int .i64 rn] 3)) 3 (.int .i64 bn); rwa [World.size_alloc, World.size_alloc] at this
      have hs1 : (((W.alloc bx).alloc (.cells #[.int .i64 rn] 3)).alloc (.cells #[.int .i64 bn] 3)).heap.size = W.heap.size + 3 := by simp
      have hr' : (((W.alloc bx).alloc (.cells #[.int .i64 rn] 3)).alloc (.cells #[.int .i64 bn] 3)).heap[ln]? = some (.loop r) := (hB1.block ln (Array.getElem?_eq_some_iff.1 Hr.out).1).trans Hr.out
      generalize ((W.alloc bx).alloc (.cells #[.int .i64 rn] 3)).alloc (.cells #[.int .i64 bn] 3) = W1 at hB1 hK1 bF2 bM2 hs1 hr' ⊢
      clear hbx
      have hseq2 := (round_stops Fence.wide (n - 1 - 1 - 1) trivial rfl (by omega) (W.heap.size + 1 + 1) (W.heap.size + 1) (W.heap.size + 3) bn rn (by omega) (by omega) (by omega) W1 (by omega) (by omega) (by omega) bM2.cell bF2.cell).inRound ln
      refine wpIn_rangeFunc_ownN (l₀ := ln) (r₀ := r) rfl hr' h1' (gf := 70) (lb := #[.pointer (some ⟨W.heap.size + 1 + 1, 0, none⟩), .pointer (some ⟨W.heap.size + 1, 0, none⟩)]) rfl trivial (enters_of Try.func70 (by kernel_rfl) rfl)
        hseq2 belowK_t (belowK_b (by omega)) (Below.refl _ _) (fun _ => rfl)
        (fun pre' W' => ((∀ y ∈ pre', (cyN l x.1).us.contains ((y.1 : Nat) : Int) = true) ∧ Blk W' W.heap.size 24 #[.int .i64 (cyN l x.1).ix, .int .i64 bn, .int .i64 (cyN l x.1).fb, .int .i64 (cyN l x.1).fi, .int .i64 rn, .slice Ak (cyN l x.1).us.length ck, .slice A2k (cyN l x.1).is.length c2k]) ∧ Below W.heap.size W W')
        (fun cd pre' W' => OutI w (cyN l x.1) (fun b => ⟨l.set x.1 (useC (cyN l x.1) b), x.1, b, 0⟩) cd pre' W' ∧ (Below w.heap.size W W' ∧ KeepsFrom W0.heap.size W W'))
        (OwnFrom.and (OwnFrom.and (ownFrom_pure _ _) (Own.from (own_same fun _ _ _ hs _ h => Blk.same h hs) _)) (ownFrom_below (Nat.le_refl _) (by omega)))
        (fun cd => OwnFrom.and (Own.from (own_same (I := fun pre' W' => OutI w (cyN l x.1) (fun b => ⟨l.set x.1 (useC (cyN l x.1) b), x.1, b, 0⟩) cd pre' W') fun _ _ _ hs _ h => OutI.same h hs) _) (OwnFrom.and (ownFrom_below (by omega) (by omega)) (ownFrom_keepsFrom (by omega))))
        ⟨⟨by simp, hK1⟩, hB1⟩
        (fun y a'' _ => a'' = { tmps := (.slice (some ⟨bb, off, none⟩) m c :: .agg #[.int .i64 ng, .int .i64 nb] :: .pointer (some ⟨w.heap.size, 0, none⟩) :: .pointer (some ⟨w.heap.size + 1, 0, none⟩) :: .pointer (some ⟨w.heap.size + 1 + 1, 0, none⟩) :: .pointer (some ⟨w.heap.size + 1 + 1 + 1, 0, none⟩) :: .pointer (some ⟨w.heap.size + 1 + 1 + 1 + 1, 0, none⟩) :: .pointer (some ⟨Bx, 0, none⟩) :: .pointer (some ⟨W.heap.size, 0, none⟩) :: .int .i64 rn :: .int .i64 (y.1 : Nat) :: .slice (some ⟨bb, off, none⟩) m c :: .bool true :: .bool false :: undef :: .slice (some ⟨bb, off, none⟩) m c :: .agg #[.int .i64 ng, .int .i64 nb] :: .bool true :: .bool false :: undef :: .pointer (some ⟨w.heap.size + 1, 0, none⟩) :: .int .i64 ng :: .slice (some ⟨bb, off, none⟩) m c :: .int .i64 m :: .func (.func 70) #[] #[.pointer (some ⟨Wc.heap.size + 1, 0, none⟩), .pointer (some ⟨Wc.heap.size, 0, none⟩)] :: .int .i64 (x.1 : Nat) :: .slice (some ⟨bb, off, none⟩) m c :: .int .i64 (x.1 : Nat) :: .pointer (some ⟨bb, off + x.1 * 7, none⟩) :: .agg #[.int .i64 (cyN l x.1).ix, .int .i64 bn, .int .i64 (cyN l x.1).fb, .int .i64 (cyN l x.1).fi, .int .i64 rn, .slice Ak (cyN l x.1).us.length ck, .slice A2k (cyN l x.1).is.length c2k] :: .pointer (some ⟨W.heap.size, 4, none⟩) :: .int .i64 rn :: .int .i64 (x.1 : Nat) :: .pointer (some ⟨w.heap.size + 1, 0, none⟩) :: .int .i64 ng :: .bool false :: undef :: undef :: .int .i64 rn :: .pointer (some ⟨W.heap.size, 1, none⟩) :: .int .i64 bn :: .func (.func 70) #[] #[.pointer (some ⟨W.heap.size + 1 + 1, 0, none⟩), .pointer (some ⟨W.heap.size + 1, 0, none⟩)] :: .int .i64 (y.1 : Nat) :: undef :: undef :: undef :: undef :: undef :: undef :: undef :: undef :: undef :: undef :: undef :: undef :: undef :: []).toArray, defers := [] })
        (fun _ _ _ _ _ _ hs _ _ => hs)
        ?assign3 ?body3 ?done3 ?stop3
      case assign3 =>
        rintro l2 pre' y W' K hi hK
        gi_wp2
        exact hK _ _ (KeepsFrom.refl _ _) (Below.refl _ _) hi rfl
      case body3 =>
        rintro l2 pre' y a'' W' _ _ ⟨⟨hq, hK2⟩, hBW⟩ rfl _
        have c5 := cellAt_of hK2 5
        simp only [List.getElem?_toArray, List.getElem?_cons_zero, List.getElem?_cons_succ] at c5
        have hBw' : Below w.heap.size w W' := HB.out.trans (hBW.mono (by omega))
        have HHy := Lib.hid (HH.out W' ((y.1 : Nat) : Int) hBw')
        have Hq := Lib.hid hq
        obtain ⟨cc, hcc⟩ : ∃ cc, cc = (cyN l x.1).us.contains ((y.1 : Nat) : Int) := ⟨_, rfl⟩
        have Hcc := Lib.hid hcc
        rw [← hcc] at HHy
        have hszW := hBW.size
        have cc0 := cellAt_of (HX.out.keep hBW).b0 0
        simp only [List.getElem?_toArray, List.getElem?_cons_zero, List.getElem?_cons_succ] at cc0
        have ccX : W'.cell? ⟨Bx, 0, none⟩ = some (.int .i64 (x.1 : Nat)) := (hBW.cell (p := ⟨Bx, 0, none⟩) hbX).trans cX
        have hy0 : ((y.1 : Nat) : Int) < (cyN l x.1).bl := by have := y.2; have := Hbn.out; omega
        have HUy := Lib.hid (fun q => HU.out (W'.drewN q) x.1 y.1 (bdn hBw' q) hxl hy0)
        clear hy0
        have h1'' : 1 ≤ n - 1 - 1 - 1 - 1 := by omega
        clear hq hcc
        cases cc with
        | true =>
          gi_wp2_with (first | (gi_at_call 55; refine (CallsIn.inRound l2 (CallsIn.inRound ln (callsIn_wide.2 HHy.out))).mono ?_; rintro e w' ⟨rfl, q, rfl⟩) | (refine ⟨trivial, ?_⟩; gi_at_call 55; refine (CallsIn.inRound l2 (CallsIn.inRound ln (callsIn_wide.2 HHy.out))).mono ?_; rintro e w' ⟨rfl, q, rfl⟩))
          refine ⟨((keeps_below (bdn (Below.refl _ _) _)).from _), bdn (Below.refl _ _) _, ⟨fun z hz => (List.mem_append.1 hz).elim (Hq.out z) (fun e => by rw [List.mem_singleton] at e; subst e; exact Hcc.out.symm), hK2⟩, bdn hBW _⟩
        | false =>
          gi_wp2_with (first | (gi_at_call 55; refine (CallsIn.inRound l2 (CallsIn.inRound ln (callsIn_wide.2 HHy.out))).mono ?_; rintro e w' ⟨rfl, q, rfl⟩) | (refine ⟨trivial, ?_⟩; gi_at_call 55; refine (CallsIn.inRound l2 (CallsIn.inRound ln (callsIn_wide.2 HHy.out))).mono ?_; rintro e w' ⟨rfl, q, rfl⟩))
          first | refine (CallsIn.inRound l2 (CallsIn.inRound ln (callsIn_wide.2 (HUy.out q)))).mono ?_ | refine ⟨trivial, (CallsIn.inRound l2 (CallsIn.inRound ln (callsIn_wide.2 (HUy.out q)))).mono ?_⟩
          rintro e w3 ⟨A3, c3, rfl, hGO, hB3⟩
          dsimp only at hGO ⊢
          have hBall : Below W'.heap.size W' w3 := (bdn (Below.refl _ _) q).trans hB3
          have hX3 := (HX.out.keep hBW).keep hBall
          have hsz3 : W'.heap.size ≤ w3.heap.size := hB3.size
          have d2 := cellAt_of hX3.b2 0
          have d30 := cellAt_of hX3.b3 0
          have d31 := cellAt_of hX3.b3 1
          have d4 := cellAt_of hX3.b4 0
          simp only [List.getElem?_toArray, List.getElem?_cons_zero, List.getElem?_cons_succ] at d2 d30 d31 d4
          have f2 := frozen_of_row w3 _ 0 _ 39 hX3.b2
          have f30 := frozen_of_row w3 _ 0 _ 41 hX3.b3
          have f31 := frozen_of_row w3 _ 1 _ 41 hX3.b3
          have f4 := frozen_of_row w3 _ 0 _ 28 hX3.b4
          have HX3 := Lib.hid hX3
          have HGO := Lib.hid hGO
          have HBall := Lib.hid hBall
          clear hX3 hGO hBall hB3
          gi_wp2
          have e2 : ∀ (v0 v1 v2 v3 : Value), Blk ((((w3.setCell ⟨w.heap.size + 1 + 1, 0, none⟩ v0).setCell ⟨w.heap.size + 1 + 1 + 1, 0, none⟩ v1).setCell ⟨w.heap.size + 1 + 1 + 1, 1, none⟩ v2).setCell ⟨w.heap.size + 1 + 1 + 1 + 1, 0, none⟩ v3) (w.heap.size + 1 + 1) 39 #[v0] := fun v0 v1 v2 v3 =>
            (set_other (by omega) _).trans ((set_other (by omega) _).trans ((set_other (by omega) _).trans (set_heap HX3.out.b2 v0)))
          have e3 : ∀ (v0 v1 v2 v3 : Value), Blk ((((w3.setCell ⟨w.heap.size + 1 + 1, 0, none⟩ v0).setCell ⟨w.heap.size + 1 + 1 + 1, 0, none⟩ v1).setCell ⟨w.heap.size + 1 + 1 + 1, 1, none⟩ v2).setCell ⟨w.heap.size + 1 + 1 + 1 + 1, 0, none⟩ v3) (w.heap.size + 1 + 1 + 1) 41 #[v1, v2] := fun v0 v1 v2 v3 =>
            (set_other (by omega) _).trans (set_heap (set_heap ((set_other (by omega) _).trans HX3.out.b3) v1) v2)
          have e4 : ∀ (v0 v1 v2 v3 : Value), Blk ((((w3.setCell ⟨w.heap.size + 1 + 1, 0, none⟩ v0).setCell ⟨w.heap.size + 1 + 1 + 1, 0, none⟩ v1).setCell ⟨w.heap.size + 1 + 1 + 1, 1, none⟩ v2).setCell ⟨w.heap.size + 1 + 1 + 1 + 1, 0, none⟩ v3) (w.heap.size + 1 + 1 + 1 + 1) 28 #[v3] := fun v0 v1 v2 v3 =>
            set_heap ((set_other (by omega) _).trans ((set_other (by omega) _).trans ((set_other (by omega) _).trans HX3.out.b4))) v3
          have ek : ∀ (v0 v1 v2 v3 : Value), Kept w3 ((((w3.setCell ⟨w.heap.size + 1 + 1, 0, none⟩ v0).setCell ⟨w.heap.size + 1 + 1 + 1, 0, none⟩ v1).setCell ⟨w.heap.size + 1 + 1 + 1, 1, none⟩ v2).setCell ⟨w.heap.size + 1 + 1 + 1 + 1, 0, none⟩ v3) (fun b => w.heap.size ≤ b ∧ b < W'.heap.size) := fun v0 v1 v2 v3 =>
            ((((Kept.refl w3 _).set (.inl ⟨by omega, by omega⟩)).set (.inl ⟨by omega, by omega⟩)).set (.inl ⟨by omega, by omega⟩)).set (.inl ⟨by omega, by omega⟩)
          have ko : ∀ (v0 v1 v2 v3 : Value), KeepsOthers W' ((((w3.setCell ⟨w.heap.size + 1 + 1, 0, none⟩ v0).setCell ⟨w.heap.size + 1 + 1 + 1, 0, none⟩ v1).setCell ⟨w.heap.size + 1 + 1 + 1, 1, none⟩ v2).setCell ⟨w.heap.size + 1 + 1 + 1 + 1, 0, none⟩ v3) := fun v0 v1 v2 v3 =>
            ((((keeps_below HBall.out).trans (KeepsOthers.setCell _ _ _)).trans (KeepsOthers.setCell _ _ _)).trans (KeepsOthers.setCell _ _ _)).trans (KeepsOthers.setCell _ _ _)
          refine ⟨(ko _ _ _ _).from _, ⟨rfl, pre', y, rfl, Hq.out, Hcc.out.symm, A3, c3, (by simp only [List.length_set]; exact e2 _ _ _ _), e3 _ _ _ _, e4 _ _ _ _, (HGO.out.keep (ek _ _ _ _) (fun b q => q.2)).more (by show w.heap.size ≤ W'.heap.size; omega)⟩, ?_, ?_⟩
          · exact ((hBW.mono (by omega)).trans (HBall.out.mono (by omega))).trans ((ek _ _ _ _).below (fun b q => q.1) (by have := HBall.out.size; omega))
          · exact ((keeps_below hBW).trans (ko _ _ _ _)).from _
      case done3 =>
        rintro ys' W' rfl ⟨⟨hq, hK2⟩, hBW⟩
        gi_wp2
        have hB2 : Below w.heap.size W W' := hBW.mono (by omega)
        exact ⟨(keeps_below hBW).from _, hBW.mono (by omega), ⟨⟨fun z hz => (List.mem_append.1 hz).elim (HP.out z) (fun e => by rw [List.mem_singleton] at e; subst e; rw [Hfr.out]; exact freeIn_none Hbne.out hq), HX.out.keep hBW⟩, HMb.out.kept (row := none) ⟨hBW.os, hBW.tape, hBW.output, hBW.size, fun k hk _ => hBW.block k hk⟩ (by simp)⟩, HB.out.trans hB2⟩
      case stop3 =>
        rintro cd pre' W' hpre ⟨⟨rfl, p, b, rfl, hp1, hp2, hD⟩, hBW, hKF⟩
        gi_wp2
        obtain ⟨b', hb1, hb2⟩ := freeIn_some Hbne.out hpre hp1 hp2
        refine ⟨by rw [← hsz]; exact hKF, ⟨rfl, pre, x, b', rfl, HP.out, by rw [Hfr.out]; exact hb2, by rw [hb1]; exact hD⟩, HB.out.trans hBW⟩
  case done =>
    rintro D zs W hD rfl ⟨⟨⟨hp, hX⟩, hM⟩, hB⟩ hK
    have d2 := cellAt_of hX.b2 0
    have d30 := cellAt_of hX.b3 0
    have d31 := cellAt_of hX.b3 1
    have d4 := cellAt_of hX.b4 0
    simp only [List.getElem?_toArray, List.getElem?_cons_zero, List.getElem?_cons_succ] at d2 d30 d31 d4
    have f2 := frozen_of_row W _ 0 _ 39 hX.b2
    have f30 := frozen_of_row W _ 0 _ 41 hX.b3
    have f31 := frozen_of_row W _ 1 _ 41 hX.b3
    have f4 := frozen_of_row W _ 0 _ 28 hX.b4
    have HX := Lib.hid hX
    have HE := Lib.hid (takeG_none Hml.out hp)
    have HK := Lib.hid hK
    have HB := Lib.hid hB
    clear hX hp hM hB hK
    gi_wp2
    obtain ⟨Wf, hWf⟩ : ∃ Wf, Wf = (((W.setCell ⟨w.heap.size + 1 + 1, 0, none⟩ (.slice none 0 0)).setCell ⟨w.heap.size + 1 + 1 + 1, 0, none⟩ (.int .i64 0)).setCell ⟨w.heap.size + 1 + 1 + 1, 1, none⟩ (.int .i64 0)).setCell ⟨w.heap.size + 1 + 1 + 1 + 1, 0, none⟩ (.int .i64 4) := ⟨_, rfl⟩
    have e2 : Blk Wf (w.heap.size + 1 + 1) 39 #[.slice none 0 0] := by
      rw [hWf]; exact (set_other (by omega) _).trans ((set_other (by omega) _).trans ((set_other (by omega) _).trans (set_heap HX.out.b2 _)))
    have e3 : Blk Wf (w.heap.size + 1 + 1 + 1) 41 #[.int .i64 0, .int .i64 0] := by
      rw [hWf]; exact (set_other (by omega) _).trans (set_heap (set_heap ((set_other (by omega) _).trans HX.out.b3) _) _)
    have e4 : Blk Wf (w.heap.size + 1 + 1 + 1 + 1) 28 #[.int .i64 4] := by
      rw [hWf]; exact set_heap ((set_other (by omega) _).trans ((set_other (by omega) _).trans ((set_other (by omega) _).trans HX.out.b4))) _
    have ko : KeepsOthers W Wf := by
      rw [hWf]; exact (((KeepsOthers.setCell _ _ _).trans (KeepsOthers.setCell _ _ _)).trans (KeepsOthers.setCell _ _ _)).trans (KeepsOthers.setCell _ _ _)
    have hbf : Below w.heap.size w Wf := by
      rw [hWf]; exact (((HB.out.setCell (p := ⟨w.heap.size + 1 + 1, 0, none⟩) (by dsimp only; omega) _).setCell (p := ⟨w.heap.size + 1 + 1 + 1, 0, none⟩) (by dsimp only; omega) _).setCell (p := ⟨w.heap.size + 1 + 1 + 1, 1, none⟩) (by dsimp only; omega) _).setCell (p := ⟨w.heap.size + 1 + 1 + 1 + 1, 0, none⟩) (by dsimp only; omega) _
    rw [← hWf]
    clear hWf
    have hKf : Wf.heap[D]? = some (.deferred (some [])) := ko.same D _ HK.out rfl
    refine ⟨by simp, .inl ⟨_, _, rfl, run_takeDeferred hKf, ?_⟩⟩
    have hS : Same Wf (Wf.putObj D (.deferred none)) := same_of_grown (grownBy_putObj' _ D (.deferred none)) (fun r e => by cases e; exact ⟨_, hKf, rfl⟩)
    have q2 := cellAt_of (e2.same hS) 0
    have q30 := cellAt_of (e3.same hS) 0
    have q31 := cellAt_of (e3.same hS) 1
    have q4 := cellAt_of (e4.same hS) 0
    simp only [List.getElem?_toArray, List.getElem?_cons_zero, List.getElem?_cons_succ] at q2 q30 q31 q4
    refine ⟨.tuple #[.slice none 0 0, .agg #[.int .i64 0, .int .i64 0], .int .i64 4], by simp [results, Try.f26, go_sem, q2, q30, q31, q4], ?_⟩
    rw [HE.out]
    exact ⟨none, 0, rfl, .inl ⟨rfl, rfl, rfl⟩, hbf.trans (belowK_b (w := w) (Nat.le_refl _) Wf D _ _ (by omega) hKf rfl rfl)⟩
  case stop =>
    rintro D cd pre W hD hpre ⟨⟨rfl, p, g, b, rfl, hp1, hp2, A', c', h2, h3, h4, hGO⟩, hB⟩ hK
    have HE := Lib.hid (takeG_some Hml.out hpre hp1 hp2)
    gi_wp2
    refine ⟨by simp, .inl ⟨_, _, rfl, run_takeDeferred hK, ?_⟩⟩
    have hS : Same W (W.putObj D (.deferred none)) := same_of_grown (grownBy_putObj' _ D (.deferred none)) (fun r e => by cases e; exact ⟨_, hK, rfl⟩)
    have q2 := cellAt_of (h2.same hS) 0
    have q30 := cellAt_of (h3.same hS) 0
    have q31 := cellAt_of (h3.same hS) 1
    have q4 := cellAt_of (h4.same hS) 0
    simp only [List.getElem?_toArray, List.getElem?_cons_zero, List.getElem?_cons_succ] at q2 q30 q31 q4
    refine ⟨.tuple #[.slice A' (l.set g.1 (useC (cyN l g.1) b.1)).length c', .agg #[.int .i64 g.1, .int .i64 b.1], .int .i64 0], by simp [results, Try.f26, go_sem, q2, q30, q31, q4], ?_⟩
    rw [HE.out]
    exact ⟨A', c', rfl, hGO.same hS, hB.trans (belowK_b (w := w) (Nat.le_refl _) W D _ _ (by omega) hK rfl rfl)⟩
end Go.Proofs.Ytpcindemkkdbbaa
