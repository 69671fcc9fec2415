/- An engine to which patches of one letter are added: New, Size, refuses. -/
import Derived.Test.YthibnnllecdpaaaNE
import Derived.Test.YthibnnllecdpaaaND
import Derived.Test.YthibnnllecdpaaaV
namespace Go.Proofs.Ythibnnllecdpaaa
open Go.RowKit

def lx : ByteArray := ⟨#[120]⟩
/-- one that waits: its number, its block, what it comes behind -/
structure Wt where
  num : Int
  b : Int
  A : Option Addr
  n : Nat
  c : Nat
def Wt.cs (x : Wt) : List Value := [.int .i64 x.num, .int .i64 x.b, .int .i64 0, .string lx, .slice x.A x.n x.c, .bool false]
def flatW (l : List Wt) : List Value := l.flatMap Wt.cs
def wn (l : List Wt) (k : Nat) : Wt := l.getD k ⟨0, 0, none, 0, 0⟩
theorem wn_lt {l : List Wt} {k : Nat} (h : k < l.length) : wn l k = l[k] := by
  unfold wn; rw [List.getD_eq_getElem?_getD, List.getElem?_eq_getElem h]; rfl
theorem flatW_cons (h : Wt) (l : List Wt) : flatW (h :: l) = h.cs ++ flatW l := by simp [flatW]
theorem length_flatW (l : List Wt) : (flatW l).length = l.length * 6 := by
  induction l with
  | nil => rfl
  | cons h r ih => rw [flatW_cons, List.length_append, ih]; simp [Wt.cs]; omega
theorem flatW_drop (l : List Wt) (k : Nat) : (flatW l).drop (k * 6) = flatW (l.drop k) := by
  induction l generalizing k with
  | nil => simp [flatW]
  | cons h r ih =>
    cases k with
    | zero => simp
    | succ k => rw [List.drop_succ_cons, flatW_cons, ← ih, show (k + 1) * 6 = k * 6 + 6 by omega]; simp [Wt.cs]
theorem flatW_get {l : List Wt} {k j : Nat} (hk : k < l.length) (hj : j < 6) : (flatW l)[k * 6 + j]? = (wn l k).cs[j]? := by
  have h := List.getElem?_drop (xs := flatW l) (i := k * 6) (j := j)
  rw [← h, flatW_drop, List.drop_eq_getElem_cons hk, flatW_cons, List.getElem?_append_left (by simpa [Wt.cs] using hj), wn_lt hk]
/-- an engine over a disk of forty blocks on which nothing waits -/
structure EngAt (B : Nat) (w : World) (ge gd : Nat) (k : Int) (vw : Value) (l : List Wt) : Prop where
  head : w.heap[ge]? = some (.cells #[.pointer (some ⟨gd, 0, none⟩), .int .i64 k, vw] 84 (0, 0))
  disk : DiskE w gd 40
  row : w.ownsRow B 98 6 vw l.length (flatW l)
  lo : B ≤ ge
/-- the blocks S are of these two types -/
def Typed (w : World) (S : Nat → Prop) (T1 T2 : TypeId) : Prop := ∀ k, S k → ∃ cs t, w.heap[k]? = some (.cells cs t (0, 0)) ∧ (t = T1 ∨ t = T2)
theorem Typed.cache {T E : TypeId} {B : Nat} {w : World} {g : Nat} {v : Value} {m : Int} {l : List H} (h : CacheAt T E B w g v m l) : Typed w (At g v) T E := fun _ hk => At.typed h hk
theorem Typed.not {w : World} {S : Nat → Prop} {T1 T2 t : TypeId} (h : Typed w S T1 T2) {k : Nat} {cs : Array Value} (hk : w.heap[k]? = some (.cells cs t (0, 0))) (h1 : t ≠ T1) (h2 : t ≠ T2) : ¬ S k := by
  intro hs
  obtain ⟨cs', t', e, ht⟩ := h k hs
  rw [hk] at e
  simp at e
  obtain ⟨_, rfl⟩ := e
  rcases ht with q | q
  · exact h1 q
  · exact h2 q
theorem Typed.notMap {w : World} {S : Nat → Prop} {T1 T2 : TypeId} (h : Typed w S T1 T2) {k : Nat} {es : Array MapEntry} {cl : Nat} (hk : w.heap[k]? = some (.map es cl)) : ¬ S k := by
  intro hs
  obtain ⟨cs', t', e, ht⟩ := h k hs
  rw [hk] at e
  cases e
theorem row_not {w : World} {S : Nat → Prop} {T1 T2 e : TypeId} {B size n : Nat} {v : Value} {xs : List Value} (h : Typed w S T1 T2) (hr : w.ownsRow B e size v n xs) (h1 : e ≠ T1) (h2 : e ≠ T2) : ∀ k, v.ownBlock = some k → ¬ S k := by
  intro k hk
  rcases hr.2 with ⟨rfl, _⟩ | ⟨b, cap, cur, rfl, _, hb, _⟩
  · simp [Value.ownBlock] at hk
  · have : b = k := by simpa [Value.ownBlock] using hk
    subst this
    exact h.not hb h1 h2
theorem DiskE.besideT {w w' : World} {S : Nat → Prop} {T1 T2 : TypeId} {g : Nat} {n : Int} (h : DiskE w g n) (hk : Kept w w' S) (hS : Typed w S T1 T2) (h1 : (93 : TypeId) ≠ T1) (h2 : (93 : TypeId) ≠ T2) : DiskE w' g n := by
  obtain ⟨H, mb, a1, a2, a3, ⟨es, clock, hb, F, hs, hD⟩, a5⟩ := h
  refine ⟨H, mb, a1, a2, ?_, ⟨es, clock, ?_, F, hs, hD⟩, Nat.lt_of_lt_of_le a5 hk.size⟩
  · rw [hk.block g (Array.getElem?_eq_some_iff.1 a3).1 (hS.not a3 h1 h2)]; exact a3
  · rw [hk.block mb a5 (hS.notMap hb)]; exact hb
theorem EngAt.besideT {B : Nat} {w w' : World} {S : Nat → Prop} {T1 T2 : TypeId} {ge gd : Nat} {k : Int} {vw : Value} {l : List Wt} (h : EngAt B w ge gd k vw l) (hk : Kept w w' S) (hS : Typed w S T1 T2)
    (a1 : (84 : TypeId) ≠ T1) (a2 : (84 : TypeId) ≠ T2) (b1 : (93 : TypeId) ≠ T1) (b2 : (93 : TypeId) ≠ T2) (c1 : (98 : TypeId) ≠ T1) (c2 : (98 : TypeId) ≠ T2) : EngAt B w' ge gd k vw l :=
  ⟨by rw [hk.block ge (Array.getElem?_eq_some_iff.1 h.head).1 (hS.not h.head a1 a2)]; exact h.head, h.disk.besideT hk hS b1 b2, hk.row h.row (row_not hS h.row c1 c2), h.lo⟩
theorem CacheAt.besideT {T E : TypeId} {B : Nat} {w w' : World} {g : Nat} {v : Value} {m : Int} {l : List H} {S : Nat → Prop} {T1 T2 : TypeId} (h : CacheAt T E B w g v m l) (hk : Kept w w' S) (hS : Typed w S T1 T2)
    (a1 : T ≠ T1) (a2 : T ≠ T2) (b1 : E ≠ T1) (b2 : E ≠ T2) : CacheAt T E B w' g v m l :=
  h.keep hk (hS.not h.head a1 a2) (row_not hS h.row b1 b2)
theorem EngAt.fresh {B : Nat} {w w' : World} {ge gd : Nat} {k : Int} {vw : Value} {l : List Wt} (h : EngAt B w ge gd k vw l) (hb : Below w.heap.size w w') : EngAt B w' ge gd k vw l :=
  ⟨by rw [hb.block ge (Array.getElem?_eq_some_iff.1 h.head).1]; exact h.head, h.disk.next hb, (Kept.fresh (S := fun _ => False) hb).row h.row (fun _ _ q => q), h.lo⟩
theorem EngAt.glt {B : Nat} {w : World} {ge gd : Nat} {k : Int} {vw : Value} {l : List Wt} (h : EngAt B w ge gd k vw l) : ge < w.heap.size := (Array.getElem?_eq_some_iff.1 h.head).1
theorem EngAt.c0 {B : Nat} {w : World} {ge gd : Nat} {k : Int} {vw : Value} {l : List Wt} (h : EngAt B w ge gd k vw l) : w.cell? ⟨ge, 0, none⟩ = some (.pointer (some ⟨gd, 0, none⟩)) := cell_of_row w ge 0 _ 84 (0, 0) h.head
theorem EngAt.c1 {B : Nat} {w : World} {ge gd : Nat} {k : Int} {vw : Value} {l : List Wt} (h : EngAt B w ge gd k vw l) : w.cell? ⟨ge, 1, none⟩ = some (.int .i64 k) := cell_of_row w ge 1 _ 84 (0, 0) h.head
theorem EngAt.c2 {B : Nat} {w : World} {ge gd : Nat} {k : Int} {vw : Value} {l : List Wt} (h : EngAt B w ge gd k vw l) : w.cell? ⟨ge, 2, none⟩ = some vw := cell_of_row w ge 2 _ 84 (0, 0) h.head
theorem EngAt.free {B : Nat} {w : World} {ge gd : Nat} {k : Int} {vw : Value} {l : List Wt} (h : EngAt B w ge gd k vw l) (j : Nat) : w.frozen? ⟨ge, j, none⟩ = false := frozen_of_row w ge j _ 84 h.head
set_option maxRecDepth 100000 in
theorem enew_any (gd : Nat) (w : World) (h : DiskE w gd 40) :
    Calls Try.prog 26 #[.pointer (some ⟨gd, 0, none⟩)] w fun e w' => ∃ ge gd', e = .returned (.pointer (some ⟨ge, 0, none⟩)) ∧ EngAt w.heap.size w' ge gd' 0 (.slice none 0 0) [] ∧ Below w.heap.size w w' := by
  have HF := Lib.hid (dfork_any gd 40 w h)
  clear h
  go_enter Try.func26, Try.ntmps26
  go_wp2_with (first
    | (go_at_call 48; refine HF.out.mono ?_; rintro e w1 ⟨g1, rfl, hd1, hb1⟩; have HD1 := Lib.hid hd1; have HB1 := Lib.hid hb1; clear hd1 hb1)
    | (go_at_call 49; refine (dflush_any g1 40 _ HD1.out).mono ?_; rintro e w2 ⟨rfl, hb2⟩; have HD2 := Lib.hid (HD1.out.next hb2); have HB2 := Lib.hid (HB1.out.trans (hb2.mono HB1.out.size)); clear hb2))
  go_ret
  refine ⟨_, g1, rfl, ⟨heap_alloc_new _ _, HD2.out.next ((Below.refl _ _).alloc (Nat.le_refl _) _), World.ownsRow_nil _ _ _ _, HB2.out.size⟩, HB2.out.alloc HB2.out.size _⟩
theorem esize_any (B ge gd : Nat) (k : Int) (vw : Value) (l : List Wt) (w : World) (h : EngAt B w ge gd k vw l) :
    Calls Try.prog 30 #[.pointer (some ⟨ge, 0, none⟩)] w fun e w' => e = .returned (.int .i64 40) ∧ w = w' := by
  have h0 := h.c0
  have HS := Lib.hid (dsize_any gd 40 w h.disk)
  clear h
  go_enter Try.func30, Try.ntmps30
  go_wp2_with (refine HS.out.mono ?_; rintro e w' ⟨rfl, rfl⟩)
  go_ret
  exact ⟨rfl, rfl⟩
set_option maxRecDepth 100000 in
set_option maxHeartbeats 2000000 in
theorem refuses_any (B ge gd bi : Nat) (k : Int) (A : Option Addr) (cap : Nat) (l : List Wt) (b : Int) (w : World) (hE : EngAt B w ge gd k (.slice A l.length cap) l) (hl : l.length ≤ 100) (hb0 : 0 ≤ b) (hb1 : b < 40)
    (hi : w.heap[bi]? = some (.cells #[.int .i64 b, .int .i64 0, .string lx, .slice none 0 0] 61 (0, 0))) :
    Calls Try.prog 50 #[.pointer (some ⟨ge, 0, none⟩), .slice (some ⟨bi, 0, none⟩) 1 1] w fun e w' => e = .returned (.int .i64 0) ∧ Below w.heap.size w w' := by
  have HE := Lib.hid hE
  have e0 := hE.c0
  have e1 := hE.c1
  have e2 := hE.c2
  have hge := hE.glt
  have i0 : w.cell? ⟨bi, 0, none⟩ = some (.int .i64 b) := cell_of_row w bi 0 _ 61 (0, 0) hi
  have i1 : w.cell? ⟨bi, 1, none⟩ = some (.int .i64 0) := cell_of_row w bi 1 _ 61 (0, 0) hi
  have i2 : w.cell? ⟨bi, 2, none⟩ = some (.string lx) := cell_of_row w bi 2 _ 61 (0, 0) hi
  have i3 : w.cell? ⟨bi, 3, none⟩ = some (.slice none 0 0) := cell_of_row w bi 3 _ 61 (0, 0) hi
  have hbi := (Array.getElem?_eq_some_iff.1 hi).1
  have HR := Lib.hid (fun W => Pat.right_yes ⟨b, 0, lx⟩ W (Pat.Pt.right_in ⟨hb0, (show b < 96 by omega), (show (0 : Int) ≤ 0 by decide), (show (0 : Int) < 32 by decide), (show 1 ≤ lx.size by decide), (show ((lx.size : Nat) : Int) ≤ 32 - 0 by decide)⟩))
  unfold Pat.Pt.v at HR
  have HS := Lib.hid (fun W hb => dsize_any gd 40 W (HE.out.disk.next hb))
  have HI := Lib.hid hi
  generalize hlx : lx = s at *
  clear hE hi hlx
  go_enter Try.func50, Try.ntmps50
  go_wp2
  refine wp_loop_rounds 2 ?_
  rw [rounds_succ]
  go_wp2
  have hB1 : Below w.heap.size w (w.alloc (.cells #[.int .i64 b, .int .i64 0, .string s, .slice none 0 0] 61)) := (Below.refl _ _).alloc (Nat.le_refl _) _
  have hp1 : (w.alloc (.cells #[.int .i64 b, .int .i64 0, .string s, .slice none 0 0] 61)).heap[w.heap.size]? = some (.cells #[.int .i64 b, .int .i64 0, .string s, .slice none 0 0] 61 (0, 0)) := heap_alloc_new w _
  generalize w.alloc (.cells #[.int .i64 b, .int .i64 0, .string s, .slice none 0 0] 61) = W1 at hB1 hp1 ⊢
  have hz1 := hB1.size
  have hpW : w.heap.size < W1.heap.size := (Array.getElem?_eq_some_iff.1 hp1).1
  have HX : Hid (∀ W, Below W1.heap.size W1 W → W.cell? ⟨w.heap.size, 0, none⟩ = some (.int .i64 b) ∧ W.cell? ⟨w.heap.size, 1, none⟩ = some (.int .i64 0) ∧ W.cell? ⟨w.heap.size, 2, none⟩ = some (.string s) ∧ W.cell? ⟨ge, 0, none⟩ = some (.pointer (some ⟨gd, 0, none⟩))) := fun W hW => by
    have hh := (hW.block _ hpW).trans hp1
    exact ⟨cell_of_row W _ 0 _ 61 (0, 0) hh, cell_of_row W _ 1 _ 61 (0, 0) hh, cell_of_row W _ 2 _ 61 (0, 0) hh, (HE.out.fresh (hB1.trans (hW.mono hz1))).c0⟩
  have HB1 := Lib.hid hB1
  have X0 := Lib.hid (HX.out _ ((Below.refl _ _).drew))
  have hb40 : ¬ 40 ≤ b := by omega
  clear hp1 hB1
  go_region_held3 (fun w' => w'.cell? ⟨w.heap.size, 0, none⟩ = some (.int .i64 b) ∧ w'.cell? ⟨w.heap.size, 1, none⟩ = some (.int .i64 0) ∧ w'.cell? ⟨w.heap.size, 2, none⟩ = some (.string s) ∧ w'.cell? ⟨ge, 0, none⟩ = some (.pointer (some ⟨gd, 0, none⟩))) (first | exact X2.out | exact X0.out | go_keep)
    (first
      | (go_at_call 60; (with_reducible refine (HR.out _).mono ?_); rintro e w2 ⟨rfl, hb2⟩; have HB2 : Hid (Below W1.heap.size W1 w2) := (((Below.refl _ _).drew).trans hb2); have X2 := Lib.hid (HX.out _ HB2.out); clear hb2)
      | (go_at_call 54; (with_reducible refine (HS.out _ (HB1.out.trans (HB2.out.mono hz1))).mono ?_); rintro e w' ⟨rfl, rfl⟩))
  all_goals
    have hB2 : Below w.heap.size w w2 := HB1.out.trans (HB2.out.mono hz1)
    have HBw := Lib.hid hB2
    have f1 := (HE.out.fresh hB2).c1
    have f2 := (HE.out.fresh hB2).c2
    have fg := (HE.out.fresh hB2).glt
    have hh := (hB2.block _ hbi).trans HI.out
    have j0 : w2.cell? ⟨bi, 0, none⟩ = some (.int .i64 b) := cell_of_row w2 bi 0 _ 61 (0, 0) hh
    have j1 : w2.cell? ⟨bi, 1, none⟩ = some (.int .i64 0) := cell_of_row w2 bi 1 _ 61 (0, 0) hh
    have j2 : w2.cell? ⟨bi, 2, none⟩ = some (.string s) := cell_of_row w2 bi 2 _ 61 (0, 0) hh
    have j3 : w2.cell? ⟨bi, 3, none⟩ = some (.slice none 0 0) := cell_of_row w2 bi 3 _ 61 (0, 0) hh
    have fb : bi < w2.heap.size := (Array.getElem?_eq_some_iff.1 hh).1
    have hfull : ¬ 200 - (l.length : Int) < 1 := by omega
    have hl0 : (0 : Int) ≤ (l.length : Int) := by omega
    have hl1 : (l.length : Int) ≤ 100 := by omega
    clear hh hB2 e0 e1 e2 i0 i1 i2 i3
    go_wp2
    rw [rounds_succ]
    go_wp2
    refine wp_loop_rounds 2 ?_
    rw [rounds_succ]
    go_wp2
    refine wp_loop_rounds 1 ?_
    rw [rounds_succ]
    go_wp2
    rw [rounds_succ]
    go_wp2
    go_ret
    exact ⟨rfl, HBw.out.alloc HBw.out.size _⟩
end Go.Proofs.Ythibnnllecdpaaa
