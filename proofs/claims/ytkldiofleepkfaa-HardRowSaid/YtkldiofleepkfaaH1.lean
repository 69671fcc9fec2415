/- The disk and patches: DA DB DC DE DF DG DU. -/
import Derived.Below
import Derived.Laws.OwnMore
import Derived.Deep.AppendLies
import Derived.Deep.Draws
import Derived.WalkKit
import Derived.Test.YtkldiofleepkfaaProg
import Derived.WalkLawsBesides
import Derived.WalkSpells
import Derived.Deep.QuietTactic
import Derived.BigQuiet
import Derived.Lib.Hide
import Derived.Laws.BytesArg
import Derived.Deep.OwnRows
import Derived.Laws.CopyOwn
import Derived.Deep.RegionWith
import Derived.Deep.DeepFit
import Derived.IntWalk
import Derived.Deep.RegionHeld3
import Derived.Laws.IdiomStrings
import Derived.Laws.AppendOwnNone
import Derived.BigRegion
/- Plain words on bits in bytes, and a slice of bytes that reads as a list. No program is imported. -/
namespace Go.Proofs.Ytkldiofleepkfaa
open Go.RowKit

/-- the numbers of bytes -/
def AllB (l : List Int) : Prop := ∀ x ∈ l, 0 ≤ x ∧ x ≤ 255

/-- the k-th byte (0 beyond the end) -/
def nth (l : List Int) (k : Nat) : Int := l.getD k 0
/-- the value of the i-th bit in its byte -/
def mk8 (i : Int) : Int := 2 ^ (i % 8).toNat

/-- a slice's address under which, below block B, the cells are the bytes l -/
def Bts (w : World) (B : Nat) (A : Option Addr) (l : List Int) : Prop :=
  AllB l ∧ (0 < l.length → ∃ b off, A = some ⟨b, off, none⟩ ∧ b < B ∧ ∀ j, j < l.length → w.cell? ⟨b, off + j, none⟩ = some (.int .u8 (nth l j)))

/-- the i-th bit of bytes, by the document -/
def bitN (l : List Int) (i : Nat) : Bool := (nth l (i / 8)).toNat.testBit (i % 8)
def bitI (l : List Int) (i : Int) : Bool := decide (0 ≤ i) && bitN l i.toNat
def hasB (n : Nat) (i : Int) : Bool := decide (0 ≤ i) && decide (i / 8 < (n : Int))

theorem nth_lt {l : List Int} {k : Nat} (h : k < l.length) : nth l k = l[k] := by
  unfold nth; rw [List.getD_eq_getElem?_getD, List.getElem?_eq_getElem h]; rfl
theorem nth_ge {l : List Int} {k : Nat} (h : l.length ≤ k) : nth l k = 0 := by
  unfold nth; rw [List.getD_eq_getElem?_getD, List.getElem?_eq_none h]; rfl
theorem AllB.nth {l : List Int} (h : AllB l) (j : Nat) : 0 ≤ nth l j ∧ nth l j ≤ 255 := by
  unfold Ytkldiofleepkfaa.nth
  rcases Nat.lt_or_ge j l.length with hj | hj
  · rw [List.getD_eq_getElem?_getD, List.getElem?_eq_getElem hj]; exact h _ (List.getElem_mem hj)
  · rw [List.getD_eq_getElem?_getD, List.getElem?_eq_none hj]; exact ⟨by simp, by simp⟩

section
variable {w w' : World} {B B' : Nat} {A : Option Addr} {l : List Int}
theorem Bts.at_ (h : Bts w B A l) {k : Nat} (hk : k < l.length) : ∃ b off, A = some ⟨b, off, none⟩ ∧ b < B ∧ w.cell? ⟨b, off + k, none⟩ = some (.int .u8 (nth l k)) := by
  obtain ⟨b, off, e, hb, hc⟩ := h.2 (by omega)
  exact ⟨b, off, e, hb, hc k hk⟩
theorem Bts.keep (h : Bts w B A l) (hk : ∀ p : Addr, p.block < B → w'.cell? p = w.cell? p) : Bts w' B A l :=
  ⟨h.1, fun hn => by
    obtain ⟨b, off, e, hb, hc⟩ := h.2 hn
    exact ⟨b, off, e, hb, fun j hj => (hk _ hb).trans (hc j hj)⟩⟩
theorem Bts.more (h : Bts w B A l) (hB : B ≤ B') : Bts w B' A l :=
  ⟨h.1, fun hn => by
    obtain ⟨b, off, e, hb, hc⟩ := h.2 hn
    exact ⟨b, off, e, by omega, hc⟩⟩
theorem Bts.below (h : Bts w B A l) (hb : Below B w w') : Bts w' B A l := h.keep fun _ hp => hb.cell hp
theorem Bts.take (h : Bts w B A l) (k : Nat) : Bts w B A (l.take k) := by
  refine ⟨fun x hx => h.1 x (List.mem_of_mem_take hx), fun hn => ?_⟩
  rw [List.length_take] at hn
  obtain ⟨b, off, e, hb, hc⟩ := h.2 (by omega)
  refine ⟨b, off, e, hb, fun j hj => ?_⟩
  rw [List.length_take] at hj
  unfold nth
  rw [hc j (by omega)]
  unfold nth
  rw [List.getD_eq_getElem?_getD, List.getD_eq_getElem?_getD, List.getElem?_take, if_pos (by omega)]
theorem Bts.nil : Bts w B A [] := ⟨by simp [AllB], by simp⟩
end

end Go.Proofs.Ytkldiofleepkfaa

/- Plain words on patches: a patch's value, whether it is right, a block behind it; contracts of 'mayBe', 'end', 'Right'. -/
namespace Go.Proofs.Ytkldiofleepkfaa
open Go.RowKit

theorem ret_int {k : IntKind} {a b : Int} (h : a = b) : Ending.returned (.int k a) = .returned (.int k b) := by rw [h]
theorem ret_bool {a b : Bool} (h : a = b) : Ending.returned (.bool a) = .returned (.bool b) := by rw [h]

/-- a patch -/
structure Pt where
  b : Int
  o : Int
  s : ByteArray
def Pt.v (p : Pt) : Value := .agg #[.int .i64 p.b, .int .i64 p.o, .string p.s]
/-- its numbers are ints, its text is no longer than a text can be -/
def Pt.ok (p : Pt) : Prop := (-9223372036854775808 ≤ p.b ∧ p.b ≤ 9223372036854775807) ∧ (-9223372036854775808 ≤ p.o ∧ p.o ≤ 9223372036854775807) ∧ p.s.size ≤ maxLen
def Pt.right (p : Pt) : Bool := decide (0 ≤ p.b) && decide (p.b < 96) && decide (0 ≤ p.o) && decide (p.o < 32) && decide (1 ≤ p.s.size) && decide ((p.s.size : Int) ≤ 32 - p.o)
theorem Pt.right_out {p : Pt} (h : p.right = true) : 0 ≤ p.b ∧ p.b < 96 ∧ 0 ≤ p.o ∧ p.o < 32 ∧ 1 ≤ p.s.size ∧ (p.s.size : Int) ≤ 32 - p.o := by
  simp only [Pt.right, Bool.and_eq_true, decide_eq_true_eq] at h
  exact ⟨h.1.1.1.1.1, h.1.1.1.1.2, h.1.1.1.2, h.1.1.2, h.1.2, h.2⟩
theorem Pt.right_in {p : Pt} (h : 0 ≤ p.b ∧ p.b < 96 ∧ 0 ≤ p.o ∧ p.o < 32 ∧ 1 ≤ p.s.size ∧ (p.s.size : Int) ≤ 32 - p.o) : p.right = true := by
  simp only [Pt.right, Bool.and_eq_true, decide_eq_true_eq]
  exact ⟨⟨⟨⟨⟨h.1, h.2.1⟩, h.2.2.1⟩, h.2.2.2.1⟩, h.2.2.2.2.1⟩, h.2.2.2.2.2⟩
theorem Pt.right_not {p : Pt} (h : ¬ (0 ≤ p.b ∧ p.b < 96 ∧ 0 ≤ p.o ∧ p.o < 32 ∧ 1 ≤ p.s.size ∧ (p.s.size : Int) ≤ 32 - p.o)) : p.right = false := by
  cases e : p.right with
  | false => rfl
  | true => exact absurd (Pt.right_out e) h

theorem mayBe_yes (b : Int) (w : World) (h0 : 0 ≤ b) (h1 : b < 96) :
    Calls Try.prog 52 #[.int .i64 b] w fun e w' => e = .returned (.bool true) ∧ w = w' := by
  go_enter Try.func52, Try.ntmps52
  go_wp2
  go_ret
  exact ⟨rfl, rfl⟩
theorem mayBe_no (b : Int) (w : World) (h : b < 0 ∨ 96 ≤ b) :
    Calls Try.prog 52 #[.int .i64 b] w fun e w' => e = .returned (.bool false) ∧ w = w' := by
  by_cases h0 : 0 ≤ b
  · have h1 : ¬ b < 96 := by omega
    go_enter Try.func52, Try.ntmps52
    go_wp2
    go_ret
    exact ⟨by simp, rfl⟩
  · go_enter Try.func52, Try.ntmps52
    go_wp2
    go_ret
    exact ⟨rfl, rfl⟩

theorem end_any (p : Pt) (w : World) (h0 : 0 ≤ p.o) (h1 : p.o < 32) (h2 : p.s.size ≤ 1000) :
    Calls Try.prog 63 #[p.v] w fun e w' => e = .returned (.int .i64 (p.o + p.s.size)) ∧ Below w.heap.size w w' := by
  obtain ⟨b, o, s⟩ := p
  unfold Pt.v
  simp only at *
  go_enter Try.func63, Try.ntmps63
  go_wp2
  go_ret
  exact ⟨rfl, (Below.refl _ _).alloc (Nat.le_refl _) _⟩

theorem right_yes (p : Pt) (w : World) (h : p.right = true) :
    Calls Try.prog 35 #[p.v] w fun e w' => e = .returned (.bool true) ∧ Below w.heap.size w w' := by
  obtain ⟨h1, h2, h3, h4, h5, h6⟩ := Pt.right_out h
  clear h
  obtain ⟨b, o, s⟩ := p
  unfold Pt.v
  simp only at *
  have h7 : s.size ≤ 1000 := by omega
  go_enter Try.func35, Try.ntmps35
  go_wp2_with (go_at_call 52; refine (mayBe_yes _ _ h1 h2).mono ?_; rintro e w' ⟨rfl, rfl⟩)
  go_ret
  exact ⟨by simp, (Below.refl _ _).alloc (Nat.le_refl _) _⟩
set_option maxHeartbeats 400000 in
theorem right_no (p : Pt) (w : World) (hp : p.ok) (h : p.right = false) :
    Calls Try.prog 35 #[p.v] w fun e w' => e = .returned (.bool false) ∧ Below w.heap.size w w' := by
  have h' : ¬ (0 ≤ p.b ∧ p.b < 96 ∧ 0 ≤ p.o ∧ p.o < 32 ∧ 1 ≤ p.s.size ∧ (p.s.size : Int) ≤ 32 - p.o) := fun e => by rw [Pt.right_in e] at h; cases h
  clear h
  obtain ⟨b, o, s⟩ := p
  obtain ⟨hb, ho, hs⟩ := hp
  unfold Pt.v
  unfold maxLen at hs
  simp only at *
  by_cases h0 : b < 0 ∨ 96 ≤ b
  · go_enter Try.func35, Try.ntmps35
    go_wp2_with (go_at_call 52; refine (mayBe_no _ _ h0).mono ?_; rintro e w' ⟨rfl, rfl⟩)
    go_ret
    exact ⟨rfl, (Below.refl _ _).alloc (Nat.le_refl _) _⟩
  · have h1 : 0 ≤ b := by omega
    have h2 : b < 96 := by omega
    by_cases h3 : 0 ≤ o
    · by_cases h4 : o < 32
      · by_cases h5 : (1 : Int) ≤ (s.size : Int)
        · have h6 : ¬ (s.size : Int) ≤ 32 - o := by omega
          clear h'
          go_enter Try.func35, Try.ntmps35
          go_wp2_with (go_at_call 52; refine (mayBe_yes _ _ h1 h2).mono ?_; rintro e w' ⟨rfl, rfl⟩)
          go_ret
          exact ⟨by simp; omega, (Below.refl _ _).alloc (Nat.le_refl _) _⟩
        · clear h'
          go_enter Try.func35, Try.ntmps35
          go_wp2_with (go_at_call 52; refine (mayBe_yes _ _ h1 h2).mono ?_; rintro e w' ⟨rfl, rfl⟩)
          go_ret
          exact ⟨rfl, (Below.refl _ _).alloc (Nat.le_refl _) _⟩
      · clear h'
        go_enter Try.func35, Try.ntmps35
        go_wp2_with (go_at_call 52; refine (mayBe_yes _ _ h1 h2).mono ?_; rintro e w' ⟨rfl, rfl⟩)
        go_ret
        exact ⟨rfl, (Below.refl _ _).alloc (Nat.le_refl _) _⟩
    · clear h'
      go_enter Try.func35, Try.ntmps35
      go_wp2_with (go_at_call 52; refine (mayBe_yes _ _ h1 h2).mono ?_; rintro e w' ⟨rfl, rfl⟩)
      go_ret
      exact ⟨rfl, (Below.refl _ _).alloc (Nat.le_refl _) _⟩
theorem right_any (p : Pt) (w : World) (hp : p.ok) :
    Calls Try.prog 35 #[p.v] w fun e w' => e = .returned (.bool p.right) ∧ Below w.heap.size w w' := by
  cases h : p.right
  · exact right_no p w hp h
  · exact right_yes p w h
end Go.Proofs.Ytkldiofleepkfaa

/- Blocks of cells; a patch in a block; one step of a drawn region. -/
namespace Go.Proofs.Ytkldiofleepkfaa
open Go.RowKit

def BlkIs (w : World) (g : Nat) (t : TypeId) (l : List Value) : Prop := w.heap[g]? = some (.cells l.toArray t (0, 0))
theorem BlkIs.cell {w : World} {g : Nat} {t : TypeId} {l : List Value} (h : BlkIs w g t l) (k : Nat) : w.cell? ⟨g, k, none⟩ = l[k]? := by
  unfold BlkIs at h
  simp [World.cell?, h]
theorem BlkIs.frozen {w : World} {g : Nat} {t : TypeId} {l : List Value} (h : BlkIs w g t l) (k : Nat) : w.frozen? ⟨g, k, none⟩ = false := by
  unfold BlkIs at h
  simp [World.frozen?, h]
theorem BlkIs.set_ {w : World} {g : Nat} {t : TypeId} {l : List Value} (h : BlkIs w g t l) (k : Nat) (v : Value) : BlkIs (w.setCell ⟨g, k, none⟩ v) g t (l.set k v) := by
  unfold BlkIs at h ⊢
  simp [World.setCell, Array.getElem?_modify, h]
theorem BlkIs.lt {w : World} {g : Nat} {t : TypeId} {l : List Value} (h : BlkIs w g t l) : g < w.heap.size := by
  rcases Nat.lt_or_ge g w.heap.size with hlt | hge
  · exact hlt
  · unfold BlkIs at h; rw [Array.getElem?_eq_none hge] at h; cases h
theorem BlkIs.below {w w' : World} {g B : Nat} {t : TypeId} {l : List Value} (h : BlkIs w g t l) (hB : Below B w w') (hg : g < B) : BlkIs w' g t l := by
  unfold BlkIs at h ⊢
  rw [hB.block g hg]; exact h
theorem BlkIs.drew {w : World} {g : Nat} {t : TypeId} {l : List Value} (h : BlkIs w g t l) : BlkIs w.drew g t l := h

/-- a block that holds a patch -/
def Pt.cs (p : Pt) : List Value := [.int .i64 p.b, .int .i64 p.o, .string p.s]
def Boxed (w : World) (g : Nat) (p : Pt) : Prop := BlkIs w g 32 p.cs
theorem Boxed.cells {w : World} {g : Nat} {p : Pt} (h : Boxed w g p) : w.cell? ⟨g, 0, none⟩ = some (.int .i64 p.b) ∧ w.cell? ⟨g, 1, none⟩ = some (.int .i64 p.o) ∧ w.cell? ⟨g, 2, none⟩ = some (.string p.s) := ⟨h.cell 0, h.cell 1, h.cell 2⟩
theorem Boxed.below {w w' : World} {g B : Nat} {p : Pt} (h : Boxed w g p) (hB : Below B w w') (hg : g < B) : Boxed w' g p := BlkIs.below h hB hg
theorem boxed1 (w : World) (p : Pt) : Boxed (w.alloc (.cells p.cs.toArray 32)) w.heap.size p := heap_alloc_new w _
theorem boxed2 (w : World) (p q : Pt) : Boxed ((w.alloc (.cells p.cs.toArray 32)).alloc (.cells q.cs.toArray 32)) w.heap.size p ∧ Boxed ((w.alloc (.cells p.cs.toArray 32)).alloc (.cells q.cs.toArray 32)) (w.heap.size + 1) q := by
  refine ⟨?_, ?_⟩
  · exact (boxed1 w p).below ((Below.refl _ _).alloc (Nat.le_refl _) _) (by simp)
  · have := boxed1 (w.alloc (.cells p.cs.toArray 32)) q
    simpa using this
theorem below_alloc1 (w : World) (x : Obj) : Below w.heap.size w (w.alloc x) := (Below.refl _ w).alloc (Nat.le_refl _) x
theorem below_alloc2 (w : World) (x y : Obj) : Below w.heap.size w ((w.alloc x).alloc y) := (below_alloc1 w x).alloc (by simp) y
/-- two patches that came in, laid, and what a callee of the two leaves -/
theorem Boxed.two {w w1 : World} {p q : Pt} (hB : Below (w.heap.size + 1 + 1) ((w.alloc (.cells p.cs.toArray 32)).alloc (.cells q.cs.toArray 32)) w1) :
    Below w.heap.size w w1 ∧ Boxed w1 w.heap.size p ∧ Boxed w1 (w.heap.size + 1) q :=
  ⟨(below_alloc2 w _ _).trans (hB.mono (by omega)), (boxed2 w p q).1.below hB (by omega), (boxed2 w p q).2.below hB (by omega)⟩
/-- the same behind one callee more -/
theorem Boxed.more {w w1 w2 : World} {p q : Pt} (h : Below w.heap.size w w1 ∧ Boxed w1 w.heap.size p ∧ Boxed w1 (w.heap.size + 1) q) (hB : Below w1.heap.size w1 w2) :
    Below w.heap.size w w2 ∧ Boxed w2 w.heap.size p ∧ Boxed w2 (w.heap.size + 1) q :=
  ⟨h.1.trans (hB.mono h.1.size), h.2.1.below hB (BlkIs.lt h.2.1), h.2.2.below hB (BlkIs.lt h.2.2)⟩

section
variable {P : Program} {ops : Array Oper} {Q : Exit → Act → World → Prop} {md : Region.Mode} {S : World → Prop}
/-- take one operation of a drawn region, the slot that it fills written out -/
theorem takeH {i : Nat} {oi : Oper} (d : Option Tmp) {v : Value} {fuel : Nat} {listed : Array Bool} {a : Act} {w : World} (hi : ops[i]? = some oi) (hd : oi.dst = d)
    (hs : Region.noSelect ops = true) (hf : Region.free md ops listed i = true) (hr : (Region.ready md ops listed).contains i = true)
    (hQ : ∀ c a w, Q (.panic c) (a.put d v) w → Q (.panic c) a w) (hw : Region.wanted oi (yielded ops a.tmps) = true) (hy : ∀ w, S w → (execOp a.eval oi).run P w = .ok (.value v) w) (hS : S w)
    (h : wpAnyH P md ops Q S fuel (listed.setIfInBounds i true) (a.put d v) w) : wpAnyH P md ops Q S (fuel + 1) listed a w := by
  subst hd
  exact wpAnyH_take hi hs hf hr hQ (Or.inl ⟨hw, hy⟩) hS h
/-- pass over one whose guard is false -/
theorem skipH {i : Nat} {oi : Oper} (d : Option Tmp) {fuel : Nat} {listed : Array Bool} {a : Act} {w : World} (hi : ops[i]? = some oi) (hd : oi.dst = d)
    (hs : Region.noSelect ops = true) (hf : Region.free md ops listed i = true) (hr : (Region.ready md ops listed).contains i = true)
    (hQ : ∀ c a w, Q (.panic c) (a.put d undef) w → Q (.panic c) a w) (hw : Region.wanted oi (yielded ops a.tmps) = false) (hS : S w)
    (h : wpAnyH P md ops Q S fuel (listed.setIfInBounds i true) (a.put d undef) w) : wpAnyH P md ops Q S (fuel + 1) listed a w := by
  subst hd
  exact wpAnyH_take hi hs hf hr hQ (Or.inr ⟨hw, rfl⟩) hS h
end

end Go.Proofs.Ytkldiofleepkfaa

/- What a patch writes: a block behind it; the law of a copy from a text; the contracts of 'write' and 'cut'. -/
namespace Go.Proofs.Ytkldiofleepkfaa
open Go.RowKit

/-- a text's bytes -/
def sb (s : ByteArray) : List Int := s.data.toList.map fun b => (b.toNat : Int)
theorem length_sb (s : ByteArray) : (sb s).length = s.size := by simp [sb]
theorem sb_all (s : ByteArray) : AllB (sb s) := by
  intro x hx
  obtain ⟨b, _, rfl⟩ := List.mem_map.1 hx
  have := b.toNat_lt
  omega
theorem strOf_sb (s : ByteArray) : strOfNums (sb s) = s := by
  unfold strOfNums sb
  rw [List.map_map]
  have : (fun n : Int => UInt8.ofNat n.toNat) ∘ (fun b : UInt8 => (b.toNat : Int)) = id := by funext b; simp
  rw [this]
  simp
theorem sb_strOf (l : List Int) (h : AllB l) : sb (strOfNums l) = l := by
  unfold sb
  rw [strOfNums_data, List.map_map]
  conv => rhs; rw [← List.map_id l]
  apply List.map_congr_left
  intro x hx
  obtain ⟨h0, h1⟩ := h x hx
  simp
  omega
theorem sb_inj {s t : ByteArray} (h : sb s = sb t) : s = t := by rw [← strOf_sb s, ← strOf_sb t, h]

def byteV (x : Int) : Value := .int .u8 x
def bytesV (l : List Int) : List Value := l.map byteV
theorem bytes_of_str (s : ByteArray) : (s.data.map fun b => Value.int .u8 b.toNat).toList = bytesV (sb s) := by simp [bytesV, sb, byteV]
theorem length_bytesV (l : List Int) : (bytesV l).length = l.length := by simp [bytesV]
theorem bytesV_one (l : List Int) : ∀ v ∈ bytesV l, v.oneCell' = true := by intro v hv; obtain ⟨x, _, rfl⟩ := List.mem_map.1 hv; rfl
theorem info5 : (Try.prog.info? 5).map (fun i => (i.zero, i.size, i.bytes)) = some (some (.int .u8 0), 1, 1) := by kernel_rfl
theorem size5 : (Try.prog.info? 5).map (·.size) = some 1 := by kernel_rfl

theorem splice_bytes (l m : List Int) (o : Nat) : splice (bytesV l) o (bytesV m) = bytesV (splice l o m) := by
  simp [splice, bytesV, List.map_take, List.map_drop]
theorem splice_all {l m : List Int} (hl : AllB l) (hm : AllB m) (o : Nat) : AllB (splice l o m) := by
  intro x hx
  simp only [splice, List.mem_append] at hx
  rcases hx with h | h | h
  · exact hl x (List.mem_of_mem_take h)
  · exact hm x h
  · exact hl x (List.mem_of_mem_drop h)
/-- a block behind a patch -/
def put (l : List Int) (p : Pt) : List Int := splice l p.o.toNat (sb p.s)
theorem put_all {l : List Int} (hl : AllB l) (p : Pt) : AllB (put l p) := splice_all hl (sb_all _) _
theorem length_put {l : List Int} {p : Pt} (hp : p.right = true) (hl : l.length = 32) : (put l p).length = 32 := by
  obtain ⟨_, _, h3, h4, h5, h6⟩ := Pt.right_out hp
  unfold put
  rw [length_splice _ _ _ (by rw [length_sb]; omega), hl]

/-- 'copy(row[o:], text)', the text no longer than what is there of the row -/
theorem run_copy_text (w : World) (dT sT ty elem : TypeId) (g o dLen dCap : Nat) (s : ByteArray) (cur : List Value) (t : TypeId)
    (hu : Try.prog.underlying dT = some (.slice elem)) (hs : (Try.prog.info? elem).map (·.size) = some 1)
    (hg : BlkIs w g t cur) (hn : s.size = dLen) (hfit : o + s.size ≤ cur.length) :
    (Builtin.copy_ #[dT, sT] ty #[.slice (some ⟨g, o, none⟩) dLen dCap, .string s]).run Try.prog w =
      .ok (goInt s.size) (w.setRow g (splice cur o (bytesV (sb s))).toArray) := by
  subst hn
  have hst := run_storeCells_at Try.prog g o t (bytesV (sb s)) 0 cur.toArray w hg (by rw [length_bytesV, length_sb]; simpa using hfit) (bytesV_one _)
  cases hq : Try.prog.info? elem with
  | none => simp [hq] at hs
  | some i =>
    have hi : i.size = 1 := by simpa [hq] using hs
    have hb := bytes_of_str s
    have hst' : (storeCells ⟨g, o, none⟩ (s.data.map fun b => Value.int .u8 b.toNat).toList).run Try.prog w = .ok () (w.setRow g (splice cur o (bytesV (sb s))).toArray) := by
      rw [hb]
      simpa [splice] using hst
    simp [Builtin.copy_, run_underlying hu, Builtin.lenOf, Builtin.firstCells, sizeOf, typeInfo, hq]
    simp at hst'
    rw [List.take_of_length_le (by simp), hst']
    rfl

/-- one step of a drawn region: 'copy' of a text -/
theorem step_copy_text {ops : Array Oper} {o : Oper} {a : Act} {w : World} {K : Act → World → Prop} {Q : Exit → Act → World → Prop} {E : Prop} (hgd : o.guard = none) (d s : Operand)
    (ho : o.op = .call { callee := .builtin .copy, args := #[d, s], argTypes := #[30, 9] })
    (g off dLen dCap : Nat) (t : ByteArray) (hd : a.eval d = .slice (some ⟨g, off, none⟩) dLen dCap) (hs : a.eval s = .string t)
    (cur : List Value) (ty : TypeId) (hg : BlkIs w g ty cur) (hn : t.size = dLen) (hfit : off + t.size ≤ cur.length)
    (h : K (a.put o.dst (goInt t.size)) (w.setRow g (splice cur off (bytesV (sb t))).toArray)) :
    if Region.wanted o (yielded ops a.tmps) = true then Oper.wp Try.prog o a w K Q else E := by
  have hw : Region.wanted o (yielded ops a.tmps) = true := by simp [Region.wanted, hgd]
  rw [if_pos hw]
  have hrun := run_copy_text w 30 9 o.type 5 g off dLen dCap t cur ty Try.underlying30 size5 hg hn hfit
  unfold Oper.wp
  simp [execOp, ho, resolve, invoke, builtin, hd, hs, hrun, Result.andThen]
  exact h

/-- one patch laid at the call's head, and nothing older turned -/
def St1 (w : World) (p : Pt) (W : World) : Prop := Below w.heap.size w W ∧ Boxed W w.heap.size p
theorem St1.cells {w W : World} {p : Pt} (h : St1 w p W) : W.cell? ⟨w.heap.size, 0, none⟩ = some (.int .i64 p.b) ∧ W.cell? ⟨w.heap.size, 1, none⟩ = some (.int .i64 p.o) ∧ W.cell? ⟨w.heap.size, 2, none⟩ = some (.string p.s) := h.2.cells
theorem St1.next {w W W' : World} {p : Pt} (h : St1 w p W) (hB : Below W.heap.size W W') : St1 w p W' := ⟨h.1.trans (hB.mono h.1.size), h.2.below hB (BlkIs.lt h.2)⟩
theorem St1.drew {w W : World} {p : Pt} (h : St1 w p W) : St1 w p W.drew := ⟨h.1.drew, h.2⟩
theorem St1.start (w : World) (p : Pt) : St1 w p (w.alloc (.cells p.cs.toArray 32)) := ⟨below_alloc1 w _, boxed1 w p⟩
theorem BlkIs.other {W : World} {g k : Nat} {t : TypeId} {l : List Value} (h : BlkIs W k t l) (hk : k ≠ g) (cs : Array Value) : BlkIs (W.setRow g cs) k t l := by
  unfold BlkIs at *
  rw [setRow_other W g k cs hk]; exact h

set_option maxRecDepth 100000 in
set_option linter.unusedSimpArgs false in
set_option maxHeartbeats 1000000 in
theorem write_any (g c : Nat) (l : List Int) (p : Pt) (w : World) (hg : BlkIs w g 5 (bytesV l)) (hl : l.length = 32) (hp : p.right = true) (hc : 32 ≤ c ∧ c ≤ 1000) :
    Calls Try.prog 51 #[.slice (some ⟨g, 0, none⟩) 32 c, p.v] w fun e w' => e = .returned (.tuple #[]) ∧ BlkIs w' g 5 (bytesV (put l p)) ∧ w.grownBy w' (some g) := by
  obtain ⟨p1, p2, p3, p4, p5, p6⟩ := Pt.right_out hp
  have hps : p.s.size ≤ 1000 := by omega
  have E := Lib.hid (fun W => end_any p W p3 p4 hps)
  have HS := Lib.hid (St1.start w p).drew
  have HC := Lib.hid (fun W => @St1.cells w W p)
  have HN := Lib.hid (fun W W' => @St1.next w W W' p)
  have hgl : g < w.heap.size := hg.lt
  have HG : Hid (∀ W, St1 w p W → BlkIs W g 5 (bytesV l)) := fun W h => hg.below h.1 hgl
  have HF : Hid (p.o.toNat + p.s.size ≤ (bytesV l).length) := by unfold Hid; rw [length_bytesV, hl]; omega
  have HP : Hid (put l p = splice l p.o.toNat (sb p.s)) := rfl
  have HL : Hid (∀ W, St1 w p W → (W.setRow g (splice (bytesV l) p.o.toNat (bytesV (sb p.s))).toArray).cell? ⟨w.heap.size, 0, none⟩ = some (.int .i64 p.b) ∧ (W.setRow g (splice (bytesV l) p.o.toNat (bytesV (sb p.s))).toArray).cell? ⟨w.heap.size, 1, none⟩ = some (.int .i64 p.o) ∧ (W.setRow g (splice (bytesV l) p.o.toNat (bytesV (sb p.s))).toArray).cell? ⟨w.heap.size, 2, none⟩ = some (.string p.s)) := by
    intro W h
    have hk : Boxed (W.setRow g (splice (bytesV l) p.o.toNat (bytesV (sb p.s))).toArray) w.heap.size p := BlkIs.other h.2 (by omega) _
    exact hk.cells
  clear hg hp hl
  obtain ⟨b, o, s⟩ := p
  obtain ⟨n, rfl⟩ := Int.eq_ofNat_of_zero_le p3
  simp only [Int.toNat_natCast] at *
  unfold Pt.v at *
  simp only [Pt.cs] at *
  have X := Lib.hid (HC.out _ HS.out)
  have hn0 : (0 : Int) ≤ (n : Int) := by omega
  have hns : (n : Int) + (s.size : Int) ≤ (c : Int) := by omega
  have hnn : (n : Int) ≤ (n : Int) + (s.size : Int) := by omega
  have hx : ((n : Int) + (s.size : Int)).toNat = n + s.size := by omega
  have h0 : ¬ s.size = 0 := by omega
  go_enter Try.func51, Try.ntmps51
  go_wp2_with fail
  refine wp_region_held_drew (S := (fun W => W.cell? ⟨w.heap.size, 0, none⟩ = some (.int .i64 b) ∧ W.cell? ⟨w.heap.size, 1, none⟩ = some (.int .i64 (n : Int)) ∧ W.cell? ⟨w.heap.size, 2, none⟩ = some (.string s))) (by kernel_rfl) (X.out) (fun hHeld => ?_)
  refine takeH (i := 0) (some 4) (v := ?_) rfl rfl (by kernel_rfl) (by kernel_rfl) (by kernel_rfl) (fun _ _ _ h => h) (by rfl) ?_ (by assumption) ?_
  rotate_left
  · (intro w hSw; (try dsimp only at hSw); go_simp; try with_reducible rfl)
  simp only [Act.put, List.setIfInBounds_toArray, List.set_cons_zero, List.set_cons_succ]
  refine takeH (i := 1) (some 5) (v := ?_) rfl rfl (by kernel_rfl) (by kernel_rfl) (by kernel_rfl) (fun _ _ _ h => h) (by rfl) ?_ (by assumption) ?_
  rotate_left
  · (intro w hSw; (try dsimp only at hSw); go_simp; try with_reducible rfl)
  simp only [Act.put, List.setIfInBounds_toArray, List.set_cons_zero, List.set_cons_succ]
  refine takeH (i := 2) (some 6) (v := ?_) rfl rfl (by kernel_rfl) (by kernel_rfl) (by kernel_rfl) (fun _ _ _ h => h) (by rfl) ?_ (by assumption) ?_
  rotate_left
  · (intro w hSw; (try dsimp only at hSw); go_simp; try with_reducible rfl)
  simp only [Act.put, List.setIfInBounds_toArray, List.set_cons_zero, List.set_cons_succ]
  refine takeH (i := 3) (some 7) (v := ?_) rfl rfl (by kernel_rfl) (by kernel_rfl) (by kernel_rfl) (fun _ _ _ h => h) (by rfl) ?_ (by assumption) ?_
  rotate_left
  · (intro w hSw; (try dsimp only at hSw); go_simp; try with_reducible rfl)
  simp only [Act.put, List.setIfInBounds_toArray, List.set_cons_zero, List.set_cons_succ]
  refine takeH (i := 5) (some 9) (v := ?_) rfl rfl (by kernel_rfl) (by kernel_rfl) (by kernel_rfl) (fun _ _ _ h => h) (by rfl) ?_ (by assumption) ?_
  rotate_left
  · (intro w hSw; (try dsimp only at hSw); go_simp; try with_reducible rfl)
  simp only [Act.put, List.setIfInBounds_toArray, List.set_cons_zero, List.set_cons_succ]
  refine takeH (i := 8) (some 12) (v := ?_) rfl rfl (by kernel_rfl) (by kernel_rfl) (by kernel_rfl) (fun _ _ _ h => h) (by rfl) ?_ (by assumption) ?_
  rotate_left
  · (intro w hSw; (try dsimp only at hSw); go_simp; try with_reducible rfl)
  simp only [Act.put, List.setIfInBounds_toArray, List.set_cons_zero, List.set_cons_succ]
  refine takeH (i := 9) (some 13) (v := ?_) rfl rfl (by kernel_rfl) (by kernel_rfl) (by kernel_rfl) (fun _ _ _ h => h) (by rfl) ?_ (by assumption) ?_
  rotate_left
  · (intro w hSw; (try dsimp only at hSw); go_simp; try with_reducible rfl)
  simp only [Act.put, List.setIfInBounds_toArray, List.set_cons_zero, List.set_cons_succ]
  refine wpAnyH_ready (rs := [4]) (by kernel_rfl) (by simp) ?_
  refine AllReadyH.cons rfl (fun K hK => ?_) AllReadyH.nil
  go_simp
  ((with_reducible refine (E.out _).mono ?_); rintro e w3 ⟨rfl, hB3⟩; replace HS := Lib.hid (HN.out _ _ HS.out hB3); replace X := Lib.hid (HC.out _ HS.out))
  refine hK _ _ (X.out) (fun hHeld => ?_)
  clear hK K
  try simp only [Act.put, List.setIfInBounds_toArray, List.set_cons_zero, List.set_cons_succ]
  refine wpAnyH_ready (rs := [6]) (by kernel_rfl) (by simp) ?_
  refine AllReadyH.cons rfl (fun K hK => ?_) AllReadyH.nil
  go_simp
  ((with_reducible refine (E.out _).mono ?_); rintro e w3 ⟨rfl, hB3⟩; replace HS := Lib.hid (HN.out _ _ HS.out hB3); replace X := Lib.hid (HC.out _ HS.out))
  refine hK _ _ (X.out) (fun hHeld => ?_)
  clear hK K
  try simp only [Act.put, List.setIfInBounds_toArray, List.set_cons_zero, List.set_cons_succ]
  refine takeH (i := 7) (some 11) (v := ?_) rfl rfl (by kernel_rfl) (by kernel_rfl) (by kernel_rfl) (fun _ _ _ h => h) (by rfl) ?_ (by assumption) ?_
  rotate_left
  · (intro w hSw; (try dsimp only at hSw); go_simp; try with_reducible rfl)
  simp only [Act.put, List.setIfInBounds_toArray, List.set_cons_zero, List.set_cons_succ]
  refine wpAnyH_ready (rs := [10]) (by kernel_rfl) (by simp) ?_
  refine AllReadyH.cons rfl (fun K hK => ?_) AllReadyH.nil
  refine step_copy_text rfl (.tmp 11) (.tmp 13) rfl g n s.size s.size s rfl rfl (bytesV l) 5 (HG.out _ HS.out) rfl HF.out ?_
  refine hK _ _ (HL.out _ HS.out) (fun hHeld => ?_)
  clear hK K
  try simp only [Act.put, List.setIfInBounds_toArray, List.set_cons_zero, List.set_cons_succ]
  refine wpAnyH_done (by kernel_rfl) ?_ _
  go_wp2
  go_end0
  rw [HP.out]
  refine ⟨rfl, ?_, ?_⟩
  · have := setRow_heap _ g _ (splice (bytesV l) n (bytesV (sb s))).toArray 5 (0, 0) (HG.out _ HS.out)
    rw [← splice_bytes]
    exact this
  · have h1 := HS.out.1
    exact ⟨h1.os, h1.tape, h1.output, by simpa [World.setRow] using h1.size, fun k hk hne => by
      rw [setRow_other _ g k _ (by intro e; subst e; exact hne rfl)]
      exact h1.block k hk⟩
end Go.Proofs.Ytkldiofleepkfaa

/- The contract of 'cut': the patch that writes the bytes from one on to another one as they stand in a block. -/
namespace Go.Proofs.Ytkldiofleepkfaa
open Go.RowKit

def part (l : List Int) (f t : Nat) : List Int := (l.take t).drop f
theorem length_part (l : List Int) (f t : Nat) (h : t ≤ l.length) : (part l f t).length = t - f := by simp [part]; omega
theorem part_all {l : List Int} (h : AllB l) (f t : Nat) : AllB (part l f t) := fun x hx => h x (List.mem_of_mem_take (List.mem_of_mem_drop hx))
theorem nth_part (l : List Int) (f t j : Nat) (h : f + j < t) : nth (part l f t) j = nth l (f + j) := by
  unfold nth part
  rw [List.getD_eq_getElem?_getD, List.getD_eq_getElem?_getD, List.getElem?_drop, List.getElem?_take, if_pos h]
theorem info66 : (Try.prog.info? 32).map (·.size) = some 3 := by kernel_rfl
/-- what 'cut' answers -/
def cutP (b : Int) (l : List Int) (f t : Nat) : Pt := ⟨b, f, strOfNums (part l f t)⟩


set_option maxRecDepth 100000 in
theorem text_part {w : World} {B : Nat} {b off : Nat} {l : List Int} (hb : Bts w B (some ⟨b, off, none⟩) l) (f t c : Nat) (hf : f < t) (ht : t ≤ l.length) (src : TypeId) (hs : Try.prog.underlying src = some (.slice 5)) :
    (convert src 9 (.slice (some ⟨b, off + f, none⟩) (t - f) c)).run Try.prog w = .ok (.string (strOfNums (part l f t))) w := by
  have hlen := length_part l f t ht
  refine run_convert_bytes_arg w src 5 hs Try.underlying5 b (off + f) (t - f) c (part l f t) hlen ?_ 9 Try.underlying9
  intro i hi
  have h1 := nth_part l f t i (by omega)
  obtain ⟨b', o', e, _, hc⟩ := hb.2 (by omega)
  injection e with e; injection e with e1 e2; subst e1; subst e2
  have := hc (f + i) (by omega)
  rw [Nat.add_assoc, this, ← h1]
  rfl

theorem cutP_ok (bl : Int) (l : List Int) (f t : Nat) (h0 : 0 ≤ bl) (h1 : bl < 96) (hf : f < t) (ht : t ≤ l.length) (hl : l.length ≤ 32) : (cutP bl l f t).right = true := by
  refine Pt.right_in ⟨h0, h1, ?_, ?_, ?_, ?_⟩ <;> simp only [cutP, strOfNums_size, length_part l f t ht] <;> omega

/-- patches in memory -/
def pn (l : List Pt) (k : Nat) : Pt := l.getD k ⟨0, 0, ByteArray.empty⟩
def Pats (w : World) (B : Nat) (A : Option Addr) (l : List Pt) : Prop :=
  0 < l.length → ∃ b off, A = some ⟨b, off, none⟩ ∧ b < B ∧ ∀ j, j < l.length →
    w.cell? ⟨b, off + j * 3, none⟩ = some (.int .i64 (pn l j).b) ∧ w.cell? ⟨b, off + j * 3 + 1, none⟩ = some (.int .i64 (pn l j).o) ∧ w.cell? ⟨b, off + j * 3 + 2, none⟩ = some (.string (pn l j).s)
theorem pn_lt {l : List Pt} {k : Nat} (h : k < l.length) : pn l k = l[k] := by
  unfold pn; rw [List.getD_eq_getElem?_getD, List.getElem?_eq_getElem h]; rfl
section
variable {w w' : World} {B B' : Nat} {A : Option Addr} {l : List Pt}
theorem Pats.keep (h : Pats w B A l) (hk : ∀ p : Addr, p.block < B → w'.cell? p = w.cell? p) : Pats w' B A l := fun hn => by
  obtain ⟨b, off, e, hb, hc⟩ := h hn
  refine ⟨b, off, e, hb, fun j hj => ?_⟩
  rw [hk ⟨b, _, none⟩ hb, hk ⟨b, _, none⟩ hb, hk ⟨b, _, none⟩ hb]
  exact hc j hj
theorem Pats.more (h : Pats w B A l) (hB : B ≤ B') : Pats w B' A l := fun hn => by
  obtain ⟨b, off, e, hb, hc⟩ := h hn
  exact ⟨b, off, e, by omega, hc⟩
theorem Pats.below (h : Pats w B A l) (hb : Below B w w') : Pats w' B A l := h.keep fun _ hp => hb.cell hp
theorem Pats.nil : Pats w B A [] := fun h => by simp at h
end

/-- a block behind some patches, or none -/
def allP (b : List Int) (l : List Pt) : Option (List Int) := if l.all Pt.right then some (l.foldl put b) else none
theorem putAll_all {b : List Int} (hb : AllB b) (l : List Pt) : AllB (l.foldl put b) := by
  induction l generalizing b with
  | nil => exact hb
  | cons p l ih => exact ih (put_all hb p)
theorem length_putAll {b : List Int} (hb : b.length = 32) (l : List Pt) (h : l.all Pt.right = true) : (l.foldl put b).length = 32 := by
  induction l generalizing b with
  | nil => exact hb
  | cons p l ih =>
    simp only [List.all_cons, Bool.and_eq_true] at h
    exact ih (length_put h.1 hb) h.2
theorem take_step (l : List Pt) (k : Nat) (h : k < l.length) : l.take (k + 1) = l.take k ++ [pn l k] := by
  rw [pn_lt h, List.take_add_one, List.getElem?_eq_getElem h]; rfl
/-- what All and Apply answer -/
def Ans (w : World) (r : Option (List Int)) (e : Ending) (w' : World) : Prop :=
  Below w.heap.size w w' ∧ match r with
    | some m => ∃ A c, e = .returned (.tuple #[.slice A 32 c, .int .i64 0]) ∧ 32 ≤ c ∧ c ≤ maxLen ∧ Bts w' w'.heap.size A m ∧ m.length = 32
    | none => e = .returned (.tuple #[.slice none 0 0, .int .i64 3])
end Go.Proofs.Ytkldiofleepkfaa

/- The contracts of 'All' and 'Apply'. -/
namespace Go.Proofs.Ytkldiofleepkfaa
open Go.RowKit

theorem made_bytes (n : Nat) : madeCells #[Value.int .u8 0] n = (bytesV (List.replicate n 0)).toArray := by
  apply Array.ext
  · simp [size_madeCells, bytesV]
  · intro i h1 h2; simp [madeCells, bytesV, Nat.mod_one, byteV]
theorem splice_whole {α : Type} (L cs : List α) (h : cs.length = L.length) : splice L 0 cs = cs := by simp [splice, h]
theorem BlkIs.bts {w : World} {g B : Nat} {l : List Int} (h : BlkIs w g 5 (bytesV l)) (hl : AllB l) (hB : g < B) : Bts w B (some ⟨g, 0, none⟩) l :=
  ⟨hl, fun _ => ⟨g, 0, rfl, hB, fun j hj => by
    rw [Nat.zero_add, h.cell j, bytesV, List.getElem?_map, List.getElem?_eq_getElem hj, nth_lt hj]; rfl⟩⟩
/-- the cells of bytes that lie there -/
theorem Bts.src {w : World} {B b off : Nat} {l : List Int} (h : Bts w B (some ⟨b, off, none⟩) l) : ∀ j v, (bytesV l)[j]? = some v → w.cell? ⟨b, off + j, none⟩ = some v := by
  intro j v hj
  rw [bytesV, List.getElem?_map] at hj
  obtain ⟨x, hx, rfl⟩ := Option.map_eq_some_iff.1 hj
  have hj' : j < l.length := by
    rcases Nat.lt_or_ge j l.length with h | h
    · exact h
    · rw [List.getElem?_eq_none h] at hx; cases hx
  obtain ⟨b2, off2, e2, _, hc2⟩ := h.at_ hj'
  injection e2 with e2; injection e2 with e3 e4; subst e3; subst e4
  rw [hc2, nth_lt hj']
  rw [List.getElem?_eq_getElem hj'] at hx
  injection hx with hx
  rw [hx]; rfl

theorem all_short (A A2 : Option Addr) (n c m c2 : Nat) (w : World) (h : n ≠ 32) :
    Calls Try.prog 33 #[.slice A n c, .slice A2 m c2] w fun e w' => e = .returned (.tuple #[.slice none 0 0, .int .i64 3]) ∧ w = w' := by
  have h0 : ((n : Int) == 32) = false := by rw [beq_eq_false_iff_ne]; omega
  have h1 : (n == 32) = false := by rw [beq_eq_false_iff_ne]; exact h
  go_enter Try.func33, Try.ntmps33
  go_wp2
  go_ret2
  exact ⟨rfl, rfl⟩

set_option maxRecDepth 100000 in
set_option maxHeartbeats 2000000 in
theorem all_any (A A2 : Option Addr) (c c2 : Nat) (l : List Int) (ps : List Pt) (w : World) (hb : Bts w w.heap.size A l) (hl : l.length = 32) (hP : Pats w w.heap.size A2 ps) (hn : ps.length ≤ 1000) (hok : ∀ k, k < ps.length → (pn ps k).ok) :
    Calls Try.prog 33 #[.slice A 32 c, .slice A2 ps.length c2] w (Ans w (allP l ps)) := by
  obtain ⟨b, off, rfl, hbb, _⟩ := hb.at_ (show 0 < l.length by omega)
  have hmk : ∀ W, (Instr.makeSlice 30 (.int .i64 32) (.int .i64 32)).run Try.prog W = .ok (.slice (some ⟨W.heap.size, 0, none⟩) 32 32) (W.alloc (.cells (madeCells #[Value.int .u8 0] 32) 5)) := fun W => run_make_row' (P := Try.prog) 30 5 (.int .u8 0) 1 Try.underlying30 info5 rfl .i64 .i64 32 (by omega) (by omega) W
  rw [made_bytes] at hmk
  obtain ⟨L0, hL0⟩ : ∃ L0, L0 = bytesV (List.replicate 32 0) := ⟨_, rfl⟩
  rw [← hL0] at hmk
  have hL0l : Hid (L0.length = 32) := by unfold Hid; rw [hL0]; simp [bytesV]
  clear hL0
  obtain ⟨L1, hL1⟩ : ∃ L1, L1 = bytesV l := ⟨_, rfl⟩
  have HL1 := Lib.hid hL1
  have hL1l : Hid (L1.length = 32) := by unfold Hid; rw [hL1, length_bytesV, hl]
  have Hsrc : Hid (∀ j v, L1[j]? = some v → w.cell? ⟨b, off + j, none⟩ = some v) := by
    unfold Hid; rw [hL1]; exact hb.src
  have H1c : Hid (∀ v ∈ L1, v.oneCell' = true) := by unfold Hid; rw [hL1]; exact bytesV_one l
  have HP := Lib.hid hP
  have Hok := Lib.hid hok
  have Hl := Lib.hid hl
  have Hall := Lib.hid hb.1
  clear hL1 hP hok hl hb
  go_enter Try.func33, Try.ntmps33
  go_wp2_with (with_reducible refine wpList_copy_splice rfl (.tmp 13) (.tmp 14) 30 30 rfl 5 Try.underlying30 size5 (some ⟨w.heap.size, 0, none⟩) (some ⟨b, off, none⟩) 32 32 32 c rfl rfl w.heap.size 0 L0 5 ?c1 L1 ?c2 ?c3 ?c4 ?c5 w.heap.size w ?c6 (Nat.le_refl _) ?_)
  case c1 => exact heap_alloc_new _ _
  case c2 => rw [hL1l.out]; rfl
  case c3 => intro _; exact Hsrc.out
  case c4 => have := hL1l.out; have := hL0l.out; omega
  case c5 => exact H1c.out
  case c6 => exact (Below.refl _ _).alloc (Nat.le_refl _) _
  rintro w2 hg2 hb2
  rw [splice_whole _ _ (by rw [hL1l.out, hL0l.out])] at hg2
  have hg3 : BlkIs w2 w.heap.size 5 (bytesV ((ps.take 0).foldl put l)) := by rw [List.take_zero]; show BlkIs w2 _ 5 (bytesV l); rw [← HL1.out]; exact hg2.out
  have G3 := Lib.hid hg3
  clear hg2 hg3 hL1l hL0l Hsrc H1c hmk HL1
  go_wp2
  go_loopw [18] (fun i wr => ∃ k : Nat, k ≤ ps.length ∧ i = .int .i64 k ∧ BlkIs wr w.heap.size 5 (bytesV ((ps.take k).foldl put l)) ∧ Below w.heap.size w wr ∧ (ps.take k).all Pt.right = true) (fun i _ => ps.length - (intOf i).toNat)
  case atStart => exact ⟨0, Nat.zero_le _, rfl, G3.out, hb2, by simp⟩
  case round =>
    obtain ⟨k, hk, rfl, hblk, hB, hall⟩ := hrel
    rename World => wr
    have hAll := Lib.hid hall
    have HB := Lib.hid hblk
    clear hall hblk G3 hb2
    by_cases hlt : k < ps.length
    · have hlti : (k : Int) < (ps.length : Int) := by omega
      have hk0 : (0 : Int) ≤ (k : Int) := by omega
      obtain ⟨b2, o2, rfl, hb2, hcs⟩ := (HP.out.below hB) (by omega)
      obtain ⟨c0, c1, c3⟩ := hcs k hlt
      have hpk := Hok.out k hlt
      have hst := take_step ps k hlt
      obtain ⟨p, hp⟩ : ∃ p, p = pn ps k := ⟨_, rfl⟩
      rw [← hp] at c0 c1 c3 hpk hst
      have Hst := Lib.hid hst
      have Hp := Lib.hid hp
      clear hcs hst hp
      have hT := Lib.hid (fun W hW => @St1.next wr _ W p (St1.start wr p) hW)
      have hBx := Lib.hid (boxed1 wr p)
      have Hal := Lib.hid (fun x => (HB.out).below (below_alloc1 wr x) (HB.out).lt)
      cases hr : p.right with
      | false =>
        have hpk' := Lib.hid (fun W => right_no p W hpk hr)
        have hnone : Hid (allP l ps = none) := by
          unfold Hid allP
          rw [if_neg]
          intro h
          rw [List.all_eq_true] at h
          have := h _ (List.getElem_mem hlt)
          rw [← pn_lt hlt, ← Hp.out, hr] at this
          cases this
        clear hr hpk
        obtain ⟨pb, po, psx⟩ := p
        unfold Pt.v at *
        simp only [Pt.cs] at *
        go_wp2_with fail
        refine (hpk'.out _).mono ?_
        rintro e w3 ⟨rfl, hB3⟩
        go_wp2
        go_ret2
        rw [hnone.out]
        exact ⟨hB.trans ((hT.out _ hB3).1.mono hB.size), rfl⟩
      | true =>
        have hlen : ((ps.take k).foldl put l).length = 32 := length_putAll Hl.out _ hAll.out
        have hpk' := Lib.hid (fun W => right_yes p W hr)
        have hwr := Lib.hid (fun W hg => write_any w.heap.size 32 ((ps.take k).foldl put l) p W hg hlen hr ⟨by omega, by omega⟩)
        have hAll' : Hid ((ps.take (k + 1)).all Pt.right = true) := by
          unfold Hid
          rw [Hst.out, List.all_append, hAll.out]
          simp [hr]
        have HS := Lib.hid hB
        clear hr hpk hlen hB
        have hC : Hid (∀ W, St1 wr p W → W.cell? ⟨wr.heap.size, 0, none⟩ = some (.int .i64 p.b) ∧ W.cell? ⟨wr.heap.size, 1, none⟩ = some (.int .i64 p.o) ∧ W.cell? ⟨wr.heap.size, 2, none⟩ = some (.string p.s)) := fun W h => h.cells
        have hput : Hid ((ps.take (k + 1)).foldl put l = put ((ps.take k).foldl put l) p) := by unfold Hid; rw [Hst.out, List.foldl_append]; rfl
        obtain ⟨m, hm⟩ : ∃ m, m = (ps.take k).foldl put l := ⟨_, rfl⟩
        rw [← hm] at hwr HB hput Hal
        clear hm
        obtain ⟨pb, po, psx⟩ := p
        unfold Pt.v at *
        simp only [Pt.cs] at *
        go_wp2_with fail
        refine (hpk'.out _).mono ?_
        rintro e w3 ⟨rfl, hB3⟩
        have t3 := Lib.hid (hT.out _ hB3)
        obtain ⟨d0, d1, d2⟩ := hC.out _ t3.out
        have g3 := Lib.hid (HB.out.below t3.out.1 HB.out.lt)
        clear hB3
        go_wp2_with fail
        refine (hwr.out _ g3.out).mono ?_
        rintro e w4 ⟨rfl, hb4, hg4⟩
        have hB4 : Below w.heap.size w w4 := (HS.out.trans (t3.out.1.mono HS.out.size)).grown hg4 (by have := HS.out.size; have := t3.out.1.size; omega) (fun j e => by injection e with e; omega)
        have Hb4 := Lib.hid hb4
        clear hb4 hg4
        go_wp2
        go_roundw
        case rel => exact ⟨k + 1, by omega, by go_num, by rw [hput.out]; exact Hb4.out, hB4, hAll'.out⟩
        case measure => simp [intOf]; omega
    · have hlti : ¬ (k : Int) < (ps.length : Int) := by omega
      obtain rfl : k = ps.length := by omega
      rw [List.take_length] at hAll HB
      have hans : Hid (allP l ps = some (ps.foldl put l)) := by unfold Hid allP; rw [if_pos hAll.out]
      go_wp2
      go_ret2
      rw [hans.out]
      exact ⟨hB, _, _, rfl, by omega, by unfold maxLen; omega, HB.out.bts (putAll_all Hall.out _) HB.out.lt, length_putAll Hl.out _ hAll.out⟩

end Go.Proofs.Ytkldiofleepkfaa

/- Diff. -/
namespace Go.Proofs.Ytkldiofleepkfaa
open Go.RowKit

theorem own_below {w w' : World} {base B : Nat} {e : TypeId} {size : Nat} {v : Value} {n : Nat} {xs : List Value} (h : w.ownsRow base e size v n xs) (hb : Below B w w') (hlt : ∀ j, v.ownBlock = some j → j < B) : w'.ownsRow base e size v n xs := by
  refine ⟨h.1, ?_⟩
  rcases h.2 with hn | ⟨g, cap, cur, rfl, h1, h2, rest⟩
  · exact .inl hn
  · refine .inr ⟨g, cap, cur, rfl, h1, ?_, rest⟩
    rw [hb.block g (hlt g rfl)]
    exact h2
theorem own_next {w w' : World} {base : Nat} {e : TypeId} {size : Nat} {v : Value} {n : Nat} {xs : List Value} (h : w.ownsRow base e size v n xs) (hb : Below w.heap.size w w') : w'.ownsRow base e size v n xs :=
  own_below h hb fun j hj => (h.lt j hj).2
theorem add_plain' (b o j : Nat) : (⟨b, o, none⟩ : Addr).add j = ⟨b, o + j, none⟩ := by unfold Addr.add; split <;> simp_all
theorem ext_nth {a b : List Int} (hl : a.length = b.length) (h : ∀ i, i < a.length → nth a i = nth b i) : a = b := by
  apply List.ext_getElem hl
  intro i h1 h2
  have := h i h1
  rwa [nth_lt h1, nth_lt h2] at this
theorem nth_set (l : List Int) (i j : Nat) (v : Int) : nth (l.set i v) j = if i = j ∧ j < l.length then v else nth l j := by
  unfold nth
  rw [List.getD_eq_getElem?_getD, List.getD_eq_getElem?_getD, List.getElem?_set]
  by_cases h : i = j
  · subst h
    by_cases hl : i < l.length
    · simp [hl]
    · rw [if_pos rfl, if_neg hl, if_neg (by simp [hl]), List.getElem?_eq_none (by omega)]
  · rw [if_neg h, if_neg (by simp [h])]
theorem nth_take (l : List Int) (k i : Nat) : nth (l.take k) i = if i < k then nth l i else 0 := by
  unfold nth
  rw [List.getD_eq_getElem?_getD, List.getD_eq_getElem?_getD, List.getElem?_take]
  split <;> simp
theorem nth_drop (l : List Int) (k i : Nat) : nth (l.drop k) i = nth l (k + i) := by
  unfold nth
  rw [List.getD_eq_getElem?_getD, List.getD_eq_getElem?_getD, List.getElem?_drop]
theorem nth_append (a b : List Int) (i : Nat) : nth (a ++ b) i = if i < a.length then nth a i else nth b (i - a.length) := by
  unfold nth
  rw [List.getD_eq_getElem?_getD, List.getD_eq_getElem?_getD, List.getD_eq_getElem?_getD, List.getElem?_append]
  split <;> rfl
theorem nth_splice (l m : List Int) (o i : Nat) (h : o + m.length ≤ l.length) : nth (splice l o m) i = if o ≤ i ∧ i < o + m.length then nth m (i - o) else nth l i := by
  unfold splice
  rw [nth_append, nth_append, nth_take, nth_drop, List.length_take]
  have e : min o l.length = o := by omega
  rw [e]
  by_cases h1 : i < o
  · rw [if_pos h1, if_pos h1, if_neg (by omega)]
  · rw [if_neg h1]
    by_cases h2 : i - o < m.length
    · rw [if_pos h2, if_pos (by omega)]
    · rw [if_neg h2, if_neg (by omega), show o + m.length + (i - o - m.length) = i by omega]

theorem nth_put {l : List Int} {p : Pt} (hp : p.right = true) (hl : l.length = 32) (i : Nat) : nth (put l p) i = if p.o.toNat ≤ i ∧ i < p.o.toNat + p.s.size then nth (sb p.s) (i - p.o.toNat) else nth l i := by
  obtain ⟨_, _, h3, h4, h5, h6⟩ := Pt.right_out hp
  unfold put
  rw [nth_splice _ _ _ _ (by rw [length_sb]; omega), length_sb]
theorem info66' : (Try.prog.info? 32).map (fun i => (i.zero, i.size, i.bytes)) = some (some (.agg #[.int .i64 0, .int .i64 0, .string ⟨#[]⟩]), 3, 32) := by kernel_rfl

/-- the rows of places below k at which d is true: from, to -/
def segs (d : Nat → Bool) : Nat → List (Nat × Nat)
  | 0 => []
  | k + 1 => if d k then (if 0 < k ∧ d (k - 1) = true then (segs d k).dropLast ++ [(((segs d k).getLast?.getD (0, 0)).1, k + 1)] else segs d k ++ [(k, k + 1)]) else segs d k
theorem segs_no {d : Nat → Bool} {k : Nat} (h : d k = false) : segs d (k + 1) = segs d k := by simp [segs, h]
theorem segs_new {d : Nat → Bool} {k : Nat} (h : d k = true) (h2 : k = 0 ∨ d (k - 1) = false) : segs d (k + 1) = segs d k ++ [(k, k + 1)] := by
  have : ¬ (0 < k ∧ d (k - 1) = true) := by
    rintro ⟨h3, h4⟩
    rcases h2 with h2 | h2
    · omega
    · rw [h2] at h4; cases h4
  simp [segs, h, this]
theorem segs_more {d : Nat → Bool} {k : Nat} (h : d k = true) (h1 : 0 < k) (h2 : d (k - 1) = true) : segs d (k + 1) = (segs d k).dropLast ++ [(((segs d k).getLast?.getD (0, 0)).1, k + 1)] := by
  simp [segs, h, h1, h2]
/-- a row that goes from f to j -/
theorem segs_run {d : Nat → Bool} {f : Nat} (h0 : f = 0 ∨ d (f - 1) = false) : ∀ n, (∀ i, f ≤ i → i < f + n → d i = true) → segs d (f + n) = segs d f ++ (if 0 < n then [(f, f + n)] else []) := by
  intro n
  induction n with
  | zero => intro _; simp
  | succ n ih =>
    intro h
    have hn := ih (fun i h1 h2 => h i h1 (by omega))
    by_cases e : n = 0
    · subst e
      rw [show f + (0 + 1) = f + 1 from rfl, segs_new (h f (by omega) (by omega)) h0]
      simp
    · rw [show f + (n + 1) = (f + n) + 1 from rfl, segs_more (h (f + n) (by omega) (by omega)) (by omega) (h (f + n - 1) (by omega) (by omega)), hn, if_pos (by omega)]
      simp
theorem length_segs (d : Nat → Bool) (k : Nat) : (segs d k).length ≤ k := by
  induction k with
  | zero => simp [segs]
  | succ k ih =>
    unfold segs
    split
    · split
      · simp
        omega
      · simp; omega
    · omega
/-- the patches of rows -/
def segP (b : Int) (c : List Int) (x : Nat × Nat) : Pt := cutP b c x.1 x.2
def diffP (b : Int) (c : List Int) (d : Nat → Bool) (k : Nat) : List Pt := (segs d k).map (segP b c)
def ptsV (l : List Pt) : List Value := l.flatMap Pt.cs
theorem length_ptsV (l : List Pt) : (ptsV l).length = l.length * 3 := by
  induction l with
  | nil => rfl
  | cons p l ih =>
    have : ptsV (p :: l) = p.cs ++ ptsV l := rfl
    rw [this, List.length_append, ih, List.length_cons]
    simp [Pt.cs]; omega
theorem ptsV_snoc (l : List Pt) (p : Pt) : ptsV (l ++ [p]) = ptsV l ++ p.cs := by simp [ptsV]
theorem ptsV_one (l : List Pt) : ∀ u ∈ ptsV l, u.oneCell' = true := by
  intro u hu
  obtain ⟨p, _, h⟩ := List.mem_flatMap.1 hu
  simp [Pt.cs] at h
  rcases h with rfl | rfl | rfl <;> rfl
theorem ptsV_at (l : List Pt) (j : Nat) (hj : j < l.length) : (ptsV l)[j * 3]? = some (.int .i64 (pn l j).b) ∧ (ptsV l)[j * 3 + 1]? = some (.int .i64 (pn l j).o) ∧ (ptsV l)[j * 3 + 2]? = some (.string (pn l j).s) := by
  induction l generalizing j with
  | nil => simp at hj
  | cons p l ih =>
    have e : ptsV (p :: l) = p.cs ++ ptsV l := rfl
    rw [e]
    cases j with
    | zero => exact ⟨rfl, rfl, rfl⟩
    | succ j =>
      have hj' : j < l.length := by simpa using hj
      have := ih j hj'
      have ep : pn (p :: l) (j + 1) = pn l j := rfl
      have hc : p.cs.length = 3 := rfl
      rw [ep]
      refine ⟨?_, ?_, ?_⟩
      · rw [List.getElem?_append_right (by rw [hc]; omega), hc, show (j + 1) * 3 - 3 = j * 3 by omega]; exact this.1
      · rw [List.getElem?_append_right (by rw [hc]; omega), hc, show (j + 1) * 3 + 1 - 3 = j * 3 + 1 by omega]; exact this.2.1
      · rw [List.getElem?_append_right (by rw [hc]; omega), hc, show (j + 1) * 3 + 2 - 3 = j * 3 + 2 by omega]; exact this.2.2
/-- a slice that owns patches -/
def OwnP (w : World) (B : Nat) (v : Value) (l : List Pt) : Prop := w.ownsRow B 32 3 v l.length (ptsV l)
theorem OwnP.form {w : World} {B : Nat} {v : Value} {l : List Pt} (h : OwnP w B v l) : ∃ A c, v = .slice A l.length c ∧ l.length ≤ c ∧ c ≤ maxLen ∧ Pats w w.heap.size A l := by
  rcases h.2 with ⟨rfl, hn⟩ | ⟨g, cap, cur, rfl, _, hg, hnc, hcm, _⟩
  · obtain rfl : l = [] := List.eq_nil_of_length_eq_zero hn
    exact ⟨none, 0, rfl, Nat.le_refl _, Nat.zero_le _, Pats.nil⟩
  · refine ⟨some ⟨g, 0, none⟩, cap, rfl, hnc, hcm, fun _ => ⟨g, 0, rfl, (h.lt g rfl).2, fun j hj => ?_⟩⟩
    obtain ⟨a0, a1, a2⟩ := ptsV_at l j hj
    rw [Nat.zero_add, h.cellAt _ (by omega), h.cellAt _ (by omega), h.cellAt _ (by omega)]
    exact ⟨a0, a1, a2⟩
/-- a world but for draws -/
def Qt (w w' : World) : Prop := ∃ n, w' = w.drewN n
theorem Qt.refl (w : World) : Qt w w := ⟨0, rfl⟩
theorem Qt.bts {w w' : World} {B : Nat} {A : Option Addr} {l : List Int} (q : Qt w w') (h : Bts w B A l) : Bts w' B A l := by obtain ⟨n, rfl⟩ := q; exact h
theorem Qt.size {w w' : World} (q : Qt w w') : w'.heap.size = w.heap.size := by obtain ⟨n, rfl⟩ := q; rfl
theorem Qt.own {w w' : World} {B : Nat} {v : Value} {l : List Pt} (q : Qt w w') (h : OwnP w B v l) : OwnP w' B v l := by obtain ⟨n, rfl⟩ := q; exact h
theorem drewN_below (B : Nat) (w : World) (n : Nat) : Below B w (w.drewN n) := ⟨rfl, rfl, rfl, Nat.le_refl _, fun _ _ => rfl⟩
theorem Qt.below {w w' : World} (q : Qt w w') (B : Nat) : Below B w w' := by obtain ⟨n, rfl⟩ := q; exact drewN_below B w n
theorem Qt.more {w w' : World} (q : Qt w w') (n : Nat) : Qt w (w'.drewN n) := by obtain ⟨m, rfl⟩ := q; exact ⟨m + n, World.drewN_drewN w m n⟩

def df (a b : List Int) (i : Nat) : Bool := nth a i != nth b i
theorem diffP_run {b : Int} {c : List Int} {d : Nat → Bool} {f j : Nat} (h0 : f = 0 ∨ d (f - 1) = false) (hfj : f ≤ j) (h : ∀ i, f ≤ i → i < j → d i = true) : diffP b c d j = diffP b c d f ++ (if f < j then [cutP b c f j] else []) := by
  have := segs_run h0 (j - f) (fun i h1 h2 => h i h1 (by omega))
  rw [show f + (j - f) = j by omega] at this
  unfold diffP
  rw [this, List.map_append]
  by_cases e : f < j
  · rw [if_pos e, if_pos (by omega)]; rfl
  · rw [if_neg e, if_neg (by omega)]; rfl
theorem diffP_no {b : Int} {c : List Int} {d : Nat → Bool} {k : Nat} (h : d k = false) : diffP b c d (k + 1) = diffP b c d k := by unfold diffP; rw [segs_no h]
theorem length_diffP (b : Int) (c : List Int) (d : Nat → Bool) (k : Nat) : (diffP b c d k).length ≤ k := by unfold diffP; rw [List.length_map]; exact length_segs d k
theorem OwnP.next {w w' : World} {B : Nat} {v : Value} {l : List Pt} (h : OwnP w B v l) (hB : Below w.heap.size w w') : OwnP w' B v l := own_next h hB

theorem cells_new (W : World) (l : List Value) (t : TypeId) : ∀ j u, l[j]? = some u → (W.alloc (.cells l.toArray t)).cell? ((⟨W.heap.size, 0, none⟩ : Addr).add j) = some u := fun j u h => by
  rw [add_plain', Nat.zero_add]
  exact (BlkIs.cell (heap_alloc_new W (.cells l.toArray t)) j).trans h

end Go.Proofs.Ytkldiofleepkfaa
