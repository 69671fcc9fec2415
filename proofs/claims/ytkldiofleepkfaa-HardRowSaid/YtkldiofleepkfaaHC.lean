/- The engine that writes patches together, in memory; what it tells by its own cells and by its disk. -/
import Derived.Test.YtkldiofleepkfaaHHB
import Derived.Test.YtkldiofleepkfaaH4
import Derived.Maps.Views
import Derived.Maps.RangeWalk
import Derived.Maps.OwnSet
set_option linter.unusedVariables false
set_option linter.unusedSimpArgs false
namespace Go.Proofs.Ytkldiofleepkfaa.Hd
open Go.RowKit
open Go.Maps (Keyed)
def intsI (l : List Int) : List Value := l.map (Value.int .i64)
def nums (l : List Hw) : List Int := l.map (·.num)
theorem mem_nums {l : List Hw} {n : Int} : n ∈ nums l ↔ ∃ x ∈ l, x.num = n := by simp [nums]
theorem nums_nil : nums [] = [] := rfl
theorem units_nil : units [] = [] := rfl
theorem mem_units {l : List Hw} {u : Int} : u ∈ units l ↔ ∃ x ∈ l, x.num = u ∧ x.u = u := by
  unfold units heads
  rw [List.mem_map]
  constructor
  · rintro ⟨x, hx, rfl⟩
    have := (List.mem_filter.1 hx).2
    simp at this
    exact ⟨x, (List.mem_filter.1 hx).1, rfl, this.symm⟩
  · rintro ⟨x, hx, h1, h2⟩
    exact ⟨x, List.mem_filter.2 ⟨hx, by simp [h1, h2]⟩, h1⟩
/-- the block of a unit -/
def ubl (l : List Hw) (u : Int) : Int := ((l.find? fun x => x.num == u).map (·.p.b)).getD 0
theorem ubl_at {l : List Hw} (h : Asc l) {x : Hw} (hx : x ∈ l) : ubl l x.num = x.p.b := by
  unfold ubl
  cases hf : l.find? fun y => y.num == x.num with
  | none => have := List.find?_eq_none.1 hf x hx; simp at this
  | some y =>
    have e : y = x := h.inj (List.mem_of_find?_eq_some hf) hx (by simpa using List.find?_some hf)
    rw [e]; rfl
/-- no numbers and nothing that waits lies there -/
def NW (w : World) (G : Nat → Prop) : Prop := ∀ b, G b → ∀ cs fr, w.heap[b]? ≠ some (.cells cs 3 fr) ∧ w.heap[b]? ≠ some (.cells cs 84 fr)
theorem NW.none (w : World) : NW w (fun _ => False) := fun _ h => h.elim
/-- where all lies: both maps; of a number its block and the row of those ahead; of a unit its block and its row -/
structure Lay where
  gw : Nat
  gu : Nat
  wp : Int → Nat
  WA : Int → Option Addr
  WC : Int → Nat
  up : Int → Nat
  UA : Int → Option Addr
  UC : Int → Nat
def ptr (b : Nat) : Value := .pointer (some ⟨b, 0, none⟩)
def Hw.cs (x : Hw) (A : Option Addr) (c : Nat) : Array Value := #[.int .i64 x.num, .int .i64 x.p.b, .int .i64 x.p.o, .string x.p.s, .slice A x.ah.length c, .int .i64 x.u]
def ucs (u b : Int) (A : Option Addr) (n c : Nat) (s : Bool) : Array Value := #[.int .i64 u, .int .i64 b, .slice A n c, .bool s]
def hcs (gd : Nat) (k jo id : Int) (m : Lay) : Array Value := #[ptr gd, .int .i64 k, .int .i64 jo, .int .i64 id, .map (some m.gw), .map (some m.gu)]
/-- a map from numbers to pointers -/
def PMap (w : World) (b c : Nat) (ks : List Int) (f : Int → Nat) : Prop :=
  ∃ D : DataW Value, w.ownsMap Try.prog 3 RV b c D ∧ (∀ x, Maps.has D (.int .i64 x) = true ↔ x ∈ ks) ∧ ∀ x ∈ ks, ∀ z, D.atKey (.int .i64 x) z = .held (ptr (f x))
namespace PMap
variable {w w' : World} {b c d : Nat} {ks : List Int} {f : Int → Nat}
theorem lt (h : PMap w b c ks f) : b < w.heap.size := by obtain ⟨D, h1, _⟩ := h; exact h1.lt
theorem more (h : PMap w b c ks f) (hc : c ≤ d) : PMap w b d ks f := by obtain ⟨D, h1, h2⟩ := h; exact ⟨D, h1.mono hc, h2⟩
theorem keep {S : Nat → Prop} (h : PMap w b c ks f) (hk : Kept w w' S) (hn : ¬ S b) : PMap w' b c ks f := by obtain ⟨D, h1, h2⟩ := h; exact ⟨D, hk.map h1 hn, h2⟩
theorem isMap (h : PMap w b c ks f) : ∃ es cl, w.heap[b]? = some (.map es cl) := by
  obtain ⟨D, ⟨es, clock, hb, _⟩, _⟩ := h; exact ⟨es, clock, hb⟩
theorem congr {g : Int → Nat} {ls : List Int} (h : PMap w b c ks f) (h1 : ∀ x, x ∈ ls ↔ x ∈ ks) (h2 : ∀ x ∈ ks, g x = f x) : PMap w b c ls g := by
  obtain ⟨D, a1, a2, a3⟩ := h
  exact ⟨D, a1, fun x => (a2 x).trans (h1 x).symm, fun x hx z => by rw [a3 x ((h1 x).1 hx) z, h2 x ((h1 x).1 hx)]⟩
end PMap
/-- the engine: its own block g, its disk gd of n blocks S, behind at most cc writes and stores; its next number, how many joined and were idle; what waits, which units were written -/
structure HAt (w : World) (g gd n : Nat) (S : Nat → Bk) (cc : Nat) (k jo id : Int) (l : List Hw) (sent : List Int) (m : Lay) (Fd : Nat → Prop) : Prop where
  head : w.heap[g]? = some (.cells (hcs gd k jo id m) 45 (0, 0))
  disk : Code w gd n S cc Fd
  wmap : PMap w m.gw cc (nums l) m.wp
  umap : PMap w m.gu cc (units l) m.up
  ws : ∀ x ∈ l, w.heap[m.wp x.num]? = some (.cells (x.cs (m.WA x.num) (m.WC x.num)) 84 (0, 0))
  ahs : ∀ x ∈ l, w.ownsRow 0 3 1 (.slice (m.WA x.num) x.ah.length (m.WC x.num)) x.ah.length (intsI x.ah)
  us : ∀ u ∈ units l, w.heap[m.up u]? = some (.cells (ucs u (ubl l u) (m.UA u) (ofU l u).length (m.UC u) (sent.contains u)) 62 (0, 0))
  ups : ∀ u ∈ units l, w.ownsRow 0 82 1 (.slice (m.UA u) (ofU l u).length (m.UC u)) (ofU l u).length ((ofU l u).map fun x => ptr (m.wp x.num))
  ok : Ok l
  sok : SentOk l sent
  right : ∀ x ∈ l, x.p.right = true
  blk : ∀ x ∈ l, x.p.b < n
  lo : Lo l k
  ah0 : ∀ x ∈ l, ∀ d ∈ x.ah, 0 ≤ d
  k0 : 0 ≤ k
  few : l.length ≤ 200
  maps : m.gw ≠ m.gu
  gwd : ¬ Fd m.gw
  gud : ¬ Fd m.gu
/-- the blocks that its calls may change -/
def footH (g : Nat) (l : List Hw) (m : Lay) (Fd : Nat → Prop) : Nat → Prop := fun b => b = g ∨ b = m.gw ∨ b = m.gu ∨ (∃ u ∈ units l, b = m.up u ∨ own (m.UA u) = some b) ∨ Fd b
theorem Code.kindsH {w : World} {g n c : Nat} {S : Nat → Bk} {F : Nat → Prop} (h : Code w g n S c F) :
    ∀ b, F b → (∃ cs t fr, w.heap[b]? = some (.cells cs t fr) ∧ (t = 54 ∨ t = 79)) ∨ ∃ es cl, w.heap[b]? = some (.map es cl) := by
  obtain ⟨L, B, mb, k, D, V, A, C, h, rfl⟩ := h
  rintro b (rfl | rfl | ⟨j, hj, hb⟩)
  · exact .inl ⟨_, _, _, h.disk.blk, .inl rfl⟩
  · obtain ⟨es, clock, hm, _⟩ := h.map
    exact .inr ⟨es, clock, hm⟩
  · obtain ⟨cs, hc⟩ := h.row_typed hj hb
    exact .inl ⟨cs, _, _, hc, .inr rfl⟩
theorem Code.not_typeH {w : World} {g n c : Nat} {S : Nat → Bk} {F : Nat → Prop} (h : Code w g n S c F) {b : Nat} {cs : Array Value} {t : TypeId} {fr : Nat × Nat} (hb : w.heap[b]? = some (.cells cs t fr)) (h1 : t ≠ 54) (h2 : t ≠ 79) : ¬ F b := by
  intro hf
  rcases Code.kindsH h b hf with ⟨cs', t', fr', e, ht⟩ | ⟨es, cl, e⟩
  · rw [hb] at e
    simp at e
    obtain ⟨_, rfl, _⟩ := e
    rcases ht with q | q
    · exact h1 q
    · exact h2 q
  · rw [hb] at e; cases e
theorem Code.nwH {w : World} {g n c : Nat} {S : Nat → Bk} {F : Nat → Prop} (h : Code w g n S c F) : NW w F := fun b hf cs fr => ⟨fun e => Code.not_typeH h e (by decide) (by decide) hf, fun e => Code.not_typeH h e (by decide) (by decide) hf⟩
namespace HAt
variable {w w' : World} {g gd n cc : Nat} {S : Nat → Bk} {k jo id : Int} {l : List Hw} {sent : List Int} {m : Lay} {Fd : Nat → Prop}
theorem glt (h : HAt w g gd n S cc k jo id l sent m Fd) : g < w.heap.size := (Array.getElem?_eq_some_iff.1 h.head).1
theorem c0 (h : HAt w g gd n S cc k jo id l sent m Fd) : w.cell? ⟨g, 0, none⟩ = some (.pointer (some ⟨gd, 0, none⟩)) := cell_of_row w g 0 _ 45 (0, 0) h.head
theorem c1 (h : HAt w g gd n S cc k jo id l sent m Fd) : w.cell? ⟨g, 1, none⟩ = some (.int .i64 k) := cell_of_row w g 1 _ 45 (0, 0) h.head
theorem c2 (h : HAt w g gd n S cc k jo id l sent m Fd) : w.cell? ⟨g, 2, none⟩ = some (.int .i64 jo) := cell_of_row w g 2 _ 45 (0, 0) h.head
theorem c3 (h : HAt w g gd n S cc k jo id l sent m Fd) : w.cell? ⟨g, 3, none⟩ = some (.int .i64 id) := cell_of_row w g 3 _ 45 (0, 0) h.head
theorem c4 (h : HAt w g gd n S cc k jo id l sent m Fd) : w.cell? ⟨g, 4, none⟩ = some (.map (some m.gw)) := cell_of_row w g 4 _ 45 (0, 0) h.head
theorem c5 (h : HAt w g gd n S cc k jo id l sent m Fd) : w.cell? ⟨g, 5, none⟩ = some (.map (some m.gu)) := cell_of_row w g 5 _ 45 (0, 0) h.head
theorem free (h : HAt w g gd n S cc k jo id l sent m Fd) (j : Nat) : w.frozen? ⟨g, j, none⟩ = false := frozen_of_row w g j _ 45 h.head
theorem ofU_ne (h : HAt w g gd n S cc k jo id l sent m Fd) {u : Int} (hu : u ∈ units l) : 0 < (ofU l u).length := by
  obtain ⟨x, hx, _, e⟩ := mem_units.1 hu
  exact List.length_pos_of_mem (mem_ofU.2 ⟨hx, e⟩)
/-- a unit's row lies in a block -/
theorem row_typed (h : HAt w g gd n S cc k jo id l sent m Fd) {u : Int} (hu : u ∈ units l) {b : Nat} (hb : own (m.UA u) = some b) : ∃ cs, w.heap[b]? = some (.cells cs 82 (0, 0)) := by
  rcases (h.ups u hu).2 with ⟨q, _⟩ | ⟨g2, cap, cur, q, _, hg, _⟩
  · obtain ⟨q1, _, _⟩ := Value.slice.inj q
    rw [q1] at hb; simp [own] at hb
  · obtain ⟨q1, _, _⟩ := Value.slice.inj q
    rw [q1] at hb
    simp [own] at hb
    subst hb
    exact ⟨_, hg⟩
theorem foot_lt (h : HAt w g gd n S cc k jo id l sent m Fd) : ∀ b, footH g l m Fd b → b < w.heap.size := by
  rintro b (rfl | rfl | rfl | ⟨u, hu, rfl | q⟩ | q)
  · exact h.glt
  · exact h.wmap.lt
  · exact h.umap.lt
  · exact (Array.getElem?_eq_some_iff.1 (h.us u hu)).1
  · obtain ⟨cs, e⟩ := h.row_typed hu q
    exact (Array.getElem?_eq_some_iff.1 e).1
  · exact h.disk.lt b q
theorem foot_nw (h : HAt w g gd n S cc k jo id l sent m Fd) : NW w (footH g l m Fd) := by
  rintro b (rfl | rfl | rfl | ⟨u, hu, rfl | q⟩ | q) cs fr
  · rw [h.head]; simp
  · obtain ⟨es, cl, e⟩ := h.wmap.isMap; rw [e]; simp
  · obtain ⟨es, cl, e⟩ := h.umap.isMap; rw [e]; simp
  · rw [h.us u hu]; simp
  · obtain ⟨cs', e⟩ := h.row_typed hu q; rw [e]; simp
  · exact Code.nwH h.disk b q cs fr
theorem ah_own (h : HAt w g gd n S cc k jo id l sent m Fd) {x : Hw} (hx : x ∈ l) {b : Nat} (hb : own (m.WA x.num) = some b) : ∃ cs, w.heap[b]? = some (.cells cs 3 (0, 0)) := by
  rcases (h.ahs x hx).2 with ⟨q, _⟩ | ⟨g2, cap, cur, q, _, hg, _⟩
  · obtain ⟨q1, _, _⟩ := Value.slice.inj q
    rw [q1] at hb; simp [own] at hb
  · obtain ⟨q1, _, _⟩ := Value.slice.inj q
    rw [q1] at hb
    simp [own] at hb
    subst hb
    exact ⟨_, hg⟩
theorem keep {G : Nat → Prop} (h : HAt w g gd n S cc k jo id l sent m Fd) (hk : Kept w w' G) (hd : ∀ b, footH g l m Fd b → ¬ G b) (hG : NW w G) : HAt w' g gd n S cc k jo id l sent m Fd where
  head := by rw [hk.block g h.glt (hd g (.inl rfl))]; exact h.head
  disk := h.disk.keep hk fun b q => hd b (.inr (.inr (.inr (.inr q))))
  wmap := h.wmap.keep hk (hd _ (.inr (.inl rfl)))
  umap := h.umap.keep hk (hd _ (.inr (.inr (.inl rfl))))
  ws := fun x hx => by
    rw [hk.block _ (Array.getElem?_eq_some_iff.1 (h.ws x hx)).1 (fun q => (hG _ q _ _).2 (h.ws x hx))]; exact h.ws x hx
  ahs := fun x hx => hk.row (h.ahs x hx) fun b hb q => by
    obtain ⟨cs, e⟩ := h.ah_own hx ((own_eq _ _ _).symm.trans hb)
    exact (hG _ q _ _).1 e
  us := fun u hu => by
    rw [hk.block _ (Array.getElem?_eq_some_iff.1 (h.us u hu)).1 (hd _ (.inr (.inr (.inr (.inl ⟨u, hu, .inl rfl⟩)))))]; exact h.us u hu
  ups := fun u hu => hk.row (h.ups u hu) fun b hb => hd _ (.inr (.inr (.inr (.inl ⟨u, hu, .inr ((own_eq _ _ _).symm.trans hb)⟩))))
  ok := h.ok
  sok := h.sok
  right := h.right
  blk := h.blk
  lo := h.lo
  ah0 := h.ah0
  k0 := h.k0
  few := h.few
  maps := h.maps
  gwd := h.gwd
  gud := h.gud
theorem fresh (h : HAt w g gd n S cc k jo id l sent m Fd) (hb : Below w.heap.size w w') : HAt w' g gd n S cc k jo id l sent m Fd :=
  h.keep (G := fun _ => False) (Kept.fresh hb) (fun _ _ q => q) (NW.none w)
end HAt
end Go.Proofs.Ytkldiofleepkfaa.Hd
